/- The program's Right of a status. -/
import Derived.Test.YtoojbpldhhbkbaaDoorHb
import Derived.Laws.StructEq
namespace Go.Proofs.YtoojbpldhhbkbaaDoor
open Go.RowKit Go.Shelf Go.Sort

abbrev Tab (w : World) : Prop := Lib.TabIs Tryd.prog w "internal/strconv.uint64pow10" .u64 Lib.pow10Tab
theorem tab_on {w w' : World} (h : Tab w) (k : Below w.heap.size w w') : Tab w' := Lib.tabBelow_of_tabIs h w' k
theorem stood23 : Tryd.prog.stoodInHeld 32 = false := by kernel_rfl
theorem fields23 : Tryd.prog.underlying 32 = some (.struct (Tryd.prog.fieldsOf 32)) := by kernel_rfl
theorem guard23 : Tryd.prog.eqGuardType Tryd.prog.depth 32 = false := by kernel_rfl
theorem bA1 (w : World) (A : Obj) : Below w.heap.size w (w.alloc A) := (Below.refl _ _).alloc (Nat.le_refl _) _
/-- A version held against none. -/
def v0B (e : Int) (u r : List UInt8) : Bool := (e == 0) && (u == [] && r == [])
set_option maxRecDepth 100000 in
theorem eqv0 (e : Int) (u r : List UInt8) (w : World) : (Op.equalIn 10000 32 (.agg #[.int .i64 e, .string ⟨u.toArray⟩, .string ⟨r.toArray⟩]) (.agg #[.int .i64 0, .string ⟨#[]⟩, .string ⟨#[]⟩])).run Tryd.prog w = .ok (v0B e u r) w := by
  have u3 := Tryd.underlying3
  have a3 := Tryd.isAgg3
  have z3 := Tryd.sizeOf3
  have u9 := Tryd.underlying9
  have a9 := Tryd.isAgg9
  have z9 := Tryd.sizeOf9
  unfold v0B
  rw [show (10000 : Nat) = 9999 + 1 from rfl, run_equalIn_agg _ _ _ _ _ fields23 stood23]
  simp only [Program.fieldsOf, Tryd.underlying32]
  cases h1 : e == 0 <;> cases h2 : u == [] <;> cases h3 : r == [] <;> (try simp at h1 h2 h3) <;> go_simp
/-- A status as a value. -/
abbrev stv (n e : Int) (u r : List UInt8) (held : Bool) (vW vT : Value) : Value := .agg #[.int .i64 n, .int .i64 e, .string ⟨u.toArray⟩, .string ⟨r.toArray⟩, .bool held, vW, vT]
structure In64 (e : Int) : Prop where
  lo : -9223372036854775808 ≤ e
  hi : e ≤ 9223372036854775807
/-- The rest of a chain of tests. -/
theorem sok0 (e : Int) (u r : List UInt8) (held : Bool) (W T : List (List UInt8)) : sok ⟨0, e, u, r, held, W, T⟩ = (v0B e u r && (!held && (decide (W.length = 0) && decide (T.length = 0)))) := by
  unfold sok v0B
  rw [if_pos rfl, Bool.eq_iff_iff]
  simp only [Bool.and_eq_true, decide_eq_true_eq, beq_iff_eq]
  constructor
  · rintro ⟨⟨⟨⟨⟨h1, h2⟩, h3⟩, h4⟩, h5⟩, h6⟩; exact ⟨⟨h1, h2, h3⟩, h4, h5, h6⟩
  · rintro ⟨⟨h1, h2, h3⟩, h4, h5, h6⟩; exact ⟨⟨⟨⟨⟨h1, h2⟩, h3⟩, h4⟩, h5⟩, h6⟩
theorem sokn {n : Int} (h : n ≠ 0) (e : Int) (u r : List UInt8) (held : Bool) (W T : List (List UInt8)) : sok ⟨n, e, u, r, held, W, T⟩ = ((decide (0 ≤ n) && decide (n ≤ 7)) && (Vm.rt e u r && (lok 4 nmo W && (lok 2 tko T && ((decide (0 < W.length) == decide (n = 5)) && mayT n T.length))))) := by
  unfold sok
  rw [if_neg h]
  simp only [Bool.and_assoc]
set_option maxHeartbeats 1600000 in
theorem sright_0 (e : Int) (u r : List UInt8) (held : Bool) (A A' : Option Addr) (c c' : Nat) (W T : List (List UInt8)) (w : World) :
    Calls Tryd.prog 14 #[stv 0 e u r held (.slice A W.length c) (.slice A' T.length c')] w fun x w' => x = .returned (.bool (sok ⟨0, e, u, r, held, W, T⟩)) ∧ Below w.heap.size w w' := by
  have hE := eqv0 e u r
  have hG := guard23
  obtain ⟨y, hy⟩ : ∃ y, y = sok ⟨0, e, u, r, held, W, T⟩ := ⟨_, rfl⟩
  rw [← hy]
  rw [sok0] at hy
  have HY := Lib.hid hy
  clear hy
  cases hv : v0B e u r with
  | false =>
    obtain rfl : y = false := by rw [HY.out, hv]; rfl
    rw [hv] at hE
    clear HY hv
    go_enter Tryd.func14, Tryd.ntmps14
    go_wp2
    go_ret
    exact ⟨rfl, bA1 _ _⟩
  | true =>
    rw [hv] at hE
    cases held with
    | true =>
      obtain rfl : y = false := by rw [HY.out, hv]; rfl
      clear HY hv
      go_enter Tryd.func14, Tryd.ntmps14
      go_wp2
      go_ret
      exact ⟨rfl, bA1 _ _⟩
    | false =>
      have hy2 : y = (decide (W.length = 0) && decide (T.length = 0)) := by rw [HY.out, hv]; rfl
      have HZ := Lib.hid hy2
      clear HY hv hy2
      cases h1 : decide (W.length = 0) with
      | false =>
        obtain rfl : y = false := by rw [HZ.out, h1]; rfl
        have h1' : ((W.length : Int) == 0) = false := by simp at h1 ⊢; exact h1
        clear HZ h1
        go_enter Tryd.func14, Tryd.ntmps14
        go_wp2
        go_ret
        exact ⟨rfl, bA1 _ _⟩
      | true =>
        obtain rfl : y = ((T.length : Int) == 0) := by rw [HZ.out, h1]; rw [Bool.eq_iff_iff]; simp
        have h1' : ((W.length : Int) == 0) = true := by simp at h1 ⊢; exact h1
        clear HZ h1
        go_enter Tryd.func14, Tryd.ntmps14
        go_wp2
        all_goals go_ret
        all_goals exact ⟨rfl, bA1 _ _⟩
abbrev sto (n e : Int) (u r : List UInt8) (held : Bool) (vW vT : Value) (t : TypeId) : Obj := .cells #[.int .i64 n, .int .i64 e, .string ⟨u.toArray⟩, .string ⟨r.toArray⟩, .bool held, vW, vT] t
/-- A status in memory. -/
structure Stc (W : World) (b : Nat) (n e : Int) (u r : List UInt8) (held : Bool) (vW vT : Value) : Prop where
  lt : b < W.heap.size
  c0 : W.cell? ⟨b, 0, none⟩ = some (.int .i64 n)
  c1 : W.cell? ⟨b, 1, none⟩ = some (.int .i64 e)
  c2 : W.cell? ⟨b, 2, none⟩ = some (.string ⟨u.toArray⟩)
  c3 : W.cell? ⟨b, 3, none⟩ = some (.string ⟨r.toArray⟩)
  c4 : W.cell? ⟨b, 4, none⟩ = some (.bool held)
  c5 : W.cell? ⟨b, 5, none⟩ = some vW
  c6 : W.cell? ⟨b, 6, none⟩ = some vT
theorem Stc.on {W w' : World} {b : Nat} {n e : Int} {u r : List UInt8} {held : Bool} {vW vT : Value} (h : Stc W b n e u r held vW vT) (k : Below W.heap.size W w') : Stc w' b n e u r held vW vT :=
  ⟨Nat.lt_of_lt_of_le h.lt k.size, by rw [k.cell h.lt]; exact h.c0, by rw [k.cell h.lt]; exact h.c1, by rw [k.cell h.lt]; exact h.c2, by rw [k.cell h.lt]; exact h.c3, by rw [k.cell h.lt]; exact h.c4, by rw [k.cell h.lt]; exact h.c5, by rw [k.cell h.lt]; exact h.c6⟩
theorem stc_new (w : World) (n e : Int) (u r : List UInt8) (held : Bool) (vW vT : Value) (t : TypeId) : Stc (w.alloc (sto n e u r held vW vT t)) w.heap.size n e u r held vW vT :=
  ⟨by simp, by simp, by simp, by simp, by simp, by simp, by simp, by simp⟩
theorem rl28_4 (v : Value) (l : List (List UInt8)) (w : World) (h : Ss w v l) : Calls Tryd.prog 31 #[v, .int .i64 4, .func (Fn.func 32) #[] #[]] w fun e w' => e = .returned (.bool (lok 4 nmo l)) ∧ Below w.heap.size w w' := rl28_any 4 (by omega) v l w h
theorem rl29_2 (v : Value) (l : List (List UInt8)) (w : World) (h : Ss w v l) : Calls Tryd.prog 31 #[v, .int .i64 2, .func (Fn.func 33) #[] #[]] w fun e w' => e = .returned (.bool (lok 2 tko l)) ∧ Below w.heap.size w w' := rl29_any 2 (by omega) v l w h
set_option maxHeartbeats 3200000 in
theorem sright_n (n : Int) (hn : n ≠ 0) (e : Int) (u r : List UInt8) (held : Bool) (vW vT : Value) (W T : List (List UInt8)) (w : World) (hW : Ss w vW W) (hT : Ss w vT T) (i : In64 e) (hu : u.length ≤ 200) (hr : r.length ≤ 200) (htab : Tab w) :
    Calls Tryd.prog 14 #[stv n e u r held vW vT] w fun x w' => x = .returned (.bool (sok ⟨n, e, u, r, held, W, T⟩)) ∧ Below w.heap.size w w' := by
  obtain ⟨y, hy⟩ : ∃ y, y = sok ⟨n, e, u, r, held, W, T⟩ := ⟨_, rfl⟩
  rw [← hy]
  rw [sokn hn] at hy
  have HY := Lib.hid hy
  clear hy
  have hn0 : (n == 0) = false := beq_eq_false_iff_ne.2 hn
  obtain ⟨A, c, rfl⟩ := hW.sl
  obtain ⟨A', c', rfl⟩ := hT.sl
  have b1 := bA1 w (sto n e u r held (.slice A W.length c) (.slice A' T.length c') 35)
  have S1 := stc_new w n e u r held (.slice A W.length c) (.slice A' T.length c') 35
  have HW := Lib.hid (hW.on b1)
  have HT := Lib.hid (hT.on b1)
  have c1 := isst_any n (w.alloc (sto n e u r held (.slice A W.length c) (.slice A' T.length c') 35))
  have c2 := right_any e u r (w.alloc (sto n e u r held (.slice A W.length c) (.slice A' T.length c') 35)) i.lo i.hi hu hr (tab_on htab b1)
  clear hn hW hT htab i
  generalize (decide (0 ≤ n) && decide (n ≤ 7)) = y1 at HY c1
  generalize Vm.rt e u r = y2 at HY c2
  have HS := Lib.hid S1
  have HB := Lib.hid b1
  clear S1 b1
  cases y1 with
  | false =>
    obtain rfl : y = false := HY.out
    clear HY
    go_enter Tryd.func14, Tryd.ntmps14
    go_wp2_with (go_at_call 18; refine c1.mono ?_; rintro e w' ⟨rfl, rfl⟩)
    go_ret
    exact ⟨rfl, HB.out⟩
  | true =>
    cases y2 with
    | false =>
      obtain rfl : y = false := HY.out
      clear HY
      go_enter Tryd.func14, Tryd.ntmps14
      go_wp2_with fail
      with_reducible refine c1.mono ?_
      rintro e w' ⟨rfl, rfl⟩
      go_wp2_with fail
      with_reducible refine c2.mono ?_
      rintro e w' ⟨rfl, b2⟩
      go_wp2
      go_ret
      exact ⟨rfl, bt2 HB.out b2⟩
    | true =>
      go_enter Tryd.func14, Tryd.ntmps14
      go_wp2_with fail
      with_reducible refine c1.mono ?_
      rintro e w' ⟨rfl, rfl⟩
      go_wp2_with fail
      with_reducible refine c2.mono ?_
      rintro e w2 ⟨rfl, b2⟩
      have c3 := rl28_4 _ W w2 (HW.out.on b2)
      generalize lok 4 nmo W = y3 at HY c3
      obtain ⟨_, a0, a1, a2, a3, a4, a5, a6⟩ := HS.out.on b2
      go_wp2_with fail
      with_reducible refine c3.mono ?_
      rintro e w3 ⟨rfl, b3⟩
      have b23 := bt2 b2 b3
      have c4 := rl29_2 _ T w3 (HT.out.on b23)
      clear a0 a1 a2 a3 a4 a5 a6
      cases y3 with
      | false =>
        obtain rfl : y = false := HY.out
        clear HY c4
        go_wp2
        go_ret
        exact ⟨rfl, bt2 HB.out b23⟩
      | true =>
        generalize lok 2 tko T = y4 at HY c4
        obtain ⟨_, a0, a1, a2, a3, a4, a5, a6⟩ := HS.out.on b23
        go_wp2_with fail
        with_reducible refine c4.mono ?_
        rintro e w4 ⟨rfl, b4⟩
        have b24 := bt2 b23 b4
        clear a0 a1 a2 a3 a4 a5 a6
        cases y4 with
        | false =>
          obtain rfl : y = false := HY.out
          clear HY
          go_wp2
          go_ret
          exact ⟨rfl, bt2 HB.out b24⟩
        | true =>
          have c5 := mayh_any n T.length w4
          have hy2 : y = ((decide (0 < W.length) == decide (n = 5)) && mayT n T.length) := HY.out
          generalize mayT n T.length = y5 at hy2 c5
          obtain ⟨_, a0, a1, a2, a3, a4, a5, a6⟩ := HS.out.on b24
          clear HY
          by_cases hw0 : 0 < W.length
          · have hw1 : decide (0 < W.length) = true := decide_eq_true hw0
            cases h5 : n == 5 with
            | false =>
              have hy3 : y = false := by rw [hy2, hw1, show decide (n = 5) = false from h5]; rfl
              subst hy3
              clear hy2 hw1
              go_wp2
              go_ret
              exact ⟨rfl, bt2 HB.out b24⟩
            | true =>
              have hy3 : y = y5 := by rw [hy2, hw1, show decide (n = 5) = true from h5]; rfl
              subst hy3
              clear hy2 hw1
              go_wp2_with (go_at_call 34; refine c5.mono ?_; rintro e w' ⟨rfl, rfl⟩)
              go_ret
              exact ⟨rfl, bt2 HB.out b24⟩
          · have hw1 : decide (0 < W.length) = false := decide_eq_false hw0
            cases h5 : n == 5 with
            | true =>
              have hy3 : y = false := by rw [hy2, hw1, show decide (n = 5) = true from h5]; rfl
              subst hy3
              clear hy2 hw1
              go_wp2
              go_ret
              exact ⟨rfl, bt2 HB.out b24⟩
            | false =>
              have hy3 : y = y5 := by rw [hy2, hw1, show decide (n = 5) = false from h5]; rfl
              subst hy3
              clear hy2 hw1
              go_wp2_with (go_at_call 34; refine c5.mono ?_; rintro e w' ⟨rfl, rfl⟩)
              go_ret
              exact ⟨rfl, bt2 HB.out b24⟩
theorem sright_any (x : Sta) (vW vT : Value) (w : World) (hW : Ss w vW x.W) (hT : Ss w vT x.T) (i : In64 x.e) (hu : x.u.length ≤ 200) (hr : x.r.length ≤ 200) (htab : Tab w) :
    Calls Tryd.prog 14 #[stv x.n x.e x.u x.r x.held vW vT] w fun y w' => y = .returned (.bool (sok x)) ∧ Below w.heap.size w w' := by
  obtain ⟨n, e, u, r, held, W, T⟩ := x
  by_cases hn : n = 0
  · subst hn
    obtain ⟨A, c, rfl⟩ := hW.sl
    obtain ⟨A', c', rfl⟩ := hT.sl
    exact sright_0 e u r held A A' c c' W T w
  · exact sright_n n hn e u r held vW vT W T w hW hT i hu hr htab
end Go.Proofs.YtoojbpldhhbkbaaDoor
