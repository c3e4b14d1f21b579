/- The program's readers of a status: readVersion, readList, readWords. -/
import Derived.Test.YtoojbpldhhbkbaaDoorHd
import Derived.Lib.AtoiErrMem
import Derived.OrdersHeld
namespace Go.Proofs.YtoojbpldhhbkbaaDoor
open Go.RowKit Go.Shelf Go.Sort

/-- What the library's variables hold. -/
structure Gb (W : World) : Prop where
  m : ∃ n : Int, W.cell? ⟨6, 0, none⟩ = some (.int .i64 n)
  s : ∃ v, W.cell? ⟨4, 0, none⟩ = some v ∧ (v = .nilIface ∨ ∃ te pe, v = .iface te pe)
  r : ∃ v, W.cell? ⟨5, 0, none⟩ = some v ∧ (v = .nilIface ∨ ∃ te pe, v = .iface te pe)
theorem Gb.on {W w' : World} (h : Gb W) (k : Below W.heap.size W w') : Gb w' := by
  obtain ⟨⟨n, h1⟩, ⟨v, h2, h2'⟩, ⟨u, h3, h3'⟩⟩ := h
  exact ⟨⟨n, (k.cell (block_lt_of_cell h1)).trans h1⟩, ⟨v, (k.cell (block_lt_of_cell h2)).trans h2, h2'⟩, ⟨u, (k.cell (block_lt_of_cell h3)).trans h3, h3'⟩⟩
/-- A row of texts, with room behind it. -/
theorem sr_cells (w : World) (L : List (List UInt8)) (N : Nat) : Sr (w.alloc (.cells (Lib.cellsOf (L.map fun l => (⟨l.toArray⟩ : ByteArray)) N) 9)) w.heap.size 0 L := by
  refine ⟨by simp, fun i hi => ?_⟩
  simp only [Nat.zero_add]
  unfold Lib.cellsOf
  simp
  rw [List.getElem?_append_left (by simpa using hi)]
  simp [hi]
theorem ss_cells (w : World) (L : List (List UInt8)) (N : Nat) (hN : L.length ≤ N) : Ss (w.alloc (.cells (Lib.cellsOf (L.map fun l => (⟨l.toArray⟩ : ByteArray)) N) 9)) (.slice (some ⟨w.heap.size, 0, none⟩) L.length N) L :=
  ⟨Or.inr ⟨_, _, _, rfl, hN, sr_cells w L N⟩⟩
/-- A list's place is new. -/
def NewA (A : Option Addr) (n : Nat) : Prop := ∀ p, A = some p → n ≤ p.block
theorem NewA.le {A : Option Addr} {n m : Nat} (h : NewA A n) (k : m ≤ n) : NewA A m := fun p hp => Nat.le_trans k (h p hp)
theorem splitn_any (s : List UInt8) (c : UInt8) (n : Nat) (hn : 1 ≤ n) (hn9 : n ≤ 100) (hs : s.length ≤ 1000) (w : World) (h : Gb w) :
    Calls Tryd.prog 29 #[.string ⟨s.toArray⟩, .string ⟨#[c]⟩, .int .i64 n] w fun e w' => (∃ A k, e = .returned (.slice A (spk c (min n (s.length + 1) - 1) s).length k) ∧ Ss w' (.slice A (spk c (min n (s.length + 1) - 1) s).length k) (spk c (min n (s.length + 1) - 1) s) ∧ NewA A w.heap.size) ∧ Below w.heap.size w w' := by
  obtain ⟨m, hm⟩ := h.m
  have e1 : (ByteArray.mk s.toArray).size = s.length := by simp [ByteArray.size]
  refine (Tryd.strings_SplitN ⟨s.toArray⟩ ⟨#[c]⟩ n m w (by rw [e1]; omega) hm (by simp [ByteArray.size]) hn (by omega)).mono ?_
  rintro e w' ⟨rfl, rfl⟩
  rw [e1, splitB_spk, List.length_map]
  have hl := spk_len c (min n (s.length + 1) - 1) s
  exact ⟨⟨_, _, rfl, ss_cells w _ _ (by omega), fun p hp => by cases hp; exact Nat.le_refl _⟩, bA1 _ _⟩
theorem clone4_any (l : List UInt8) (w : World) (hl : l.length ≤ 1000) : Calls Tryd.prog 55 #[.string ⟨l.toArray⟩] w fun e w' => e = .returned (.string ⟨l.toArray⟩) ∧ Below w.heap.size w w' := by
  go_enter Tryd.func55, Tryd.ntmps55
  go_wp2_with fail
  refine (Tryd.stringslite_Clone ⟨l.toArray⟩ _ (by simp [ByteArray.size]; omega)).mono ?_
  rintro e w' ⟨rfl, hb⟩
  go_wp2
  go_ret
  exact ⟨rfl, hb⟩
theorem rdl_dash (m : Nat) (w : World) : Calls Tryd.prog 41 #[.string ⟨([45] : List UInt8).toArray⟩, .int .i64 m] w fun e w' => e = .returned (.slice none 0 0) ∧ Below w.heap.size w w' := by
  go_enter Tryd.func41, Tryd.ntmps41
  go_wp2
  go_ret
  exact ⟨rfl, Below.refl _ _⟩
theorem rdl_any (s : List UInt8) (m : Nat) (hm : m ≤ 50) (hs : s.length ≤ 1000) (w : World) (h : Gb w) : Calls Tryd.prog 41 #[.string ⟨s.toArray⟩, .int .i64 m] w fun e w' => (∃ A k, e = .returned (.slice A (rdl (m + 1) s).length k) ∧ Ss w' (.slice A (rdl (m + 1) s).length k) (rdl (m + 1) s) ∧ NewA A w.heap.size) ∧ Below w.heap.size w w' := by
  by_cases h0 : s = [45]
  · subst h0
    refine (rdl_dash m w).mono ?_
    rintro e w' ⟨rfl, b⟩
    exact ⟨⟨none, 0, rfl, ⟨Or.inl ⟨rfl, _, _, rfl⟩⟩, fun p hp => by cases hp⟩, b⟩
  · unfold rdl
    rw [if_neg h0]
    have h1 : (s == [45]) = false := beq_eq_false_iff_ne.2 h0
    have cC := clone4_any s w hs
    have cS := fun w1 (b1 : Below w.heap.size w w1) => splitn_any s 44 (m + 1) (by omega) (by omega) hs w1 (h.on b1)
    generalize spk 44 (min (m + 1) (s.length + 1) - 1) s = L at cS ⊢
    clear h0 h
    go_enter Tryd.func41, Tryd.ntmps41
    go_wp2_with fail
    with_reducible refine cC.mono ?_
    rintro e w1 ⟨rfl, b1⟩
    have c2 := cS w1 b1
    clear cS cC
    go_wp2_with fail
    refine c2.mono ?_
    rintro e w2 ⟨⟨A, k, rfl, hS, hN⟩, b2⟩
    have HN := Lib.hid (hN.le b1.size)
    clear c2 hN
    go_wp2
    go_ret
    exact ⟨⟨A, k, rfl, hS, HN.out⟩, bt2 b1 b2⟩
theorem res3 {W : World} {g : Nat} {x0 x1 x2 : Value} (y0 y1 y2 : Value) (o : Obj) (k0 : W.cell? ⟨g, 0, none⟩ = some x0) (k1 : W.cell? ⟨g, 1, none⟩ = some x1) (k2 : W.cell? ⟨g, 2, none⟩ = some x2) :
    ((((W.setCell ⟨g, 0, none⟩ y0).setCell ⟨g, 1, none⟩ y1).setCell ⟨g, 2, none⟩ y2).alloc o).cell? ⟨g, 0, none⟩ = some y0 ∧ ((((W.setCell ⟨g, 0, none⟩ y0).setCell ⟨g, 1, none⟩ y1).setCell ⟨g, 2, none⟩ y2).alloc o).cell? ⟨g, 1, none⟩ = some y1 ∧ ((((W.setCell ⟨g, 0, none⟩ y0).setCell ⟨g, 1, none⟩ y1).setCell ⟨g, 2, none⟩ y2).alloc o).cell? ⟨g, 2, none⟩ = some y2 :=
  ⟨((bA1 _ o).cell (p := ⟨g, 0, none⟩) (by simpa using block_lt_of_cell k0)).trans (by simp [go_sem, k0]), ((bA1 _ o).cell (p := ⟨g, 1, none⟩) (by simpa using block_lt_of_cell k0)).trans (by simp [go_sem, k1]), ((bA1 _ o).cell (p := ⟨g, 2, none⟩) (by simpa using block_lt_of_cell k0)).trans (by simp [go_sem, k2])⟩
/-- What readVersion answers. -/
def rvv : Option (Int × List UInt8 × List UInt8) → Value
  | none => .tuple #[.agg #[.int .i64 0, .string ⟨#[]⟩, .string ⟨#[]⟩], .bool false]
  | some (e, u, r) => .tuple #[.agg #[.int .i64 e, .string ⟨u.toArray⟩, .string ⟨r.toArray⟩], .bool true]
theorem rdv_any (s : List UInt8) (w : World) (h : Tab w) : Calls Tryd.prog 40 #[.string ⟨s.toArray⟩] w fun e w' => e = .returned (rvv (rdv s)) ∧ Below w.heap.size w w' := by
  unfold rdv
  by_cases h0 : s = [45]
  · subst h0
    rw [if_pos rfl]
    go_enter Tryd.func40, Tryd.ntmps40
    go_wp2
    exact bodyPost_ret (v := rvv (some (0, [], []))) (by simp [results, Tryd.results40, go_sem]; rfl) rfl ⟨rfl, by first | exact Below.refl _ _ | exact bA1 _ _⟩
  · rw [if_neg h0]
    have h1 : (s == [45]) = false := beq_eq_false_iff_ne.2 h0
    have b0 := bA1 w (.cells #[.int .i64 0, .string ⟨#[]⟩, .string ⟨#[]⟩] 32)
    have cP := parse_any s _ (tab_on h b0)
    have HB := Lib.hid b0
    clear h0 h b0
    obtain ⟨x, hx⟩ : ∃ x, x = Vm.pv s := ⟨_, rfl⟩
    rw [← hx] at cP ⊢
    clear hx
    match x with
    | none =>
      unfold pvVal at cP
      go_enter Tryd.func40, Tryd.ntmps40
      go_wp2_with fail
      refine cP.mono ?_
      rintro e w1 ⟨rfl, hb1⟩
      clear cP
      obtain ⟨k0, k1, k2, kf, kg⟩ := kept3 (g := w.heap.size) (x0 := .int .i64 0) (x1 := .string ⟨#[]⟩) (x2 := .string ⟨#[]⟩) (by simp) (by simp) (by simp) (by simp) (by simp) hb1
      go_wp2
      go_region
      obtain ⟨z0, z1, z2⟩ := res3 (.int .i64 0) (.string ⟨#[]⟩) (.string ⟨#[]⟩) (.cells #[.int .i64 0, .string ⟨#[]⟩, .string ⟨#[]⟩] 32) k0 k1 k2
      go_wp2
      exact bodyPost_ret (v := rvv none) (by simp [results, Tryd.results40, go_sem, z0, z1, z2]; rfl) rfl ⟨rfl, ((((((bt2 HB.out hb1).setCell (Nat.le_refl _) _).setCell (Nat.le_refl _) _).setCell (Nat.le_refl _) _).alloc (by simpa using Nat.le_of_lt kg) _)).drew⟩
    | some (e, u, r) =>
      unfold pvVal at cP
      go_enter Tryd.func40, Tryd.ntmps40
      go_wp2_with fail
      refine cP.mono ?_
      rintro _ w1 ⟨rfl, hb1⟩
      clear cP
      obtain ⟨k0, k1, k2, kf, kg⟩ := kept3 (g := w.heap.size) (x0 := .int .i64 0) (x1 := .string ⟨#[]⟩) (x2 := .string ⟨#[]⟩) (by simp) (by simp) (by simp) (by simp) (by simp) hb1
      go_wp2
      go_region
      obtain ⟨z0, z1, z2⟩ := res3 (.int .i64 e) (.string ⟨u.toArray⟩) (.string ⟨r.toArray⟩) (.cells #[.int .i64 e, .string ⟨u.toArray⟩, .string ⟨r.toArray⟩] 32) k0 k1 k2
      go_wp2
      exact bodyPost_ret (v := rvv (some (e, u, r))) (by simp [results, Tryd.results40, go_sem, z0, z1, z2]; rfl) rfl ⟨rfl, ((((((bt2 HB.out hb1).setCell (Nat.le_refl _) _).setCell (Nat.le_refl _) _).setCell (Nat.le_refl _) _).alloc (by simpa using Nat.le_of_lt kg) _)).drew⟩
theorem sta0 : Value.agg #[.int .i64 0, .int .i64 0, .string ⟨#[]⟩, .string ⟨#[]⟩, .bool false, .slice none 0 0, .slice none 0 0] = stv 0 0 [] [] false (.slice none 0 0) (.slice none 0 0) := rfl
theorem rw_len (A : Option Addr) (n k : Nat) (h : n ≠ 5) (w : World) : Calls Tryd.prog 28 #[.slice A n k] w fun e w' => e = .returned (.tuple #[stv 0 0 [] [] false (.slice none 0 0) (.slice none 0 0), .bool false]) ∧ Below w.heap.size w w' := by
  have h5 : ((n : Int) == 5) = false := by rw [beq_eq_false_iff_ne]; omega
  clear h
  go_enter Tryd.func28, Tryd.ntmps28
  go_wp2
  exact bodyPost_ret (v := .tuple #[stv 0 0 [] [] false (.slice none 0 0) (.slice none 0 0), .bool false]) (by simp [results, Tryd.results28, go_sem]) rfl ⟨rfl, bA1 _ _⟩
/-- What strconv.Atoi answers. -/
theorem atoi_ok (s : List UInt8) (hs : s.length ≤ 1000) (n : Int) (h : Lib.atoiAll s = .ok n) (w : World) : Calls Tryd.prog 39 #[.string ⟨s.toArray⟩] w fun e w' => e = .returned (.tuple #[.int .i64 n, .nilIface]) ∧ Below w.heap.size w w' := by
  refine (Tryd.strconv_Atoi_ok ⟨s.toArray⟩ (by simp [ByteArray.size]; omega) n h w).mono ?_
  rintro e w' ⟨rfl, rfl | ⟨t, rfl⟩⟩
  · exact ⟨rfl, Below.refl _ _⟩
  · exact ⟨rfl, Lib.bytesWorld_below _ _ _⟩
structure Dd (e : Ending) (w w' : World) : Prop where
  out : ∃ v N, e = .returned (.tuple #[.int .i64 v, .iface 113 (.pointer (some ⟨N, 0, none⟩))]) ∧ Below w.heap.size w w'
theorem atoi_no (s : List UInt8) (hs : s.length ≤ 1000) (h : ∀ n, Lib.atoiAll s ≠ .ok n) (w : World) (g : Gb w) : Calls Tryd.prog 39 #[.string ⟨s.toArray⟩] w fun e w' => Dd e w w' := by
  obtain ⟨_, ⟨ev, h2, h2'⟩, ⟨eu, h3, h3'⟩⟩ := g
  cases hc : Lib.atoiAll s with
  | ok n => exact absurd hc (h n)
  | «syntax» =>
    refine (Tryd.strconv_Atoi_syntax ⟨s.toArray⟩ (by simp [ByteArray.size]; omega) hc ev w h2 h2').mono ?_
    rintro e w' ⟨N, rfl, _, _, b⟩
    exact ⟨_, _, rfl, b⟩
  | range =>
    refine (Tryd.strconv_Atoi_range ⟨s.toArray⟩ (by simp [ByteArray.size]; omega) hc eu w h3 h3').mono ?_
    rintro e w' ⟨N, rfl, _, _, b⟩
    exact ⟨_, _, rfl, b⟩
/-- Seven cells, kept. -/
structure K7 (W : World) (g : Nat) : Prop where
  lt : g < W.heap.size
  c0 : W.cell? ⟨g, 0, none⟩ = some (.int .i64 0)
  c1 : W.cell? ⟨g, 1, none⟩ = some (.int .i64 0)
  c2 : W.cell? ⟨g, 2, none⟩ = some (.string ⟨#[]⟩)
  c3 : W.cell? ⟨g, 3, none⟩ = some (.string ⟨#[]⟩)
  c4 : W.cell? ⟨g, 4, none⟩ = some (.bool false)
  c5 : W.cell? ⟨g, 5, none⟩ = some (.slice none 0 0)
  c6 : W.cell? ⟨g, 6, none⟩ = some (.slice none 0 0)
  f : ∀ j, W.frozen? ⟨g, j, none⟩ = false
theorem K7.on {W w' : World} {g : Nat} (h : K7 W g) (k : Below W.heap.size W w') : K7 w' g :=
  ⟨Nat.lt_of_lt_of_le h.lt k.size, by rw [k.cell h.lt]; exact h.c0, by rw [k.cell h.lt]; exact h.c1, by rw [k.cell h.lt]; exact h.c2, by rw [k.cell h.lt]; exact h.c3, by rw [k.cell h.lt]; exact h.c4, by rw [k.cell h.lt]; exact h.c5, by rw [k.cell h.lt]; exact h.c6, fun j => by rw [k.frozen h.lt]; exact h.f j⟩
abbrev stz (t : TypeId) : Obj := .cells #[.int .i64 0, .int .i64 0, .string ⟨#[]⟩, .string ⟨#[]⟩, .bool false, .slice none 0 0, .slice none 0 0] t
theorem k7_new (w : World) (t : TypeId) : K7 (w.alloc (stz t)) w.heap.size :=
  ⟨by simp, by simp, by simp, by simp, by simp, by simp, by simp, by simp, by simp⟩
/-- Seven cells, written. -/
abbrev set7 (W : World) (g : Nat) (y0 y1 y2 y3 y4 y5 y6 : Value) : World := ((((((W.setCell ⟨g, 0, none⟩ y0).setCell ⟨g, 1, none⟩ y1).setCell ⟨g, 2, none⟩ y2).setCell ⟨g, 3, none⟩ y3).setCell ⟨g, 4, none⟩ y4).setCell ⟨g, 5, none⟩ y5).setCell ⟨g, 6, none⟩ y6
theorem set7_below {W : World} {a : World} {B g : Nat} (h : Below B a W) (hg : B ≤ g) (y0 y1 y2 y3 y4 y5 y6 : Value) : Below B a (set7 W g y0 y1 y2 y3 y4 y5 y6) :=
  ((((((h.setCell hg _).setCell hg _).setCell hg _).setCell hg _).setCell hg _).setCell hg _).setCell hg _
structure At7 (W : World) (g : Nat) (y0 y1 y2 y3 y4 y5 y6 : Value) : Prop where
  c0 : W.cell? ⟨g, 0, none⟩ = some y0
  c1 : W.cell? ⟨g, 1, none⟩ = some y1
  c2 : W.cell? ⟨g, 2, none⟩ = some y2
  c3 : W.cell? ⟨g, 3, none⟩ = some y3
  c4 : W.cell? ⟨g, 4, none⟩ = some y4
  c5 : W.cell? ⟨g, 5, none⟩ = some y5
  c6 : W.cell? ⟨g, 6, none⟩ = some y6
theorem At7.on {W w' : World} {g : Nat} {y0 y1 y2 y3 y4 y5 y6 : Value} (h : At7 W g y0 y1 y2 y3 y4 y5 y6) (k : Below W.heap.size W w') (hg : g < W.heap.size) : At7 w' g y0 y1 y2 y3 y4 y5 y6 :=
  ⟨by rw [k.cell hg]; exact h.c0, by rw [k.cell hg]; exact h.c1, by rw [k.cell hg]; exact h.c2, by rw [k.cell hg]; exact h.c3, by rw [k.cell hg]; exact h.c4, by rw [k.cell hg]; exact h.c5, by rw [k.cell hg]; exact h.c6⟩
set_option maxHeartbeats 1600000 in
theorem res7 {W : World} {g : Nat} (k : K7 W g) (y0 y1 y2 y3 y4 y5 y6 : Value) : At7 (set7 W g y0 y1 y2 y3 y4 y5 y6) g y0 y1 y2 y3 y4 y5 y6 :=
  ⟨by simp [go_sem, k.c0], by simp [go_sem, k.c1], by simp [go_sem, k.c2], by simp [go_sem, k.c3], by simp [go_sem, k.c4], by simp [go_sem, k.c5], by simp [go_sem, k.c6]⟩
theorem ret38 {a : Act} {W : World} {g : Nat} {y0 y1 y2 y3 y4 y5 y6 : Value} {b : Bool} {Q : Ending → World → Prop} (h : At7 W g y0 y1 y2 y3 y4 y5 y6) (hd : a.defers = []) (h2 : a.tmps.getD 2 undef = .pointer (some ⟨g, 0, none⟩)) (h3 : a.tmps.getD 3 undef = .bool b)
    (hQ : Q (.returned (.tuple #[.agg #[y0, y1, y2, y3, y4, y5, y6], .bool b])) W) : bodyPost Tryd.prog Tryd.f28 Q Exit.ret a W := by
  obtain ⟨c0, c1, c2, c3, c4, c5, c6⟩ := h
  rw [Array.getD_eq_getD_getElem?] at h2 h3
  exact bodyPost_ret (v := .tuple #[.agg #[y0, y1, y2, y3, y4, y5, y6], .bool b]) (by simp [results, Tryd.results28, go_sem, h2, h3, c0, c1, c2, c3, c4, c5, c6]) hd hQ
set_option maxHeartbeats 1600000 in
theorem rw_num (b o k : Nat) (w0 w1 w2 w3 w4 : List UInt8) (w : World) (h : Sr w b o [w0, w1, w2, w3, w4]) (hs : w0.length ≤ 1000) (hn : ∀ n, Lib.atoiAll w0 ≠ .ok n) (g : Gb w) :
    Calls Tryd.prog 28 #[.slice (some ⟨b, o, none⟩) 5 k] w fun e w' => e = .returned (.tuple #[stv 0 0 [] [] false (.slice none 0 0) (.slice none 0 0), .bool false]) ∧ Below w.heap.size w w' := by
  have b0 := bA1 w (stz 35)
  have kR := k7_new w 35
  have cA := atoi_no w0 hs hn _ (g.on b0)
  have hc := (h.on b0).c 0 (by simp)
  simp only [List.getElem_cons_zero, Nat.add_zero] at hc
  have HB := Lib.hid b0
  clear b0 h
  go_enter Tryd.func28, Tryd.ntmps28
  go_wp2_with fail
  refine cA.mono ?_
  rintro e w' ⟨v, N, rfl, b1⟩
  have kS := kR.on b1
  obtain ⟨kl, k0, k1, k2, k3, k4, k5, k6, kf⟩ := kR.on b1
  go_wp2
  exact ret38 (res7 kS (.int .i64 0) (.int .i64 0) (.string ⟨#[]⟩) (.string ⟨#[]⟩) (.bool false) (.slice none 0 0) (.slice none 0 0)) rfl rfl rfl ⟨rfl, set7_below (bt2 HB.out b1) (Nat.le_refl _) _ _ _ _ _ _ _⟩
set_option maxHeartbeats 1600000 in
theorem rw_ver (b o k : Nat) (w0 w1 w2 w3 w4 : List UInt8) (w : World) (h : Sr w b o [w0, w1, w2, w3, w4]) (hs : w0.length ≤ 1000) (n : Int) (hn : Lib.atoiAll w0 = .ok n) (hv : rdv w1 = none) (ht : Tab w) :
    Calls Tryd.prog 28 #[.slice (some ⟨b, o, none⟩) 5 k] w fun e w' => e = .returned (.tuple #[stv 0 0 [] [] false (.slice none 0 0) (.slice none 0 0), .bool false]) ∧ Below w.heap.size w w' := by
  have b0 := bA1 w (stz 35)
  have kR := k7_new w 35
  have cA := atoi_ok w0 hs n hn (w.alloc (stz 35))
  have hc := (h.on b0).c 0 (by simp)
  simp only [List.getElem_cons_zero, Nat.add_zero] at hc
  have H1 := Lib.hid (h.on b0)
  have HT := Lib.hid (tab_on ht b0)
  have HB := Lib.hid b0
  clear b0 h
  go_enter Tryd.func28, Tryd.ntmps28
  go_wp2_with fail
  refine cA.mono ?_
  rintro e w' ⟨rfl, b1⟩
  clear cA hc
  have hc1 := (H1.out.on b1).c 1 (by simp)
  simp only [List.getElem_cons_succ, List.getElem_cons_zero] at hc1
  have cV := rdv_any w1 w' (tab_on HT.out b1)
  rw [hv] at cV
  unfold rvv at cV
  go_wp2_with fail
  refine cV.mono ?_
  rintro e w'' ⟨rfl, b2⟩
  clear cV hc1
  have kS := (kR.on b1).on b2
  have kT := kS
  obtain ⟨kl, k0, k1, k2, k3, k4, k5, k6, kf⟩ := kS
  clear kR
  go_wp2
  have hz := res7 kT (.int .i64 0) (.int .i64 0) (.string ⟨#[]⟩) (.string ⟨#[]⟩) (.bool false) (.slice none 0 0) (.slice none 0 0)
  have hz2 := hz.on (bA1 _ (.cells #[.int .i64 0, .string ⟨#[]⟩, .string ⟨#[]⟩] 32)) (by simpa using kl)
  exact ret38 hz2 rfl rfl rfl ⟨rfl, (set7_below (bt2 (bt2 HB.out b1) b2) (Nat.le_refl _) _ _ _ _ _ _ _).alloc (by simpa using Nat.le_of_lt kl) _⟩
theorem wpOp_go {P : Program} {ops : Array Oper} {Q : Exit → Act → World → Prop} {i : Nat} {o : Oper} {K : Act → World → Prop} {a : Act} {w : World} (hi : ops[i]? = some o) (hg : o.guard = none) (h : o.wp P a w K Q) : wpOp P ops Q i K a w := by
  unfold wpOp
  simp only [hi]
  rw [if_pos (by simp [Region.wanted, hg])]
  exact .inl h
/-- What the last words' region reads. -/
structure S9 (W : World) (q b o : Nat) (e : Int) (u r w2 w3 w4 : List UInt8) : Prop where
  ql : q < W.heap.size
  bl : b < W.heap.size
  v0 : W.cell? ⟨q, 0, none⟩ = some (.int .i64 e)
  v1 : W.cell? ⟨q, 1, none⟩ = some (.string ⟨u.toArray⟩)
  v2 : W.cell? ⟨q, 2, none⟩ = some (.string ⟨r.toArray⟩)
  r2 : W.cell? ⟨b, o + 2, none⟩ = some (.string ⟨w2.toArray⟩)
  r3 : W.cell? ⟨b, o + 3, none⟩ = some (.string ⟨w3.toArray⟩)
  r4 : W.cell? ⟨b, o + 4, none⟩ = some (.string ⟨w4.toArray⟩)
theorem S9.on {W w' : World} {q b o : Nat} {e : Int} {u r w2 w3 w4 : List UInt8} (h : S9 W q b o e u r w2 w3 w4) (k : Below W.heap.size W w') : S9 w' q b o e u r w2 w3 w4 :=
  ⟨Nat.lt_of_lt_of_le h.ql k.size, Nat.lt_of_lt_of_le h.bl k.size, by rw [k.cell h.ql]; exact h.v0, by rw [k.cell h.ql]; exact h.v1, by rw [k.cell h.ql]; exact h.v2, by rw [k.cell h.bl]; exact h.r2, by rw [k.cell h.bl]; exact h.r3, by rw [k.cell h.bl]; exact h.r4⟩
theorem cell_set_ne {W : World} {p a : Addr} (h : a.block ≠ p.block) (y : Value) : (W.setCell p y).cell? a = W.cell? a := by
  have := Below.heap_setCell W p y a.block h
  unfold World.cell?
  rw [this]
theorem cell_set7 {W : World} {g : Nat} {a : Addr} (h : a.block ≠ g) (y0 y1 y2 y3 y4 y5 y6 : Value) : (set7 W g y0 y1 y2 y3 y4 y5 y6).cell? a = W.cell? a := by
  unfold set7
  rw [cell_set_ne h, cell_set_ne h, cell_set_ne h, cell_set_ne h, cell_set_ne h, cell_set_ne h, cell_set_ne h]
theorem S9.set {W : World} {q b o : Nat} {e : Int} {u r w2 w3 w4 : List UInt8} (h : S9 W q b o e u r w2 w3 w4) {g : Nat} (hq : q ≠ g) (hb : b ≠ g) (y0 y1 y2 y3 y4 y5 y6 : Value) : S9 (set7 W g y0 y1 y2 y3 y4 y5 y6) q b o e u r w2 w3 w4 :=
  ⟨by simpa using h.ql, by simpa using h.bl, by rw [cell_set7 hq]; exact h.v0, by rw [cell_set7 hq]; exact h.v1, by rw [cell_set7 hq]; exact h.v2, by rw [cell_set7 hb]; exact h.r2, by rw [cell_set7 hb]; exact h.r3, by rw [cell_set7 hb]; exact h.r4⟩
theorem Ss.set7 {W : World} {g : Nat} {A : Option Addr} {n c : Nat} {l : List (List UInt8)} (h : Ss W (.slice A n c) l) (hN : NewA A (g + 1)) (y0 y1 y2 y3 y4 y5 y6 : Value) : Ss (YtoojbpldhhbkbaaDoor.set7 W g y0 y1 y2 y3 y4 y5 y6) (.slice A n c) l := by
  rcases h.is with ⟨rfl, A', c', e⟩ | ⟨b, o, c', e, hc, hs⟩
  · exact ⟨Or.inl ⟨rfl, A', c', e⟩⟩
  · refine ⟨Or.inr ⟨b, o, c', e, hc, by simpa using hs.lt, fun i hi => ?_⟩⟩
    have := hN ⟨b, o, none⟩ (by cases e; rfl)
    rw [cell_set7 (by show b ≠ g; simp at this; omega)]
    exact hs.c i hi
set_option maxRecDepth 100000 in
set_option maxHeartbeats 3200000 in
theorem rw_good (b o k : Nat) (w0 w1 w2 w3 w4 : List UInt8) (w : World) (h : Sr w b o [w0, w1, w2, w3, w4]) (hs : ∀ s ∈ [w0, w1, w2, w3, w4], s.length ≤ 1000) (n : Int) (hn : Lib.atoiAll w0 = .ok n) (e : Int) (u r : List UInt8) (hv : rdv w1 = some (e, u, r)) (ht : Tab w) (g : Gb w) :
    Calls Tryd.prog 28 #[.slice (some ⟨b, o, none⟩) 5 k] w fun x w' => (∃ A n1 c A' n2 c', x = .returned (.tuple #[stv n e u r (w2 == [104, 101, 108, 100]) (.slice A n1 c) (.slice A' n2 c'), .bool true]) ∧ Ss w' (.slice A n1 c) (rdl 5 w3) ∧ Ss w' (.slice A' n2 c') (rdl 3 w4) ∧ NewA A w.heap.size ∧ NewA A' w.heap.size) ∧ Below w.heap.size w w' := by
  have hbl := h.lt
  have b0 := bA1 w (stz 35)
  have kR := k7_new w 35
  have cA := atoi_ok w0 (hs w0 (by simp)) n hn (w.alloc (stz 35))
  have hc := (h.on b0).c 0 (by simp)
  simp only [List.getElem_cons_zero, Nat.add_zero] at hc
  have H1 := Lib.hid (h.on b0)
  have HT := Lib.hid (tab_on ht b0)
  have HB := Lib.hid b0
  clear b0 h
  go_enter Tryd.func28, Tryd.ntmps28
  go_wp2_with fail
  refine cA.mono ?_
  rintro x w' ⟨rfl, b1⟩
  clear cA hc
  have hc1 := (H1.out.on b1).c 1 (by simp)
  simp only [List.getElem_cons_succ, List.getElem_cons_zero] at hc1
  have cV := rdv_any w1 w' (tab_on HT.out b1)
  rw [hv] at cV
  unfold rvv at cV
  go_wp2_with fail
  refine cV.mono ?_
  rintro x w'' ⟨rfl, b2⟩
  clear cV hc1
  have bv := bA1 w'' (.cells #[.int .i64 e, .string ⟨u.toArray⟩, .string ⟨r.toArray⟩] 32)
  have bd := (Below.refl (w''.alloc (.cells #[.int .i64 e, .string ⟨u.toArray⟩, .string ⟨r.toArray⟩] 32)).heap.size (w''.alloc (.cells #[.int .i64 e, .string ⟨u.toArray⟩, .string ⟨r.toArray⟩] 32))).drew
  have bx := bt2 (bt2 (bt2 b1 b2) bv) bd
  have HR := H1.out.on bx
  have hq0 := b2.size
  have hq1 := b1.size
  have hb0 := H1.out.lt
  have S0 : S9 (w''.alloc (.cells #[.int .i64 e, .string ⟨u.toArray⟩, .string ⟨r.toArray⟩] 32)).drew w''.heap.size b o e u r w2 w3 w4 :=
    ⟨by simp, HR.lt, by simp, by simp, by simp, HR.c 2 (by simp), HR.c 3 (by simp), HR.c 4 (by simp)⟩
  have HK := Lib.hid (kR.on bx)
  have HGb := Lib.hid ((g.on HB.out).on bx)
  have HBx := Lib.hid (bt2 HB.out bx)
  have hl3 := hs w3 (by simp)
  have hl4 := hs w4 (by simp)
  have hgq : w''.heap.size ≠ w.heap.size := by simp at hq1; omega
  have hgb : b ≠ w.heap.size := by omega
  clear bv bd bx HR kR g b1 b2 hs hq0 hq1 hb0
  go_wp2
  refine wp_region_held (S := fun W => S9 W w''.heap.size b o e u r w2 w3 w4) (by kernel_rfl) ?_
  generalize hX : { (w''.alloc (.cells #[.int .i64 e, .string ⟨u.toArray⟩, .string ⟨r.toArray⟩] 32)) with drawn := (w''.alloc (.cells #[.int .i64 e, .string ⟨u.toArray⟩, .string ⟨r.toArray⟩] 32)).drawn + 1 } = X
  have S1 : S9 X w''.heap.size b o e u r w2 w3 w4 := by rw [← hX]; exact S0
  have HK1 : Hid (K7 X w.heap.size) := by rw [← hX]; exact HK
  have HG1 : Hid (Gb X) := by rw [← hX]; exact HGb
  have HB1 : Hid (Below w.heap.size w X) := by rw [← hX]; exact HBx
  clear hX S0 HK HGb HBx
  refine wpAnyH_take (i := 0) (v := .int .i64 n) rfl (by kernel_rfl) (by kernel_rfl) (by kernel_rfl) (fun _ _ _ h => h) (.inl ⟨rfl, fun w' hw => by simp [go_sem]⟩) S1 ?_
  refine wpAnyH_take (i := 1) (v := .agg #[.int .i64 e, .string ⟨u.toArray⟩, .string ⟨r.toArray⟩]) rfl (by kernel_rfl) (by kernel_rfl) (by kernel_rfl) (fun _ _ _ h => h) (.inl ⟨rfl, fun w' hw => by have h1 := hw.v0; have h2 := hw.v1; have h3 := hw.v2; simp [go_sem, h1, h2, h3]⟩) S1 ?_
  refine wpAnyH_take (i := 2) (v := .slice (some ⟨b, o, none⟩) 5 k) rfl (by kernel_rfl) (by kernel_rfl) (by kernel_rfl) (fun _ _ _ h => h) (.inl ⟨rfl, fun w' hw => by simp [go_sem]⟩) S1 ?_
  refine wpAnyH_take (i := 3) (v := .pointer (some ⟨b, o + 2, none⟩)) rfl (by kernel_rfl) (by kernel_rfl) (by kernel_rfl) (fun _ _ _ h => h) (.inl ⟨rfl, fun w' hw => by simp [go_sem]⟩) S1 ?_
  refine wpAnyH_take (i := 4) (v := .string ⟨w2.toArray⟩) rfl (by kernel_rfl) (by kernel_rfl) (by kernel_rfl) (fun _ _ _ h => h) (.inl ⟨rfl, fun w' hw => by have h1 := hw.r2; simp [go_sem, h1]⟩) S1 ?_
  refine wpAnyH_take (i := 5) (v := .bool (w2 == [104, 101, 108, 100])) rfl (by kernel_rfl) (by kernel_rfl) (by kernel_rfl) (fun _ _ _ h => h) (.inl ⟨rfl, fun w' hw => by simp [go_sem]⟩) S1 ?_
  refine wpAnyH_take (i := 6) (v := .slice (some ⟨b, o, none⟩) 5 k) rfl (by kernel_rfl) (by kernel_rfl) (by kernel_rfl) (fun _ _ _ h => h) (.inl ⟨rfl, fun w' hw => by simp [go_sem]⟩) S1 ?_
  refine wpAnyH_take (i := 7) (v := .pointer (some ⟨b, o + 3, none⟩)) rfl (by kernel_rfl) (by kernel_rfl) (by kernel_rfl) (fun _ _ _ h => h) (.inl ⟨rfl, fun w' hw => by simp [go_sem]⟩) S1 ?_
  refine wpAnyH_take (i := 8) (v := .string ⟨w3.toArray⟩) rfl (by kernel_rfl) (by kernel_rfl) (by kernel_rfl) (fun _ _ _ h => h) (.inl ⟨rfl, fun w' hw => by have h1 := hw.r3; simp [go_sem, h1]⟩) S1 ?_
  refine wpAnyH_take (i := 10) (v := .slice (some ⟨b, o, none⟩) 5 k) rfl (by kernel_rfl) (by kernel_rfl) (by kernel_rfl) (fun _ _ _ h => h) (.inl ⟨rfl, fun w' hw => by simp [go_sem]⟩) S1 ?_
  refine wpAnyH_take (i := 11) (v := .pointer (some ⟨b, o + 4, none⟩)) rfl (by kernel_rfl) (by kernel_rfl) (by kernel_rfl) (fun _ _ _ h => h) (.inl ⟨rfl, fun w' hw => by simp [go_sem]⟩) S1 ?_
  refine wpAnyH_take (i := 12) (v := .string ⟨w4.toArray⟩) rfl (by kernel_rfl) (by kernel_rfl) (by kernel_rfl) (fun _ _ _ h => h) (.inl ⟨rfl, fun w' hw => by have h1 := hw.r4; simp [go_sem, h1]⟩) S1 ?_
  have hgX := HK1.out.lt
  have cW := rdl_any w3 4 (by omega) hl3 X HG1.out
  refine wpAnyH_all (rs := [9]) (by kernel_rfl) (by simp) fun j hj => ?_
  obtain rfl : j = 9 := by simpa using hj
  refine wpOp_go rfl rfl ?_
  unfold Oper.wp
  simp [go_sem]
  refine cW.mono ?_
  rintro x X2 ⟨⟨A, kk, rfl, hW, hNW⟩, bX⟩
  have HNW := Lib.hid (hNW.le (show w.heap.size + 1 ≤ X.heap.size from hgX))
  have hgX2 := Nat.lt_of_lt_of_le hgX bX.size
  clear hNW
  have S2 := S1.on bX
  refine ⟨S2, ?_⟩
  have HK2 := Lib.hid (HK1.out.on bX)
  have HG2 := Lib.hid (HG1.out.on bX)
  have HB2 := Lib.hid (bt2 HB1.out bX)
  clear S1 HK1 HG1 HB1 cW bX
  have cT := rdl_any w4 2 (by omega) hl4 X2 HG2.out
  refine wpAnyH_all (rs := [13]) (by kernel_rfl) (by simp) fun j hj => ?_
  obtain rfl : j = 13 := by simpa using hj
  refine wpOp_go rfl rfl ?_
  unfold Oper.wp
  simp [go_sem]
  refine cT.mono ?_
  rintro x X3 ⟨⟨A', kk', rfl, hT, hNT⟩, bX⟩
  have HNT := Lib.hid (hNT.le (show w.heap.size + 1 ≤ X2.heap.size from hgX2))
  clear hNT
  have S3 := S2.on bX
  refine ⟨S3, ?_⟩
  have HK3 := HK2.out.on bX
  have HB3 := Lib.hid (bt2 HB2.out bX)
  have hW3 := Lib.hid (hW.on bX)
  have hT3 := Lib.hid hT
  clear S2 HK2 HG2 HB2 cT bX hW hT
  refine wpAnyH_take (i := 14) (v := stv n e u r (w2 == [104, 101, 108, 100]) (.slice A (rdl 5 w3).length kk) (.slice A' (rdl 3 w4).length kk')) rfl (by kernel_rfl) (by kernel_rfl) (by kernel_rfl) (fun _ _ _ h => h) (.inl ⟨rfl, fun w' hw => by simp [go_sem]⟩) S3 ?_
  refine wpAnyH_all (rs := [15]) (by kernel_rfl) (by simp) fun j hj => ?_
  obtain rfl : j = 15 := by simpa using hj
  refine wpOp_go rfl rfl ?_
  unfold Oper.wp
  obtain ⟨kl, k0, k1, k2, k3, k4, k5, k6, kf⟩ := HK3
  have kS : K7 X3 w.heap.size := ⟨kl, k0, k1, k2, k3, k4, k5, k6, kf⟩
  simp [go_sem, k0, k1, k2, k3, k4, k5, k6, kf]
  have S4 := S3.set hgq hgb (.int .i64 n) (.int .i64 e) (.string ⟨u.toArray⟩) (.string ⟨r.toArray⟩) (.bool (w2 == [104, 101, 108, 100])) (.slice A (rdl 5 w3).length kk) (.slice A' (rdl 3 w4).length kk')
  refine ⟨S4, ?_⟩
  refine wpAnyH_all (rs := [16]) (by kernel_rfl) (by simp) fun j hj => ?_
  obtain rfl : j = 16 := by simpa using hj
  refine wpOp_go rfl rfl ?_
  unfold Oper.wp
  simp [go_sem]
  refine ⟨S4, wpAnyH_done (by kernel_rfl) ?_ _⟩
  have hz := res7 kS (.int .i64 n) (.int .i64 e) (.string ⟨u.toArray⟩) (.string ⟨r.toArray⟩) (.bool (w2 == [104, 101, 108, 100])) (.slice A (rdl 5 w3).length kk) (.slice A' (rdl 3 w4).length kk')
  have hZ := Lib.hid hz
  clear hz
  go_wp2
  exact ret38 hZ.out rfl rfl rfl ⟨⟨_, _, _, _, _, _, rfl, hW3.out.set7 HNW.out _ _ _ _ _ _ _, hT3.out.set7 HNT.out _ _ _ _ _ _ _, HNW.out.le (Nat.le_succ _), HNT.out.le (Nat.le_succ _)⟩, set7_below HB3.out (Nat.le_refl _) _ _ _ _ _ _ _⟩
end Go.Proofs.YtoojbpldhhbkbaaDoor
