/- Versions held against each other; terms that are short enough. -/
import Derived.Test.YtoijkbhgajghdaaGreatDoorDa
import Derived.Test.YtoijkbhgajghdaaGreatDoorCe
namespace Go.Proofs.YtoijkbhgajghdaaGreatDoor
open Go.RowKit Go.Sort

theorem bon {w w1 w2 : World} (h : Below w.heap.size w w1) (k : Below w1.heap.size w1 w2) : Below w.heap.size w w2 := h.trans (k.mono h.size)
theorem bdn {B : Nat} {a w : World} (h : Below B a w) (n : Nat) : Below B a (w.drewN n) := h.trans ⟨rfl, rfl, rfl, Nat.le_refl _, fun _ _ => rfl⟩
theorem b1c (w : World) (A : Obj) : Below w.heap.size w (w.alloc A) := (Below.refl _ _).alloc (Nat.le_refl _) _
theorem b2c (w : World) (A B : Obj) : Below w.heap.size w ((w.alloc A).alloc B) := bon (b1c w A) (b1c _ B)
theorem b4c (w : World) (A B C D : Obj) : Below w.heap.size w ((((w.alloc A).alloc B).alloc C).alloc D) := bon (bon (b2c w A B) (b1c _ C)) (b1c _ D)

/-- A version as a value. -/
abbrev vv (e : Int) (u r : List UInt8) : Value := .agg #[.int .i64 e, .string ⟨u.toArray⟩, .string ⟨r.toArray⟩]
/-- A term as a value. -/
abbrev tv (t : Tm) : Value := .agg #[.string ⟨t.n.toArray⟩, .int .i64 t.o, .int .i64 t.e, .string ⟨t.u.toArray⟩, .string ⟨t.r.toArray⟩]
theorem retb {a b : Bool} (h : a = b) : Ending.returned (.bool a) = .returned (.bool b) := by rw [h]

theorem is_b (e1 : Int) (u1 r1 : List UInt8) (op : Int) (e2 : Int) (u2 r2 : List UInt8) (w : World) (h1 : u1.length ≤ 200) (h2 : r1.length ≤ 200) (h3 : u2.length ≤ 200) (h4 : r2.length ≤ 200) :
    Calls Tryz.prog 89 #[vv e1 u1 r1, .int .i64 op, vv e2 u2 r2] w fun x w' => x = .returned (.bool (Vm.iv (Vm.cv e1 u1 r1 e2 u2 r2) op)) ∧ Below w.heap.size w w' := by
  by_cases hop : 1 ≤ op ∧ op ≤ 5
  · refine (is_any e1 u1 r1 op e2 u2 r2 w h1 h2 h3 h4 hop).mono ?_
    rintro x w' ⟨rfl, _, _, _, _, n, rfl⟩
    exact ⟨rfl, bdn (b4c _ _ _ _ _) n⟩
  · refine (is_none e1 u1 r1 op e2 u2 r2 w (by omega)).mono ?_
    rintro x w' ⟨rfl, _, _, rfl⟩
    refine ⟨retb ?_, b2c _ _ _⟩
    have k1 : (op == 1) = false := by rw [beq_eq_false_iff_ne]; omega
    have k2 : (op == 2) = false := by rw [beq_eq_false_iff_ne]; omega
    have k3 : (op == 3) = false := by rw [beq_eq_false_iff_ne]; omega
    have k4 : (op == 4) = false := by rw [beq_eq_false_iff_ne]; omega
    have k5 : (op == 5) = false := by rw [beq_eq_false_iff_ne]; omega
    simp [Vm.iv, k1, k2, k3, k4, k5]
theorem ris_b (e1 : Int) (u1 r1 : List UInt8) (op : Int) (e2 : Int) (u2 r2 : List UInt8) (w : World) (h1 : u1.length ≤ 200) (h2 : r1.length ≤ 200) (h3 : u2.length ≤ 200) (h4 : r2.length ≤ 200) :
    Calls Tryz.prog 94 #[vv e1 u1 r1, .int .i64 op, vv e2 u2 r2] w fun x w' => x = .returned (.bool (Vm.iv (Vm.cv e1 u1 r1 e2 u2 r2) op)) ∧ Below w.heap.size w w' := by
  refine (ris_any e1 u1 r1 op e2 u2 r2 w h1 h2 h3 h4).mono ?_
  rintro x w' ⟨rfl, _, _, _, _, n, rfl⟩
  exact ⟨rfl, bdn (b4c _ _ _ _ _) n⟩
theorem short_b (e : Int) (u r : List UInt8) (w : World) : Calls Tryz.prog 24 #[vv e u r] w fun x w' => x = .returned (.bool (decide (u.length ≤ 100) && decide (r.length ≤ 100))) ∧ Below w.heap.size w w' := by
  refine (short_any e u r w).mono ?_
  rintro x w' ⟨rfl, rfl⟩
  exact ⟨rfl, b1c _ _⟩

/-- A term short enough; terms; lists of terms. -/
def t1 (t : Tm) : Bool := decide (t.n.length ≤ 60) && (decide (t.u.length ≤ 100) && decide (t.r.length ≤ 100))
def fla (l : List Tm) : Bool := decide (l.length ≤ 40) && l.all t1
def tla (l : List (List Tm)) : Bool := decide (l.length ≤ 40) && l.all fla

theorem flat_long (A : Option Addr) (n c : Nat) (w : World) (h : 40 < n) : Calls Tryz.prog 27 #[.slice A n c] w fun e w' => e = .returned (.bool false) ∧ w' = w := by
  go_enter Tryz.func27, Tryz.ntmps27
  go_wp2
  go_ret
  exact ⟨rfl, rfl⟩
theorem flat_nil (A : Option Addr) (c : Nat) (w : World) : Calls Tryz.prog 27 #[.slice A 0 c] w fun e w' => e = .returned (.bool true) ∧ w' = w := by
  go_enter Tryz.func27, Tryz.ntmps27
  go_wp2
  refine wp_loop_rounds 1 ?_
  rw [rounds_succ]
  go_wp2
  go_ret
  exact ⟨rfl, rfl⟩

set_option maxHeartbeats 1600000 in
set_option maxRecDepth 100000 in
theorem flat_row (b o c : Nat) (l : List Tm) (w : World) (h : Tl w b o l) (hn : l.length ≤ 40) : Calls Tryz.prog 27 #[.slice (some ⟨b, o, none⟩) l.length c] w fun e w' => e = .returned (.bool (l.all t1)) ∧ Below w.heap.size w w' := by
  obtain ⟨r, hr⟩ : ∃ r, r = l.all t1 := ⟨_, rfl⟩
  have HR := Lib.hid hr
  rw [← hr]
  clear hr
  have HF := Lib.hid h
  clear h
  go_enter Tryz.func27, Tryz.ntmps27
  go_wp2
  go_loopw [3] (fun i W => ∃ k : Nat, k ≤ l.length ∧ i = .int .i64 k ∧ Below w.heap.size w W ∧ Hid (∀ j (hj : j < l.length), j < k → t1 l[j] = true)) (fun i _ => l.length - (intOf i).toNat)
  case atStart => exact ⟨0, Nat.zero_le _, rfl, Below.refl _ _, fun j _ h => absurd h (Nat.not_lt_zero _)⟩
  case round =>
    obtain ⟨k, hk, rfl, hW, HP⟩ := hrel
    by_cases hlt : k < l.length
    · have hT := HF.out.on hW
      have c0 := hT.c0 k hlt
      have c2 := hT.c2 k hlt
      have c3 := hT.c3 k hlt
      have c4 := hT.c4 k hlt
      have HN : Hid (t1 l[k] = false → r = false) := fun e => by
        rw [HR.out, List.all_eq_false]
        exact ⟨l[k], List.getElem_mem hlt, by simp [e]⟩
      have HM : Hid (t1 l[k] = true → ∀ j (hj : j < l.length), j < k + 1 → t1 l[j] = true) := fun e j hj h => by
        by_cases e2 : j = k
        · subst e2; exact e
        · exact HP.out j hj (by omega)
      have cS := fun W => short_b l[k].e l[k].u l[k].r W
      clear hT
      by_cases h1 : l[k].n.length ≤ 60
      · cases hs : (decide (l[k].u.length ≤ 100) && decide (l[k].r.length ≤ 100)) with
        | true =>
          have HG := Lib.hid (HM.out (by unfold t1; rw [hs]; simp [h1]))
          rw [hs] at cS
          clear HN HM hs
          go_wp2_with (go_at_call 24; refine (cS _).mono ?_; rintro x w1 ⟨rfl, bw1⟩)
          exact ⟨⟨k + 1, hlt, by go_num, bon hW bw1, HG⟩, by simp [intOf]; omega⟩
        | false =>
          have HG := Lib.hid (HN.out (by unfold t1; rw [hs]; simp))
          rw [hs] at cS
          clear HN HM hs
          go_wp2_with (go_at_call 24; refine (cS _).mono ?_; rintro x w1 ⟨rfl, bw1⟩)
          go_ret
          exact ⟨retb HG.out.symm, bon hW bw1⟩
      · have HG := Lib.hid (HN.out (by unfold t1; simp [h1]))
        clear HN HM
        go_wp2_with (go_at_call 24; refine (cS _).mono ?_; rintro x w1 ⟨rfl, bw1⟩)
        go_ret
        exact ⟨retb HG.out.symm, hW⟩
    · have hall : l.all t1 = true := by
        rw [List.all_eq_true]
        intro f hf
        obtain ⟨j, hj, rfl⟩ := List.getElem_of_mem hf
        exact HP.out j hj (by omega)
      have HG := Lib.hid (HR.out.trans hall)
      go_wp2
      go_ret
      exact ⟨retb HG.out.symm, hW⟩
theorem flat_any (v : Value) (l : List Tm) (w : World) (h : Ts w v l) : Calls Tryz.prog 27 #[v] w fun e w' => e = .returned (.bool (fla l)) ∧ Below w.heap.size w w' := by
  rcases h.is with ⟨rfl, A, c, rfl⟩ | ⟨b, o, c, rfl, hc, hf⟩
  · exact (flat_nil A c w).mono fun x w' ⟨h1, h2⟩ => ⟨h1, by rw [h2]; exact Below.refl _ _⟩
  · by_cases hn : l.length ≤ 40
    · rw [show fla l = l.all t1 from by simp [fla, hn]]
      exact flat_row b o c l w hf hn
    · rw [show fla l = false from by simp [fla, hn]]
      exact (flat_long _ _ c w (by omega)).mono fun x w' ⟨h1, h2⟩ => ⟨h1, by rw [h2]; exact Below.refl _ _⟩
end Go.Proofs.YtoijkbhgajghdaaGreatDoor
