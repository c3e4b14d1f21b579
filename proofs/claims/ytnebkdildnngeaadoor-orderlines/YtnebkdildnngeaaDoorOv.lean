/- The reference's word on edges. -/
import Derived.Test.YtnebkdildnngeaaDoorOu
import Derived.Test.YtnebkdildnngeaaDoorQm
namespace Go.Proofs.YtnebkdildnngeaaDoor
open Go.RowKit Go.Sort

/-- The variable Fine. -/
structure Fi (W : World) : Prop where
  c0 : W.cell? ⟨0, 0, none⟩ = some (.int .i64 0)
  c1 : W.cell? ⟨0, 1, none⟩ = some (.int .i64 (-1))
theorem Fi.on {W W' : World} (h : Fi W) (k : Below W.heap.size W W') : Fi W' := ⟨(k.cell (block_lt_of_cell h.c0)).trans h.c0, (k.cell (block_lt_of_cell h.c1)).trans h.c1⟩
def fau : Ro → Int × Int
  | .ok => (0, -1)
  | .lim => (4, -1)
  | .at i => (2, i)
abbrev fv (r : Ro) : Value := .agg #[.int .i64 (fau r).1, .int .i64 (fau r).2]
theorem in_any (n lo hi : Int) (w : World) : Calls Tryd.prog 18 #[.int .i64 n, .int .i64 lo, .int .i64 hi] w fun x w' => x = .returned (.bool (decide (lo ≤ n) && decide (n ≤ hi))) ∧ w' = w := by
  go_enter Tryd.func18, Tryd.ntmps18
  go_wp2
  all_goals go_ret
  all_goals exact ⟨retb (by rw [Bool.eq_iff_iff]; simp; omega), rfl⟩
/-- Two cells that are written whole. -/
structure K2 (W : World) (g : Nat) : Prop where
  lt : g < W.heap.size
  c0 : W.cell? ⟨g, 0, none⟩ = some (.int .i64 0)
  c1 : W.cell? ⟨g, 1, none⟩ = some (.int .i64 0)
  f0 : W.frozen? ⟨g, 0, none⟩ = false
  f1 : W.frozen? ⟨g, 1, none⟩ = false
theorem K2.on {W w' : World} {g : Nat} (h : K2 W g) (k : Below W.heap.size W w') : K2 w' g :=
  ⟨Nat.lt_of_lt_of_le h.lt k.size, by rw [k.cell h.lt]; exact h.c0, by rw [k.cell h.lt]; exact h.c1, by rw [k.frozen h.lt]; exact h.f0, by rw [k.frozen h.lt]; exact h.f1⟩
theorem k2_new (w : World) : K2 (w.alloc (.cells #[.int .i64 0, .int .i64 0] 26)) w.heap.size := ⟨by simp, by simp, by simp, by simp, by simp⟩
set_option maxHeartbeats 1600000 in
set_option maxRecDepth 100000 in
theorem redges_lim (n : Int) (A : Option Addr) (m c : Nat) (w : World) (hn : n < 0 ∨ 40 < n) : Calls Tryd.prog 12 #[.int .i64 n, .slice A m c] w fun e w' => e = .returned (fv .lim) ∧ Below w.heap.size w w' := by
  have b0 := bA1 w (.cells #[.int .i64 0, .int .i64 0] 26)
  have K0 := Lib.hid (k2_new w)
  have cI := fun W => in_any n 0 40 W
  rw [show (decide (0 ≤ n) && decide (n ≤ 40)) = false by rcases hn with h | h <;> simp <;> omega] at cI
  have cB := fun W => bareF_any 4 W
  clear hn
  go_enter Tryd.func12, Tryd.ntmps12
  go_wp2_with fail
  refine (cI _).mono ?_
  rintro e w1 ⟨rfl, rfl⟩
  go_wp2_with fail
  refine (cB _).mono ?_
  rintro e w2 ⟨rfl, b2⟩
  obtain ⟨kl, q0, q1, f0, f1⟩ := K0.out.on b2
  have k2 := bon b0 b2
  clear cI cB K0
  go_wp2_with fail
  exact bodyPost_ret (v := fv .lim) (by simp [results, Tryd.results12, go_sem, q0, q1, fau]) rfl ⟨rfl, (k2.setCell (Nat.le_refl _) _).setCell (Nat.le_refl _) _⟩
set_option maxHeartbeats 1600000 in
set_option maxRecDepth 100000 in
theorem redges_in (n : Nat) (A : Option Addr) (c : Nat) (l : List E) (w : World) (hn : n ≤ 40) (hl : l.length ≤ 1000000) (h : Es w (.slice A l.length c) l) (hF : Fi w) : Calls Tryd.prog 12 #[.int .i64 n, .slice A l.length c] w fun e w' => e = .returned (fv (roL n l)) ∧ Below w.heap.size w w' := by
  obtain ⟨r, hr⟩ : ∃ r, r = roL n l := ⟨_, rfl⟩
  have HR := Lib.hid hr
  rw [← hr]
  have b0 := bA1 w (.cells #[.int .i64 0, .int .i64 0] 26)
  have K0 := Lib.hid (k2_new w)
  have HE := Lib.hid h
  have HFi := Lib.hid hF
  have HB0 := Lib.hid b0
  have cI := fun W => in_any n 0 40 W
  rw [show (decide (0 ≤ (n : Int)) && decide ((n : Int) ≤ 40)) = true by simp; omega] at cI
  clear hr h hF b0
  go_enter Tryd.func12, Tryd.ntmps12
  go_wp2_with fail
  refine (cI _).mono ?_
  rintro e w1 ⟨rfl, rfl⟩
  clear cI
  go_wp2
  go_loopw [13] (fun i W => ∃ k : Nat, k ≤ l.length ∧ i = .int .i64 k ∧ Hid (Below w.heap.size w W) ∧ Hid (K2 W w.heap.size) ∧ Hid (∀ j (hj : j < l.length), j < k → bade n l[j] = false)) (fun i _ => l.length - (intOf i).toNat)
  case atStart => exact ⟨0, Nat.zero_le _, rfl, HB0, K0, fun j _ h => absurd h (Nat.not_lt_zero _)⟩
  case round =>
    obtain ⟨k, hk, rfl, HW, HK, HP⟩ := hrel
    by_cases hlt : k < l.length
    · obtain ⟨b, o, rfl, hEr⟩ := es_row (HE.out.on HW.out) (by omega)
      have c0 := hEr.c0 k hlt
      have c1 := hEr.c1 k hlt
      have HB : Hid (bade n l[k] = true → r = .at k) := fun h => by rw [HR.out]; unfold roL; rw [fi_yes k hlt h (fun j hj hjk => HP.out j hj hjk)]
      have HN : Hid (bade n l[k] = false → ∀ j (hj : j < l.length), j < k + 1 → bade n l[j] = false) := fun h j hj hjk => by
        by_cases e : j = k
        · subst e; exact h
        · exact HP.out j hj (by omega)
      generalize l[k] = e at c0 c1 HB HN
      obtain ⟨x, y⟩ := e
      dsimp only at c0 c1
      have b1 := bA1 wr (.cells #[.int .i64 x, .int .i64 y] 48)
      have HW1 := Lib.hid (bon HW.out b1)
      have HK1 := Lib.hid (HK.out.on b1)
      have cX := fun W => in_any x 0 ((n : Int) - 1) W
      have cY := fun W => in_any y 0 ((n : Int) - 1) W
      clear hEr HW HK b1
      cases hx : (decide (0 ≤ x) && decide (x ≤ (n : Int) - 1)) with
      | false =>
        rw [hx] at cX
        have hr2 : r = .at k := HB.out (by unfold bade; simp at hx ⊢; omega)
        obtain ⟨kl, q0, q1, f0, f1⟩ := HK1.out
        subst hr2
        clear HB HN hx cY
        go_wp2_with fail
        refine (cX _).mono ?_
        rintro e w2 ⟨rfl, rfl⟩
        go_wp2_with fail
        exact bodyPost_ret (v := fv (.at k)) (by simp [results, Tryd.results12, go_sem, q0, q1, fau]) rfl ⟨rfl, (HW1.out.setCell (Nat.le_refl _) _).setCell (Nat.le_refl _) _⟩
      | true =>
        rw [hx] at cX
        cases hy : (decide (0 ≤ y) && decide (y ≤ (n : Int) - 1)) with
        | false =>
          rw [hy] at cY
          have hr2 : r = .at k := HB.out (by unfold bade; simp at hy ⊢; omega)
          obtain ⟨kl, q0, q1, f0, f1⟩ := HK1.out
          subst hr2
          clear HB HN hx hy
          go_wp2_with fail
          refine (cX _).mono ?_
          rintro e w2 ⟨rfl, rfl⟩
          go_wp2_with fail
          refine (cY _).mono ?_
          rintro e w2 ⟨rfl, rfl⟩
          go_wp2_with fail
          exact bodyPost_ret (v := fv (.at k)) (by simp [results, Tryd.results12, go_sem, q0, q1, fau]) rfl ⟨rfl, (HW1.out.setCell (Nat.le_refl _) _).setCell (Nat.le_refl _) _⟩
        | true =>
          rw [hy] at cY
          have HN2 := Lib.hid (HN.out (by unfold bade; simp at hx hy ⊢; omega))
          clear HB HN hx hy
          go_wp2_with fail
          refine (cX _).mono ?_
          rintro e w2 ⟨rfl, rfl⟩
          go_wp2_with fail
          refine (cY _).mono ?_
          rintro e w2 ⟨rfl, rfl⟩
          go_wp2_with fail
          exact ⟨⟨k + 1, hlt, by go_num, HW1, HK1, HN2.out⟩, by simp [intOf]; omega⟩
    · have hr2 : r = .ok := by rw [HR.out]; unfold roL; rw [fi_no (fun j hj => HP.out j hj (by omega))]
      subst hr2
      obtain ⟨kl, q0, q1, f0, f1⟩ := HK.out
      have g0 := (HFi.out.on HW.out).c0
      have g1 := (HFi.out.on HW.out).c1
      go_wp2_with fail
      exact bodyPost_ret (v := fv .ok) (by simp [results, Tryd.results12, go_sem, q0, q1, fau]) rfl ⟨rfl, (HW.out.setCell (Nat.le_refl _) _).setCell (Nat.le_refl _) _⟩
end Go.Proofs.YtnebkdildnngeaaDoor
