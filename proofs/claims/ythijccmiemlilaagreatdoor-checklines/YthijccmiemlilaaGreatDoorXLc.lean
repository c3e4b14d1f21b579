/- The reference's Line, where edges are refused. -/
import Derived.Test.YthijccmiemlilaaGreatDoorB5
import Derived.Test.YthijccmiemlilaaGreatDoorB6
namespace Go.Proofs.YthijccmiemlilaaGreatDoor.Ord
open Go.RowKit Go.Sort Go.Maps

theorem fv_ok : fv .ok = .agg #[.int .i64 0, .int .i64 (-1)] := rfl
theorem fv_no {r : Ro} (h : r ≠ .ok) : ∃ x y : Int, x ≠ 0 ∧ fv r = .agg #[.int .i64 x, .int .i64 y] := by
  rcases r with _ | _ | i
  · exact absurd rfl h
  · exact ⟨4, -1, by decide, rfl⟩
  · exact ⟨2, i, by decide, rfl⟩
set_option maxHeartbeats 1600000 in
set_option maxRecDepth 100000 in
theorem rline_no1 (n : Int) (A A' : Option Addr) (c m' c' : Nat) (l : List E) (w : World) (hl : l.length ≤ 1000000) (h : Es w (.slice A l.length c) l) (hF : Fi w) (hr : ro n l ≠ .ok) : Calls Tryz.prog 57 #[.int .i64 n, .slice A l.length c, .slice A' m' c'] w fun e w' => e = .returned (.tuple #[.slice none 0 0, fv (ro n l)]) ∧ Below w.heap.size w w' := by
  have b0 := bA1 w (.cells #[.int .i64 0, .int .i64 0] 42)
  have K0 := Lib.hid (k2_new w)
  have c1 := redges_any n A c l _ hl (h.on b0) (hF.on b0)
  have HFi := Lib.hid hF
  have HB0 := Lib.hid b0
  obtain ⟨x, y, hne, efv⟩ := fv_no hr
  rw [efv] at c1 ⊢
  clear efv hr b0 hF h
  go_enter Tryz.func57, Tryz.ntmps57
  go_wp2_with fail
  refine c1.mono ?_
  rintro e w2 ⟨rfl, b2⟩
  have b3 := bA1 w2 (.cells #[.int .i64 x, .int .i64 y] 42)
  have k3 := HB0.out.trans ((b2.trans (b3.mono b2.size)).mono HB0.out.size)
  obtain ⟨kl, q0, q1, f0, f1⟩ := (K0.out.on b2).on b3
  have g0 := (HFi.out.on k3).c0
  have g1 := (HFi.out.on k3).c1
  clear K0 c1 HB0 HFi
  go_wp2_with fail
  go_region
  go_wp2_with fail
  exact bodyPost_ret (v := .tuple #[.slice none 0 0, .agg #[.int .i64 x, .int .i64 y]]) (by simp [results, Tryz.results57, go_sem, q0, q1]) rfl ⟨rfl, ((k3.drew).setCell (Nat.le_refl _) _).setCell (Nat.le_refl _) _⟩
set_option maxHeartbeats 1600000 in
set_option maxRecDepth 100000 in
theorem rline_no2 (n : Int) (A A' : Option Addr) (c c' : Nat) (l l' : List E) (w : World) (hl : l.length ≤ 1000000) (hl' : l'.length ≤ 1000000) (h : Es w (.slice A l.length c) l) (h' : Es w (.slice A' l'.length c') l') (hF : Fi w) (hr0 : ro n l = .ok) (hr : ro n l' ≠ .ok) : Calls Tryz.prog 57 #[.int .i64 n, .slice A l.length c, .slice A' l'.length c'] w fun e w' => e = .returned (.tuple #[.slice none 0 0, fv (ro n l')]) ∧ Below w.heap.size w w' := by
  have b0 := bA1 w (.cells #[.int .i64 0, .int .i64 0] 42)
  have K0 := Lib.hid (k2_new w)
  have c1 := redges_any n A c l _ hl (h.on b0) (hF.on b0)
  have HC2 : Hid (∀ W, Below w.heap.size w W → Calls Tryz.prog 80 #[.int .i64 n, .slice A' l'.length c'] W fun e w' => e = .returned (fv (ro n l')) ∧ Below W.heap.size W w') := fun W b => redges_any n A' c' l' W hl' (h'.on b) (hF.on b)
  have HFi := Lib.hid hF
  have HB0 := Lib.hid b0
  obtain ⟨x, y, hne, efv⟩ := fv_no hr
  rw [efv] at HC2 ⊢
  rw [hr0, fv_ok] at c1
  clear efv hr b0 hF h h' hr0
  go_enter Tryz.func57, Tryz.ntmps57
  go_wp2_with fail
  refine c1.mono ?_
  rintro e w2 ⟨rfl, b2⟩
  have b3 := bA1 w2 (.cells #[.int .i64 0, .int .i64 (-1)] 42)
  have k3 := HB0.out.trans ((b2.trans (b3.mono b2.size)).mono HB0.out.size)
  have K3 := Lib.hid ((K0.out.on b2).on b3)
  have g0 := (HFi.out.on k3).c0
  have g1 := (HFi.out.on k3).c1
  have c2 := HC2.out _ k3
  clear K0 c1 HB0 HC2 b2 b3
  go_wp2_with fail
  refine c2.mono ?_
  rintro e w4 ⟨rfl, b4⟩
  have b5 := bA1 w4 (.cells #[.int .i64 x, .int .i64 y] 42)
  have k5 := bon (bon k3 b4) b5
  obtain ⟨kl, q0, q1, f0, f1⟩ := (K3.out.on b4).on b5
  have g0' := (HFi.out.on k5).c0
  have g1' := (HFi.out.on k5).c1
  clear K3 c2 HFi g0 g1 b4 b5 k3
  go_wp2_with fail
  go_region
  go_wp2_with fail
  exact bodyPost_ret (v := .tuple #[.slice none 0 0, .agg #[.int .i64 x, .int .i64 y]]) (by simp [results, Tryz.results57, go_sem, q0, q1]) rfl ⟨rfl, ((k5.drew).setCell (Nat.le_refl _) _).setCell (Nat.le_refl _) _⟩
end Go.Proofs.YthijccmiemlilaaGreatDoor.Ord
