/- The law DependGrows: its early ways out. -/
import Derived.Test.YtkaeiofolknoeabDoorGd
namespace Go.Proofs.YtkaeiofolknoeabDoor
open Go.RowKit Go.Sort

set_option maxHeartbeats 1600000 in
set_option maxRecDepth 100000 in
theorem grows_no1 (v1 v2 va vb : Value) (l : List (List Tm)) (w : World) (h1 : As w v1 l) (t1 : tla l = false) : Calls Tryd.prog 6 #[v1, v2, va, vb] w fun x w' => x = .returned (.bool true) ∧ Below w.heap.size w w' := by
  have cT := kterms_any v1 l w h1
  rw [t1] at cT
  go_enter Tryd.func6, Tryd.ntmps6
  go_wp2_with fail
  refine cT.mono ?_
  rintro x w1 ⟨rfl, b1⟩
  go_wp2_with fail
  go_ret
  exact ⟨rfl, b1⟩
set_option maxHeartbeats 1600000 in
set_option maxRecDepth 100000 in
theorem grows_no2 (v1 v2 va vb : Value) (l m : List (List Tm)) (w : World) (h1 : As w v1 l) (h2 : As w v2 m) (t1 : tla l = true) (t2 : tla m = false) : Calls Tryd.prog 6 #[v1, v2, va, vb] w fun x w' => x = .returned (.bool true) ∧ Below w.heap.size w w' := by
  have cT := kterms_any v1 l w h1
  have cU := fun W (h : As W v2 m) => kterms_any v2 m W h
  rw [t1] at cT
  rw [t2] at cU
  have H2 := Lib.hid h2
  have HU := Lib.hid cU
  clear cU h1 h2
  go_enter Tryd.func6, Tryd.ntmps6
  go_wp2_with fail
  refine cT.mono ?_
  rintro x w1 ⟨rfl, b1⟩
  go_wp2_with fail
  refine (HU.out _ (H2.out.on b1)).mono ?_
  rintro x w2 ⟨rfl, b2⟩
  go_wp2_with fail
  go_ret
  exact ⟨rfl, bon b1 b2⟩
set_option maxHeartbeats 1600000 in
set_option maxRecDepth 100000 in
theorem grows_long (v1 v2 va vb : Value) (l m : List (List Tm)) (a b : List Ofr) (w : World) (h1 : As w v1 l) (h2 : As w v2 m) (ha : Os' w va a) (hb : Os' w vb b) (t1 : tla l = true) (t2 : tla m = true) (hn : 15 < a.length ∨ a.length ≤ 15 ∧ 15 < b.length) : Calls Tryd.prog 6 #[v1, v2, va, vb] w fun x w' => x = .returned (.bool true) ∧ Below w.heap.size w w' := by
  have cT := kterms_any v1 l w h1
  have cU := fun W (h : As W v2 m) => kterms_any v2 m W h
  rw [t1] at cT
  rw [t2] at cU
  obtain ⟨A, ca, rfl⟩ := ha.sl
  obtain ⟨B, cb, rfl⟩ := hb.sl
  have H2 := Lib.hid h2
  have HU := Lib.hid cU
  clear cU h1 h2 ha hb
  rcases hn with na | ⟨na, nb⟩
  all_goals
    go_enter Tryd.func6, Tryd.ntmps6
    go_wp2_with fail
    refine cT.mono ?_
    rintro x w1 ⟨rfl, b1⟩
    go_wp2_with fail
    refine (HU.out _ (H2.out.on b1)).mono ?_
    rintro x w2 ⟨rfl, b2⟩
    go_wp2_with fail
    go_ret
    exact ⟨rfl, bon b1 b2⟩
end Go.Proofs.YtkaeiofolknoeabDoor
