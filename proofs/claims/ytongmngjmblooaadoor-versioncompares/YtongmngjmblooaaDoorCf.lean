/- The walk of the law VersionCompares. -/
import Derived.Test.YtongmngjmblooaaDoorCe
import Derived.Deep.RegionHeld3
import Derived.RowKit3
namespace Go.Proofs.YtongmngjmblooaaDoor
open Go.RowKit

set_option maxHeartbeats 1600000 in
theorem law_long1 (e1 : Int) (u1 r1 : List UInt8) (e2 : Int) (u2 r2 : List UInt8) (op : Int) (w : World) (hs : (decide (u1.length ≤ 100) && decide (r1.length ≤ 100)) = false) :
    Calls Tryd.prog 4 #[.agg #[.int .i64 e1, .string ⟨u1.toArray⟩, .string ⟨r1.toArray⟩], .agg #[.int .i64 e2, .string ⟨u2.toArray⟩, .string ⟨r2.toArray⟩], .int .i64 op] w fun x w' =>
    x = .returned (.bool true) ∧ Grown w w' := by
  go_enter Tryd.func4, Tryd.ntmps4
  go_wp2_with fail
  refine (short_any e1 u1 r1 _).mono ?_
  rintro e w' ⟨rfl, rfl⟩
  rw [hs]
  go_wp2_with fail
  go_ret
  exact ⟨rfl, by repeat (first | exact Grown.refl _ | apply Grown.drew | apply Grown.alloc)⟩

set_option maxHeartbeats 1600000 in
theorem law_long2 (e1 : Int) (u1 r1 : List UInt8) (e2 : Int) (u2 r2 : List UInt8) (op : Int) (w : World) (hs : (decide (u1.length ≤ 100) && decide (r1.length ≤ 100)) = true) (ht : (decide (u2.length ≤ 100) && decide (r2.length ≤ 100)) = false) :
    Calls Tryd.prog 4 #[.agg #[.int .i64 e1, .string ⟨u1.toArray⟩, .string ⟨r1.toArray⟩], .agg #[.int .i64 e2, .string ⟨u2.toArray⟩, .string ⟨r2.toArray⟩], .int .i64 op] w fun x w' =>
    x = .returned (.bool true) ∧ Grown w w' := by
  have Hs : Hid ((decide (u1.length ≤ 100) && decide (r1.length ≤ 100)) = true) := hs
  have Ht : Hid ((decide (u2.length ≤ 100) && decide (r2.length ≤ 100)) = false) := ht
  clear hs ht
  go_enter Tryd.func4, Tryd.ntmps4
  go_wp2_with fail
  refine (short_any e1 u1 r1 _).mono ?_
  rintro e w' ⟨rfl, rfl⟩
  rw [Hs.out]
  go_wp2_with fail
  refine (short_any e2 u2 r2 _).mono ?_
  rintro e w' ⟨rfl, rfl⟩
  rw [Ht.out]
  go_wp2_with fail
  go_ret
  exact ⟨rfl, by repeat (first | exact Grown.refl _ | apply Grown.drew | apply Grown.alloc)⟩

theorem ris_none (e1 : Int) (u1 r1 : List UInt8) (op : Int) (e2 : Int) (u2 r2 : List UInt8) (w : World) (h1 : u1.length ≤ 200) (h2 : r1.length ≤ 200) (h3 : u2.length ≤ 200) (h4 : r2.length ≤ 200) (hop : op < 1 ∨ 5 < op) :
    Calls Tryd.prog 19 #[.agg #[.int .i64 e1, .string ⟨u1.toArray⟩, .string ⟨r1.toArray⟩], .int .i64 op, .agg #[.int .i64 e2, .string ⟨u2.toArray⟩, .string ⟨r2.toArray⟩]] w fun x w' =>
    x = .returned (.bool (op == 0)) ∧ ∃ (c1 c2 c3 c4 : Array Value) (n : Nat), w' = ((((w.alloc (.cells c1 23)).alloc (.cells c2 23)).alloc (.cells c3 23)).alloc (.cells c4 23)).drewN n := by
  rw [← iv_none (Vm.cv e1 u1 r1 e2 u2 r2) op hop]
  exact ris_any e1 u1 r1 op e2 u2 r2 w h1 h2 h3 h4

theorem grown_drewN {W w : World} (h : Grown W w) (n : Nat) : Grown W (w.drewN n) := h

set_option maxHeartbeats 1000000 in
theorem law_some (e1 : Int) (u1 r1 : List UInt8) (e2 : Int) (u2 r2 : List UInt8) (op : Int) (w : World) (hs : (decide (u1.length ≤ 100) && decide (r1.length ≤ 100)) = true) (ht : (decide (u2.length ≤ 100) && decide (r2.length ≤ 100)) = true) (hop : 1 ≤ op ∧ op ≤ 5) :
    Calls Tryd.prog 4 #[.agg #[.int .i64 e1, .string ⟨u1.toArray⟩, .string ⟨r1.toArray⟩], .agg #[.int .i64 e2, .string ⟨u2.toArray⟩, .string ⟨r2.toArray⟩], .int .i64 op] w fun x w' =>
    x = .returned (.bool true) ∧ Grown w w' := by
  have Hs : Hid ((decide (u1.length ≤ 100) && decide (r1.length ≤ 100)) = true) := hs
  have Ht : Hid ((decide (u2.length ≤ 100) && decide (r2.length ≤ 100)) = true) := ht
  have hs1 : u1.length ≤ 200 ∧ r1.length ≤ 200 := by simp at hs; omega
  have ht1 : u2.length ≤ 200 ∧ r2.length ≤ 200 := by simp at ht; omega
  clear hs ht
  obtain ⟨a1, a2⟩ := hs1
  obtain ⟨b1, b2⟩ := ht1
  have hr := Vm.cv_range e1 u1 r1 e2 u2 r2
  have HR : Hid (Vm.cv e1 u1 r1 e2 u2 r2 = -1 ∨ Vm.cv e1 u1 r1 e2 u2 r2 = 0 ∨ Vm.cv e1 u1 r1 e2 u2 r2 = 1) := hr
  clear hr
  go_enter Tryd.func4, Tryd.ntmps4
  go_wp2_with fail
  refine (short_any e1 u1 r1 _).mono ?_
  rintro e w' ⟨rfl, rfl⟩
  rw [Hs.out]
  go_wp2_with fail
  refine (short_any e2 u2 r2 _).mono ?_
  rintro e w' ⟨rfl, rfl⟩
  rw [Ht.out]
  go_wp2_with fail
  go_region_held3 (fun w' => w'.cell? ⟨w.heap.size, 0, none⟩ = some (.int .i64 e1) ∧ w'.cell? ⟨w.heap.size, 1, none⟩ = some (.string ⟨u1.toArray⟩) ∧ w'.cell? ⟨w.heap.size, 2, none⟩ = some (.string ⟨r1.toArray⟩) ∧ w'.cell? ⟨w.heap.size + 1, 0, none⟩ = some (.int .i64 e2) ∧ w'.cell? ⟨w.heap.size + 1, 1, none⟩ = some (.string ⟨u2.toArray⟩) ∧ w'.cell? ⟨w.heap.size + 1, 2, none⟩ = some (.string ⟨r2.toArray⟩)) (simp [go_sem, World.cell?_alloc_past])
    (first
      | (go_at_call 16; refine (compare_any e1 u1 r1 e2 u2 r2 _ a1 a2 b1 b2).mono ?_; rintro e w' ⟨rfl, n, rfl⟩)
      | (go_at_call 15; refine (sign_any _ _ HR.out).mono ?_; rintro e w' ⟨rfl, rfl⟩)
      | (go_at_call 17; refine (rcompare_any e1 u1 r1 e2 u2 r2 _ a1 a2 b1 b2).mono ?_; rintro e w' ⟨rfl, n, rfl⟩)
      | (go_at_call 18; refine (is_any e1 u1 r1 op e2 u2 r2 _ a1 a2 b1 b2 hop).mono ?_; rintro e w' ⟨rfl, c1, c2, c3, c4, n, rfl⟩)
      | (go_at_call 19; refine (ris_any e1 u1 r1 op e2 u2 r2 _ a1 a2 b1 b2).mono ?_; rintro e w' ⟨rfl, c1, c2, c3, c4, n, rfl⟩))
  go_wp2
  go_ret
  exact ⟨rfl, grown_drewN (((((grown_drewN (((((grown_drewN (((grown_drewN (((((((Grown.refl _).alloc _ _).alloc _ _).alloc _ _).alloc _ _).alloc _ _).alloc _ _) _).alloc _ _).alloc _ _) _).alloc _ _).alloc _ _).alloc _ _).alloc _ _) _).alloc _ _).alloc _ _).alloc _ _).alloc _ _) _⟩

set_option maxHeartbeats 1000000 in
theorem law_none (e1 : Int) (u1 r1 : List UInt8) (e2 : Int) (u2 r2 : List UInt8) (op : Int) (w : World) (hs : (decide (u1.length ≤ 100) && decide (r1.length ≤ 100)) = true) (ht : (decide (u2.length ≤ 100) && decide (r2.length ≤ 100)) = true) (hop : op < 1 ∨ 5 < op) :
    Calls Tryd.prog 4 #[.agg #[.int .i64 e1, .string ⟨u1.toArray⟩, .string ⟨r1.toArray⟩], .agg #[.int .i64 e2, .string ⟨u2.toArray⟩, .string ⟨r2.toArray⟩], .int .i64 op] w fun x w' =>
    x = .returned (.bool true) ∧ Grown w w' := by
  have Hs : Hid ((decide (u1.length ≤ 100) && decide (r1.length ≤ 100)) = true) := hs
  have Ht : Hid ((decide (u2.length ≤ 100) && decide (r2.length ≤ 100)) = true) := ht
  have hs1 : u1.length ≤ 200 ∧ r1.length ≤ 200 := by simp at hs; omega
  have ht1 : u2.length ≤ 200 ∧ r2.length ≤ 200 := by simp at ht; omega
  clear hs ht
  obtain ⟨a1, a2⟩ := hs1
  obtain ⟨b1, b2⟩ := ht1
  have hr := Vm.cv_range e1 u1 r1 e2 u2 r2
  have HR : Hid (Vm.cv e1 u1 r1 e2 u2 r2 = -1 ∨ Vm.cv e1 u1 r1 e2 u2 r2 = 0 ∨ Vm.cv e1 u1 r1 e2 u2 r2 = 1) := hr
  clear hr
  go_enter Tryd.func4, Tryd.ntmps4
  go_wp2_with fail
  refine (short_any e1 u1 r1 _).mono ?_
  rintro e w' ⟨rfl, rfl⟩
  rw [Hs.out]
  go_wp2_with fail
  refine (short_any e2 u2 r2 _).mono ?_
  rintro e w' ⟨rfl, rfl⟩
  rw [Ht.out]
  go_wp2_with fail
  go_region_held3 (fun w' => w'.cell? ⟨w.heap.size, 0, none⟩ = some (.int .i64 e1) ∧ w'.cell? ⟨w.heap.size, 1, none⟩ = some (.string ⟨u1.toArray⟩) ∧ w'.cell? ⟨w.heap.size, 2, none⟩ = some (.string ⟨r1.toArray⟩) ∧ w'.cell? ⟨w.heap.size + 1, 0, none⟩ = some (.int .i64 e2) ∧ w'.cell? ⟨w.heap.size + 1, 1, none⟩ = some (.string ⟨u2.toArray⟩) ∧ w'.cell? ⟨w.heap.size + 1, 2, none⟩ = some (.string ⟨r2.toArray⟩)) (simp [go_sem, World.cell?_alloc_past])
    (first
      | (go_at_call 16; refine (compare_any e1 u1 r1 e2 u2 r2 _ a1 a2 b1 b2).mono ?_; rintro e w' ⟨rfl, n, rfl⟩)
      | (go_at_call 15; refine (sign_any _ _ HR.out).mono ?_; rintro e w' ⟨rfl, rfl⟩)
      | (go_at_call 17; refine (rcompare_any e1 u1 r1 e2 u2 r2 _ a1 a2 b1 b2).mono ?_; rintro e w' ⟨rfl, n, rfl⟩)
      | (go_at_call 18; refine (is_none e1 u1 r1 op e2 u2 r2 _ hop).mono ?_; rintro e w' ⟨rfl, c1, c2, rfl⟩)
      | (go_at_call 19; refine (ris_none e1 u1 r1 op e2 u2 r2 _ a1 a2 b1 b2 hop).mono ?_; rintro e w' ⟨rfl, c1, c2, c3, c4, n, rfl⟩))
  go_wp2
  go_ret
  exact ⟨rfl, grown_drewN (((((((grown_drewN (((grown_drewN (((((((Grown.refl _).alloc _ _).alloc _ _).alloc _ _).alloc _ _).alloc _ _).alloc _ _) _).alloc _ _).alloc _ _) _).alloc _ _).alloc _ _).alloc _ _).alloc _ _).alloc _ _).alloc _ _) _⟩

theorem law_any (e1 : Int) (u1 r1 : List UInt8) (e2 : Int) (u2 r2 : List UInt8) (op : Int) (w : World) :
    Calls Tryd.prog 4 #[.agg #[.int .i64 e1, .string ⟨u1.toArray⟩, .string ⟨r1.toArray⟩], .agg #[.int .i64 e2, .string ⟨u2.toArray⟩, .string ⟨r2.toArray⟩], .int .i64 op] w fun x w' =>
    x = .returned (.bool true) ∧ Grown w w' := by
  cases hs : (decide (u1.length ≤ 100) && decide (r1.length ≤ 100)) with
  | false => exact law_long1 e1 u1 r1 e2 u2 r2 op w hs
  | true =>
    cases ht : (decide (u2.length ≤ 100) && decide (r2.length ≤ 100)) with
    | false => exact law_long2 e1 u1 r1 e2 u2 r2 op w hs ht
    | true =>
      by_cases hop : 1 ≤ op ∧ op ≤ 5
      · exact law_some e1 u1 r1 e2 u2 r2 op w hs ht hop
      · exact law_none e1 u1 r1 e2 u2 r2 op w hs ht (by omega)

end Go.Proofs.YtongmngjmblooaaDoor
