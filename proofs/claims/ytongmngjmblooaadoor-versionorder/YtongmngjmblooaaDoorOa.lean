/- The walk of the law VersionOrder, first part. -/
import Derived.Test.YtongmngjmblooaaDoorPg
namespace Go.Proofs.YtongmngjmblooaaDoor
open Go.RowKit Go.Shelf Go.Sort

def Sh (u r : List UInt8) (b : Bool) : Prop := (decide (u.length ≤ 100) && decide (r.length ≤ 100)) = b
structure In64 (e : Int) : Prop where
  lo : -9223372036854775808 ≤ e
  hi : e ≤ 9223372036854775807
structure RtB (e : Int) (u r : List UInt8) (b : Bool) : Prop where
  out : Vm.rt e u r = b
theorem sh_le {u r : List UInt8} (h : Sh u r true) : u.length ≤ 200 ∧ r.length ≤ 200 := by
  unfold Sh at h; simp at h; omega

theorem kept9 (e1 : Int) (u1 r1 : List UInt8) (e2 : Int) (u2 r2 : List UInt8) (e3 : Int) (u3 r3 : List UInt8) (w : World) (w1 : World) (h : Below (((w.alloc (.cells #[.int .i64 e1, .string ⟨u1.toArray⟩, .string ⟨r1.toArray⟩] 23)).alloc (.cells #[.int .i64 e2, .string ⟨u2.toArray⟩, .string ⟨r2.toArray⟩] 23)).alloc (.cells #[.int .i64 e3, .string ⟨u3.toArray⟩, .string ⟨r3.toArray⟩] 23)).heap.size (((w.alloc (.cells #[.int .i64 e1, .string ⟨u1.toArray⟩, .string ⟨r1.toArray⟩] 23)).alloc (.cells #[.int .i64 e2, .string ⟨u2.toArray⟩, .string ⟨r2.toArray⟩] 23)).alloc (.cells #[.int .i64 e3, .string ⟨u3.toArray⟩, .string ⟨r3.toArray⟩] 23)) w1) : w1.cell? ⟨w.heap.size, 0, none⟩ = some (.int .i64 e1) ∧ w1.cell? ⟨w.heap.size, 1, none⟩ = some (.string ⟨u1.toArray⟩) ∧ w1.cell? ⟨w.heap.size, 2, none⟩ = some (.string ⟨r1.toArray⟩) ∧ w1.cell? ⟨w.heap.size + 1, 0, none⟩ = some (.int .i64 e2) ∧ w1.cell? ⟨w.heap.size + 1, 1, none⟩ = some (.string ⟨u2.toArray⟩) ∧ w1.cell? ⟨w.heap.size + 1, 2, none⟩ = some (.string ⟨r2.toArray⟩) ∧ w1.cell? ⟨w.heap.size + 1 + 1, 0, none⟩ = some (.int .i64 e3) ∧ w1.cell? ⟨w.heap.size + 1 + 1, 1, none⟩ = some (.string ⟨u3.toArray⟩) ∧ w1.cell? ⟨w.heap.size + 1 + 1, 2, none⟩ = some (.string ⟨r3.toArray⟩) :=
  ⟨by rw [h.cell (by simp; try omega)]; simp [go_sem, World.cell?_alloc_past], by rw [h.cell (by simp; try omega)]; simp [go_sem, World.cell?_alloc_past], by rw [h.cell (by simp; try omega)]; simp [go_sem, World.cell?_alloc_past], by rw [h.cell (by simp; try omega)]; simp [go_sem, World.cell?_alloc_past], by rw [h.cell (by simp; try omega)]; simp [go_sem, World.cell?_alloc_past], by rw [h.cell (by simp; try omega)]; simp [go_sem, World.cell?_alloc_past], by rw [h.cell (by simp; try omega)]; simp [go_sem], by rw [h.cell (by simp; try omega)]; simp [go_sem], by rw [h.cell (by simp; try omega)]; simp [go_sem]⟩
theorem kept9' (e1 : Int) (u1 r1 : List UInt8) (e2 : Int) (u2 r2 : List UInt8) (e3 : Int) (u3 r3 : List UInt8) (w : World) : (((w.alloc (.cells #[.int .i64 e1, .string ⟨u1.toArray⟩, .string ⟨r1.toArray⟩] 23)).alloc (.cells #[.int .i64 e2, .string ⟨u2.toArray⟩, .string ⟨r2.toArray⟩] 23)).alloc (.cells #[.int .i64 e3, .string ⟨u3.toArray⟩, .string ⟨r3.toArray⟩] 23)).cell? ⟨w.heap.size, 0, none⟩ = some (.int .i64 e1) ∧ (((w.alloc (.cells #[.int .i64 e1, .string ⟨u1.toArray⟩, .string ⟨r1.toArray⟩] 23)).alloc (.cells #[.int .i64 e2, .string ⟨u2.toArray⟩, .string ⟨r2.toArray⟩] 23)).alloc (.cells #[.int .i64 e3, .string ⟨u3.toArray⟩, .string ⟨r3.toArray⟩] 23)).cell? ⟨w.heap.size, 1, none⟩ = some (.string ⟨u1.toArray⟩) ∧ (((w.alloc (.cells #[.int .i64 e1, .string ⟨u1.toArray⟩, .string ⟨r1.toArray⟩] 23)).alloc (.cells #[.int .i64 e2, .string ⟨u2.toArray⟩, .string ⟨r2.toArray⟩] 23)).alloc (.cells #[.int .i64 e3, .string ⟨u3.toArray⟩, .string ⟨r3.toArray⟩] 23)).cell? ⟨w.heap.size, 2, none⟩ = some (.string ⟨r1.toArray⟩) ∧ (((w.alloc (.cells #[.int .i64 e1, .string ⟨u1.toArray⟩, .string ⟨r1.toArray⟩] 23)).alloc (.cells #[.int .i64 e2, .string ⟨u2.toArray⟩, .string ⟨r2.toArray⟩] 23)).alloc (.cells #[.int .i64 e3, .string ⟨u3.toArray⟩, .string ⟨r3.toArray⟩] 23)).cell? ⟨w.heap.size + 1, 0, none⟩ = some (.int .i64 e2) ∧ (((w.alloc (.cells #[.int .i64 e1, .string ⟨u1.toArray⟩, .string ⟨r1.toArray⟩] 23)).alloc (.cells #[.int .i64 e2, .string ⟨u2.toArray⟩, .string ⟨r2.toArray⟩] 23)).alloc (.cells #[.int .i64 e3, .string ⟨u3.toArray⟩, .string ⟨r3.toArray⟩] 23)).cell? ⟨w.heap.size + 1, 1, none⟩ = some (.string ⟨u2.toArray⟩) ∧ (((w.alloc (.cells #[.int .i64 e1, .string ⟨u1.toArray⟩, .string ⟨r1.toArray⟩] 23)).alloc (.cells #[.int .i64 e2, .string ⟨u2.toArray⟩, .string ⟨r2.toArray⟩] 23)).alloc (.cells #[.int .i64 e3, .string ⟨u3.toArray⟩, .string ⟨r3.toArray⟩] 23)).cell? ⟨w.heap.size + 1, 2, none⟩ = some (.string ⟨r2.toArray⟩) ∧ (((w.alloc (.cells #[.int .i64 e1, .string ⟨u1.toArray⟩, .string ⟨r1.toArray⟩] 23)).alloc (.cells #[.int .i64 e2, .string ⟨u2.toArray⟩, .string ⟨r2.toArray⟩] 23)).alloc (.cells #[.int .i64 e3, .string ⟨u3.toArray⟩, .string ⟨r3.toArray⟩] 23)).cell? ⟨w.heap.size + 1 + 1, 0, none⟩ = some (.int .i64 e3) ∧ (((w.alloc (.cells #[.int .i64 e1, .string ⟨u1.toArray⟩, .string ⟨r1.toArray⟩] 23)).alloc (.cells #[.int .i64 e2, .string ⟨u2.toArray⟩, .string ⟨r2.toArray⟩] 23)).alloc (.cells #[.int .i64 e3, .string ⟨u3.toArray⟩, .string ⟨r3.toArray⟩] 23)).cell? ⟨w.heap.size + 1 + 1, 1, none⟩ = some (.string ⟨u3.toArray⟩) ∧ (((w.alloc (.cells #[.int .i64 e1, .string ⟨u1.toArray⟩, .string ⟨r1.toArray⟩] 23)).alloc (.cells #[.int .i64 e2, .string ⟨u2.toArray⟩, .string ⟨r2.toArray⟩] 23)).alloc (.cells #[.int .i64 e3, .string ⟨u3.toArray⟩, .string ⟨r3.toArray⟩] 23)).cell? ⟨w.heap.size + 1 + 1, 2, none⟩ = some (.string ⟨r3.toArray⟩) := kept9 e1 u1 r1 e2 u2 r2 e3 u3 r3 w _ (Below.refl _ _)

set_option maxHeartbeats 1600000 in
set_option maxRecDepth 100000 in
theorem order_s1 (e1 : Int) (u1 r1 : List UInt8) (e2 : Int) (u2 r2 : List UInt8) (e3 : Int) (u3 r3 : List UInt8) (w : World) (s1 : Sh u1 r1 false) :
    Calls Tryd.prog 5 #[.agg #[.int .i64 e1, .string ⟨u1.toArray⟩, .string ⟨r1.toArray⟩], .agg #[.int .i64 e2, .string ⟨u2.toArray⟩, .string ⟨r2.toArray⟩], .agg #[.int .i64 e3, .string ⟨u3.toArray⟩, .string ⟨r3.toArray⟩]] w fun x w' => x = .returned (.bool true) ∧ Below w.heap.size w w' := by
  have hW : Below w.heap.size w (((w.alloc (.cells #[.int .i64 e1, .string ⟨u1.toArray⟩, .string ⟨r1.toArray⟩] 23)).alloc (.cells #[.int .i64 e2, .string ⟨u2.toArray⟩, .string ⟨r2.toArray⟩] 23)).alloc (.cells #[.int .i64 e3, .string ⟨u3.toArray⟩, .string ⟨r3.toArray⟩] 23)) := (((Below.refl _ _).alloc (Nat.le_refl _) _).alloc (by simp) _).alloc (by simp; omega) _
  go_enter Tryd.func5, Tryd.ntmps5
  go_wp2_with fail
  refine (kshort_any e1 u1 r1 _).mono ?_
  rintro x w1 ⟨rfl, h1'⟩
  have h1 := h1'
  rw [show (decide (u1.length ≤ 100) && decide (r1.length ≤ 100)) = _ from s1]
  obtain ⟨a0, a1, a2, b0, b1, b2, c0, c1, c2⟩ := kept9 e1 u1 r1 e2 u2 r2 e3 u3 r3 w w1 h1
  go_wp2_with fail
  go_ret
  exact ⟨rfl, on hW h1⟩

set_option maxHeartbeats 1600000 in
set_option maxRecDepth 100000 in
theorem order_s2 (e1 : Int) (u1 r1 : List UInt8) (e2 : Int) (u2 r2 : List UInt8) (e3 : Int) (u3 r3 : List UInt8) (w : World) (s1 : Sh u1 r1 true) (s2 : Sh u2 r2 false) :
    Calls Tryd.prog 5 #[.agg #[.int .i64 e1, .string ⟨u1.toArray⟩, .string ⟨r1.toArray⟩], .agg #[.int .i64 e2, .string ⟨u2.toArray⟩, .string ⟨r2.toArray⟩], .agg #[.int .i64 e3, .string ⟨u3.toArray⟩, .string ⟨r3.toArray⟩]] w fun x w' => x = .returned (.bool true) ∧ Below w.heap.size w w' := by
  have hW : Below w.heap.size w (((w.alloc (.cells #[.int .i64 e1, .string ⟨u1.toArray⟩, .string ⟨r1.toArray⟩] 23)).alloc (.cells #[.int .i64 e2, .string ⟨u2.toArray⟩, .string ⟨r2.toArray⟩] 23)).alloc (.cells #[.int .i64 e3, .string ⟨u3.toArray⟩, .string ⟨r3.toArray⟩] 23)) := (((Below.refl _ _).alloc (Nat.le_refl _) _).alloc (by simp) _).alloc (by simp; omega) _
  go_enter Tryd.func5, Tryd.ntmps5
  go_wp2_with fail
  refine (kshort_any e1 u1 r1 _).mono ?_
  rintro x w1 ⟨rfl, h1'⟩
  have h1 := h1'
  rw [show (decide (u1.length ≤ 100) && decide (r1.length ≤ 100)) = _ from s1]
  obtain ⟨a0, a1, a2, b0, b1, b2, c0, c1, c2⟩ := kept9 e1 u1 r1 e2 u2 r2 e3 u3 r3 w w1 h1
  go_wp2_with fail
  refine (kshort_any e2 u2 r2 _).mono ?_
  rintro x w2 ⟨rfl, h2'⟩
  have h2 := on h1 h2'
  rw [show (decide (u2.length ≤ 100) && decide (r2.length ≤ 100)) = _ from s2]
  obtain ⟨a0, a1, a2, b0, b1, b2, c0, c1, c2⟩ := kept9 e1 u1 r1 e2 u2 r2 e3 u3 r3 w w2 h2
  go_wp2_with fail
  go_ret
  exact ⟨rfl, on hW h2⟩

set_option maxHeartbeats 1600000 in
set_option maxRecDepth 100000 in
theorem order_s3 (e1 : Int) (u1 r1 : List UInt8) (e2 : Int) (u2 r2 : List UInt8) (e3 : Int) (u3 r3 : List UInt8) (w : World) (s1 : Sh u1 r1 true) (s2 : Sh u2 r2 true) (s3 : Sh u3 r3 false) :
    Calls Tryd.prog 5 #[.agg #[.int .i64 e1, .string ⟨u1.toArray⟩, .string ⟨r1.toArray⟩], .agg #[.int .i64 e2, .string ⟨u2.toArray⟩, .string ⟨r2.toArray⟩], .agg #[.int .i64 e3, .string ⟨u3.toArray⟩, .string ⟨r3.toArray⟩]] w fun x w' => x = .returned (.bool true) ∧ Below w.heap.size w w' := by
  have hW : Below w.heap.size w (((w.alloc (.cells #[.int .i64 e1, .string ⟨u1.toArray⟩, .string ⟨r1.toArray⟩] 23)).alloc (.cells #[.int .i64 e2, .string ⟨u2.toArray⟩, .string ⟨r2.toArray⟩] 23)).alloc (.cells #[.int .i64 e3, .string ⟨u3.toArray⟩, .string ⟨r3.toArray⟩] 23)) := (((Below.refl _ _).alloc (Nat.le_refl _) _).alloc (by simp) _).alloc (by simp; omega) _
  go_enter Tryd.func5, Tryd.ntmps5
  go_wp2_with fail
  refine (kshort_any e1 u1 r1 _).mono ?_
  rintro x w1 ⟨rfl, h1'⟩
  have h1 := h1'
  rw [show (decide (u1.length ≤ 100) && decide (r1.length ≤ 100)) = _ from s1]
  obtain ⟨a0, a1, a2, b0, b1, b2, c0, c1, c2⟩ := kept9 e1 u1 r1 e2 u2 r2 e3 u3 r3 w w1 h1
  go_wp2_with fail
  refine (kshort_any e2 u2 r2 _).mono ?_
  rintro x w2 ⟨rfl, h2'⟩
  have h2 := on h1 h2'
  rw [show (decide (u2.length ≤ 100) && decide (r2.length ≤ 100)) = _ from s2]
  obtain ⟨a0, a1, a2, b0, b1, b2, c0, c1, c2⟩ := kept9 e1 u1 r1 e2 u2 r2 e3 u3 r3 w w2 h2
  go_wp2_with fail
  refine (kshort_any e3 u3 r3 _).mono ?_
  rintro x w3 ⟨rfl, h3'⟩
  have h3 := on h2 h3'
  rw [show (decide (u3.length ≤ 100) && decide (r3.length ≤ 100)) = _ from s3]
  obtain ⟨a0, a1, a2, b0, b1, b2, c0, c1, c2⟩ := kept9 e1 u1 r1 e2 u2 r2 e3 u3 r3 w w3 h3
  go_wp2_with fail
  go_ret
  exact ⟨rfl, on hW h3⟩

set_option maxHeartbeats 1600000 in
set_option maxRecDepth 100000 in
theorem order_r1 (e1 : Int) (u1 r1 : List UInt8) (e2 : Int) (u2 r2 : List UInt8) (e3 : Int) (u3 r3 : List UInt8) (w : World) (s1 : Sh u1 r1 true) (s2 : Sh u2 r2 true) (s3 : Sh u3 r3 true) (i1 : In64 e1) (_i2 : In64 e2) (_i3 : In64 e3) (htab : Lib.TabIs Tryd.prog w "internal/strconv.uint64pow10" .u64 Lib.pow10Tab) (t1 : RtB e1 u1 r1 false) :
    Calls Tryd.prog 5 #[.agg #[.int .i64 e1, .string ⟨u1.toArray⟩, .string ⟨r1.toArray⟩], .agg #[.int .i64 e2, .string ⟨u2.toArray⟩, .string ⟨r2.toArray⟩], .agg #[.int .i64 e3, .string ⟨u3.toArray⟩, .string ⟨r3.toArray⟩]] w fun x w' => x = .returned (.bool true) ∧ Below w.heap.size w w' := by
  have hT := Lib.tabBelow_of_tabIs htab
  clear htab
  have hW : Below w.heap.size w (((w.alloc (.cells #[.int .i64 e1, .string ⟨u1.toArray⟩, .string ⟨r1.toArray⟩] 23)).alloc (.cells #[.int .i64 e2, .string ⟨u2.toArray⟩, .string ⟨r2.toArray⟩] 23)).alloc (.cells #[.int .i64 e3, .string ⟨u3.toArray⟩, .string ⟨r3.toArray⟩] 23)) := (((Below.refl _ _).alloc (Nat.le_refl _) _).alloc (by simp) _).alloc (by simp; omega) _
  go_enter Tryd.func5, Tryd.ntmps5
  go_wp2_with fail
  refine (kshort_any e1 u1 r1 _).mono ?_
  rintro x w1 ⟨rfl, h1'⟩
  have h1 := h1'
  rw [show (decide (u1.length ≤ 100) && decide (r1.length ≤ 100)) = _ from s1]
  obtain ⟨a0, a1, a2, b0, b1, b2, c0, c1, c2⟩ := kept9 e1 u1 r1 e2 u2 r2 e3 u3 r3 w w1 h1
  go_wp2_with fail
  refine (kshort_any e2 u2 r2 _).mono ?_
  rintro x w2 ⟨rfl, h2'⟩
  have h2 := on h1 h2'
  rw [show (decide (u2.length ≤ 100) && decide (r2.length ≤ 100)) = _ from s2]
  obtain ⟨a0, a1, a2, b0, b1, b2, c0, c1, c2⟩ := kept9 e1 u1 r1 e2 u2 r2 e3 u3 r3 w w2 h2
  go_wp2_with fail
  refine (kshort_any e3 u3 r3 _).mono ?_
  rintro x w3 ⟨rfl, h3'⟩
  have h3 := on h2 h3'
  rw [show (decide (u3.length ≤ 100) && decide (r3.length ≤ 100)) = _ from s3]
  obtain ⟨a0, a1, a2, b0, b1, b2, c0, c1, c2⟩ := kept9 e1 u1 r1 e2 u2 r2 e3 u3 r3 w w3 h3
  go_wp2_with fail
  refine (held_any _ (hT _ (on hW h3))).mono ?_
  rintro x w4 ⟨rfl, h4'⟩
  have h4 := on h3 h4'
  obtain ⟨a0, a1, a2, b0, b1, b2, c0, c1, c2⟩ := kept9 e1 u1 r1 e2 u2 r2 e3 u3 r3 w w4 h4
  go_wp2_with fail
  refine (right_any e1 u1 r1 _ i1.lo i1.hi (sh_le s1).1 (sh_le s1).2 (hT _ (on hW h4))).mono ?_
  rintro x w5 ⟨rfl, h5'⟩
  have h5 := on h4 h5'
  rw [t1.out]
  obtain ⟨a0, a1, a2, b0, b1, b2, c0, c1, c2⟩ := kept9 e1 u1 r1 e2 u2 r2 e3 u3 r3 w w5 h5
  go_wp2_with fail
  go_ret
  exact ⟨rfl, on hW h5⟩

set_option maxHeartbeats 1600000 in
set_option maxRecDepth 100000 in
theorem order_r2 (e1 : Int) (u1 r1 : List UInt8) (e2 : Int) (u2 r2 : List UInt8) (e3 : Int) (u3 r3 : List UInt8) (w : World) (s1 : Sh u1 r1 true) (s2 : Sh u2 r2 true) (s3 : Sh u3 r3 true) (i1 : In64 e1) (i2 : In64 e2) (_i3 : In64 e3) (htab : Lib.TabIs Tryd.prog w "internal/strconv.uint64pow10" .u64 Lib.pow10Tab) (t1 : RtB e1 u1 r1 true) (t2 : RtB e2 u2 r2 false) :
    Calls Tryd.prog 5 #[.agg #[.int .i64 e1, .string ⟨u1.toArray⟩, .string ⟨r1.toArray⟩], .agg #[.int .i64 e2, .string ⟨u2.toArray⟩, .string ⟨r2.toArray⟩], .agg #[.int .i64 e3, .string ⟨u3.toArray⟩, .string ⟨r3.toArray⟩]] w fun x w' => x = .returned (.bool true) ∧ Below w.heap.size w w' := by
  have hT := Lib.tabBelow_of_tabIs htab
  clear htab
  have hW : Below w.heap.size w (((w.alloc (.cells #[.int .i64 e1, .string ⟨u1.toArray⟩, .string ⟨r1.toArray⟩] 23)).alloc (.cells #[.int .i64 e2, .string ⟨u2.toArray⟩, .string ⟨r2.toArray⟩] 23)).alloc (.cells #[.int .i64 e3, .string ⟨u3.toArray⟩, .string ⟨r3.toArray⟩] 23)) := (((Below.refl _ _).alloc (Nat.le_refl _) _).alloc (by simp) _).alloc (by simp; omega) _
  go_enter Tryd.func5, Tryd.ntmps5
  go_wp2_with fail
  refine (kshort_any e1 u1 r1 _).mono ?_
  rintro x w1 ⟨rfl, h1'⟩
  have h1 := h1'
  rw [show (decide (u1.length ≤ 100) && decide (r1.length ≤ 100)) = _ from s1]
  obtain ⟨a0, a1, a2, b0, b1, b2, c0, c1, c2⟩ := kept9 e1 u1 r1 e2 u2 r2 e3 u3 r3 w w1 h1
  go_wp2_with fail
  refine (kshort_any e2 u2 r2 _).mono ?_
  rintro x w2 ⟨rfl, h2'⟩
  have h2 := on h1 h2'
  rw [show (decide (u2.length ≤ 100) && decide (r2.length ≤ 100)) = _ from s2]
  obtain ⟨a0, a1, a2, b0, b1, b2, c0, c1, c2⟩ := kept9 e1 u1 r1 e2 u2 r2 e3 u3 r3 w w2 h2
  go_wp2_with fail
  refine (kshort_any e3 u3 r3 _).mono ?_
  rintro x w3 ⟨rfl, h3'⟩
  have h3 := on h2 h3'
  rw [show (decide (u3.length ≤ 100) && decide (r3.length ≤ 100)) = _ from s3]
  obtain ⟨a0, a1, a2, b0, b1, b2, c0, c1, c2⟩ := kept9 e1 u1 r1 e2 u2 r2 e3 u3 r3 w w3 h3
  go_wp2_with fail
  refine (held_any _ (hT _ (on hW h3))).mono ?_
  rintro x w4 ⟨rfl, h4'⟩
  have h4 := on h3 h4'
  obtain ⟨a0, a1, a2, b0, b1, b2, c0, c1, c2⟩ := kept9 e1 u1 r1 e2 u2 r2 e3 u3 r3 w w4 h4
  go_wp2_with fail
  refine (right_any e1 u1 r1 _ i1.lo i1.hi (sh_le s1).1 (sh_le s1).2 (hT _ (on hW h4))).mono ?_
  rintro x w5 ⟨rfl, h5'⟩
  have h5 := on h4 h5'
  rw [t1.out]
  obtain ⟨a0, a1, a2, b0, b1, b2, c0, c1, c2⟩ := kept9 e1 u1 r1 e2 u2 r2 e3 u3 r3 w w5 h5
  go_wp2_with fail
  refine (right_any e2 u2 r2 _ i2.lo i2.hi (sh_le s2).1 (sh_le s2).2 (hT _ (on hW h5))).mono ?_
  rintro x w6 ⟨rfl, h6'⟩
  have h6 := on h5 h6'
  rw [t2.out]
  obtain ⟨a0, a1, a2, b0, b1, b2, c0, c1, c2⟩ := kept9 e1 u1 r1 e2 u2 r2 e3 u3 r3 w w6 h6
  go_wp2_with fail
  go_ret
  exact ⟨rfl, on hW h6⟩

set_option maxHeartbeats 1600000 in
set_option maxRecDepth 100000 in
theorem order_r3 (e1 : Int) (u1 r1 : List UInt8) (e2 : Int) (u2 r2 : List UInt8) (e3 : Int) (u3 r3 : List UInt8) (w : World) (s1 : Sh u1 r1 true) (s2 : Sh u2 r2 true) (s3 : Sh u3 r3 true) (i1 : In64 e1) (i2 : In64 e2) (i3 : In64 e3) (htab : Lib.TabIs Tryd.prog w "internal/strconv.uint64pow10" .u64 Lib.pow10Tab) (t1 : RtB e1 u1 r1 true) (t2 : RtB e2 u2 r2 true) (t3 : RtB e3 u3 r3 false) :
    Calls Tryd.prog 5 #[.agg #[.int .i64 e1, .string ⟨u1.toArray⟩, .string ⟨r1.toArray⟩], .agg #[.int .i64 e2, .string ⟨u2.toArray⟩, .string ⟨r2.toArray⟩], .agg #[.int .i64 e3, .string ⟨u3.toArray⟩, .string ⟨r3.toArray⟩]] w fun x w' => x = .returned (.bool true) ∧ Below w.heap.size w w' := by
  have hT := Lib.tabBelow_of_tabIs htab
  clear htab
  have hW : Below w.heap.size w (((w.alloc (.cells #[.int .i64 e1, .string ⟨u1.toArray⟩, .string ⟨r1.toArray⟩] 23)).alloc (.cells #[.int .i64 e2, .string ⟨u2.toArray⟩, .string ⟨r2.toArray⟩] 23)).alloc (.cells #[.int .i64 e3, .string ⟨u3.toArray⟩, .string ⟨r3.toArray⟩] 23)) := (((Below.refl _ _).alloc (Nat.le_refl _) _).alloc (by simp) _).alloc (by simp; omega) _
  go_enter Tryd.func5, Tryd.ntmps5
  go_wp2_with fail
  refine (kshort_any e1 u1 r1 _).mono ?_
  rintro x w1 ⟨rfl, h1'⟩
  have h1 := h1'
  rw [show (decide (u1.length ≤ 100) && decide (r1.length ≤ 100)) = _ from s1]
  obtain ⟨a0, a1, a2, b0, b1, b2, c0, c1, c2⟩ := kept9 e1 u1 r1 e2 u2 r2 e3 u3 r3 w w1 h1
  go_wp2_with fail
  refine (kshort_any e2 u2 r2 _).mono ?_
  rintro x w2 ⟨rfl, h2'⟩
  have h2 := on h1 h2'
  rw [show (decide (u2.length ≤ 100) && decide (r2.length ≤ 100)) = _ from s2]
  obtain ⟨a0, a1, a2, b0, b1, b2, c0, c1, c2⟩ := kept9 e1 u1 r1 e2 u2 r2 e3 u3 r3 w w2 h2
  go_wp2_with fail
  refine (kshort_any e3 u3 r3 _).mono ?_
  rintro x w3 ⟨rfl, h3'⟩
  have h3 := on h2 h3'
  rw [show (decide (u3.length ≤ 100) && decide (r3.length ≤ 100)) = _ from s3]
  obtain ⟨a0, a1, a2, b0, b1, b2, c0, c1, c2⟩ := kept9 e1 u1 r1 e2 u2 r2 e3 u3 r3 w w3 h3
  go_wp2_with fail
  refine (held_any _ (hT _ (on hW h3))).mono ?_
  rintro x w4 ⟨rfl, h4'⟩
  have h4 := on h3 h4'
  obtain ⟨a0, a1, a2, b0, b1, b2, c0, c1, c2⟩ := kept9 e1 u1 r1 e2 u2 r2 e3 u3 r3 w w4 h4
  go_wp2_with fail
  refine (right_any e1 u1 r1 _ i1.lo i1.hi (sh_le s1).1 (sh_le s1).2 (hT _ (on hW h4))).mono ?_
  rintro x w5 ⟨rfl, h5'⟩
  have h5 := on h4 h5'
  rw [t1.out]
  obtain ⟨a0, a1, a2, b0, b1, b2, c0, c1, c2⟩ := kept9 e1 u1 r1 e2 u2 r2 e3 u3 r3 w w5 h5
  go_wp2_with fail
  refine (right_any e2 u2 r2 _ i2.lo i2.hi (sh_le s2).1 (sh_le s2).2 (hT _ (on hW h5))).mono ?_
  rintro x w6 ⟨rfl, h6'⟩
  have h6 := on h5 h6'
  rw [t2.out]
  obtain ⟨a0, a1, a2, b0, b1, b2, c0, c1, c2⟩ := kept9 e1 u1 r1 e2 u2 r2 e3 u3 r3 w w6 h6
  go_wp2_with fail
  refine (right_any e3 u3 r3 _ i3.lo i3.hi (sh_le s3).1 (sh_le s3).2 (hT _ (on hW h6))).mono ?_
  rintro x w7 ⟨rfl, h7'⟩
  have h7 := on h6 h7'
  rw [t3.out]
  obtain ⟨a0, a1, a2, b0, b1, b2, c0, c1, c2⟩ := kept9 e1 u1 r1 e2 u2 r2 e3 u3 r3 w w7 h7
  go_wp2_with fail
  go_ret
  exact ⟨rfl, on hW h7⟩

end Go.Proofs.YtongmngjmblooaaDoor
