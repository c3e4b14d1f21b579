/- The walk of the law VersionOrder, way 5. -/
import Derived.Test.YtongmngjmblooaaDoorOb
namespace Go.Proofs.YtongmngjmblooaaDoor
open Go.RowKit Go.Shelf Go.Sort

set_option maxHeartbeats 3200000 in
set_option maxRecDepth 100000 in
theorem order_m5 (e1 : Int) (u1 r1 : List UInt8) (e2 : Int) (u2 r2 : List UInt8) (e3 : Int) (u3 r3 : List UInt8) (w : World) (s1 : Sh u1 r1 true) (s2 : Sh u2 r2 true) (s3 : Sh u3 r3 true) (i1 : In64 e1) (i2 : In64 e2) (i3 : In64 e3) (htab : Lib.TabIs Tryd.prog w "internal/strconv.uint64pow10" .u64 Lib.pow10Tab) (t1 : RtB e1 u1 r1 true) (t2 : RtB e2 u2 r2 true) (t3 : RtB e3 u3 r3 true) (m n k : Int) (O : Orders e1 u1 r1 e2 u2 r2 e3 u3 r3 m n k) (F : Facts m n k) (qa : (m == n) = false) (qc : (m == 0) = false) (qe : (n == 0) = false) :
    Calls Tryd.prog 5 #[.agg #[.int .i64 e1, .string ⟨u1.toArray⟩, .string ⟨r1.toArray⟩], .agg #[.int .i64 e2, .string ⟨u2.toArray⟩, .string ⟨r2.toArray⟩], .agg #[.int .i64 e3, .string ⟨u3.toArray⟩, .string ⟨r3.toArray⟩]] w fun x w' => x = .returned (.bool true) ∧ Below w.heap.size w w' := by
  have Hqa := Lib.hid qa
  have Hqc := Lib.hid qc
  have Hqe := Lib.hid qe
  clear qa qc qe
  have hc := fun W h => parse_any (Vm.pt e1 u1 r1) W h
  rw [Vm.pv_pt t1.out] at hc
  have HC := Lib.hid hc
  clear hc
  have hq := eq23 e1 ⟨u1.toArray⟩ ⟨r1.toArray⟩
  have hgd := guard23
  have hT := Lib.tabBelow_of_tabIs htab
  clear htab
  have hW : Below w.heap.size w (((w.alloc (.cells #[.int .i64 e1, .string ⟨u1.toArray⟩, .string ⟨r1.toArray⟩] 23)).alloc (.cells #[.int .i64 e2, .string ⟨u2.toArray⟩, .string ⟨r2.toArray⟩] 23)).alloc (.cells #[.int .i64 e3, .string ⟨u3.toArray⟩, .string ⟨r3.toArray⟩] 23)) := (((Below.refl _ _).alloc (Nat.le_refl _) _).alloc (by simp) _).alloc (by simp; omega) _
  go_enter Tryd.func5, Tryd.ntmps5
  go_wp2_with fail
  refine (kshort_any e1 u1 r1 _).mono ?_
  rintro x w1 ⟨rfl, h1'⟩
  have h1 := h1'
  rw [show (decide (u1.length ≤ 100) && decide (r1.length ≤ 100)) = _ from s1]
  obtain ⟨a0, a1, a2, b0, b1, b2, c0, c1, c2⟩ := kept9 e1 u1 r1 e2 u2 r2 e3 u3 r3 w w1 h1
  go_wp2_with fail
  refine (kshort_any e2 u2 r2 _).mono ?_
  rintro x w2 ⟨rfl, h2'⟩
  have h2 := on h1 h2'
  rw [show (decide (u2.length ≤ 100) && decide (r2.length ≤ 100)) = _ from s2]
  clear a0 a1 a2 b0 b1 b2 c0 c1 c2
  obtain ⟨a0, a1, a2, b0, b1, b2, c0, c1, c2⟩ := kept9 e1 u1 r1 e2 u2 r2 e3 u3 r3 w w2 h2
  go_wp2_with fail
  refine (kshort_any e3 u3 r3 _).mono ?_
  rintro x w3 ⟨rfl, h3'⟩
  have h3 := on h2 h3'
  rw [show (decide (u3.length ≤ 100) && decide (r3.length ≤ 100)) = _ from s3]
  clear a0 a1 a2 b0 b1 b2 c0 c1 c2
  obtain ⟨a0, a1, a2, b0, b1, b2, c0, c1, c2⟩ := kept9 e1 u1 r1 e2 u2 r2 e3 u3 r3 w w3 h3
  go_wp2_with fail
  refine (held_any _ (hT _ (on hW h3))).mono ?_
  rintro x w4 ⟨rfl, h4'⟩
  have h4 := on h3 h4'
  clear a0 a1 a2 b0 b1 b2 c0 c1 c2
  obtain ⟨a0, a1, a2, b0, b1, b2, c0, c1, c2⟩ := kept9 e1 u1 r1 e2 u2 r2 e3 u3 r3 w w4 h4
  go_wp2_with fail
  refine (right_any e1 u1 r1 _ i1.lo i1.hi (sh_le s1).1 (sh_le s1).2 (hT _ (on hW h4))).mono ?_
  rintro x w5 ⟨rfl, h5'⟩
  have h5 := on h4 h5'
  rw [t1.out]
  clear a0 a1 a2 b0 b1 b2 c0 c1 c2
  obtain ⟨a0, a1, a2, b0, b1, b2, c0, c1, c2⟩ := kept9 e1 u1 r1 e2 u2 r2 e3 u3 r3 w w5 h5
  go_wp2_with fail
  refine (right_any e2 u2 r2 _ i2.lo i2.hi (sh_le s2).1 (sh_le s2).2 (hT _ (on hW h5))).mono ?_
  rintro x w6 ⟨rfl, h6'⟩
  have h6 := on h5 h6'
  rw [t2.out]
  clear a0 a1 a2 b0 b1 b2 c0 c1 c2
  obtain ⟨a0, a1, a2, b0, b1, b2, c0, c1, c2⟩ := kept9 e1 u1 r1 e2 u2 r2 e3 u3 r3 w w6 h6
  go_wp2_with fail
  refine (right_any e3 u3 r3 _ i3.lo i3.hi (sh_le s3).1 (sh_le s3).2 (hT _ (on hW h6))).mono ?_
  rintro x w7 ⟨rfl, h7'⟩
  have h7 := on h6 h7'
  rw [t3.out]
  clear a0 a1 a2 b0 b1 b2 c0 c1 c2
  obtain ⟨a0, a1, a2, b0, b1, b2, c0, c1, c2⟩ := kept9 e1 u1 r1 e2 u2 r2 e3 u3 r3 w w7 h7
  go_wp2_with fail
  refine (print_any e1 u1 r1 _ i1.lo i1.hi (sh_le s1).1 (sh_le s1).2 (hT _ (on hW h7))).mono ?_
  rintro x w8 ⟨rfl, h8'⟩
  have h8 := on h7 h8'
  clear a0 a1 a2 b0 b1 b2 c0 c1 c2
  obtain ⟨a0, a1, a2, b0, b1, b2, c0, c1, c2⟩ := kept9 e1 u1 r1 e2 u2 r2 e3 u3 r3 w w8 h8
  go_wp2_with fail
  refine (HC.out _ (hT _ (on hW h8))).mono ?_
  rintro x w9 ⟨rfl, h9'⟩
  have h9 := on h8 h9'
  clear a0 a1 a2 b0 b1 b2 c0 c1 c2
  obtain ⟨a0, a1, a2, b0, b1, b2, c0, c1, c2⟩ := kept9 e1 u1 r1 e2 u2 r2 e3 u3 r3 w w9 h9
  have z9 := h9.size
  simp at z9
  have z1 : w.heap.size < w9.heap.size := by omega
  have z2 : w.heap.size + 1 < w9.heap.size := by omega
  have z3 : w.heap.size + 1 + 1 < w9.heap.size := by omega
  clear z9
  clear h1' h2' h3' h4' h5' h6' h7' h8' h9' h1 h2 h3 h4 h5 h6 h7 h8 HC hT
  unfold pvVal
  go_wp2_with fail
  clear hq hgd
  have h10 := h9.alloc h9.size (.cells #[.int .i64 e1, .string ⟨u1.toArray⟩, .string ⟨r1.toArray⟩] 23)
  clear a0 a1 a2 b0 b1 b2 c0 c1 c2
  obtain ⟨a0, a1, a2, b0, b1, b2, c0, c1, c2⟩ := kept9 e1 u1 r1 e2 u2 r2 e3 u3 r3 w _ h10
  have k_a0 := cell_regrown a0
  have k_a1 := cell_regrown a1
  have k_a2 := cell_regrown a2
  have k_b0 := cell_regrown b0
  have k_b1 := cell_regrown b1
  have k_b2 := cell_regrown b2
  have k_c0 := cell_regrown c0
  have k_c1 := cell_regrown c1
  have k_c2 := cell_regrown c2
  clear a0 a1 a2 b0 b1 b2 c0 c1 c2
  have d12 : ∀ d os, Calls Tryd.prog 16 #[.agg #[.int .i64 e1, .string ⟨u1.toArray⟩, .string ⟨r1.toArray⟩], .agg #[.int .i64 e2, .string ⟨u2.toArray⟩, .string ⟨r2.toArray⟩]] (grow (redrawn (w9.alloc (.cells #[.int .i64 e1, .string ⟨u1.toArray⟩, .string ⟨r1.toArray⟩] 23)) d) os) fun x w'' => x = .returned (.int .i64 m) ∧ ∃ p : Regrown, w'' = grow (redrawn (w9.alloc (.cells #[.int .i64 e1, .string ⟨u1.toArray⟩, .string ⟨r1.toArray⟩] 23)) p.d) p.os := fun d os => Calls.regrown_of (O.c12 _)
  have d23 : ∀ d os, Calls Tryd.prog 16 #[.agg #[.int .i64 e2, .string ⟨u2.toArray⟩, .string ⟨r2.toArray⟩], .agg #[.int .i64 e3, .string ⟨u3.toArray⟩, .string ⟨r3.toArray⟩]] (grow (redrawn (w9.alloc (.cells #[.int .i64 e1, .string ⟨u1.toArray⟩, .string ⟨r1.toArray⟩] 23)) d) os) fun x w'' => x = .returned (.int .i64 n) ∧ ∃ p : Regrown, w'' = grow (redrawn (w9.alloc (.cells #[.int .i64 e1, .string ⟨u1.toArray⟩, .string ⟨r1.toArray⟩] 23)) p.d) p.os := fun d os => Calls.regrown_of (O.c23 _)
  have d13 : ∀ d os, Calls Tryd.prog 16 #[.agg #[.int .i64 e1, .string ⟨u1.toArray⟩, .string ⟨r1.toArray⟩], .agg #[.int .i64 e3, .string ⟨u3.toArray⟩, .string ⟨r3.toArray⟩]] (grow (redrawn (w9.alloc (.cells #[.int .i64 e1, .string ⟨u1.toArray⟩, .string ⟨r1.toArray⟩] 23)) d) os) fun x w'' => x = .returned (.int .i64 k) ∧ ∃ p : Regrown, w'' = grow (redrawn (w9.alloc (.cells #[.int .i64 e1, .string ⟨u1.toArray⟩, .string ⟨r1.toArray⟩] 23)) p.d) p.os := fun d os => Calls.regrown_of (O.c13 _)
  have sm : ∀ d os, Calls Tryd.prog 22 #[.int .i64 m] (grow (redrawn (w9.alloc (.cells #[.int .i64 e1, .string ⟨u1.toArray⟩, .string ⟨r1.toArray⟩] 23)) d) os) fun y w'' => y = .returned (.int .i64 m) ∧ ∃ p : Regrown, w'' = grow (redrawn (w9.alloc (.cells #[.int .i64 e1, .string ⟨u1.toArray⟩, .string ⟨r1.toArray⟩] 23)) p.d) p.os := regrown_same (fun W => ksign_any m W F.1)
  have sn : ∀ d os, Calls Tryd.prog 22 #[.int .i64 n] (grow (redrawn (w9.alloc (.cells #[.int .i64 e1, .string ⟨u1.toArray⟩, .string ⟨r1.toArray⟩] 23)) d) os) fun y w'' => y = .returned (.int .i64 n) ∧ ∃ p : Regrown, w'' = grow (redrawn (w9.alloc (.cells #[.int .i64 e1, .string ⟨u1.toArray⟩, .string ⟨r1.toArray⟩] 23)) p.d) p.os := regrown_same (fun W => ksign_any n W F.2.1)
  have sk : ∀ d os, Calls Tryd.prog 22 #[.int .i64 k] (grow (redrawn (w9.alloc (.cells #[.int .i64 e1, .string ⟨u1.toArray⟩, .string ⟨r1.toArray⟩] 23)) d) os) fun y w'' => y = .returned (.int .i64 k) ∧ ∃ p : Regrown, w'' = grow (redrawn (w9.alloc (.cells #[.int .i64 e1, .string ⟨u1.toArray⟩, .string ⟨r1.toArray⟩] 23)) p.d) p.os := regrown_same (fun W => ksign_any k W F.2.2.1)
  refine wp_region_quiet_below (by kernel_rfl) (by kernel_rfl) ?_
  repeat (any_goals (first | go_big_quiet_step ((first | with_reducible exact d12 _ _ | with_reducible exact d23 _ _ | with_reducible exact d13 _ _ | with_reducible exact sm _ _ | with_reducible exact sn _ _ | with_reducible exact sk _ _)) | quiet_step ((first | with_reducible exact d12 _ _ | with_reducible exact d23 _ _ | with_reducible exact d13 _ _ | with_reducible exact sm _ _ | with_reducible exact sn _ _ | with_reducible exact sk _ _))))
  refine wpQuiet_nil ?_
  intro w11 hw11
  have h11 := rg h10 hw11
  clear hw11 d12 d23 d13 sm sn sk h10 k_a0 k_a1 k_a2 k_b0 k_b1 k_b2 k_c0 k_c1 k_c2
  obtain ⟨a0, a1, a2, b0, b1, b2, c0, c1, c2⟩ := kept9 e1 u1 r1 e2 u2 r2 e3 u3 r3 w w11 h11
  go_wp2_with fail
  refine (O.c21 _).mono ?_
  rintro x w12 ⟨rfl, h12'⟩
  have h12 := on h11 h12'
  clear a0 a1 a2 b0 b1 b2 c0 c1 c2
  obtain ⟨a0, a1, a2, b0, b1, b2, c0, c1, c2⟩ := kept9 e1 u1 r1 e2 u2 r2 e3 u3 r3 w w12 h12
  go_wp2_with fail
  refine (ksign_any (-m) _ (by have := F.1; omega)).mono ?_
  rintro x w13 ⟨rfl, rfl⟩
  have mb1 : -1 ≤ m := by have := F.1; omega
  have mb2 : m ≤ 1 := by have := F.1; omega
  go_wp2_with fail
  refine (O.c11 _).mono ?_
  rintro x w14 ⟨rfl, h14'⟩
  have h14 := on h12 h14'
  clear a0 a1 a2 b0 b1 b2 c0 c1 c2
  clear h14' h12' h12 h11 h9 z1 z2 z3
  have qa := Hqa.out
  have qc := Hqc.out
  have qe := Hqe.out
  go_wp2_with fail
  go_loopw [12] (fun o wr => ∃ j : Nat, 1 ≤ j ∧ j ≤ 6 ∧ o = .int .i64 j ∧ Below (((w.alloc (.cells #[.int .i64 e1, .string ⟨u1.toArray⟩, .string ⟨r1.toArray⟩] 23)).alloc (.cells #[.int .i64 e2, .string ⟨u2.toArray⟩, .string ⟨r2.toArray⟩] 23)).alloc (.cells #[.int .i64 e3, .string ⟨u3.toArray⟩, .string ⟨r3.toArray⟩] 23)).heap.size (((w.alloc (.cells #[.int .i64 e1, .string ⟨u1.toArray⟩, .string ⟨r1.toArray⟩] 23)).alloc (.cells #[.int .i64 e2, .string ⟨u2.toArray⟩, .string ⟨r2.toArray⟩] 23)).alloc (.cells #[.int .i64 e3, .string ⟨u3.toArray⟩, .string ⟨r3.toArray⟩] 23)) wr) (fun o _ => 6 - (intOf o).toNat)
  case atStart => exact ⟨1, by decide, by decide, rfl, h14⟩
  case round =>
    obtain ⟨j, j1, j2, rfl, hr⟩ := hrel
    have hr0 := hr
    have hj : j = 1 ∨ j = 2 ∨ j = 3 ∨ j = 4 ∨ j = 5 ∨ j = 6 := by omega
    clear j1 j2 hr0
    obtain ⟨a0, a1, a2, b0, b1, b2, c0, c1, c2⟩ := kept9 e1 u1 r1 e2 u2 r2 e3 u3 r3 w wr hr
    have k_a0 := cell_regrown a0
    have k_a1 := cell_regrown a1
    have k_a2 := cell_regrown a2
    have k_b0 := cell_regrown b0
    have k_b1 := cell_regrown b1
    have k_b2 := cell_regrown b2
    have k_c0 := cell_regrown c0
    have k_c1 := cell_regrown c1
    have k_c2 := cell_regrown c2
    clear a0 a1 a2 b0 b1 b2 c0 c1 c2
    rcases hj with rfl | rfl | rfl | rfl | rfl | rfl
    · have d1 : ∀ d os, Calls Tryd.prog 18 #[.agg #[.int .i64 e1, .string ⟨u1.toArray⟩, .string ⟨r1.toArray⟩], .int .i64 1, .agg #[.int .i64 e2, .string ⟨u2.toArray⟩, .string ⟨r2.toArray⟩]] (grow (redrawn wr d) os) fun x w'' => x = .returned (.bool (Vm.iv m 1)) ∧ ∃ p : Regrown, w'' = grow (redrawn wr p.d) p.os := fun d os => Calls.regrown_of (O.cIs 1 (by decide) _)
      have d2 : ∀ d os, Calls Tryd.prog 18 #[.agg #[.int .i64 e2, .string ⟨u2.toArray⟩, .string ⟨r2.toArray⟩], .int .i64 5, .agg #[.int .i64 e1, .string ⟨u1.toArray⟩, .string ⟨r1.toArray⟩]] (grow (redrawn wr d) os) fun x w'' => x = .returned (.bool (Vm.iv m 1)) ∧ ∃ p : Regrown, w'' = grow (redrawn wr p.d) p.os := fun d os => Calls.regrown_of (O.cIt 1 (by decide) _)
      have ix : ∀ w, (Instr.index 40 (.agg #[.int .i64 0, .int .i64 5, .int .i64 4, .int .i64 3, .int .i64 2, .int .i64 1]) (.int .i64 1)).run Tryd.prog w = .ok (.int .i64 5) w := fun _ => by kernel_rfl
      go_wp2_with fail
      refine wp_region_quiet_below (by kernel_rfl) (by kernel_rfl) ?_
      repeat (any_goals (first | go_big_quiet_step ((first | with_reducible exact d1 _ _ | with_reducible exact d2 _ _)) | quiet_step ((first | with_reducible exact d1 _ _ | with_reducible exact d2 _ _))))
      refine wpQuiet_nil ?_
      intro wq hwq
      have hq := rg hr hwq
      go_wp2_with fail
      exact ⟨⟨2, by decide, by decide, rfl, hq⟩, by simp [intOf]⟩
    · have d1 : ∀ d os, Calls Tryd.prog 18 #[.agg #[.int .i64 e1, .string ⟨u1.toArray⟩, .string ⟨r1.toArray⟩], .int .i64 2, .agg #[.int .i64 e2, .string ⟨u2.toArray⟩, .string ⟨r2.toArray⟩]] (grow (redrawn wr d) os) fun x w'' => x = .returned (.bool (Vm.iv m 2)) ∧ ∃ p : Regrown, w'' = grow (redrawn wr p.d) p.os := fun d os => Calls.regrown_of (O.cIs 2 (by decide) _)
      have d2 : ∀ d os, Calls Tryd.prog 18 #[.agg #[.int .i64 e2, .string ⟨u2.toArray⟩, .string ⟨r2.toArray⟩], .int .i64 4, .agg #[.int .i64 e1, .string ⟨u1.toArray⟩, .string ⟨r1.toArray⟩]] (grow (redrawn wr d) os) fun x w'' => x = .returned (.bool (Vm.iv m 2)) ∧ ∃ p : Regrown, w'' = grow (redrawn wr p.d) p.os := fun d os => Calls.regrown_of (O.cIt 2 (by decide) _)
      have ix : ∀ w, (Instr.index 40 (.agg #[.int .i64 0, .int .i64 5, .int .i64 4, .int .i64 3, .int .i64 2, .int .i64 1]) (.int .i64 2)).run Tryd.prog w = .ok (.int .i64 4) w := fun _ => by kernel_rfl
      go_wp2_with fail
      refine wp_region_quiet_below (by kernel_rfl) (by kernel_rfl) ?_
      repeat (any_goals (first | go_big_quiet_step ((first | with_reducible exact d1 _ _ | with_reducible exact d2 _ _)) | quiet_step ((first | with_reducible exact d1 _ _ | with_reducible exact d2 _ _))))
      refine wpQuiet_nil ?_
      intro wq hwq
      have hq := rg hr hwq
      go_wp2_with fail
      exact ⟨⟨3, by decide, by decide, rfl, hq⟩, by simp [intOf]⟩
    · have d1 : ∀ d os, Calls Tryd.prog 18 #[.agg #[.int .i64 e1, .string ⟨u1.toArray⟩, .string ⟨r1.toArray⟩], .int .i64 3, .agg #[.int .i64 e2, .string ⟨u2.toArray⟩, .string ⟨r2.toArray⟩]] (grow (redrawn wr d) os) fun x w'' => x = .returned (.bool (Vm.iv m 3)) ∧ ∃ p : Regrown, w'' = grow (redrawn wr p.d) p.os := fun d os => Calls.regrown_of (O.cIs 3 (by decide) _)
      have d2 : ∀ d os, Calls Tryd.prog 18 #[.agg #[.int .i64 e2, .string ⟨u2.toArray⟩, .string ⟨r2.toArray⟩], .int .i64 3, .agg #[.int .i64 e1, .string ⟨u1.toArray⟩, .string ⟨r1.toArray⟩]] (grow (redrawn wr d) os) fun x w'' => x = .returned (.bool (Vm.iv m 3)) ∧ ∃ p : Regrown, w'' = grow (redrawn wr p.d) p.os := fun d os => Calls.regrown_of (O.cIt 3 (by decide) _)
      have ix : ∀ w, (Instr.index 40 (.agg #[.int .i64 0, .int .i64 5, .int .i64 4, .int .i64 3, .int .i64 2, .int .i64 1]) (.int .i64 3)).run Tryd.prog w = .ok (.int .i64 3) w := fun _ => by kernel_rfl
      go_wp2_with fail
      refine wp_region_quiet_below (by kernel_rfl) (by kernel_rfl) ?_
      repeat (any_goals (first | go_big_quiet_step ((first | with_reducible exact d1 _ _ | with_reducible exact d2 _ _)) | quiet_step ((first | with_reducible exact d1 _ _ | with_reducible exact d2 _ _))))
      refine wpQuiet_nil ?_
      intro wq hwq
      have hq := rg hr hwq
      go_wp2_with fail
      exact ⟨⟨4, by decide, by decide, rfl, hq⟩, by simp [intOf]⟩
    · have d1 : ∀ d os, Calls Tryd.prog 18 #[.agg #[.int .i64 e1, .string ⟨u1.toArray⟩, .string ⟨r1.toArray⟩], .int .i64 4, .agg #[.int .i64 e2, .string ⟨u2.toArray⟩, .string ⟨r2.toArray⟩]] (grow (redrawn wr d) os) fun x w'' => x = .returned (.bool (Vm.iv m 4)) ∧ ∃ p : Regrown, w'' = grow (redrawn wr p.d) p.os := fun d os => Calls.regrown_of (O.cIs 4 (by decide) _)
      have d2 : ∀ d os, Calls Tryd.prog 18 #[.agg #[.int .i64 e2, .string ⟨u2.toArray⟩, .string ⟨r2.toArray⟩], .int .i64 2, .agg #[.int .i64 e1, .string ⟨u1.toArray⟩, .string ⟨r1.toArray⟩]] (grow (redrawn wr d) os) fun x w'' => x = .returned (.bool (Vm.iv m 4)) ∧ ∃ p : Regrown, w'' = grow (redrawn wr p.d) p.os := fun d os => Calls.regrown_of (O.cIt 4 (by decide) _)
      have ix : ∀ w, (Instr.index 40 (.agg #[.int .i64 0, .int .i64 5, .int .i64 4, .int .i64 3, .int .i64 2, .int .i64 1]) (.int .i64 4)).run Tryd.prog w = .ok (.int .i64 2) w := fun _ => by kernel_rfl
      go_wp2_with fail
      refine wp_region_quiet_below (by kernel_rfl) (by kernel_rfl) ?_
      repeat (any_goals (first | go_big_quiet_step ((first | with_reducible exact d1 _ _ | with_reducible exact d2 _ _)) | quiet_step ((first | with_reducible exact d1 _ _ | with_reducible exact d2 _ _))))
      refine wpQuiet_nil ?_
      intro wq hwq
      have hq := rg hr hwq
      go_wp2_with fail
      exact ⟨⟨5, by decide, by decide, rfl, hq⟩, by simp [intOf]⟩
    · have d1 : ∀ d os, Calls Tryd.prog 18 #[.agg #[.int .i64 e1, .string ⟨u1.toArray⟩, .string ⟨r1.toArray⟩], .int .i64 5, .agg #[.int .i64 e2, .string ⟨u2.toArray⟩, .string ⟨r2.toArray⟩]] (grow (redrawn wr d) os) fun x w'' => x = .returned (.bool (Vm.iv m 5)) ∧ ∃ p : Regrown, w'' = grow (redrawn wr p.d) p.os := fun d os => Calls.regrown_of (O.cIs 5 (by decide) _)
      have d2 : ∀ d os, Calls Tryd.prog 18 #[.agg #[.int .i64 e2, .string ⟨u2.toArray⟩, .string ⟨r2.toArray⟩], .int .i64 1, .agg #[.int .i64 e1, .string ⟨u1.toArray⟩, .string ⟨r1.toArray⟩]] (grow (redrawn wr d) os) fun x w'' => x = .returned (.bool (Vm.iv m 5)) ∧ ∃ p : Regrown, w'' = grow (redrawn wr p.d) p.os := fun d os => Calls.regrown_of (O.cIt 5 (by decide) _)
      have ix : ∀ w, (Instr.index 40 (.agg #[.int .i64 0, .int .i64 5, .int .i64 4, .int .i64 3, .int .i64 2, .int .i64 1]) (.int .i64 5)).run Tryd.prog w = .ok (.int .i64 1) w := fun _ => by kernel_rfl
      go_wp2_with fail
      refine wp_region_quiet_below (by kernel_rfl) (by kernel_rfl) ?_
      repeat (any_goals (first | go_big_quiet_step ((first | with_reducible exact d1 _ _ | with_reducible exact d2 _ _)) | quiet_step ((first | with_reducible exact d1 _ _ | with_reducible exact d2 _ _))))
      refine wpQuiet_nil ?_
      intro wq hwq
      have hq := rg hr hwq
      go_wp2_with fail
      exact ⟨⟨6, by decide, by decide, rfl, hq⟩, by simp [intOf]⟩
    · obtain ⟨xx, hx⟩ : ∃ b, b = Vm.iv m 1 := ⟨_, rfl⟩
      obtain ⟨yy, hy⟩ : ∃ b, b = Vm.iv m 5 := ⟨_, rfl⟩
      have d0 : ∀ d os, Calls Tryd.prog 18 #[.agg #[.int .i64 e1, .string ⟨u1.toArray⟩, .string ⟨r1.toArray⟩], .int .i64 0, .agg #[.int .i64 e2, .string ⟨u2.toArray⟩, .string ⟨r2.toArray⟩]] (grow (redrawn wr d) os) fun x w'' => x = .returned (.bool true) ∧ ∃ p : Regrown, w'' = grow (redrawn wr p.d) p.os := fun d os => Calls.regrown_of (O.cI0 _)
      have d1 : ∀ d os, Calls Tryd.prog 18 #[.agg #[.int .i64 e1, .string ⟨u1.toArray⟩, .string ⟨r1.toArray⟩], .int .i64 1, .agg #[.int .i64 e2, .string ⟨u2.toArray⟩, .string ⟨r2.toArray⟩]] (grow (redrawn wr d) os) fun x w'' => x = .returned (.bool xx) ∧ ∃ p : Regrown, w'' = grow (redrawn wr p.d) p.os := fun d os => Calls.regrown_of (by rw [hx]; exact O.cIs 1 (by decide) _)
      have d4 : ∀ d os, Calls Tryd.prog 18 #[.agg #[.int .i64 e1, .string ⟨u1.toArray⟩, .string ⟨r1.toArray⟩], .int .i64 4, .agg #[.int .i64 e2, .string ⟨u2.toArray⟩, .string ⟨r2.toArray⟩]] (grow (redrawn wr d) os) fun x w'' => x = .returned (.bool (!xx)) ∧ ∃ p : Regrown, w'' = grow (redrawn wr p.d) p.os := fun d os => Calls.regrown_of (by rw [hx, ← Vm.iv_not1]; exact O.cIs 4 (by decide) _)
      have d5 : ∀ d os, Calls Tryd.prog 18 #[.agg #[.int .i64 e1, .string ⟨u1.toArray⟩, .string ⟨r1.toArray⟩], .int .i64 5, .agg #[.int .i64 e2, .string ⟨u2.toArray⟩, .string ⟨r2.toArray⟩]] (grow (redrawn wr d) os) fun x w'' => x = .returned (.bool yy) ∧ ∃ p : Regrown, w'' = grow (redrawn wr p.d) p.os := fun d os => Calls.regrown_of (by rw [hy]; exact O.cIs 5 (by decide) _)
      have d2 : ∀ d os, Calls Tryd.prog 18 #[.agg #[.int .i64 e1, .string ⟨u1.toArray⟩, .string ⟨r1.toArray⟩], .int .i64 2, .agg #[.int .i64 e2, .string ⟨u2.toArray⟩, .string ⟨r2.toArray⟩]] (grow (redrawn wr d) os) fun x w'' => x = .returned (.bool (!yy)) ∧ ∃ p : Regrown, w'' = grow (redrawn wr p.d) p.os := fun d os => Calls.regrown_of (by rw [hy, ← Vm.iv_not5]; exact O.cIs 2 (by decide) _)
      clear hx hy
      cases xx
      all_goals cases yy
      all_goals
        simp only [Bool.not_true, Bool.not_false] at d4 d2
        go_wp2_with fail
        refine wp_region_quiet_below (by kernel_rfl) (by kernel_rfl) ?_
        repeat (any_goals (first | go_big_quiet_step ((first | with_reducible exact d0 _ _ | with_reducible exact d1 _ _ | with_reducible exact d4 _ _ | with_reducible exact d5 _ _ | with_reducible exact d2 _ _)) | quiet_step ((first | with_reducible exact d0 _ _ | with_reducible exact d1 _ _ | with_reducible exact d4 _ _ | with_reducible exact d5 _ _ | with_reducible exact d2 _ _))))
        refine wpQuiet_nil ?_
        intro wq hwq
        have hq := rg hr hwq
        go_wp2
        go_ret
        exact ⟨rfl, on hW hq⟩

end Go.Proofs.YtongmngjmblooaaDoor
