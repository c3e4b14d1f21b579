/- The walks of the reference's Compare and Is. -/
import Derived.Test.YtoijkbhgajghdaaGreatDoorCc
import Derived.Test.YtoijkbhgajghdaaGreatDoorCd
namespace Go.Proofs.YtoijkbhgajghdaaGreatDoor
open Go.RowKit

set_option maxHeartbeats 800000 in
theorem rcompare_any (e1 : Int) (u1 r1 : List UInt8) (e2 : Int) (u2 r2 : List UInt8) (w : World) (h1 : u1.length ≤ 200) (h2 : r1.length ≤ 200) (h3 : u2.length ≤ 200) (h4 : r2.length ≤ 200) :
    Calls Tryz.prog 129 #[.agg #[.int .i64 e1, .string ⟨u1.toArray⟩, .string ⟨r1.toArray⟩], .agg #[.int .i64 e2, .string ⟨u2.toArray⟩, .string ⟨r2.toArray⟩]] w fun x w' =>
    x = .returned (.int .i64 (Vm.cv e1 u1 r1 e2 u2 r2)) ∧ ∃ n, w' = ((w.alloc (.cells #[.int .i64 e1, .string ⟨u1.toArray⟩, .string ⟨r1.toArray⟩] 24)).alloc (.cells #[.int .i64 e2, .string ⟨u2.toArray⟩, .string ⟨r2.toArray⟩] 24)).drewN n := by
  by_cases he : e1 = e2
  · subst he
    have H : Hid (Vm.cv e1 u1 r1 e1 u2 r2 = if Vm.pc u1 u2 = 0 then Vm.pc r1 r2 else Vm.pc u1 u2) := by
      show Vm.cv e1 u1 r1 e1 u2 r2 = _
      unfold Vm.cv; rw [if_neg (by omega), if_neg (by omega)]
    go_enter Tryz.func129, Tryz.ntmps129
    go_wp2_with fail
    refine (half_any u1 u2 _ h1 h3).mono ?_
    rintro e w' ⟨rfl, n, rfl⟩
    go_wp2_with fail
    · go_ret
      exact ⟨ret_int (by rw [H.out, if_neg (by simpa using ‹(Vm.pc u1 u2 != 0) = true›)]), _, rfl⟩
    · refine (half_any r1 r2 _ h2 h4).mono ?_
      rintro e w' ⟨rfl, m, rfl⟩
      go_wp2_with fail
      go_ret
      exact ⟨ret_int (by rw [H.out, if_pos (by simpa using ‹(Vm.pc u1 u2 != 0) = false›)]), _, rfl⟩
  · have g : (e1 != e2) = true := by simpa using he
    by_cases hl : e1 < e2
    · go_enter Tryz.func129, Tryz.ntmps129
      go_wp2
      go_ret
      exact ⟨ret_int (by unfold Vm.cv; rw [if_pos hl]), 0, rfl⟩
    · have hg : e2 < e1 := by omega
      go_enter Tryz.func129, Tryz.ntmps129
      go_wp2
      go_ret
      exact ⟨ret_int (by unfold Vm.cv; rw [if_neg (by omega), if_pos hg]), 0, rfl⟩

set_option maxHeartbeats 1600000 in
theorem ris_any (e1 : Int) (u1 r1 : List UInt8) (op : Int) (e2 : Int) (u2 r2 : List UInt8) (w : World) (h1 : u1.length ≤ 200) (h2 : r1.length ≤ 200) (h3 : u2.length ≤ 200) (h4 : r2.length ≤ 200) :
    Calls Tryz.prog 94 #[.agg #[.int .i64 e1, .string ⟨u1.toArray⟩, .string ⟨r1.toArray⟩], .int .i64 op, .agg #[.int .i64 e2, .string ⟨u2.toArray⟩, .string ⟨r2.toArray⟩]] w fun x w' =>
    x = .returned (.bool (Vm.iv (Vm.cv e1 u1 r1 e2 u2 r2) op)) ∧ ∃ (c1 c2 c3 c4 : Array Value) (n : Nat), w' = ((((w.alloc (.cells c1 24)).alloc (.cells c2 24)).alloc (.cells c3 24)).alloc (.cells c4 24)).drewN n := by
  by_cases hc : op = 0 ∨ op = 1 ∨ op = 2 ∨ op = 3 ∨ op = 4 ∨ op = 5
  · rcases hc with rfl | rfl | rfl | rfl | rfl | rfl
    all_goals
      go_enter Tryz.func94, Tryz.ntmps94
      go_wp2_with fail
      refine (rcompare_any e1 u1 r1 e2 u2 r2 _ h1 h2 h3 h4).mono ?_
      rintro e w' ⟨rfl, n, rfl⟩
      generalize hc : Vm.cv e1 u1 r1 e2 u2 r2 = c
      have HC : Hid (Vm.cv e1 u1 r1 e2 u2 r2 = c) := hc
      clear hc
      rcases Int.lt_trichotomy c 0 with k | k | k
      · go_wp2
        go_ret
        exact ⟨ret_bool (by rw [HC.out]; simp [Vm.iv]; try omega), _, _, _, _, _, rfl⟩
      · subst k
        go_wp2
        go_ret
        exact ⟨ret_bool (by rw [HC.out]; simp [Vm.iv]), _, _, _, _, _, rfl⟩
      · go_wp2
        go_ret
        exact ⟨ret_bool (by rw [HC.out]; simp [Vm.iv]; try omega), _, _, _, _, _, rfl⟩
  · have q0 : (op == 0) = false := beq_eq_false_iff_ne.2 (by omega)
    have q1 : (op == 1) = false := beq_eq_false_iff_ne.2 (by omega)
    have q2 : (op == 2) = false := beq_eq_false_iff_ne.2 (by omega)
    have q3 : (op == 3) = false := beq_eq_false_iff_ne.2 (by omega)
    have q4 : (op == 4) = false := beq_eq_false_iff_ne.2 (by omega)
    have q5 : (op == 5) = false := beq_eq_false_iff_ne.2 (by omega)
    go_enter Tryz.func94, Tryz.ntmps94
    go_wp2_with fail
    refine (rcompare_any e1 u1 r1 e2 u2 r2 _ h1 h2 h3 h4).mono ?_
    rintro e w' ⟨rfl, n, rfl⟩
    go_wp2
    go_ret
    exact ⟨ret_bool (by simp [Vm.iv, q0, q1, q2, q3, q4, q5]), _, _, _, _, _, rfl⟩

end Go.Proofs.YtoijkbhgajghdaaGreatDoor
