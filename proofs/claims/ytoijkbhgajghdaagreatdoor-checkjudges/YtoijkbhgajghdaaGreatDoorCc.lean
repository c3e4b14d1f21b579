/- The walks of version.Compare and version.Is. -/
import Derived.Test.YtoijkbhgajghdaaGreatDoorCb
namespace Go.Proofs.YtoijkbhgajghdaaGreatDoor
open Go.RowKit

theorem short_any (e : Int) (u r : List UInt8) (w : World) : Calls Tryz.prog 24 #[.agg #[.int .i64 e, .string ⟨u.toArray⟩, .string ⟨r.toArray⟩]] w fun x w' =>
    x = .returned (.bool (decide (u.length ≤ 100) && decide (r.length ≤ 100))) ∧ w' = w.alloc (.cells #[.int .i64 e, .string ⟨u.toArray⟩, .string ⟨r.toArray⟩] 24) := by
  by_cases h1 : u.length ≤ 100
  all_goals by_cases h2 : r.length ≤ 100
  all_goals
    go_enter Tryz.func24, Tryz.ntmps24
    go_wp2
    go_ret
    exact ⟨ret_bool (by apply Bool.eq_iff_iff.2; constructor <;> intro hh <;> simp at hh ⊢ <;> omega), rfl⟩

set_option maxHeartbeats 800000 in
theorem compare_any (e1 : Int) (u1 r1 : List UInt8) (e2 : Int) (u2 r2 : List UInt8) (w : World) (h1 : u1.length ≤ 200) (h2 : r1.length ≤ 200) (h3 : u2.length ≤ 200) (h4 : r2.length ≤ 200) :
    Calls Tryz.prog 128 #[.agg #[.int .i64 e1, .string ⟨u1.toArray⟩, .string ⟨r1.toArray⟩], .agg #[.int .i64 e2, .string ⟨u2.toArray⟩, .string ⟨r2.toArray⟩]] w fun x w' =>
    x = .returned (.int .i64 (Vm.cv e1 u1 r1 e2 u2 r2)) ∧ ∃ n, w' = ((w.alloc (.cells #[.int .i64 e1, .string ⟨u1.toArray⟩, .string ⟨r1.toArray⟩] 24)).alloc (.cells #[.int .i64 e2, .string ⟨u2.toArray⟩, .string ⟨r2.toArray⟩] 24)).drewN n := by
  go_enter Tryz.func128, Tryz.ntmps128
  go_wp2_with fail
  refine (Tryz.cmp_Compare_int _ _ _).mono ?_
  rintro e w' ⟨rfl, rfl⟩
  go_wp2_with fail
  · have hne := cmp_ne (x := e1) (y := e2) ‹_›
    go_ret
    exact ⟨ret_int (by rw [cmp_val hne]; unfold Vm.cv; by_cases h : e1 < e2; · simp [h]
                       have h' : e2 < e1 := by omega
                       simp [h, h']), 0, rfl⟩
  · have he := cmp_eq (x := e1) (y := e2) ‹_›
    have H : Hid (Vm.cv e1 u1 r1 e2 u2 r2 = if Vm.pc u1 u2 = 0 then Vm.pc r1 r2 else Vm.pc u1 u2) := by
      show Vm.cv e1 u1 r1 e2 u2 r2 = _
      unfold Vm.cv; rw [if_neg (by omega), if_neg (by omega)]
    clear he
    refine (parts_any u1 u2 _ h1 h3).mono ?_
    rintro e w' ⟨rfl, n, rfl⟩
    go_wp2_with fail
    · go_ret
      exact ⟨ret_int (by rw [H.out, if_neg (by simpa using ‹(Vm.pc u1 u2 != 0) = true›)]), _, rfl⟩
    · refine (parts_any r1 r2 _ h2 h4).mono ?_
      rintro e w' ⟨rfl, m, rfl⟩
      go_wp2_with fail
      go_ret
      exact ⟨ret_int (by rw [H.out, if_pos (by simpa using ‹(Vm.pc u1 u2 != 0) = false›)]), _, rfl⟩

set_option maxHeartbeats 1600000 in
/-- version.Is where it compares. -/
theorem is_any (e1 : Int) (u1 r1 : List UInt8) (op : Int) (e2 : Int) (u2 r2 : List UInt8) (w : World) (h1 : u1.length ≤ 200) (h2 : r1.length ≤ 200) (h3 : u2.length ≤ 200) (h4 : r2.length ≤ 200) (hop : 1 ≤ op ∧ op ≤ 5) :
    Calls Tryz.prog 89 #[.agg #[.int .i64 e1, .string ⟨u1.toArray⟩, .string ⟨r1.toArray⟩], .int .i64 op, .agg #[.int .i64 e2, .string ⟨u2.toArray⟩, .string ⟨r2.toArray⟩]] w fun x w' =>
    x = .returned (.bool (Vm.iv (Vm.cv e1 u1 r1 e2 u2 r2) op)) ∧ ∃ (c1 c2 c3 c4 : Array Value) (n : Nat), w' = ((((w.alloc (.cells c1 24)).alloc (.cells c2 24)).alloc (.cells c3 24)).alloc (.cells c4 24)).drewN n := by
  have hc : op = 1 ∨ op = 2 ∨ op = 3 ∨ op = 4 ∨ op = 5 := by omega
  clear hop
  rcases hc with rfl | rfl | rfl | rfl | rfl
  all_goals
    go_enter Tryz.func89, Tryz.ntmps89
    go_wp2_with fail
    refine (compare_any e1 u1 r1 e2 u2 r2 _ h1 h2 h3 h4).mono ?_
    rintro e w' ⟨rfl, n, rfl⟩
    go_wp2
    go_ret
    exact ⟨ret_bool (by simp [Vm.iv]), _, _, _, _, _, rfl⟩

/-- version.Is where it asks nothing of the order. -/
theorem is_none (e1 : Int) (u1 r1 : List UInt8) (op : Int) (e2 : Int) (u2 r2 : List UInt8) (w : World) (hop : op < 1 ∨ 5 < op) :
    Calls Tryz.prog 89 #[.agg #[.int .i64 e1, .string ⟨u1.toArray⟩, .string ⟨r1.toArray⟩], .int .i64 op, .agg #[.int .i64 e2, .string ⟨u2.toArray⟩, .string ⟨r2.toArray⟩]] w fun x w' =>
    x = .returned (.bool (op == 0)) ∧ ∃ (c1 c2 : Array Value), w' = (w.alloc (.cells c1 24)).alloc (.cells c2 24) := by
  by_cases h0 : op = 0
  · subst h0
    go_enter Tryz.func89, Tryz.ntmps89
    go_wp2
    go_ret
    exact ⟨rfl, _, _, rfl⟩
  · have q0 : (op == 0) = false := beq_eq_false_iff_ne.2 h0
    have q1 : (op == 1) = false := beq_eq_false_iff_ne.2 (by omega)
    have q2 : (op == 2) = false := beq_eq_false_iff_ne.2 (by omega)
    have q3 : (op == 3) = false := beq_eq_false_iff_ne.2 (by omega)
    have q4 : (op == 4) = false := beq_eq_false_iff_ne.2 (by omega)
    have q5 : (op == 5) = false := beq_eq_false_iff_ne.2 (by omega)
    go_enter Tryz.func89, Tryz.ntmps89
    go_wp2
    go_ret
    exact ⟨ret_bool q0.symm, _, _, rfl⟩

theorem iv_none (c op : Int) (hop : op < 1 ∨ 5 < op) : Vm.iv c op = (op == 0) := by
  unfold Vm.iv
  have q1 : (op == 1) = false := beq_eq_false_iff_ne.2 (by omega)
  have q2 : (op == 2) = false := beq_eq_false_iff_ne.2 (by omega)
  have q3 : (op == 3) = false := beq_eq_false_iff_ne.2 (by omega)
  have q4 : (op == 4) = false := beq_eq_false_iff_ne.2 (by omega)
  have q5 : (op == 5) = false := beq_eq_false_iff_ne.2 (by omega)
  simp [q1, q2, q3, q4, q5]

end Go.Proofs.YtoijkbhgajghdaaGreatDoor
