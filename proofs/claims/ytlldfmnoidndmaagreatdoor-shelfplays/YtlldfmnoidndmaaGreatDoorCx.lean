/- The walks of version.digit, letter, rank, cutRun. -/
import Derived.Test.YtlldfmnoidndmaaGreatDoorProg
import Derived.Test.YtlldfmnoidndmaaGreatDoorVx
import Derived.WalkKit
import Derived.WalkSpells
import Derived.WalkLawsBesides
import Derived.Deep.QuietTactic
import Derived.BigQuiet
namespace Go.Proofs.YtlldfmnoidndmaaGreatDoor
open Go.RowKit

theorem ret_bool {a b : Bool} (h : a = b) : Ending.returned (.bool a) = .returned (.bool b) := by rw [h]
theorem ret_int {k : IntKind} {a b : Int} (h : a = b) : Ending.returned (.int k a) = .returned (.int k b) := by rw [h]
theorem ba_get (l : List UInt8) (k : Nat) (h : k < l.length) : (ByteArray.mk l.toArray)[k]'h = l[k] := rfl
theorem w64 (n : Int) (h0 : -9223372036854775808 ≤ n) (h1 : n ≤ 9223372036854775807) : wrap64 n = n := by
  unfold wrap64; omega

theorem ret_strs {a b c d : ByteArray} (h1 : a = b) (h2 : c = d) : Ending.returned (.tuple #[.string a, .string c]) = .returned (.tuple #[.string b, .string d]) := by rw [h1, h2]
theorem ba_ext (l : List UInt8) (a b : Nat) : (ByteArray.mk l.toArray).extract a b = ⟨((l.take b).drop a).toArray⟩ := by
  apply ByteArray.ext; apply Array.ext'
  simp [List.extract_eq_take_drop, List.drop_take]
theorem ba_take (l : List UInt8) (k : Nat) : (ByteArray.mk l.toArray).extract 0 k = ⟨(l.take k).toArray⟩ := by rw [ba_ext, List.drop_zero]
theorem ba_drop (l : List UInt8) (k : Nat) : (ByteArray.mk l.toArray).extract k l.length = ⟨(l.drop k).toArray⟩ := by rw [ba_ext, List.take_length]

theorem digit_any (c : UInt8) (w : World) : Calls Tryz.prog 155 #[.int .u8 c.toNat] w fun e w' => e = .returned (.bool (Vm.dg c)) ∧ w' = w := by
  go_enter Tryz.func155, Tryz.ntmps155
  go_wp2
  · go_ret
    exact ⟨ret_bool (by unfold Vm.dg; rw [Bool.eq_iff_iff]; simp; omega), rfl⟩
  · go_ret
    exact ⟨ret_bool (by unfold Vm.dg; rw [Bool.eq_iff_iff]; simp; omega), rfl⟩

theorem letter_any (c : UInt8) (w : World) : Calls Tryz.prog 191 #[.int .u8 c.toNat] w fun e w' => e = .returned (.bool (Vm.lr c)) ∧ w' = w := by
  go_enter Tryz.func191, Tryz.ntmps191
  go_wp2
  all_goals go_ret
  all_goals exact ⟨ret_bool (by unfold Vm.lr; rw [Bool.eq_iff_iff]; simp; omega), rfl⟩

theorem rk_tilde (c : UInt8) (h : ((c.toNat : Int) == 126) = true) : -1 = Vm.rk c := by
  unfold Vm.rk; rw [if_pos (by have := beq_iff_eq.1 h; omega)]
theorem rk_letter (c : UInt8) (h : ((c.toNat : Int) == 126) = false) (hl : Vm.lr c = true) : wrap64 (c.toNat : Int) = Vm.rk c := by
  have := c.toNat_lt
  unfold Vm.rk; rw [if_neg (by have := beq_eq_false_iff_ne.1 h; omega), if_pos hl, w64 _ (by omega) (by omega)]
theorem rk_other (c : UInt8) (h : ((c.toNat : Int) == 126) = false) (hl : Vm.lr c = false) : wrap64 (256 + wrap64 (c.toNat : Int)) = Vm.rk c := by
  have := c.toNat_lt
  unfold Vm.rk; rw [if_neg (by have := beq_eq_false_iff_ne.1 h; omega), if_neg (by simp [hl]), w64 (c.toNat) (by omega) (by omega), w64 _ (by omega) (by omega)]

end Go.Proofs.YtlldfmnoidndmaaGreatDoor
namespace Go.Proofs.YtlldfmnoidndmaaGreatDoor
open Go.RowKit

theorem short_any (e : Int) (u r : List UInt8) (w : World) : Calls Tryz.prog 35 #[.agg #[.int .i64 e, .string ⟨u.toArray⟩, .string ⟨r.toArray⟩]] w fun x w' =>
    x = .returned (.bool (decide (u.length ≤ 100) && decide (r.length ≤ 100))) ∧ w' = w.alloc (.cells #[.int .i64 e, .string ⟨u.toArray⟩, .string ⟨r.toArray⟩] 37) := by
  by_cases h1 : u.length ≤ 100
  all_goals by_cases h2 : r.length ≤ 100
  all_goals
    go_enter Tryz.func35, Tryz.ntmps35
    go_wp2
    go_ret
    exact ⟨ret_bool (by apply Bool.eq_iff_iff.2; constructor <;> intro hh <;> simp at hh ⊢ <;> omega), rfl⟩

theorem iv_none (c op : Int) (hop : op < 1 ∨ 5 < op) : Vm.iv c op = (op == 0) := by
  unfold Vm.iv
  have q1 : (op == 1) = false := beq_eq_false_iff_ne.2 (by omega)
  have q2 : (op == 2) = false := beq_eq_false_iff_ne.2 (by omega)
  have q3 : (op == 3) = false := beq_eq_false_iff_ne.2 (by omega)
  have q4 : (op == 4) = false := beq_eq_false_iff_ne.2 (by omega)
  have q5 : (op == 5) = false := beq_eq_false_iff_ne.2 (by omega)
  simp [q1, q2, q3, q4, q5]

end Go.Proofs.YtlldfmnoidndmaaGreatDoor
