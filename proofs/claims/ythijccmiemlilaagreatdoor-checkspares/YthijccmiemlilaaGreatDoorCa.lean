/- The walks of version.digit, letter, rank, cutRun. -/
import Derived.Test.YthijccmiemlilaaGreatDoorProg
import Derived.Test.YthijccmiemlilaaGreatDoorVm
import Derived.WalkKit
import Derived.WalkSpells
import Derived.WalkLawsBesides
import Derived.Deep.QuietTactic
import Derived.BigQuiet
namespace Go.Proofs.YthijccmiemlilaaGreatDoor
open Go.RowKit

theorem ret_bool {a b : Bool} (h : a = b) : Ending.returned (.bool a) = .returned (.bool b) := by rw [h]
theorem ret_int {k : IntKind} {a b : Int} (h : a = b) : Ending.returned (.int k a) = .returned (.int k b) := by rw [h]
theorem ba_get (l : List UInt8) (k : Nat) (h : k < l.length) : (ByteArray.mk l.toArray)[k]'h = l[k] := rfl
theorem w64 (n : Int) (h0 : -9223372036854775808 ≤ n) (h1 : n ≤ 9223372036854775807) : wrap64 n = n := by
  unfold wrap64; omega

theorem ret_strs {a b c d : ByteArray} (h1 : a = b) (h2 : c = d) : Ending.returned (.tuple #[.string a, .string c]) = .returned (.tuple #[.string b, .string d]) := by rw [h1, h2]
theorem ba_ext (l : List UInt8) (a b : Nat) : (ByteArray.mk l.toArray).extract a b = ⟨((l.take b).drop a).toArray⟩ := by
  apply ByteArray.ext; apply Array.ext'
  simp [List.extract_eq_take_drop, List.drop_take]
theorem ba_take (l : List UInt8) (k : Nat) : (ByteArray.mk l.toArray).extract 0 k = ⟨(l.take k).toArray⟩ := by rw [ba_ext, List.drop_zero]
theorem ba_drop (l : List UInt8) (k : Nat) : (ByteArray.mk l.toArray).extract k l.length = ⟨(l.drop k).toArray⟩ := by rw [ba_ext, List.take_length]

theorem digit_any (c : UInt8) (w : World) : Calls Tryz.prog 138 #[.int .u8 c.toNat] w fun e w' => e = .returned (.bool (Vm.dg c)) ∧ w' = w := by
  go_enter Tryz.func138, Tryz.ntmps138
  go_wp2
  · go_ret
    exact ⟨ret_bool (by unfold Vm.dg; rw [Bool.eq_iff_iff]; simp; omega), rfl⟩
  · go_ret
    exact ⟨ret_bool (by unfold Vm.dg; rw [Bool.eq_iff_iff]; simp; omega), rfl⟩

theorem letter_any (c : UInt8) (w : World) : Calls Tryz.prog 152 #[.int .u8 c.toNat] w fun e w' => e = .returned (.bool (Vm.lr c)) ∧ w' = w := by
  go_enter Tryz.func152, Tryz.ntmps152
  go_wp2
  all_goals go_ret
  all_goals exact ⟨ret_bool (by unfold Vm.lr; rw [Bool.eq_iff_iff]; simp; omega), rfl⟩

theorem rk_tilde (c : UInt8) (h : ((c.toNat : Int) == 126) = true) : -1 = Vm.rk c := by
  unfold Vm.rk; rw [if_pos (by have := beq_iff_eq.1 h; omega)]
theorem rk_letter (c : UInt8) (h : ((c.toNat : Int) == 126) = false) (hl : Vm.lr c = true) : wrap64 (c.toNat : Int) = Vm.rk c := by
  have := c.toNat_lt
  unfold Vm.rk; rw [if_neg (by have := beq_eq_false_iff_ne.1 h; omega), if_pos hl, w64 _ (by omega) (by omega)]
theorem rk_other (c : UInt8) (h : ((c.toNat : Int) == 126) = false) (hl : Vm.lr c = false) : wrap64 (256 + wrap64 (c.toNat : Int)) = Vm.rk c := by
  have := c.toNat_lt
  unfold Vm.rk; rw [if_neg (by have := beq_eq_false_iff_ne.1 h; omega), if_neg (by simp [hl]), w64 (c.toNat) (by omega) (by omega), w64 _ (by omega) (by omega)]

theorem rank_in (l : List UInt8) (k : Nat) (w : World) (hk : k < l.length) : Calls Tryz.prog 166 #[.string ⟨l.toArray⟩, .int .i64 k] w fun e w' => e = .returned (.int .i64 (Vm.rk l[k])) ∧ w' = w := by
  go_enter Tryz.func166, Tryz.ntmps166
  go_wp2_with (go_at_call 152; refine (letter_any _ _).mono ?_; rintro e w' ⟨rfl, rfl⟩)
  · go_ret; exact ⟨ret_int (rk_tilde _ ‹_›), rfl⟩
  · go_ret; exact ⟨ret_int (rk_letter _ ‹_› ‹_›), rfl⟩
  · go_ret; exact ⟨ret_int (rk_other _ ‹_› ‹_›), rfl⟩

theorem rank_out (l : List UInt8) (k : Nat) (w : World) (hk : l.length ≤ k) : Calls Tryz.prog 166 #[.string ⟨l.toArray⟩, .int .i64 k] w fun e w' => e = .returned (.int .i64 0) ∧ w' = w := by
  go_enter Tryz.func166, Tryz.ntmps166
  go_wp2
  go_ret; exact ⟨rfl, rfl⟩

theorem cutRun_any (l : List UInt8) (b : Bool) (w : World) (hl : l.length ≤ 200) : Calls Tryz.prog 154 #[.string ⟨l.toArray⟩, .bool b] w fun e w' =>
    e = .returned (.tuple #[.string ⟨(l.takeWhile (fun c => Vm.dg c == b)).toArray⟩, .string ⟨(l.dropWhile (fun c => Vm.dg c == b)).toArray⟩]) ∧ ∃ n, w' = w.drewN n := by
  go_enter Tryz.func154, Tryz.ntmps154
  go_wp2
  go_loop [9] (fun i => ∃ k : Nat, k ≤ l.length ∧ i = .int .i64 k ∧ ∀ j (hj : j < l.length), j < k → (Vm.dg l[j] == b) = true) (fun i => l.length - (intOf i).toNat)
  case atStart => exact ⟨0, Nat.zero_le _, rfl, fun j _ h => absurd h (Nat.not_lt_zero _)⟩
  case round =>
    obtain ⟨k, hk, rfl, hpre⟩ := hrel
    by_cases hlt : k < l.length
    · have hlt' : (k : Int) ≤ (l.length : Int) := by omega
      go_wp2_with (go_at_call 138; refine (digit_any _ _).mono ?_; rintro e w' ⟨rfl, rfl⟩)
      · go_quiet (fail)
        go_wp2
        go_ret2
        have h' : (!Vm.dg l[k] == b) = true := ‹_›
        have hc := Vm.while_cut (fun c => Vm.dg c == b) l k hk hpre (fun _ => by simpa using h')
        exact ⟨ret_strs (by rw [hc.1]; exact ba_take l k) (by rw [hc.2]; exact ba_drop l k), _, rfl⟩
      · exact ⟨⟨k + 1, hlt, by go_num, fun j hj h => by
          by_cases e : j = k
          · subst e; have h' : (!Vm.dg l[j] == b) = false := ‹_›; simpa using h'
          · exact hpre j hj (by omega)⟩, by simp [intOf]; omega⟩
    · have hk' : k = l.length := by omega
      go_wp2
      go_ret2
      have hc := Vm.while_cut (fun c => Vm.dg c == b) l k hk hpre (fun h => absurd h hlt)
      exact ⟨ret_strs (by rw [hc.1, hk', List.take_length]) (by rw [hc.2, hk', List.drop_length]), 0, rfl⟩

end Go.Proofs.YthijccmiemlilaaGreatDoor
