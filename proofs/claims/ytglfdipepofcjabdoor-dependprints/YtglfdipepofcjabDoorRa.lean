/- The walks of the reference's digit, letter, all, in, Number, Print. -/
import Derived.Test.YtglfdipepofcjabDoorPd
import Derived.Test.YtglfdipepofcjabDoorSi
namespace Go.Proofs.YtglfdipepofcjabDoor
open Go.RowKit Go.Shelf Go.Sort

theorem xdigit_any (c : UInt8) (w : World) : Calls Tryd.prog 99 #[.int .u8 c.toNat] w fun e w' => e = .returned (.bool (Vm.dg c)) ∧ w' = w := by
  go_enter Tryd.func99, Tryd.ntmps99
  go_wp2
  all_goals go_ret
  all_goals exact ⟨ret_bool (by unfold Vm.dg; rw [Bool.eq_iff_iff]; simp; omega), rfl⟩

theorem xletter_any (c : UInt8) (w : World) : Calls Tryd.prog 134 #[.int .u8 c.toNat] w fun e w' => e = .returned (.bool (Vm.lr c)) ∧ w' = w := by
  go_enter Tryd.func134, Tryd.ntmps134
  go_wp2
  all_goals go_ret
  all_goals exact ⟨ret_bool (by unfold Vm.lr; rw [Bool.eq_iff_iff]; simp; omega), rfl⟩

set_option maxHeartbeats 400000 in
theorem xall_any (l m : List UInt8) (w : World) (hl : l.length ≤ 200) : Calls Tryd.prog 100 #[.string ⟨l.toArray⟩, .string ⟨m.toArray⟩] w fun e w' => e = .returned (.bool (l.all (Vm.ok1 m))) ∧ w' = w := by
  go_enter Tryd.func100, Tryd.ntmps100
  go_wp2
  go_loop [8] (fun i => ∃ k : Nat, k ≤ l.length ∧ i = .int .i64 k ∧ ∀ j (hj : j < l.length), j < k → Vm.ok1 m l[j] = true) (fun i => l.length - (intOf i).toNat)
  case atStart => exact ⟨0, Nat.zero_le _, rfl, fun j _ h => absurd h (Nat.not_lt_zero _)⟩
  case round =>
    obtain ⟨k, hk, rfl, hpre0⟩ := hrel
    have hpre : Hid (∀ j (hj : j < l.length), j < k → Vm.ok1 m l[j] = true) := hpre0
    clear hpre0
    by_cases hlt : k < l.length
    · have more : Vm.ok1 m l[k] = true → ∀ j (hj : j < l.length), j < k + 1 → Vm.ok1 m l[j] = true := fun hc j hj h => by
        by_cases e : j = k
        · subst e; exact hc
        · exact hpre.out j hj (by omega)
      have HM := Lib.hid more
      clear more
      go_wp2_with (first | (go_at_call 99; refine (xdigit_any _ _).mono ?_; rintro e w' ⟨rfl, rfl⟩) | (go_at_call 134; refine (xletter_any _ _).mono ?_; rintro e w' ⟨rfl, rfl⟩) | (go_at_call 77; refine (idx_any _ _ _).mono ?_; rintro e w' ⟨rfl, rfl⟩))
      · exact ⟨⟨k + 1, hlt, by go_num, HM.out (ok_dig ‹_›)⟩, by simp [intOf]; omega⟩
      · exact ⟨⟨k + 1, hlt, by go_num, HM.out (ok_let ‹_›)⟩, by simp [intOf]; omega⟩
      · go_ret
        have h1 : ¬ Vm.dg l[k] = true := ‹_›
        have h2 : ¬ Vm.lr l[k] = true := ‹_›
        exact ⟨ret_bool (all_no k hlt (ok_no (by simpa using h1) (by simpa using h2) ‹_›)), rfl⟩
      · have h3 : 0 ≤ Lib.indexByte m l[k] := ‹_›
        exact ⟨⟨k + 1, hlt, by go_num, HM.out (ok_in (by omega))⟩, by simp [intOf]; omega⟩
    · go_wp2
      go_ret
      exact ⟨ret_bool (all_to (fun j hj => hpre.out j hj (by omega))), rfl⟩

def inB (e : Int) : Bool := decide (0 ≤ e) && decide (e < 1000000000)
theorem xin_any (e : Int) (w : World) : Calls Tryd.prog 58 #[.int .i64 e, .int .i64 0, .int .i64 999999999] w fun x w' => x = .returned (.bool (inB e)) ∧ w' = w := by
  go_enter Tryd.func58, Tryd.ntmps58
  go_wp2
  all_goals go_ret
  all_goals exact ⟨ret_bool (by unfold inB; rw [Bool.eq_iff_iff]; simp; omega), rfl⟩

theorem num_val {c : UInt8} {m : Nat} (h : Vm.dg c = true) : Value.int .i64 ((m : Int) * 10 + ((c.toNat : Int) - 48) % 256) = .int .i64 ((10 * m + (c.toNat - 48) : Nat) : Int) := by
  have := (Vm.dg_iff c).1 h
  congr 1
  omega

set_option maxHeartbeats 1600000 in
set_option maxRecDepth 100000 in
theorem xprint_any (e : Int) (u r : List UInt8) (w : World) (h0 : -9223372036854775808 ≤ e) (h1 : e ≤ 9223372036854775807) (hu : u.length ≤ 200) (hr : r.length ≤ 200) (htab : Lib.TabIs Tryd.prog w "internal/strconv.uint64pow10" .u64 Lib.pow10Tab) :
    Calls Tryd.prog 49 #[.agg #[.int .i64 e, .string ⟨u.toArray⟩, .string ⟨r.toArray⟩]] w fun x w' => x = .returned (.string ⟨(Vm.pt e u r).toArray⟩) ∧ Below w.heap.size w w' := by
  have hb : ∀ o, Below w.heap.size w (w.alloc o) := fun o => (Below.refl _ _).alloc (Nat.le_refl _) _
  have htab' := fun o => (Lib.tabBelow_of_tabIs htab).on (hb o)
  have le := Lib.itoa_length_le e h0 h1
  have HLE := Lib.hid le
  clear htab
  by_cases he : e = 0
  · subst he
    by_cases hr0 : r = []
    · subst hr0
      go_enter Tryd.func49, Tryd.ntmps49
      go_wp2
      go_ret
      exact ⟨ret_sv (by apply ByteArray.ext; simp [Vm.pt, Vm.pe, Vm.pr]), hb _⟩
    · have hre : r.isEmpty = false := by cases r with
        | nil => exact absurd rfl hr0
        | cons c r => rfl
      go_enter Tryd.func49, Tryd.ntmps49
      go_wp2
      go_ret
      exact ⟨ret_sv (by apply ByteArray.ext; simp [Vm.pt, Vm.pe, Vm.pr, hr0]), hb _⟩
  · have hne : (e != 0) = true := by simpa using he
    obtain ⟨li, hli⟩ : ∃ l : List UInt8, l = Lib.itoa e := ⟨_, rfl⟩
    have HI := Lib.hid hli
    rw [← hli] at le
    have hc := fun W h => Tryd.strconv_Itoa e h0 h1 W h
    rw [← hli] at hc
    have HC := Lib.hid hc
    clear hc HLE hli
    by_cases hr0 : r = []
    · subst hr0
      go_enter Tryd.func49, Tryd.ntmps49
      go_wp2_with fail
      refine (HC.out _ (htab' _).here).mono ?_
      rintro x w1 ⟨rfl, k, os, hw1⟩
      have b1 : Below (w.alloc (.cells #[.int .i64 e, .string ⟨u.toArray⟩, .string ⟨([] : List UInt8).toArray⟩] 54)).heap.size (w.alloc (.cells #[.int .i64 e, .string ⟨u.toArray⟩, .string ⟨([] : List UInt8).toArray⟩] 54)) w1 := by rw [hw1]; exact Lib.below_grow _ _ (Nat.le_refl _) k os
      clear hw1
      have c1 : w1.cell? ⟨w.heap.size, 1, none⟩ = some (.string ⟨u.toArray⟩) := by rw [b1.cell (by simp)]; simp
      have c2 : w1.cell? ⟨w.heap.size, 2, none⟩ = some (.string ⟨#[]⟩) := by rw [b1.cell (by simp)]; simp
      go_wp2
      go_ret
      exact ⟨ret_sv (by apply ByteArray.ext; simp [Vm.pt, Vm.pe, Vm.pr, he, HI.out]), (hb _).trans (b1.mono (by simp))⟩
    · have hre : r.isEmpty = false := by cases r with
        | nil => exact absurd rfl hr0
        | cons c r => rfl
      go_enter Tryd.func49, Tryd.ntmps49
      go_wp2_with fail
      refine (HC.out _ (htab' _).here).mono ?_
      rintro x w1 ⟨rfl, k, os, hw1⟩
      have b1 : Below (w.alloc (.cells #[.int .i64 e, .string ⟨u.toArray⟩, .string ⟨r.toArray⟩] 54)).heap.size (w.alloc (.cells #[.int .i64 e, .string ⟨u.toArray⟩, .string ⟨r.toArray⟩] 54)) w1 := by rw [hw1]; exact Lib.below_grow _ _ (Nat.le_refl _) k os
      clear hw1
      have c1 : w1.cell? ⟨w.heap.size, 1, none⟩ = some (.string ⟨u.toArray⟩) := by rw [b1.cell (by simp)]; simp
      have c2 : w1.cell? ⟨w.heap.size, 2, none⟩ = some (.string ⟨r.toArray⟩) := by rw [b1.cell (by simp)]; simp
      go_wp2
      go_ret
      exact ⟨ret_sv (by apply ByteArray.ext; simp [Vm.pt, Vm.pe, Vm.pr, he, hr0, HI.out]), (hb _).trans (b1.mono (by simp))⟩

end Go.Proofs.YtglfdipepofcjabDoor
