/- The reference's versions. -/
import Derived.Test.YtlldfmnoidndmaaGreatDoorPx
import Derived.Test.YtlldfmnoidndmaaGreatDoorSh
import Derived.Test.YtlldfmnoidndmaaGreatDoorUx
import Derived.Test.YtlldfmnoidndmaaGreatDoorSy
import Derived.Test.YtlldfmnoidndmaaGreatDoorXx
import Derived.Test.YtlldfmnoidndmaaGreatDoorYq
import Derived.Test.YtlldfmnoidndmaaGreatDoorYd
import Derived.Test.YtlldfmnoidndmaaGreatDoorAx
namespace Go.Proofs.YtlldfmnoidndmaaGreatDoor
open Go.RowKit Go.Shelf Go.Sort

theorem xdigit_any (c : UInt8) (w : World) : Calls Tryz.prog 143 #[.int .u8 c.toNat] w fun e w' => e = .returned (.bool (Vm.dg c)) ∧ w' = w := by
  go_enter Tryz.func143, Tryz.ntmps143
  go_wp2
  all_goals go_ret
  all_goals exact ⟨ret_bool (by unfold Vm.dg; rw [Bool.eq_iff_iff]; simp; omega), rfl⟩

theorem xletter_any (c : UInt8) (w : World) : Calls Tryz.prog 144 #[.int .u8 c.toNat] w fun e w' => e = .returned (.bool (Vm.lr c)) ∧ w' = w := by
  go_enter Tryz.func144, Tryz.ntmps144
  go_wp2
  all_goals go_ret
  all_goals exact ⟨ret_bool (by unfold Vm.lr; rw [Bool.eq_iff_iff]; simp; omega), rfl⟩

set_option maxHeartbeats 400000 in
theorem xall_any (l m : List UInt8) (w : World) (hl : l.length ≤ 200) : Calls Tryz.prog 182 #[.string ⟨l.toArray⟩, .string ⟨m.toArray⟩] w fun e w' => e = .returned (.bool (l.all (Vm.ok1 m))) ∧ w' = w := by
  go_enter Tryz.func182, Tryz.ntmps182
  go_wp2
  go_loop [8] (fun i => ∃ k : Nat, k ≤ l.length ∧ i = .int .i64 k ∧ ∀ j (hj : j < l.length), j < k → Vm.ok1 m l[j] = true) (fun i => l.length - (intOf i).toNat)
  case atStart => exact ⟨0, Nat.zero_le _, rfl, fun j _ h => absurd h (Nat.not_lt_zero _)⟩
  case round =>
    obtain ⟨k, hk, rfl, hpre0⟩ := hrel
    have hpre : Hid (∀ j (hj : j < l.length), j < k → Vm.ok1 m l[j] = true) := hpre0
    clear hpre0
    by_cases hlt : k < l.length
    · have more : Vm.ok1 m l[k] = true → ∀ j (hj : j < l.length), j < k + 1 → Vm.ok1 m l[j] = true := fun hc j hj h => by
        by_cases e : j = k
        · subst e; exact hc
        · exact hpre.out j hj (by omega)
      have HM := Lib.hid more
      clear more
      go_wp2_with (first | (go_at_call 143; refine (xdigit_any _ _).mono ?_; rintro e w' ⟨rfl, rfl⟩) | (go_at_call 144; refine (xletter_any _ _).mono ?_; rintro e w' ⟨rfl, rfl⟩) | (go_at_call 192; refine (idx_any _ _ _).mono ?_; rintro e w' ⟨rfl, rfl⟩))
      · exact ⟨⟨k + 1, hlt, by go_num, HM.out (ok_dig ‹_›)⟩, by simp [intOf]; omega⟩
      · exact ⟨⟨k + 1, hlt, by go_num, HM.out (ok_let ‹_›)⟩, by simp [intOf]; omega⟩
      · go_ret
        have h1 : ¬ Vm.dg l[k] = true := ‹_›
        have h2 : ¬ Vm.lr l[k] = true := ‹_›
        exact ⟨ret_bool (all_no k hlt (ok_no (by simpa using h1) (by simpa using h2) ‹_›)), rfl⟩
      · have h3 : 0 ≤ Lib.indexByte m l[k] := ‹_›
        exact ⟨⟨k + 1, hlt, by go_num, HM.out (ok_in (by omega))⟩, by simp [intOf]; omega⟩
    · go_wp2
      go_ret
      exact ⟨ret_bool (all_to (fun j hj => hpre.out j hj (by omega))), rfl⟩

def inB (e : Int) : Bool := decide (0 ≤ e) && decide (e < 1000000000)
theorem xin_any (e : Int) (w : World) : Calls Tryz.prog 142 #[.int .i64 e, .int .i64 0, .int .i64 999999999] w fun x w' => x = .returned (.bool (inB e)) ∧ w' = w := by
  go_enter Tryz.func142, Tryz.ntmps142
  go_wp2
  all_goals go_ret
  all_goals exact ⟨ret_bool (by unfold inB; rw [Bool.eq_iff_iff]; simp; omega), rfl⟩

theorem num_val {c : UInt8} {m : Nat} (h : Vm.dg c = true) : Value.int .i64 ((m : Int) * 10 + ((c.toNat : Int) - 48) % 256) = .int .i64 ((10 * m + (c.toNat - 48) : Nat) : Int) := by
  have := (Vm.dg_iff c).1 h
  congr 1
  omega

set_option maxHeartbeats 1600000 in
set_option maxRecDepth 100000 in
theorem xprint_any (e : Int) (u r : List UInt8) (w : World) (h0 : -9223372036854775808 ≤ e) (h1 : e ≤ 9223372036854775807) (hu : u.length ≤ 200) (hr : r.length ≤ 200) (htab : Lib.TabIs Tryz.prog w "internal/strconv.uint64pow10" .u64 Lib.pow10Tab) :
    Calls Tryz.prog 183 #[.agg #[.int .i64 e, .string ⟨u.toArray⟩, .string ⟨r.toArray⟩]] w fun x w' => x = .returned (.string ⟨(Vm.pt e u r).toArray⟩) ∧ Below w.heap.size w w' := by
  have hb : ∀ o, Below w.heap.size w (w.alloc o) := fun o => (Below.refl _ _).alloc (Nat.le_refl _) _
  have htab' := fun o => (Lib.tabBelow_of_tabIs htab).on (hb o)
  have le := Lib.itoa_length_le e h0 h1
  have HLE := Lib.hid le
  clear htab
  by_cases he : e = 0
  · subst he
    by_cases hr0 : r = []
    · subst hr0
      go_enter Tryz.func183, Tryz.ntmps183
      go_wp2
      go_ret
      exact ⟨ret_sv (by apply ByteArray.ext; simp [Vm.pt, Vm.pe, Vm.pr]), hb _⟩
    · have hre : r.isEmpty = false := by cases r with
        | nil => exact absurd rfl hr0
        | cons c r => rfl
      go_enter Tryz.func183, Tryz.ntmps183
      go_wp2
      go_ret
      exact ⟨ret_sv (by apply ByteArray.ext; simp [Vm.pt, Vm.pe, Vm.pr, hr0]), hb _⟩
  · have hne : (e != 0) = true := by simpa using he
    obtain ⟨li, hli⟩ : ∃ l : List UInt8, l = Lib.itoa e := ⟨_, rfl⟩
    have HI := Lib.hid hli
    rw [← hli] at le
    have hc := fun W h => Tryz.strconv_Itoa e h0 h1 W h
    rw [← hli] at hc
    have HC := Lib.hid hc
    clear hc HLE hli
    by_cases hr0 : r = []
    · subst hr0
      go_enter Tryz.func183, Tryz.ntmps183
      go_wp2_with fail
      refine (HC.out _ (htab' _).here).mono ?_
      rintro x w1 ⟨rfl, k, os, hw1⟩
      have b1 : Below (w.alloc (.cells #[.int .i64 e, .string ⟨u.toArray⟩, .string ⟨([] : List UInt8).toArray⟩] 37)).heap.size (w.alloc (.cells #[.int .i64 e, .string ⟨u.toArray⟩, .string ⟨([] : List UInt8).toArray⟩] 37)) w1 := by rw [hw1]; exact Lib.below_grow _ _ (Nat.le_refl _) k os
      clear hw1
      have c1 : w1.cell? ⟨w.heap.size, 1, none⟩ = some (.string ⟨u.toArray⟩) := by rw [b1.cell (by simp)]; simp
      have c2 : w1.cell? ⟨w.heap.size, 2, none⟩ = some (.string ⟨#[]⟩) := by rw [b1.cell (by simp)]; simp
      go_wp2
      go_ret
      exact ⟨ret_sv (by apply ByteArray.ext; simp [Vm.pt, Vm.pe, Vm.pr, he, HI.out]), (hb _).trans (b1.mono (by simp))⟩
    · have hre : r.isEmpty = false := by cases r with
        | nil => exact absurd rfl hr0
        | cons c r => rfl
      go_enter Tryz.func183, Tryz.ntmps183
      go_wp2_with fail
      refine (HC.out _ (htab' _).here).mono ?_
      rintro x w1 ⟨rfl, k, os, hw1⟩
      have b1 : Below (w.alloc (.cells #[.int .i64 e, .string ⟨u.toArray⟩, .string ⟨r.toArray⟩] 37)).heap.size (w.alloc (.cells #[.int .i64 e, .string ⟨u.toArray⟩, .string ⟨r.toArray⟩] 37)) w1 := by rw [hw1]; exact Lib.below_grow _ _ (Nat.le_refl _) k os
      clear hw1
      have c1 : w1.cell? ⟨w.heap.size, 1, none⟩ = some (.string ⟨u.toArray⟩) := by rw [b1.cell (by simp)]; simp
      have c2 : w1.cell? ⟨w.heap.size, 2, none⟩ = some (.string ⟨r.toArray⟩) := by rw [b1.cell (by simp)]; simp
      go_wp2
      go_ret
      exact ⟨ret_sv (by apply ByteArray.ext; simp [Vm.pt, Vm.pe, Vm.pr, he, hr0, HI.out]), (hb _).trans (b1.mono (by simp))⟩

end Go.Proofs.YtlldfmnoidndmaaGreatDoor

namespace Go.Proofs.YtlldfmnoidndmaaGreatDoor
open Go.RowKit Go.Shelf Go.Sort

/-- What the reference asks, in its order. -/
theorem rt_ref (e : Int) (u r : List UInt8) : Vm.rt e u r = (inB e && (Vm.hd u && (u.all (Vm.ok1 (Vm.us e r)) && (r.all (Vm.ok1 Vm.sgn) && decide ((Vm.pt e u r).length ≤ 40))))) := by
  have h1 : u.length ≤ (Vm.pt e u r).length := by unfold Vm.pt; simp; omega
  have h2 : r.length ≤ (Vm.pt e u r).length := by
    unfold Vm.pt Vm.pr; split
    · simp_all
    · simp; omega
  have h3 : Vm.ft e u r = decide ((Vm.pt e u r).length ≤ 40) := by
    unfold Vm.ft
    by_cases h : (Vm.pt e u r).length ≤ 40
    · simp [h]; omega
    · simp [h]
  unfold Vm.rt inB
  rw [h3]
  cases decide (0 ≤ e) <;> cases decide (e < 1000000000) <;> cases decide ((Vm.pt e u r).length ≤ 40) <;> cases Vm.hd u <;> cases u.all (Vm.ok1 (Vm.us e r)) <;> cases r.all (Vm.ok1 Vm.sgn) <;> rfl

theorem us_text (e : Int) (r : List UInt8) : ((if 0 < e then (if r = [] then ByteArray.mk #[46, 43, 126] ++ ByteArray.mk #[58] else ByteArray.mk #[46, 43, 126] ++ ByteArray.mk #[58] ++ ByteArray.mk #[45]) else (if r = [] then ByteArray.mk #[46, 43, 126] else ByteArray.mk #[46, 43, 126] ++ ByteArray.mk #[45])) : ByteArray) = ⟨(Vm.us e r).toArray⟩ := by
  unfold Vm.us Vm.sgn
  split <;> split <;> rfl

theorem ba_hdx (c : UInt8) (l : List UInt8) (h : 0 < (ByteArray.mk (c :: l).toArray).size) : (ByteArray.mk (c :: l).toArray)[0]'h = c := rfl
theorem b_andf (b : Bool) : (b && false) = false := by cases b <;> rfl

attribute [local go_sem] ba_hdx in
set_option maxHeartbeats 3200000 in
set_option maxRecDepth 100000 in
theorem xright_cons (e : Int) (c : UInt8) (t r : List UInt8) (w : World) (b1 : Bool) (hin : ∀ W, Calls Tryz.prog 142 #[.int .i64 e, .int .i64 0, .int .i64 999999999] W fun x w' => x = .returned (.bool b1) ∧ w' = W)
    (m : List UInt8) (hm : m = Vm.us e r) (hu : (c :: t).length ≤ 200) (hr : r.length ≤ 200)
    (pl : List UInt8) (hp : ∀ o, Calls Tryz.prog 183 #[.agg #[.int .i64 e, .string ⟨(c :: t).toArray⟩, .string ⟨r.toArray⟩]] (w.alloc o) fun x w' => x = .returned (.string ⟨pl.toArray⟩) ∧ Below (w.alloc o).heap.size (w.alloc o) w') :
    Calls Tryz.prog 138 #[.agg #[.int .i64 e, .string ⟨(c :: t).toArray⟩, .string ⟨r.toArray⟩]] w fun x w' => x = .returned (.bool (b1 && (Vm.dg c && ((c :: t).all (Vm.ok1 m) && (r.all (Vm.ok1 Vm.sgn) && decide (pl.length ≤ 40)))))) ∧ Below w.heap.size w w' := by
  have hb : ∀ o, Below w.heap.size w (w.alloc o) := fun o => (Below.refl _ _).alloc (Nat.le_refl _) _
  obtain ⟨b2, hb2⟩ : ∃ b, b = Vm.dg c := ⟨_, rfl⟩
  obtain ⟨b3, hb3⟩ : ∃ b, b = (c :: t).all (Vm.ok1 m) := ⟨_, rfl⟩
  obtain ⟨b4, hb4⟩ : ∃ b, b = r.all (Vm.ok1 Vm.sgn) := ⟨_, rfl⟩
  have cD : ∀ W, Calls Tryz.prog 143 #[.int .u8 c.toNat] W fun x w' => x = .returned (.bool b2) ∧ w' = W := fun W => by rw [hb2]; exact xdigit_any c W
  have cU : ∀ W, Calls Tryz.prog 182 #[.string ⟨(c :: t).toArray⟩, .string ⟨m.toArray⟩] W fun x w' => x = .returned (.bool b3) ∧ w' = W := fun W => by rw [hb3]; exact xall_any _ _ W hu
  have cR : ∀ W, Calls Tryz.prog 182 #[.string ⟨r.toArray⟩, .string ⟨#[46, 43, 126]⟩] W fun x w' => x = .returned (.bool b4) ∧ w' = W := fun W => by rw [hb4]; exact xall_any r Vm.sgn W hr
  rw [← hb2, ← hb3, ← hb4]
  clear hb2 hb3 hb4
  have hmt := us_text e r
  rw [← hm] at hmt
  clear hm
  have HP := Lib.hid hp
  clear hp
  by_cases he : 0 < e
  · by_cases hr0 : r = []
    · subst hr0
      rw [if_pos he, if_pos rfl] at hmt
      go_enter Tryz.func138, Tryz.ntmps138
      go_wp2_with (first | (go_at_call 142; refine (hin _).mono ?_; rintro x w' ⟨rfl, rfl⟩) | (go_at_call 143; refine (cD _).mono ?_; rintro x w' ⟨rfl, rfl⟩) | (go_at_call 182; with_reducible refine (cU _).mono ?_; rintro x w' ⟨rfl, rfl⟩) | (go_at_call 182; with_reducible refine (cR _).mono ?_; rintro x w' ⟨rfl, rfl⟩) | (go_at_call 183; refine (HP.out _).mono ?_; rintro x w' ⟨rfl, hbw⟩))
      all_goals go_ret
      all_goals first
        | (refine ⟨ret_bool ?_, hb _⟩; simp_all; done)
        | (refine ⟨ret_bool ?_, (hb _).trans (hbw.mono (by simp))⟩; rw [Bool.eq_iff_iff]; simp_all; omega)
    · have hre : r.isEmpty = false := by cases r with
        | nil => exact absurd rfl hr0
        | cons c r => rfl
      rw [if_pos he, if_neg hr0] at hmt
      go_enter Tryz.func138, Tryz.ntmps138
      go_wp2_with (first | (go_at_call 142; refine (hin _).mono ?_; rintro x w' ⟨rfl, rfl⟩) | (go_at_call 143; refine (cD _).mono ?_; rintro x w' ⟨rfl, rfl⟩) | (go_at_call 182; with_reducible refine (cU _).mono ?_; rintro x w' ⟨rfl, rfl⟩) | (go_at_call 182; with_reducible refine (cR _).mono ?_; rintro x w' ⟨rfl, rfl⟩) | (go_at_call 183; refine (HP.out _).mono ?_; rintro x w' ⟨rfl, hbw⟩))
      all_goals go_ret
      all_goals first
        | (refine ⟨ret_bool ?_, hb _⟩; simp_all; done)
        | (refine ⟨ret_bool ?_, (hb _).trans (hbw.mono (by simp))⟩; rw [Bool.eq_iff_iff]; simp_all; omega)
  · by_cases hr0 : r = []
    · subst hr0
      rw [if_neg he, if_pos rfl] at hmt
      have cU' : ∀ W, Calls Tryz.prog 182 #[.string ⟨(c :: t).toArray⟩, .string ⟨#[46, 43, 126]⟩] W fun x w' => x = .returned (.bool b3) ∧ w' = W := fun W => by rw [hmt]; exact cU W
      clear cU hmt
      go_enter Tryz.func138, Tryz.ntmps138
      go_wp2_with (first | (go_at_call 142; refine (hin _).mono ?_; rintro x w' ⟨rfl, rfl⟩) | (go_at_call 143; refine (cD _).mono ?_; rintro x w' ⟨rfl, rfl⟩) | (go_at_call 182; with_reducible refine (cU' _).mono ?_; rintro x w' ⟨rfl, rfl⟩) | (go_at_call 182; with_reducible refine (cR _).mono ?_; rintro x w' ⟨rfl, rfl⟩) | (go_at_call 183; refine (HP.out _).mono ?_; rintro x w' ⟨rfl, hbw⟩))
      all_goals go_ret
      all_goals first
        | (refine ⟨ret_bool ?_, hb _⟩; simp_all; done)
        | (refine ⟨ret_bool ?_, (hb _).trans (hbw.mono (by simp))⟩; rw [Bool.eq_iff_iff]; simp_all; omega)
    · have hre : r.isEmpty = false := by cases r with
        | nil => exact absurd rfl hr0
        | cons c r => rfl
      rw [if_neg he, if_neg hr0] at hmt
      go_enter Tryz.func138, Tryz.ntmps138
      go_wp2_with (first | (go_at_call 142; refine (hin _).mono ?_; rintro x w' ⟨rfl, rfl⟩) | (go_at_call 143; refine (cD _).mono ?_; rintro x w' ⟨rfl, rfl⟩) | (go_at_call 182; with_reducible refine (cU _).mono ?_; rintro x w' ⟨rfl, rfl⟩) | (go_at_call 182; with_reducible refine (cR _).mono ?_; rintro x w' ⟨rfl, rfl⟩) | (go_at_call 183; refine (HP.out _).mono ?_; rintro x w' ⟨rfl, hbw⟩))
      all_goals go_ret
      all_goals first
        | (refine ⟨ret_bool ?_, hb _⟩; simp_all; done)
        | (refine ⟨ret_bool ?_, (hb _).trans (hbw.mono (by simp))⟩; rw [Bool.eq_iff_iff]; simp_all; omega)

attribute [local go_sem] ba_hdx in
set_option maxHeartbeats 1600000 in
set_option maxRecDepth 100000 in
theorem xright_nil (e : Int) (r : List UInt8) (w : World) (b1 : Bool) (hin : ∀ W, Calls Tryz.prog 142 #[.int .i64 e, .int .i64 0, .int .i64 999999999] W fun x w' => x = .returned (.bool b1) ∧ w' = W) :
    Calls Tryz.prog 138 #[.agg #[.int .i64 e, .string ⟨([] : List UInt8).toArray⟩, .string ⟨r.toArray⟩]] w fun x w' => x = .returned (.bool false) ∧ Below w.heap.size w w' := by
  have hb : ∀ o, Below w.heap.size w (w.alloc o) := fun o => (Below.refl _ _).alloc (Nat.le_refl _) _
  by_cases he : 0 < e
  all_goals
    by_cases hr0 : r = []
    · subst hr0
      go_enter Tryz.func138, Tryz.ntmps138
      go_wp2_with (go_at_call 142; refine (hin _).mono ?_; rintro x w' ⟨rfl, rfl⟩)
      all_goals go_ret
      all_goals exact ⟨rfl, hb _⟩
    · have hre : r.isEmpty = false := by cases r with
        | nil => exact absurd rfl hr0
        | cons c r => rfl
      go_enter Tryz.func138, Tryz.ntmps138
      go_wp2_with (go_at_call 142; refine (hin _).mono ?_; rintro x w' ⟨rfl, rfl⟩)
      all_goals go_ret
      all_goals exact ⟨rfl, hb _⟩

theorem xright_any (e : Int) (u r : List UInt8) (w : World) (h0 : -9223372036854775808 ≤ e) (h1 : e ≤ 9223372036854775807) (hu : u.length ≤ 200) (hr : r.length ≤ 200) (htab : Lib.TabIs Tryz.prog w "internal/strconv.uint64pow10" .u64 Lib.pow10Tab) :
    Calls Tryz.prog 138 #[.agg #[.int .i64 e, .string ⟨u.toArray⟩, .string ⟨r.toArray⟩]] w fun x w' => x = .returned (.bool (Vm.rt e u r)) ∧ Below w.heap.size w w' := by
  have hb : ∀ o, Below w.heap.size w (w.alloc o) := fun o => (Below.refl _ _).alloc (Nat.le_refl _) _
  have hT := Lib.tabBelow_of_tabIs htab
  cases u with
  | nil =>
    rw [show Vm.rt e [] r = false from rt_hd rfl]
    exact xright_nil e r w (inB e) (xin_any e)
  | cons c t =>
    rw [rt_ref]
    exact xright_cons e c t r w (inB e) (xin_any e) _ rfl hu hr _ (fun o => xprint_any e (c :: t) r _ h0 h1 hu hr (hT _ (hb o)))

end Go.Proofs.YtlldfmnoidndmaaGreatDoor
namespace Go.Proofs.YtlldfmnoidndmaaGreatDoor
open Go.RowKit Go.Shelf Go.Sort

theorem xin3_any (n lo hi : Int) (w : World) : Calls Tryz.prog 142 #[.int .i64 n, .int .i64 lo, .int .i64 hi] w fun x w' => x = .returned (.bool (decide (lo ≤ n) && decide (n ≤ hi))) ∧ w' = w := by
  go_enter Tryz.func142, Tryz.ntmps142
  go_wp2
  all_goals go_ret
  all_goals exact ⟨ret_bool (by rw [Bool.eq_iff_iff]; simp; omega), rfl⟩


set_option maxHeartbeats 800000 in
set_option maxRecDepth 100000 in
/-- A package's name, as the reference has it. -/
theorem xname_any (l : List UInt8) (w : World) (hl : l.length ≤ 1000) : Calls Tryz.prog 137 #[.string ⟨l.toArray⟩] w fun x w' => x = .returned (.bool (nmo l)) ∧ w' = w := by
  obtain ⟨r, hr⟩ : ∃ r, r = nmo l := ⟨_, rfl⟩
  have HY : Hid ((∀ j (hj : j < l.length), (if j = 0 then pby l[j] else nby l[j]) = true) → (decide ((2 : Int) ≤ l.length) && decide ((l.length : Int) ≤ 24)) = r) := fun h' => by
    rw [hr]
    unfold nmo
    cases l with
    | nil => rfl
    | cons c t =>
      have h0 := h' 0 (by simp)
      simp at h0
      have ha : (c :: t).all nby = true := by
        rw [List.all_eq_true]
        intro x hx
        obtain ⟨j, hj, rfl⟩ := List.getElem_of_mem hx
        have := h' j hj
        by_cases e : j = 0
        · subst e; simp; exact nby_p h0
        · rw [if_neg e] at this; exact this
      rw [ha, Bool.eq_iff_iff]
      simp [h0]
      omega
  have HN : Hid (∀ k (hk : k < l.length), (if k = 0 then pby l[k] else nby l[k]) = false → r = false) := fun k hk h' => by
    rw [hr]
    unfold nmo
    cases l with
    | nil => simp at hk
    | cons c t =>
      by_cases e : k = 0
      · subst e; simp at h'; simp [h']
      · rw [if_neg e] at h'
        have : (c :: t).all nby = false := by
          rw [List.all_eq_false]
          exact ⟨_, List.getElem_mem hk, by rw [h']; simp⟩
        rw [this]; simp
  rw [← hr]
  clear hr
  go_enter Tryz.func137, Tryz.ntmps137
  go_wp2
  go_loop [7] (fun i => ∃ k : Nat, k ≤ l.length ∧ i = .int .i64 k ∧ Hid (∀ j (hj : j < l.length), j < k → (if j = 0 then pby l[j] else nby l[j]) = true)) (fun i => l.length - (intOf i).toNat)
  case atStart => exact ⟨0, Nat.zero_le _, rfl, fun j _ h => absurd h (Nat.not_lt_zero _)⟩
  case round =>
    obtain ⟨k, hk, rfl, HP⟩ := hrel
    by_cases hlt : k < l.length
    · have HM : Hid ((if k = 0 then pby l[k] else nby l[k]) = true → ∀ j (hj : j < l.length), j < k + 1 → (if j = 0 then pby l[j] else nby l[j]) = true) := fun hc j hj h => by
        by_cases e : j = k
        · subst e; exact hc
        · exact HP.out j hj (by omega)
      have HN' := Lib.hid (HN.out k hlt)
      clear HN HY HP
      obtain ⟨x, hx⟩ : ∃ x, x = l[k] := ⟨_, rfl⟩
      have hbx : ∀ (h : k < (ByteArray.mk l.toArray).size), (ByteArray.mk l.toArray)[k]'h = x := fun h => hx.symm
      rw [← hx] at HM HN'
      clear hx
      go_wp2_with (go_at_call 143; refine (xdigit_any _ _).mono ?_; rintro e w' ⟨rfl, rfl⟩)
      all_goals first
        | (go_ret
           refine ⟨ret_bool (HN'.out ?_).symm, rfl⟩
           clear HM HN' hbx
           try simp only [Vm.dg_iff, beq_iff_eq, bne_iff_ne, Bool.not_eq_eq_eq_not, Bool.not_true, decide_eq_false_iff_not, ne_eq] at *
           split <;> simp [pby, nby] <;> omega)
        | (refine ⟨⟨k + 1, hlt, by go_num, HM.out ?_⟩, by simp [intOf]; omega⟩
           clear HM HN' hbx
           try simp only [Vm.dg_iff, beq_eq_false_iff_ne, bne_eq_false_iff_eq, Bool.not_eq_eq_eq_not, Bool.not_false, decide_eq_true_eq, ne_eq] at *
           split <;> simp [pby, nby] <;> omega)
    · go_wp2_with (go_at_call 142; refine (xin3_any _ _ _ _).mono ?_; rintro e w' ⟨rfl, rfl⟩)
      go_ret
      exact ⟨ret_bool (HY.out (fun j hj => HP.out j hj (by omega))), rfl⟩
end Go.Proofs.YtlldfmnoidndmaaGreatDoor

namespace Go.Proofs.YtlldfmnoidndmaaGreatDoor
open Go.RowKit Go.Shelf Go.Sort

theorem asl_at {W : World} {A : Option Addr} {n c : Nat} {l : List (List Tm)} (h : As W (.slice A n c) l) (k : Nat) (hk : k < l.length) : ∃ b o, A = some ⟨b, o, none⟩ ∧ ∃ v, W.cell? ⟨b, o + k, none⟩ = some v ∧ Ts W v l[k] := by
  rcases h.is with ⟨rfl, _⟩ | ⟨b, o, c', e, _, hf⟩
  · simp at hk
  · cases e; exact ⟨b, o, rfl, hf.c k hk⟩
theorem tk_len (l : List (List Tm)) (k : Nat) (hk : k < l.length) : (l.take (k + 1)).flatten.length = (l.take k).flatten.length + l[k].length := by
  rw [List.take_succ_eq_append_getElem hk, List.flatten_append, List.length_append]; simp
theorem tk_le (l : List (List Tm)) (k : Nat) : (l.take k).flatten.length ≤ l.flatten.length := by
  rw [show l.flatten.length = (l.take k ++ l.drop k).flatten.length from by rw [List.take_append_drop], List.flatten_append, List.length_append]; omega
theorem ask_e {l : List (List Tm)} {k : Nat} (hk : k < l.length) (h : l[k].length = 0) : ask l = false := ask_empty (by
  rw [List.all_eq_false]; exact ⟨l[k], List.getElem_mem hk, by simp [List.length_eq_zero_iff.1 h]⟩)
theorem ask_l {l : List (List Tm)} {k : Nat} (h : 30 < (l.take k).flatten.length) : ask l = false := ask_long (Nat.lt_of_lt_of_le h (tk_le l k))
theorem ask_t {l : List (List Tm)} {k j : Nat} (hk : k < l.length) (hj : j < l[k].length) (h : tok (l[k])[j] = false) : ask l = false := by
  obtain ⟨m, hm, e⟩ := List.getElem_of_mem (List.mem_flatten.2 ⟨l[k], List.getElem_mem hk, List.getElem_mem hj⟩)
  exact ask_no (k := m) (by rw [List.getElem?_eq_getElem hm, e]) h
theorem ask_y {l : List (List Tm)} (h : (l.take l.length).flatten.length ≤ 30) (h1 : ∀ k (hk : k < l.length), k < l.length → l[k].length ≠ 0 ∧ ∀ t ∈ l[k], tok t = true) : ask l = true := by
  rw [List.take_length] at h
  refine ask_yes ?_ h (fun j hj => ?_)
  · rw [List.all_eq_true]; intro x hx; obtain ⟨k, hk, rfl⟩ := List.getElem_of_mem hx
    have := (h1 k hk hk).1
    simp only [decide_eq_true_eq]; intro e; rw [e] at this; exact this rfl
  · obtain ⟨x, hx, ht⟩ := List.mem_flatten.1 (List.getElem_mem hj)
    obtain ⟨k, hk, rfl⟩ := List.getElem_of_mem hx
    exact (h1 k hk hk).2 _ ht

/-- The reference asks of a term what depend asks. -/
theorem tok_n {t : Tm} (h : nmo t.n = false) : tok t = false := by unfold tok; rw [h]; rfl
theorem tok_i {t : Tm} (h : (decide ((0 : Int) ≤ t.o) && decide (t.o ≤ 5)) = false) : tok t = false := by
  unfold tok
  have h' : ¬ (0 ≤ t.o ∧ t.o ≤ 5) := fun ⟨a, b⟩ => by simp [a, b] at h
  rw [if_neg (by omega : ¬ t.o = 0)]
  by_cases h0 : 0 < t.o
  · rw [decide_eq_false (by omega : ¬ t.o < 6)]; simp
  · rw [decide_eq_false h0]; simp
theorem tok_0 {t : Tm} (h : nmo t.n = true) (ho : t.o = 0) : tok t = (decide (t.e = 0) && (decide (t.u = []) && decide (t.r = []))) := by unfold tok; rw [h, if_pos ho]; rfl
theorem tok_r {t : Tm} (h : nmo t.n = true) (hi : (decide ((0 : Int) ≤ t.o) && decide (t.o ≤ 5)) = true) (ho : ¬ t.o = 0) : tok t = Vm.rt t.e t.u t.r := by
  simp only [Bool.and_eq_true, decide_eq_true_eq] at hi
  unfold tok; rw [h, if_neg ho, decide_eq_true (by omega : 0 < t.o), decide_eq_true (by omega : t.o < 6)]; rfl

set_option maxHeartbeats 3200000 in
set_option maxRecDepth 100000 in
theorem xasked_any (v : Value) (l : List (List Tm)) (w : World) (h : As w v l) (hX : Asx l) (hT : Tab w) :
    Calls Tryz.prog 139 #[v] w fun e w' => e = .returned (.bool (ask l)) ∧ Below w.heap.size w w' := by
  obtain ⟨r, hr⟩ : ∃ r, r = ask l := ⟨_, rfl⟩
  have HR := Lib.hid hr
  rw [← hr]
  obtain ⟨A, c, rfl⟩ := as_sl h
  have HL := Lib.hid h
  have HX := Lib.hid hX
  have HT := Lib.hid hT
  have hn := hX.n
  clear h hX hT hr
  go_enter Tryz.func139, Tryz.ntmps139
  go_wp2_with fail
  go_loopw [3, 10] (fun n i W => ∃ k : Nat, k ≤ l.length ∧ i = .int .i64 k ∧ n = .int .i64 ((l.take k).flatten.length : Nat) ∧ Below w.heap.size w W ∧ (l.take k).flatten.length ≤ 30 ∧ Hid (∀ j (hj : j < l.length), j < k → l[j].length ≠ 0 ∧ ∀ t ∈ l[j], tok t = true)) (fun _ i _ => l.length - (intOf i).toNat)
  case atStart => exact ⟨0, Nat.zero_le _, rfl, rfl, Below.refl _ _, by simp, fun j _ h => absurd h (Nat.not_lt_zero _)⟩
  case round =>
    obtain ⟨k, hkl, rfl, rfl, hW, h30, HN⟩ := hrel
    by_cases hlt : k < l.length
    · obtain ⟨b, o, rfl, xv, c0, hx⟩ := asl_at (HL.out.on hW) k hlt
      have hxm := List.getElem_mem hlt
      have hx1 := HX.out.x l[k] hxm
      have HX2 : Hid (∀ t ∈ l[k], Shn t ∧ t.n.length ≤ 1000) := fun t ht => ⟨HX.out.s l[k] hxm t ht, HX.out.m l[k] hxm t ht⟩
      have HE : Hid (l[k].length = 0 → r = false) := fun q => by rw [HR.out]; exact ask_e hlt q
      have HB : Hid (30 < (l.take k).flatten.length + l[k].length → r = false) := fun q => by rw [HR.out]; exact ask_l (k := k + 1) (by rw [tk_len l k hlt]; exact q)
      have HF : Hid (∀ j (hj : j < l[k].length), tok (l[k])[j] = false → r = false) := fun j hj q => by rw [HR.out]; exact ask_t hlt hj q
      have HK : Hid (l[k].length ≠ 0 → (∀ t ∈ l[k], tok t = true) → ∀ j (hj : j < l.length), j < k + 1 → l[j].length ≠ 0 ∧ ∀ t ∈ l[j], tok t = true) := fun q1 q2 j hj hjk => by
        by_cases e : j = k
        · subst e; exact ⟨q1, q2⟩
        · exact HN.out j hj (by omega)
      have HLn := Lib.hid (tk_len l k hlt)
      clear hxm HN
      generalize l[k] = x at hx hx1 HX2 HE HB HF HK HLn
      generalize (l.take k).flatten.length = m at h30 HB HLn ⊢
      obtain ⟨X, cX, rfl⟩ := ts_sl hx
      have HS := Lib.hid hx
      clear hx
      generalize wr = wA at *
      by_cases hx0 : x.length = 0
      · have hr := HE.out hx0
        subst hr
        go_wp2_with fail
        go_ret
        exact ⟨rfl, hW⟩
      · by_cases hm : 30 < m + x.length
        · have hr := HB.out hm
          subst hr
          go_wp2_with fail
          go_ret
          exact ⟨rfl, hW⟩
        · have e0 : ((x.length : Int) == 0) = false := by rw [beq_eq_false_iff_ne]; omega
          have e1 : decide ((30 : Int) < (m : Int) + (x.length : Int)) = false := by simp; omega
          go_wp2_with fail
          go_loopw [27] (fun i W => ∃ j : Nat, j ≤ x.length ∧ i = .int .i64 j ∧ Below wA.heap.size wA W ∧ Hid (∀ i (hi : i < x.length), i < j → tok x[i] = true)) (fun i _ => x.length - (intOf i).toNat)
          case atStart => exact ⟨0, Nat.zero_le _, rfl, Below.refl _ _, fun j _ h => absurd h (Nat.not_lt_zero _)⟩
          case round =>
            obtain ⟨j, hj, rfl, hV, HJ⟩ := hrel
            by_cases hjl : j < x.length
            · obtain ⟨bx, ox, rfl, t0, t1, t2, t3, t4⟩ := ts_at (HS.out.on hV) j hjl
              obtain ⟨hsh, hnm⟩ := HX2.out x[j] (List.getElem_mem hjl)
              have HFj : Hid (tok x[j] = false → r = false) := HF.out j hjl
              have HJ2 : Hid (tok x[j] = true → ∀ i (hi : i < x.length), i < j + 1 → tok x[i] = true) := fun q i hi hij => by
                by_cases e : i = j
                · subst e; exact q
                · exact HJ.out i hi (by omega)
              clear HJ
              generalize x[j] = t at t0 t1 t2 t3 t4 hsh hnm HFj HJ2
              have bT := bA1 wr (.cells #[.string ⟨t.n.toArray⟩, .int .i64 t.o, .int .i64 t.e, .string ⟨t.u.toArray⟩, .string ⟨t.r.toArray⟩] 125)
              have hVT := bt2 hV bT
              have hWT := bt2 hW hVT
              have cN := fun W => xname_any t.n W hnm
              have cI := fun W => xin3_any t.o 0 5 W
              have cR := xright_any t.e t.u t.r _ hsh.e0 hsh.e1 hsh.u hsh.r (tab_on HT.out hWT)
              clear bT
              cases hN : nmo t.n with
              | false =>
                have hr := HFj.out (tok_n hN)
                subst hr
                rw [hN] at cN
                clear cI cR hsh
                go_wp2_with (go_at_call 137; refine (cN _).mono ?_; rintro x w' ⟨rfl, rfl⟩)
                go_ret
                exact ⟨rfl, hWT⟩
              | true =>
                rw [hN] at cN
                cases hI : (decide ((0 : Int) ≤ t.o) && decide (t.o ≤ 5)) with
                | false =>
                  have hr := HFj.out (tok_i hI)
                  subst hr
                  rw [hI] at cI
                  clear cR hsh hI
                  go_wp2_with (first | (go_at_call 137; refine (cN _).mono ?_; rintro x w' ⟨rfl, rfl⟩) | (go_at_call 142; refine (cI _).mono ?_; rintro x w' ⟨rfl, rfl⟩))
                  go_ret
                  exact ⟨rfl, hWT⟩
                | true =>
                  rw [hI] at cI
                  by_cases ho : t.o = 0
                  · have HT0 := Lib.hid (tok_0 hN ho)
                    rw [ho] at t1 cI
                    clear cR hsh hI ho
                    go_wp2_with (first | (go_at_call 137; refine (cN _).mono ?_; rintro x w' ⟨rfl, rfl⟩) | (go_at_call 142; refine (cI _).mono ?_; rintro x w' ⟨rfl, rfl⟩))
                    case roundEnd => exact ⟨⟨j + 1, hjl, by go_num, bt2 hV (bA1 _ _), HJ2.out (by rw [HT0.out]; simp [*])⟩, by simp [intOf]; omega⟩
                    all_goals
                      go_ret
                      exact ⟨ret_bool (HFj.out (by rw [HT0.out]; simp [*])).symm, bt2 hW (bt2 hV (bA1 _ _))⟩
                  · have HTr := Lib.hid (tok_r hN hI ho)
                    have ho' : (t.o == 0) = false := by rw [beq_eq_false_iff_ne]; exact ho
                    have KT := K5.new wr (.string ⟨t.n.toArray⟩) (.int .i64 t.o) (.int .i64 t.e) (.string ⟨t.u.toArray⟩) (.string ⟨t.r.toArray⟩) 83
                    clear hsh hI
                    go_wp2_with (first | (go_at_call 137; refine (cN _).mono ?_; rintro x w' ⟨rfl, rfl⟩) | (go_at_call 142; refine (cI _).mono ?_; rintro x w' ⟨rfl, rfl⟩))
                    refine cR.mono ?_
                    rintro e w2 ⟨rfl, b2⟩
                    have hV2 := bt2 hVT b2
                    have hW2 := bt2 hW hV2
                    clear b2 hVT hWT KT
                    cases hy : Vm.rt t.e t.u t.r with
                    | true =>
                      go_wp2_with fail
                      exact ⟨⟨j + 1, hjl, by go_num, hV2, HJ2.out (by rw [HTr.out, hy])⟩, by simp [intOf]; omega⟩
                    | false =>
                      go_wp2_with fail
                      go_ret
                      exact ⟨ret_bool (HFj.out (by rw [HTr.out, hy])).symm, hW2⟩
            · have HG : Hid (∀ j (hj : j < l.length), j < k + 1 → l[j].length ≠ 0 ∧ ∀ t ∈ l[j], tok t = true) := HK.out hx0 (fun t ht => by
                obtain ⟨i, hi, rfl⟩ := List.getElem_of_mem ht
                exact HJ.out i hi (by omega))
              have hWV := bt2 hW hV
              go_wp2_with fail
              exact ⟨⟨k + 1, hlt, by go_num, by rw [HLn.out]; go_num, hWV, by rw [HLn.out]; omega, HG⟩, by simp [intOf]; omega⟩
    · have hke : k = l.length := by omega
      subst hke
      have hr : r = true := by rw [HR.out]; exact ask_y h30 HN.out
      subst hr
      go_wp2_with fail
      go_ret
      exact ⟨rfl, hW⟩
end Go.Proofs.YtlldfmnoidndmaaGreatDoor
namespace Go.Proofs.YtlldfmnoidndmaaGreatDoor
open Go.RowKit Go.Shelf Go.Sort

set_option maxHeartbeats 8000000 in
set_option maxRecDepth 100000 in
/-- The reference's. -/
theorem xpath_any (l : List UInt8) (w : World) (hl : l.length ≤ 1000) : Calls Tryz.prog 101 #[.string ⟨l.toArray⟩] w fun e w' => e = .returned (.bool (pth l)) ∧ w' = w := by
  obtain ⟨r, hr⟩ : ∃ r, r = pth l := ⟨_, rfl⟩
  rw [← hr]
  have HN : Hid (∀ k (hk : k < l.length), (pch l[k] && !bad l k) = false → r = false) := fun k hk h => by
    rw [hr]; unfold pth
    rw [Bool.and_eq_false_iff] at h
    rcases h with h | h
    · rw [show l.all pch = false from List.all_eq_false.2 ⟨_, List.getElem_mem hk, by rw [h]; simp⟩]; simp
    · have : nsl l = false := by
        cases hn : nsl l with
        | false => rfl
        | true => rw [(nsl_iff l).1 hn k hk] at h; cases h
      rw [this]; simp
  have HY : Hid ((∀ k (hk : k < l.length), (pch l[k] && !bad l k) = true) → r = ((decide (0 < l.length) && decide (l.length ≤ 60)) && lod (l.headD 0))) := fun h => by
    rw [hr]; unfold pth
    rw [show l.all pch = true from List.all_eq_true.2 (fun x hx => by obtain ⟨k, hk, rfl⟩ := List.getElem_of_mem hx; have := h k hk; rw [Bool.and_eq_true] at this; exact this.1), (nsl_iff l).2 (fun i hi => by have := h i hi; simp only [Bool.and_eq_true, Bool.not_eq_true'] at this; exact this.2)]
    simp
  clear hr
  have cD := fun (c : UInt8) W => xdigit_any c W
  have cE := fun (c : UInt8) W => xletter_any c W
  go_enter Tryz.func101, Tryz.ntmps101
  go_wp2_with fail
  go_loop [6] (fun i => ∃ k : Nat, k ≤ l.length ∧ i = .int .i64 k ∧ Hid (∀ j (hj : j < l.length), j < k → (pch l[j] && !bad l j) = true)) (fun i => l.length - (intOf i).toNat)
  case atStart => exact ⟨0, Nat.zero_le _, rfl, fun j _ h => absurd h (Nat.not_lt_zero _)⟩
  case round =>
    obtain ⟨k, hk, rfl, HP⟩ := hrel
    by_cases hlt : k < l.length
    · have HM : Hid ((pch l[k] && !bad l k) = true → ∀ j (hj : j < l.length), j < k + 1 → (pch l[j] && !bad l j) = true) := fun hc j hj h => by
        by_cases e : j = k
        · subst e; exact hc
        · exact HP.out j hj (by omega)
      have HN' := Lib.hid (HN.out k hlt)
      clear HN HY HP
      obtain ⟨x, hx⟩ : ∃ x, x = l[k] := ⟨_, rfl⟩
      have hb0 : l[k]? = some x := by rw [hx]; exact List.getElem?_eq_getElem hlt
      have hbx : ∀ (h : k < (ByteArray.mk l.toArray).size), (ByteArray.mk l.toArray)[k]'h = x := fun h => hx.symm
      rw [← hx] at HM HN'
      clear hx
      have cI := fun W => xin3_any (x.toNat : Int) 33 126 W
      by_cases g1 : 33 ≤ x.toNat ∧ x.toNat ≤ 126
      · rw [show (decide ((33 : Int) ≤ (x.toNat : Int)) && decide ((x.toNat : Int) ≤ 126)) = true from by simp; omega] at cI
        by_cases g3 : x.toNat = 44
        · have hr := HN'.out (by unfold pch; rw [decide_eq_true g3]; simp)
          subst hr
          have g3' : ((x.toNat : Int) == 44) = true := by simp; omega
          clear HM HN' hb0 g3
          go_wp2_with (go_at_call 142; with_reducible refine (cI _).mono ?_; rintro e w' ⟨rfl, rfl⟩)
          go_ret
          exact ⟨rfl, rfl⟩
        · have hp : pch x = true := by unfold pch; rw [decide_eq_true g1.1, decide_eq_true g1.2, decide_eq_false g3]; rfl
          have g3' : ((x.toNat : Int) == 44) = false := by rw [beq_eq_false_iff_ne]; omega
          by_cases g4 : x.toNat = 47
          · have hx47 : x = 47 := UInt8.toNat_inj.1 g4
            have g4' : ((x.toNat : Int) == 47) = true := by simp; omega
            clear g4
            by_cases g5 : k + 1 = l.length
            · have hr := HN'.out (by rw [hp]; unfold bad; rw [hb0, hx47, decide_eq_true g5]; rfl)
              subst hr
              have g5' : ((k : Int) == (l.length : Int) - 1) = true := by simp; omega
              clear HM HN' hb0 hx47 hp
              go_wp2_with (go_at_call 142; with_reducible refine (cI _).mono ?_; rintro e w' ⟨rfl, rfl⟩)
              go_ret
              exact ⟨rfl, rfl⟩
            · have hk1 : k + 1 < l.length := by omega
              obtain ⟨y, hy⟩ : ∃ y, y = l[k + 1] := ⟨_, rfl⟩
              have hb1 : l[k + 1]? = some y := by rw [hy]; exact List.getElem?_eq_getElem hk1
              have hby : ∀ (h : k + 1 < (ByteArray.mk l.toArray).size), (ByteArray.mk l.toArray)[k + 1]'h = y := fun h => hy.symm
              clear hy
              have g5' : ((k : Int) == (l.length : Int) - 1) = false := by rw [beq_eq_false_iff_ne]; omega
              by_cases g6 : y.toNat = 47
              · have hr := HN'.out (by rw [hp]; unfold bad; rw [hb0, hx47, hb1, UInt8.toNat_inj.1 (show y.toNat = (47 : UInt8).toNat from g6)]; simp)
                subst hr
                have g6' : ((y.toNat : Int) == 47) = true := by simp; omega
                clear HM HN' hb0 hx47 hp hb1 g6
                go_wp2_with (go_at_call 142; with_reducible refine (cI _).mono ?_; rintro e w' ⟨rfl, rfl⟩)
                go_ret
                exact ⟨rfl, rfl⟩
              · have HG := Lib.hid (HM.out (by rw [hp]; unfold bad; rw [hb1, decide_eq_false g5, decide_eq_false (p := some y = some (47 : UInt8)) (fun e => g6 (by rw [Option.some.inj e]; rfl))]; simp))
                have g6' : ((y.toNat : Int) == 47) = false := by rw [beq_eq_false_iff_ne]; omega
                clear HM HN' hb0 hx47 hp hb1
                go_wp2_with (go_at_call 142; with_reducible refine (cI _).mono ?_; rintro e w' ⟨rfl, rfl⟩)
                exact ⟨⟨k + 1, hlt, by go_num, HG⟩, by simp [intOf]; omega⟩
          · have HG := Lib.hid (HM.out (by rw [hp]; unfold bad; rw [hb0, decide_eq_false (p := some x = some (47 : UInt8)) (fun e => g4 (by rw [Option.some.inj e]; rfl))]; rfl))
            have g4' : ((x.toNat : Int) == 47) = false := by rw [beq_eq_false_iff_ne]; omega
            clear HM HN' hb0 hp
            go_wp2_with (go_at_call 142; with_reducible refine (cI _).mono ?_; rintro e w' ⟨rfl, rfl⟩)
            exact ⟨⟨k + 1, hlt, by go_num, HG⟩, by simp [intOf]; omega⟩
      · have hr := HN'.out (by
          unfold pch
          rw [show (decide (33 ≤ x.toNat) && decide (x.toNat ≤ 126)) = false from by
            rw [Bool.and_eq_false_iff]; simp only [decide_eq_false_iff_not]; omega]; rfl)
        subst hr
        rw [show (decide ((33 : Int) ≤ (x.toNat : Int)) && decide ((x.toNat : Int) ≤ 126)) = false from by
            rw [Bool.and_eq_false_iff]; simp only [decide_eq_false_iff_not]; omega] at cI
        have hw : wrap64 (x.toNat : Int) = (x.toNat : Int) := w64 _ (by omega) (by have := x.toNat_lt; omega)
        clear HM HN' hb0
        go_wp2_with (go_at_call 142; with_reducible refine (cI _).mono ?_; rintro e w' ⟨rfl, rfl⟩)
        go_ret
        exact ⟨rfl, rfl⟩
    · have HR := Lib.hid (HY.out (fun j hj => HP.out j hj (by omega)))
      clear HN HY HP
      have cI := fun W => xin3_any (l.length : Int) 1 60 W
      by_cases g : 0 < l.length ∧ l.length ≤ 60
      · rw [show (decide ((1 : Int) ≤ (l.length : Int)) && decide ((l.length : Int) ≤ 60)) = true from by simp; omega] at cI
        cases l with
        | nil => simp at g
        | cons c t =>
          have hr : r = lod c := by rw [HR.out, decide_eq_true g.1, decide_eq_true g.2]; simp
          have HR2 := Lib.hid hr
          have cI : ∀ W, Calls Tryz.prog 142 #[.int .i64 ((t.length : Int) + 1), .int .i64 1, .int .i64 60] W fun x w' => x = .returned (.bool true) ∧ w' = W := fun W => by have := cI W; simpa using this
          simp only [List.length_cons] at g hlt hl
          clear HR hr
          cases hd : Vm.dg c
          all_goals
            have cD' := fun W => cD c W
            have cE' := fun W => cE c W
            rw [hd] at cD'
            go_wp2_with (first | (go_at_call 142; with_reducible refine (cI _).mono ?_; rintro e w' ⟨rfl, rfl⟩) | (go_at_call 143; refine (cD' _).mono ?_; rintro e w' ⟨rfl, rfl⟩) | (go_at_call 144; refine (cE' _).mono ?_; rintro e w' ⟨rfl, rfl⟩))
            go_ret
            exact ⟨ret_bool (by rw [HR2.out]; unfold lod; rw [hd]; rfl), rfl⟩
      · have hr : r = false := by
          rw [HR.out, show (decide (0 < l.length) && decide (l.length ≤ 60)) = false from by
            rw [Bool.and_eq_false_iff]; simp only [decide_eq_false_iff_not]; omega]; rfl
        subst hr
        rw [show (decide ((1 : Int) ≤ (l.length : Int)) && decide ((l.length : Int) ≤ 60)) = false from by
            rw [Bool.and_eq_false_iff]; simp only [decide_eq_false_iff_not]; omega] at cI
        go_wp2_with (go_at_call 142; with_reducible refine (cI _).mono ?_; rintro e w' ⟨rfl, rfl⟩)
        go_ret
        exact ⟨rfl, rfl⟩

set_option maxHeartbeats 1600000 in
set_option maxRecDepth 100000 in
theorem xpaths_row (b o c : Nat) (l : List (List UInt8)) (w : World) (h : Sr w b o l) (hc : l.length ≤ c) (hn : l.length ≤ 1000) (hs : ∀ s ∈ l, s.length ≤ 1000) : Calls Tryz.prog 140 #[.slice (some ⟨b, o, none⟩) l.length c] w fun e w' => e = .returned (.bool (pths l)) ∧ w' = w := by
  obtain ⟨r, hr⟩ : ∃ r, r = pths l := ⟨_, rfl⟩
  rw [← hr]
  have HR := Lib.hid hr
  have HF := Lib.hid h
  have HS := Lib.hid hs
  clear h hr hs
  go_enter Tryz.func140, Tryz.ntmps140
  go_wp2_with fail
  go_loop [9] (fun i => ∃ k : Nat, k ≤ l.length ∧ i = .int .i64 k ∧ Hid (∀ j, j < l.length → j < k → pki l j = true)) (fun i => l.length - (intOf i).toNat)
  case atStart => exact ⟨0, Nat.zero_le _, rfl, fun j _ h => absurd h (Nat.not_lt_zero _)⟩
  case round =>
    obtain ⟨k, hk, rfl, HP⟩ := hrel
    by_cases hlt : k < l.length
    · have c0 := HF.out.c k hlt
      have HPK := Lib.hid (pki_at hlt)
      have HSk := HS.out l[k] (List.getElem_mem hlt)
      have HM : Hid (pki l k = true → ∀ j, j < l.length → j < k + 1 → pki l j = true) := fun hc j hj h => by
        by_cases e : j = k
        · subst e; exact hc
        · exact HP.out j hj (by omega)
      have HN : Hid (pki l k = false → r = false) := fun h => by rw [HR.out]; exact pths_no hlt h
      clear HP
      generalize l[k] = s at c0 HPK HSk
      have cP := xpath_any s w HSk
      go_wp2_with fail
      go_loop [18] (fun i => ∃ m : Nat, m ≤ k ∧ i = .int .i64 m ∧ Hid (∀ j (hj : j < l.length), j < m → l[j] ≠ s)) (fun i => k - (intOf i).toNat)
      case atStart => exact ⟨0, Nat.zero_le _, rfl, fun j _ h => absurd h (Nat.not_lt_zero _)⟩
      case round =>
        obtain ⟨m, hm, rfl, HJ⟩ := hrel
        by_cases hml : m < k
        · have hml' : m < l.length := by omega
          have c1 := HF.out.c m hml'
          have HJ2 : Hid (l[m] ≠ s → ∀ j (hj : j < l.length), j < m + 1 → l[j] ≠ s) := fun hc j hj h => by
            by_cases e : j = m
            · subst e; exact hc
            · exact HJ.out j hj (by omega)
          have HE : Hid (l[m] = s → r = false) := fun e => HN.out (by
            rw [HPK.out, show (l.take k).contains s = true from by
              rw [List.contains_iff_mem, ← e]; exact List.mem_take_iff_getElem.2 ⟨m, by omega, rfl⟩]; simp)
          clear HJ HM HN HPK
          generalize l[m] = u at c1 HJ2 HE
          by_cases he : u = s
          · have hr := HE.out he
            subst hr
            have he' : (s == u) = true := by simp [he]
            clear HE HJ2
            subst he
            go_wp2_with fail
            go_ret
            exact ⟨rfl, rfl⟩
          · have HG := Lib.hid (HJ2.out he)
            have he' : (s == u) = false := by rw [beq_eq_false_iff_ne]; exact fun e => he e.symm
            clear HE HJ2 he
            go_wp2_with fail
            exact ⟨⟨m + 1, hml, by go_num, HG⟩, by simp [intOf]; omega⟩
        · have HC : Hid ((l.take k).contains s = false) := by
            show (l.take k).contains s = false
            cases hc : (l.take k).contains s with
            | false => rfl
            | true =>
              rw [List.contains_iff_mem] at hc
              obtain ⟨j, hj, e⟩ := List.mem_take_iff_getElem.1 hc
              exact absurd e (HJ.out j (by omega) (by omega))
          have HPK2 : Hid (pki l k = pth s) := by show _ = _; rw [HPK.out, HC.out]; simp
          clear HJ HC HPK
          cases hy : pth s with
          | false =>
            have hr := HN.out (by rw [HPK2.out, hy])
            subst hr
            rw [hy] at cP
            go_wp2_with (go_at_call 101; refine cP.mono ?_; rintro e w' ⟨rfl, rfl⟩)
            go_ret
            exact ⟨rfl, rfl⟩
          | true =>
            have HG := Lib.hid (HM.out (by rw [HPK2.out, hy]))
            rw [hy] at cP
            go_wp2_with (go_at_call 101; refine cP.mono ?_; rintro e w' ⟨rfl, rfl⟩)
            exact ⟨⟨k + 1, hlt, by go_num, HG⟩, by simp [intOf]; omega⟩
    · have hr : r = decide (l.length ≤ 20) := by rw [HR.out, pths_yes (fun i hi => HP.out i hi (by omega))]
      have HR2 := Lib.hid hr
      clear hr
      go_wp2_with fail
      go_ret
      exact ⟨ret_bool (by rw [HR2.out, Bool.eq_iff_iff]; simp; omega), rfl⟩
theorem xpaths_nil (A : Option Addr) (c : Nat) (w : World) : Calls Tryz.prog 140 #[.slice A 0 c] w fun e w' => e = .returned (.bool true) ∧ w' = w := by
  go_enter Tryz.func140, Tryz.ntmps140
  go_wp2
  refine wp_loop_rounds 1 ?_
  rw [rounds_succ]
  go_wp2
  go_ret
  exact ⟨rfl, rfl⟩
theorem xpaths_any (v : Value) (l : List (List UInt8)) (w : World) (h : Ss w v l) (hn : l.length ≤ 1000) (hs : ∀ s ∈ l, s.length ≤ 1000) : Calls Tryz.prog 140 #[v] w fun e w' => e = .returned (.bool (pths l)) ∧ w' = w := by
  rcases h.is with ⟨rfl, A, c, rfl⟩ | ⟨b, o, c, rfl, hc, hf⟩
  · exact xpaths_nil A c w
  · exact xpaths_row b o c l w hf hc hn hs

end Go.Proofs.YtlldfmnoidndmaaGreatDoor
namespace Go.Proofs.YtlldfmnoidndmaaGreatDoor
open Go.RowKit Go.Shelf Go.Sort

theorem txs_f {l : List (List UInt8)} (h : txs l = true) : l.length ≤ 1000 ∧ ∀ s ∈ l, s.length ≤ 1000 := by
  unfold txs at h
  simp only [Bool.and_eq_true, decide_eq_true_eq, List.all_eq_true] at h
  exact ⟨by omega, fun s hs => by have := h.2 s hs; omega⟩
theorem al4 {W : World} {v0 v1 v2 v3 : Value} {x0 x1 x2 x3 : List Tm} (h0 : Ts W v0 x0) (h1 : Ts W v1 x1) (h2 : Ts W v2 x2) (h3 : Ts W v3 x3) : Al (W.alloc (.cells #[v0, v1, v2, v3] 39)) W.heap.size 0 [x0, x1, x2, x3] :=
  ⟨by simp, fun i hi => by
    have hb := bA1 W (.cells #[v0, v1, v2, v3] 39)
    match i, hi with
    | 0, _ => exact ⟨v0, by simp, h0.on hb⟩
    | 1, _ => exact ⟨v1, by simp, h1.on hb⟩
    | 2, _ => exact ⟨v2, by simp, h2.on hb⟩
    | 3, _ => exact ⟨v3, by simp, h3.on hb⟩⟩
/-- What the reference asks, in its order. -/
def ch6 (p : Pck) : Bool := nmo p.o.n && (Vm.rt p.o.e p.o.u p.o.r && (ask p.D && (ask p.A && (pths p.S && pths p.L))))
def l4 (p : Pck) : List (List Tm) := [p.G, p.B, p.R, p.o.P]
def pv3 (t : Tm) : Bool := decide (t.o = 0) || decide (t.o = 3)
theorem vg_pv (t : Tm) : vg t = !pv3 t := by unfold vg pv3; simp
theorem says_eq (p : Pck) : rok p = ((ch6 p && (l4 p).all fun x => ask (sing x)) && p.o.P.all pv3) := by
  unfold rok ch6 l4
  rw [show (!(p.o.P.any vg)) = p.o.P.all pv3 from by
    rw [Bool.eq_iff_iff]; simp [List.any_eq_false, vg_pv]]
  simp only [List.all_cons, List.all_nil, Bool.and_true]
  cases nmo p.o.n <;> cases Vm.rt p.o.e p.o.u p.o.r <;> cases ask p.D <;> cases ask p.A <;> cases ask (sing p.G) <;> cases ask (sing p.B) <;> cases ask (sing p.R) <;> cases ask (sing p.o.P) <;> cases p.o.P.all pv3 <;> cases pths p.S <;> cases pths p.L <;> rfl

theorem l4_asx {p : Pck} (h : Pg p) (k : Nat) (hk : k < (l4 p).length) : Asx (sing (l4 p)[k]) := by
  match k, hk with
  | 0, _ => exact h.G
  | 1, _ => exact h.B
  | 2, _ => exact h.R
  | 3, _ => exact h.P
theorem all_up {α : Type} (f : α → Bool) (l : List α) (k : Nat) (hk : k < l.length) (c : Bool) : (c && (l.take (k + 1)).all f) = ((c && (l.take k).all f) && f l[k]) := by
  rw [List.take_succ_eq_append_getElem hk, List.all_append]; simp [Bool.and_assoc]
theorem sing_le {m : List Tm} (h : Asx (sing m)) : m.length ≤ 40 := by have := h.n; simpa [sing] using this

set_option maxHeartbeats 12800000 in
set_option maxRecDepth 100000 in
theorem xsays_any (p : Pck) (vD vA vG vB vR vP vS vL vF : Value) (w : World) (hz : Pz w p vD vA vG vB vR vP vS vL vF) (hp : Pg p) (hT : Tab w) : Calls Tryz.prog 100 #[pkv p.o.n p.o.e p.o.u p.o.r vD vA vG vB vR vP vS vL vF] w fun x w' => x = .returned (.bool (rok p)) ∧ Below w.heap.size w w' := by
  have c0 := b1c w (pko p.o.n p.o.e p.o.u p.o.r vD vA vG vB vR vP vS vL vF)
  have B0 := Lib.hid (pb_new w p vD vA vG vB vR vP vS vL vF)
  have Z0 := Lib.hid (hz.on c0)
  have HT := Lib.hid hT
  have HG := Lib.hid hp
  obtain ⟨r, hr⟩ : ∃ r, r = rok p := ⟨_, rfl⟩
  rw [← hr]
  obtain ⟨cc, hcc⟩ : ∃ cc, cc = ch6 p := ⟨_, rfl⟩
  have HS : Hid (r = ((cc && (l4 p).all fun x => ask (sing x)) && p.o.P.all pv3)) := by show r = _; rw [hr, says_eq, hcc]
  have HR : Hid (cc = (nmo p.o.n && (Vm.rt p.o.e p.o.u p.o.r && (ask p.D && (ask p.A && (pths p.S && pths p.L)))))) := hcc
  have cN := fun W => xname_any p.o.n W (by have := HG.out.n; omega)
  have q9 : ∃ P1 P2, vP = .slice P1 p.o.P.length P2 := ts_sl Z0.out.P
  obtain ⟨P1, P2, rfl⟩ := q9
  obtain ⟨G1, G2, rfl⟩ := ts_sl Z0.out.G
  obtain ⟨B1, B2, rfl⟩ := ts_sl Z0.out.B
  obtain ⟨R1, R2, rfl⟩ := ts_sl Z0.out.R
  clear hz hr hT hp hcc
  go_enter Tryz.func100, Tryz.ntmps100
  generalize nmo p.o.n = y at HR cN
  go_wp2_with fail
  refine (cN _).mono ?_
  rintro x w1 ⟨rfl, rfl⟩
  have bw := Below.refl (w.alloc (pko p.o.n p.o.e p.o.u p.o.r vD vA (.slice G1 p.G.length G2) (.slice B1 p.B.length B2) (.slice R1 p.R.length R2) (.slice P1 p.o.P.length P2) vS vL vF)).heap.size (w.alloc (pko p.o.n p.o.e p.o.u p.o.r vD vA (.slice G1 p.G.length G2) (.slice B1 p.B.length B2) (.slice R1 p.R.length R2) (.slice P1 p.o.P.length P2) vS vL vF))
  clear cN
  generalize (w.alloc (pko p.o.n p.o.e p.o.u p.o.r vD vA (.slice G1 p.G.length G2) (.slice B1 p.B.length B2) (.slice R1 p.R.length R2) (.slice P1 p.o.P.length P2) vS vL vF)) = w1 at B0 Z0 c0 bw ⊢
  cases y
  case' false =>
    have HC : Hid (false = cc) := Lib.hid (Eq.symm (show cc = false from HR.out))
    clear HR
    have BX := Lib.hid (B0.out.on bw)
    have ZX := Lib.hid (Z0.out.on bw)
    have cX := bon c0 bw
    clear B0 Z0 bw c0
    have k6 := BX.out.c6
    have k7 := BX.out.c7
    have k8 := BX.out.c8
    have k9 := BX.out.c9
    generalize w1 = wX at BX ZX cX k6 k7 k8 k9 ⊢
    go_wp2_with fail
  case' true =>
    replace HR : Hid (cc = (Vm.rt p.o.e p.o.u p.o.r && (ask p.D && (ask p.A && (pths p.S && (pths p.L)))))) := HR
    have c1 := bon c0 bw
    have B1 := Lib.hid (B0.out.on bw)
    have Z1 := Lib.hid (Z0.out.on bw)
    clear B0 Z0 bw c0
    have k1 := B1.out.c1
    have k2 := B1.out.c2
    have k3 := B1.out.c3
    have cT := Lib.hid (xright_any p.o.e p.o.u p.o.r w1 HG.out.e0 HG.out.e1 (by have := HG.out.u; omega) (by have := HG.out.r; omega) (tab_on HT.out c1))
    generalize Vm.rt p.o.e p.o.u p.o.r = y at HR cT
    go_wp2_with fail
    refine cT.out.mono ?_
    rintro x w2 ⟨rfl, bw⟩
    clear cT k1 k2 k3
    cases y
    case' false =>
      have HC : Hid (false = cc) := Lib.hid (Eq.symm (show cc = false from HR.out))
      clear HR
      have BX := Lib.hid (B1.out.on bw)
      have ZX := Lib.hid (Z1.out.on bw)
      have cX := bon c1 bw
      clear B1 Z1 bw c1
      have k6 := BX.out.c6
      have k7 := BX.out.c7
      have k8 := BX.out.c8
      have k9 := BX.out.c9
      generalize w2 = wX at BX ZX cX k6 k7 k8 k9 ⊢
      go_wp2_with fail
    case' true =>
      replace HR : Hid (cc = (ask p.D && (ask p.A && (pths p.S && (pths p.L))))) := HR
      have c2 := bon c1 bw
      have B2 := Lib.hid (B1.out.on bw)
      have Z2 := Lib.hid (Z1.out.on bw)
      clear B1 Z1 bw c1
      have k4 := B2.out.c4
      have cT := Lib.hid (xasked_any vD p.D w2 Z2.out.D HG.out.D (tab_on HT.out c2))
      generalize ask p.D = y at HR cT
      go_wp2_with fail
      refine cT.out.mono ?_
      rintro x w3 ⟨rfl, bw⟩
      clear cT k4
      cases y
      case' false =>
        have HC : Hid (false = cc) := Lib.hid (Eq.symm (show cc = false from HR.out))
        clear HR
        have BX := Lib.hid (B2.out.on bw)
        have ZX := Lib.hid (Z2.out.on bw)
        have cX := bon c2 bw
        clear B2 Z2 bw c2
        have k6 := BX.out.c6
        have k7 := BX.out.c7
        have k8 := BX.out.c8
        have k9 := BX.out.c9
        generalize w3 = wX at BX ZX cX k6 k7 k8 k9 ⊢
        go_wp2_with fail
      case' true =>
        replace HR : Hid (cc = (ask p.A && (pths p.S && (pths p.L)))) := HR
        have c3 := bon c2 bw
        have B3 := Lib.hid (B2.out.on bw)
        have Z3 := Lib.hid (Z2.out.on bw)
        clear B2 Z2 bw c2
        have k5 := B3.out.c5
        have cT := Lib.hid (xasked_any vA p.A w3 Z3.out.A HG.out.A (tab_on HT.out c3))
        generalize ask p.A = y at HR cT
        go_wp2_with fail
        refine cT.out.mono ?_
        rintro x w4 ⟨rfl, bw⟩
        clear cT k5
        cases y
        case' false =>
          have HC : Hid (false = cc) := Lib.hid (Eq.symm (show cc = false from HR.out))
          clear HR
          have BX := Lib.hid (B3.out.on bw)
          have ZX := Lib.hid (Z3.out.on bw)
          have cX := bon c3 bw
          clear B3 Z3 bw c3
          have k6 := BX.out.c6
          have k7 := BX.out.c7
          have k8 := BX.out.c8
          have k9 := BX.out.c9
          generalize w4 = wX at BX ZX cX k6 k7 k8 k9 ⊢
          go_wp2_with fail
        case' true =>
          replace HR : Hid (cc = (pths p.S && (pths p.L))) := HR
          have c4 := bon c3 bw
          have B4 := Lib.hid (B3.out.on bw)
          have Z4 := Lib.hid (Z3.out.on bw)
          clear B3 Z3 bw c3
          have k10 := B4.out.c10
          have cT := Lib.hid (xpaths_any vS p.S w4 Z4.out.S (txs_f HG.out.S).1 (txs_f HG.out.S).2)
          generalize pths p.S = y at HR cT
          go_wp2_with fail
          refine cT.out.mono ?_
          rintro x w5 ⟨rfl, rfl⟩
          have bw := Below.refl w5.heap.size w5
          clear cT k10
          cases y
          case' false =>
            have HC : Hid (false = cc) := Lib.hid (Eq.symm (show cc = false from HR.out))
            clear HR
            have BX := Lib.hid (B4.out.on bw)
            have ZX := Lib.hid (Z4.out.on bw)
            have cX := bon c4 bw
            clear B4 Z4 bw c4
            have k6 := BX.out.c6
            have k7 := BX.out.c7
            have k8 := BX.out.c8
            have k9 := BX.out.c9
            generalize w5 = wX at BX ZX cX k6 k7 k8 k9 ⊢
            go_wp2_with fail
          case' true =>
            replace HR : Hid (cc = (pths p.L)) := HR
            have c5 := bon c4 bw
            have B5 := Lib.hid (B4.out.on bw)
            have Z5 := Lib.hid (Z4.out.on bw)
            clear B4 Z4 bw c4
            have k11 := B5.out.c11
            have cT := Lib.hid (xpaths_any vL p.L w5 Z5.out.L (txs_f HG.out.L).1 (txs_f HG.out.L).2)
            generalize pths p.L = y at HR cT
            go_wp2_with fail
            refine cT.out.mono ?_
            rintro x w6 ⟨rfl, rfl⟩
            have bw := Below.refl w6.heap.size w6
            clear cT k11
            have HC : Hid (y = cc) := Lib.hid (Eq.symm (show cc = y from HR.out))
            clear HR
            have BX := Lib.hid (B5.out.on bw)
            have ZX := Lib.hid (Z5.out.on bw)
            have cX := bon c5 bw
            clear B5 Z5 bw c5
            have k6 := BX.out.c6
            have k7 := BX.out.c7
            have k8 := BX.out.c8
            have k9 := BX.out.c9
            generalize w6 = wX at BX ZX cX k6 k7 k8 k9 ⊢
            go_wp2_with fail
  all_goals
    have hAl := al4 ZX.out.G ZX.out.B ZX.out.R ZX.out.P
    have bX4 := bA1 wX (.cells #[.slice G1 p.G.length G2, .slice B1 p.B.length B2, .slice R1 p.R.length R2, .slice P1 p.o.P.length P2] 39)
    have KX := Lib.hid (BX.out.on bX4)
    have TP := Lib.hid (ZX.out.P.on bX4)
    have cX4 := bon cX bX4
    have HA : Hid (Al (wX.alloc (.cells #[.slice G1 p.G.length G2, .slice B1 p.B.length B2, .slice R1 p.R.length R2, .slice P1 p.o.P.length P2] 39)) wX.heap.size 0 (l4 p)) := hAl
    have hl4 : (l4 p).length = 4 := rfl
    have hPl := sing_le HG.out.P
    clear hAl bX4 BX ZX cX k6 k7 k8 k9
    generalize wX.alloc (.cells #[.slice G1 p.G.length G2, .slice B1 p.B.length B2, .slice R1 p.R.length R2, .slice P1 p.o.P.length P2] 39) = w4 at KX TP cX4 HA ⊢
    generalize wX.heap.size = bX at HA ⊢
    go_loopw [3, 46] (fun ok i W => ∃ (k : Nat) (z : Bool), k ≤ 4 ∧ i = .int .i64 k ∧ ok = .bool z ∧ Below w4.heap.size w4 W ∧ Hid (z = (cc && ((l4 p).take k).all fun x => ask (sing x)))) (fun _ i _ => 4 - (intOf i).toNat)
    case atStart => exact ⟨0, _, by omega, rfl, rfl, Below.refl _ _, by show _ = _; rw [← HC.out]; simp⟩
    case round =>
      obtain ⟨k, z, hk, rfl, rfl, hW, HY⟩ := hrel
      by_cases hlt : k < 4
      · obtain ⟨xv, c0, hx⟩ := (HA.out.on hW).c k (by rw [hl4]; exact hlt)
        have hAx := l4_asx HG.out k (by rw [hl4]; exact hlt)
        have HU := Lib.hid (all_up (fun x => ask (sing x)) (l4 p) k (by rw [hl4]; exact hlt) cc)
        generalize (l4 p)[k]'(by rw [hl4]; exact hlt) = x at hx hAx HU
        obtain ⟨X1, X2, rfl⟩ := ts_sl hx
        have hx40 := sing_le hAx
        rw [Nat.zero_add] at c0
        cases z with
        | false =>
          have HY2 : Hid (false = (cc && ((l4 p).take (k + 1)).all fun x => ask (sing x))) := by show _ = _; rw [HU.out, ← HY.out]; rfl
          clear hx hAx HU HY
          go_wp2_with fail
          exact ⟨⟨k + 1, false, hlt, by go_num, rfl, hW, HY2⟩, by simp [intOf]; omega⟩
        | true =>
          have HY2 : Hid (ask (sing x) = (cc && ((l4 p).take (k + 1)).all fun x => ask (sing x))) := by show _ = _; rw [HU.out, ← HY.out]; rfl
          have cS := xsing_any _ x wr hx (by omega)
          have cA := fun S W (hS : As W S (sing x)) (hV : Below w4.heap.size w4 W) => xasked_any S (sing x) W hS hAx (tab_on HT.out (bon cX4 hV))
          clear hx hAx HU HY
          generalize ask (sing x) = q at HY2 cA
          go_wp2_with fail
          refine cS.mono ?_
          rintro e w5 ⟨S, rfl, hS, b5⟩
          have hW5 := bon hW b5
          have cA' := cA S w5 hS hW5
          obtain ⟨S1, S2, rfl⟩ := as_sl hS
          clear hS cA cS b5
          go_wp2_with fail
          refine cA'.mono ?_
          rintro e w6 ⟨rfl, b6⟩
          have hW6 := bon hW5 b6
          clear cA' b6
          go_wp2_with fail
          exact ⟨⟨k + 1, q, hlt, by go_num, rfl, hW6, HY2⟩, by simp [intOf]; omega⟩
      · obtain rfl : k = 4 := by omega
        have k9 := (KX.out.on hW).c9
        have TP2 := Lib.hid (TP.out.on hW)
        have cW := bon cX4 hW
        have HZ : Hid (r = (z && p.o.P.all pv3)) := by show _ = _; rw [HS.out, HY.out, show (l4 p).take 4 = l4 p from rfl]
        clear HY HA TP KX hW
        generalize wr = wV at *
        go_wp2_with fail
        go_loopw [3, 60] (fun ok i W => ∃ (m : Nat) (y : Bool), m ≤ p.o.P.length ∧ i = .int .i64 m ∧ ok = .bool y ∧ Below wV.heap.size wV W ∧ Hid (y = (z && (p.o.P.take m).all pv3))) (fun _ i _ => p.o.P.length - (intOf i).toNat)
        case atStart => exact ⟨0, _, by omega, rfl, rfl, Below.refl _ _, by show _ = _; simp⟩
        case round =>
          obtain ⟨m, y, hm, rfl, rfl, hU, HY⟩ := hrel
          by_cases hml : m < p.o.P.length
          · obtain ⟨bx, ox, rfl, t0, t1, t2, t3, t4⟩ := ts_at (TP2.out.on hU) m hml
            have HU2 := Lib.hid (all_up pv3 p.o.P m hml z)
            generalize p.o.P[m] = t at t0 t1 t2 t3 t4 HU2
            have HV := Lib.hid (bon hU (bA1 wr (.cells #[.string ⟨t.n.toArray⟩, .int .i64 t.o, .int .i64 t.e, .string ⟨t.u.toArray⟩, .string ⟨t.r.toArray⟩] 125)))
            cases y with
            | false =>
              have HY2 : Hid (false = (z && (p.o.P.take (m + 1)).all pv3)) := by show _ = _; rw [HU2.out, ← HY.out]; rfl
              clear HU2 HY
              go_wp2_with fail
              exact ⟨⟨m + 1, false, hml, by go_num, rfl, HV.out, HY2⟩, by simp [intOf]; omega⟩
            | true =>
              have HY2 : Hid (pv3 t = (z && (p.o.P.take (m + 1)).all pv3)) := by show _ = _; rw [HU2.out, ← HY.out]; rfl
              clear HU2 HY
              by_cases o0 : t.o = 0
              · have o0' : (t.o == 0) = true := by simp [o0]
                have HY3 : Hid (true = (z && (p.o.P.take (m + 1)).all pv3)) := by show _ = _; rw [← HY2.out]; unfold pv3; rw [decide_eq_true o0]; rfl
                clear o0
                go_wp2_with fail
                exact ⟨⟨m + 1, true, hml, by go_num, rfl, HV.out, HY3⟩, by simp [intOf]; omega⟩
              · have o0' : (t.o == 0) = false := by rw [beq_eq_false_iff_ne]; exact o0
                have HY3 : Hid ((t.o == 3) = (z && (p.o.P.take (m + 1)).all pv3)) := by show _ = _; rw [← HY2.out]; unfold pv3; rw [decide_eq_false o0, Bool.eq_iff_iff]; simp
                clear o0
                go_wp2_with fail
                exact ⟨⟨m + 1, _, hml, by go_num, rfl, HV.out, HY3⟩, by simp [intOf]; omega⟩
          · obtain rfl : m = p.o.P.length := by omega
            have hr : r = y := by rw [HZ.out, HY.out, List.take_length]
            subst hr
            have cE := bon cW hU
            go_wp2_with fail
            go_ret
            exact ⟨rfl, cE⟩
end Go.Proofs.YtlldfmnoidndmaaGreatDoor
namespace Go.Proofs.YtlldfmnoidndmaaGreatDoor
open Go.RowKit Go.Shelf Go.Sort

theorem ss_at {W : World} {A : Option Addr} {n c : Nat} {l : List (List UInt8)} (h : Ss W (.slice A n c) l) (k : Nat) (hk : k < l.length) : ∃ b o, A = some ⟨b, o, none⟩ ∧ W.cell? ⟨b, o + k, none⟩ = some (.string ⟨l[k].toArray⟩) := by
  rcases h.is with ⟨rfl, _⟩ | ⟨b, o, c', e, _, hf⟩
  · simp at hk
  · cases e; exact ⟨b, o, rfl, hf.c k hk⟩
theorem fs_at {W : World} {A : Option Addr} {n c : Nat} {l : List Fl2} (h : Fs W (.slice A n c) l) (k : Nat) (hk : k < l.length) : ∃ b o, A = some ⟨b, o, none⟩ ∧ W.cell? ⟨b, o + k * 2, none⟩ = some (.string ⟨l[k].1.toArray⟩) ∧ W.cell? ⟨b, o + k * 2 + 1, none⟩ = some (.string ⟨l[k].2.toArray⟩) := by
  rcases h.is with ⟨rfl, _⟩ | ⟨b, o, c', h1, _, h2⟩
  · exact absurd hk (Nat.not_lt_zero _)
  · cases h1; exact ⟨b, o, rfl, h2.c0 k hk, h2.c1 k hk⟩
theorem any_up (F : List Fl2) (s : List UInt8) (k : Nat) (hk : k < F.length) : ((F.take (k + 1)).any fun f => decide (f.1 = s)) = (((F.take k).any fun f => decide (f.1 = s)) || decide (F[k].1 = s)) := by
  rw [List.take_succ_eq_append_getElem hk, List.any_append]; simp

set_option maxHeartbeats 12800000 in
set_option maxRecDepth 100000 in
theorem xarch_any (p : Pck) (vD vA vG vB vR vP vS vL vF : Value) (w : World) (hz : Pz w p vD vA vG vB vR vP vS vL vF) (hp : Pg p) (hT : Tab w) : Calls Tryz.prog 55 #[pkv p.o.n p.o.e p.o.u p.o.r vD vA vG vB vR vP vS vL vF] w fun x w' => x = .returned (.bool (aok p)) ∧ Below w.heap.size w w' := by
  have c0 := b1c w (pko p.o.n p.o.e p.o.u p.o.r vD vA vG vB vR vP vS vL vF)
  have B0 := Lib.hid (pb_new w p vD vA vG vB vR vP vS vL vF)
  have cR := xsays_any p vD vA vG vB vR vP vS vL vF _ (hz.on c0) hp (tab_on hT c0)
  obtain ⟨r, hr⟩ : ∃ r, r = aok p := ⟨_, rfl⟩
  rw [← hr]
  have HR : Hid (r = (rok p && (fk p.F && stg p.F p.S))) := hr
  have HZ := Lib.hid hz
  have HFl := Lib.hid (fls_p hp.F)
  have HTx := Lib.hid (txs_p hp.S)
  have hF30 := HFl.out.1
  have hS40 := HTx.out.1
  obtain ⟨F1, F2, hvF⟩ := fs_sl hz.F
  obtain ⟨S1, S2, hvS⟩ := ss_sl hz.S
  obtain ⟨D1, D2, hvD⟩ := as_sl hz.D
  obtain ⟨A1, A2, hvA⟩ := as_sl hz.A
  obtain ⟨G1, G2, hvG⟩ := ts_sl hz.G
  obtain ⟨Q1, Q2, hvB⟩ := ts_sl hz.B
  obtain ⟨R1, R2, hvR⟩ := ts_sl hz.R
  obtain ⟨P1, P2, hvP⟩ := ts_sl hz.P
  obtain ⟨L1, L2, hvL⟩ := ss_sl hz.L
  subst hvF hvS hvD hvA hvG hvB hvR hvP hvL
  clear hz hp hT hr
  go_enter Tryz.func55, Tryz.ntmps55
  go_wp2_with fail
  refine cR.mono ?_
  rintro x w1 ⟨rfl, b1⟩
  have k1 := bon c0 b1
  have B1 := Lib.hid (B0.out.on b1)
  have q12 := B1.out.c12
  have hlt1 : w.heap.size < w1.heap.size := block_lt_of_cell q12
  clear cR B0 b1 c0
  cases hrk : rok p with
  | false =>
    rw [hrk] at HR
    have hr0 : r = false := HR.out
    subst hr0
    go_wp2_with fail
    go_ret
    exact ⟨rfl, k1⟩
  | true =>
    rw [hrk] at HR
    have HR2 : Hid (r = (fk p.F && stg p.F p.S)) := HR
    clear HR
    by_cases hn : p.F.length ≤ 20
    · have HFs := Lib.hid (HZ.out.F.on k1)
      have HSs := Lib.hid (HZ.out.S.on k1)
      go_wp2_with fail
      go_loopw [24] (fun v W => ∃ i : Nat, i ≤ p.F.length ∧ v = .int .i64 i ∧ Below w1.heap.size w1 W ∧ Hid (∀ j (hj : j < p.F.length), j < i → pth p.F[j].1 = true ∧ ∀ m, m < p.F.length → xki p.F j m = false)) (fun v _ => p.F.length - (intOf v).toNat)
      case atStart => exact ⟨0, Nat.zero_le _, rfl, Below.refl _ _, fun j _ h => absurd h (Nat.not_lt_zero _)⟩
      case round =>
        obtain ⟨i, hi, rfl, hW, HP⟩ := hrel
        by_cases hlt : i < p.F.length
        · obtain ⟨fb, fo, rfl, f0, f1⟩ := fs_at (HFs.out.on hW) i hlt
          have hfl := (HFl.out.2 p.F[i] (List.getElem_mem hlt)).1
          have HPth : Hid (pth p.F[i].1 = false → r = false) := fun hh => by rw [HR2.out, fk_path hlt hh]; rfl
          have HSt : Hid (pth p.F[i].1 = true → (∀ m, m < p.F.length → xki p.F i m = false) → ∀ j (hj : j < p.F.length), j < i + 1 → pth p.F[j].1 = true ∧ ∀ m, m < p.F.length → xki p.F j m = false) := fun h1 h2 j hj hjl => by
            by_cases e : j = i
            · subst e; exact ⟨h1, h2⟩
            · exact HP.out j hj (by omega)
          have HBad : Hid (∀ m (hm : m < p.F.length), xki p.F i m = true → r = false) := fun m hm hh => by rw [HR2.out, fk_bad hlt hm hh]; rfl
          have HXk : Hid (∀ m (hm : m < p.F.length), xki p.F i m = (!decide (i = m) && (decide (p.F[i].1 = p.F[m].1) || bnt p.F[m].1 p.F[i].1))) := fun m hm => xki_at hlt hm
          generalize p.F[i] = f at f0 f1 hfl HPth HSt HXk
          have hb1 := bA1 wr (flo f)
          have cP := xpath_any f.1 (wr.alloc (flo f)) (by omega)
          have q12 := (B1.out.on hW).c12
          have hltw : w.heap.size < wr.heap.size := Nat.lt_of_lt_of_le hlt1 hW.size
          have HW1 := Lib.hid (hW.trans (hb1.mono hW.size))
          have HX1 : Hid ((wr.alloc (flo f)).cell? ⟨wr.heap.size, 0, none⟩ = some (.string ⟨f.1.toArray⟩)) := by show _ = _; simp
          have hltx : wr.heap.size < (wr.alloc (flo f)).heap.size := by simp
          clear hb1 HP hW
          cases hpp : pth f.1 with
          | false =>
            rw [hpp] at cP
            have hr0 : r = false := HPth.out hpp
            subst hr0
            have hfin := bon k1 HW1.out
            go_wp2_with fail
            refine cP.mono ?_
            rintro x w2 ⟨rfl, rfl⟩
            go_wp2_with fail
            go_ret
            exact ⟨rfl, hfin⟩
          | true =>
            rw [hpp] at cP
            have HSt2 := Lib.hid (HSt.out hpp)
            clear HSt HPth
            go_wp2_with fail
            refine cP.mono ?_
            rintro x w2 ⟨rfl, rfl⟩
            clear cP
            go_wp2_with fail
            generalize wr.alloc (flo f) = W2 at HW1 HX1 hltx ⊢
            generalize wr.heap.size = bx at HX1 hltx hltw ⊢
            go_loopw [36] (fun v W => ∃ m : Nat, m ≤ p.F.length ∧ v = .int .i64 m ∧ Below W2.heap.size W2 W ∧ Hid (∀ j, j < m → xki p.F i j = false)) (fun v _ => p.F.length - (intOf v).toNat)
            case atStart => exact ⟨0, Nat.zero_le _, rfl, Below.refl _ _, fun j h => absurd h (Nat.not_lt_zero _)⟩
            case round =>
              obtain ⟨m, hm, rfl, hV, HJ⟩ := hrel
              have hWV := HW1.out.trans (hV.mono HW1.out.size)
              by_cases hml : m < p.F.length
              · obtain ⟨fb', fo', hfe, g0, g1⟩ := fs_at (HFs.out.on hWV) m hml
                cases hfe
                have hgl := (HFl.out.2 p.F[m] (List.getElem_mem hml)).1
                have HK := Lib.hid (HXk.out m hml)
                have HB := Lib.hid (HBad.out m hml)
                have HS3 : Hid (xki p.F i m = false → ∀ j, j < m + 1 → xki p.F i j = false) := fun h1 j hj => by
                  by_cases e : j = m
                  · subst e; exact h1
                  · exact HJ.out j (by omega)
                generalize p.F[m] = g at g0 g1 hgl HK
                have hx0 := (hV.cell (p := ⟨bx, 0, none⟩) hltx).trans HX1.out
                have hltv : bx < wr.heap.size := Nat.lt_of_lt_of_le hltx hV.size
                have hb3 := bA1 wr (flo g)
                have HV3 := Lib.hid (hV.trans (hb3.mono hV.size))
                have cH : ∀ W, Calls Tryz.prog 41 #[.string ⟨g.1.toArray⟩, .string (ByteArray.mk f.1.toArray ++ ⟨#[47]⟩)] W fun e w' => e = .returned (.bool (bnt g.1 f.1)) ∧ w' = W := fun W => by
                  have := Tryz.strings_HasPrefix ⟨g.1.toArray⟩ (ByteArray.mk f.1.toArray ++ ⟨#[47]⟩) W
                  refine this.mono fun e w' ⟨h1, h2⟩ => ⟨by rw [h1]; unfold bnt Lib.hasPrefix; simp, h2⟩
                clear HJ hb3
                by_cases him : i = m
                · have him2 : (i : Int) = (m : Int) := by omega
                  have hk0 : xki p.F i m = false := by rw [HK.out, decide_eq_true him]; rfl
                  have HN := Lib.hid (HS3.out hk0)
                  clear HS3 HB HK hk0
                  go_wp2_with fail
                  exact ⟨⟨m + 1, hml, by go_num, HV3.out, HN⟩, by simp [intOf]; omega⟩
                · have him3 : ¬ (i : Int) = (m : Int) := by omega
                  have HK2 : Hid (xki p.F i m = (decide (f.1 = g.1) || bnt g.1 f.1)) := by show _ = _; rw [HK.out, decide_eq_false him]; rfl
                  by_cases hfg : f.1 = g.1
                  · have hfg' : (f.1 == g.1) = true := by simpa using hfg
                    have hr0 : r = false := HB.out (by rw [HK2.out, decide_eq_true hfg]; rfl)
                    subst hr0
                    have hfin := bon k1 (HW1.out.trans (HV3.out.mono HW1.out.size))
                    clear HS3 HB HK HK2 hfg
                    go_wp2_with fail
                    go_ret
                    exact ⟨rfl, hfin⟩
                  · have hfg' : (f.1 == g.1) = false := by simpa using hfg
                    have HK3 : Hid (xki p.F i m = bnt g.1 f.1) := by show _ = _; rw [HK2.out, decide_eq_false hfg]; rfl
                    clear HK HK2
                    cases hbn : bnt g.1 f.1 with
                    | true =>
                      rw [hbn] at cH
                      have hr0 : r = false := HB.out (by rw [HK3.out, hbn])
                      subst hr0
                      have hfin := bon k1 (HW1.out.trans (HV3.out.mono HW1.out.size))
                      clear HS3 HB HK3 hfg
                      go_wp2_with fail
                      refine (cH _).mono ?_
                      rintro x w3 ⟨rfl, rfl⟩
                      go_wp2_with fail
                      go_ret
                      exact ⟨rfl, hfin⟩
                    | false =>
                      rw [hbn] at cH
                      have HN := Lib.hid (HS3.out (by rw [HK3.out, hbn]))
                      clear HS3 HB HK3 hfg
                      go_wp2_with fail
                      refine (cH _).mono ?_
                      rintro x w3 ⟨rfl, rfl⟩
                      go_wp2_with fail
                      exact ⟨⟨m + 1, hml, by go_num, HV3.out, HN⟩, by simp [intOf]; omega⟩
              · have HN := Lib.hid (HSt2.out fun j hj => HJ.out j (by omega))
                clear HSt2 HBad HXk HJ
                go_wp2_with fail
                exact ⟨⟨i + 1, hlt, by go_num, hWV, HN⟩, by simp [intOf]; omega⟩
        · have hfk : fk p.F = true := by
            rw [fk_good (fun j hj => (HP.out j hj (by omega)).1) (fun j m hj hm => (HP.out j hj (by omega)).2 m hm)]; simpa using hn
          have HR3 : Hid (r = stg p.F p.S) := by show _ = _; rw [HR2.out, hfk]; rfl
          have q10 := (B1.out.on hW).c10
          have hltw : w.heap.size < wr.heap.size := Nat.lt_of_lt_of_le hlt1 hW.size
          have HWa := Lib.hid hW
          clear HP HR2 hfk hW
          go_wp2_with fail
          generalize wr = Wa at HWa hltw ⊢
          go_loopw [64] (fun v W => ∃ a : Nat, a ≤ p.S.length ∧ v = .int .i64 a ∧ Below Wa.heap.size Wa W ∧ Hid (∀ j (hj : j < p.S.length), j < a → (p.F.any fun f => decide (f.1 = p.S[j])) = true)) (fun v _ => p.S.length - (intOf v).toNat)
          case atStart => exact ⟨0, Nat.zero_le _, rfl, Below.refl _ _, fun j _ h => absurd h (Nat.not_lt_zero _)⟩
          case round =>
            obtain ⟨a, ha, rfl, hV, HJ⟩ := hrel
            have hWV := HWa.out.trans (hV.mono HWa.out.size)
            by_cases hal : a < p.S.length
            · obtain ⟨sb, so, rfl, s0⟩ := ss_at (HSs.out.on hWV) a hal
              have q12 := (B1.out.on hWV).c12
              have hltv : w.heap.size < wr.heap.size := Nat.lt_of_lt_of_le hltw hV.size
              have HNo : Hid ((p.F.any fun f => decide (f.1 = p.S[a])) = false → r = false) := fun hh => by rw [HR3.out, stg_no hal hh]
              have HYes : Hid ((p.F.any fun f => decide (f.1 = p.S[a])) = true → ∀ j (hj : j < p.S.length), j < a + 1 → (p.F.any fun f => decide (f.1 = p.S[j])) = true) := fun h1 j hj hjl => by
                by_cases e : j = a
                · subst e; exact h1
                · exact HJ.out j hj (by omega)
              generalize p.S[a] = s at s0 HNo HYes
              have HVb := Lib.hid hV
              have HWb := Lib.hid hWV
              clear HJ hV hWV
              go_wp2_with fail
              generalize wr = Wb at HVb HWb hltv ⊢
              go_loopw [9, 71] (fun ov kv W => ∃ m : Nat, m ≤ p.F.length ∧ kv = .int .i64 m ∧ ov = .bool ((p.F.take m).any fun f => decide (f.1 = s)) ∧ Below Wb.heap.size Wb W) (fun _ kv _ => p.F.length - (intOf kv).toNat)
              case atStart => exact ⟨0, Nat.zero_le _, rfl, by simp, Below.refl _ _⟩
              case round =>
                obtain ⟨m, hm, rfl, rfl, hU⟩ := hrel
                have hWU := HWb.out.trans (hU.mono HWb.out.size)
                by_cases hml : m < p.F.length
                · obtain ⟨gb, go, rfl, g0, g1⟩ := fs_at (HFs.out.on hWU) m hml
                  have HUp := Lib.hid (any_up p.F s m hml)
                  generalize p.F[m] = g at g0 g1 HUp
                  have hb3 := bA1 wr (flo g)
                  have HU3 := Lib.hid (hU.trans (hb3.mono hU.size))
                  generalize ((p.F.take m).any fun f => decide (f.1 = s)) = y at HUp ⊢
                  clear hb3
                  cases y with
                  | true =>
                    have HUp2 : Hid (((p.F.take (m + 1)).any fun f => decide (f.1 = s)) = true) := HUp
                    clear HUp
                    go_wp2_with fail
                    exact ⟨⟨m + 1, hml, by go_num, by rw [HUp2.out], HU3.out⟩, by simp [intOf]; omega⟩
                  | false =>
                    have HUp2 : Hid (((p.F.take (m + 1)).any fun f => decide (f.1 = s)) = (g.1 == s)) := by show _ = _; rw [HUp.out, Bool.eq_iff_iff]; simp
                    clear HUp
                    go_wp2_with fail
                    exact ⟨⟨m + 1, hml, by go_num, by rw [HUp2.out], HU3.out⟩, by simp [intOf]; omega⟩
                · obtain rfl : m = p.F.length := by omega
                  rw [List.take_length]
                  generalize hy : (p.F.any fun f => decide (f.1 = s)) = y at HNo HYes ⊢
                  clear hy
                  have HV4 := Lib.hid (HVb.out.trans (hU.mono HVb.out.size))
                  cases y with
                  | true =>
                    have HN := Lib.hid (HYes.out rfl)
                    clear HNo HYes
                    go_wp2_with fail
                    exact ⟨⟨a + 1, hal, by go_num, HV4.out, HN⟩, by simp [intOf]; omega⟩
                  | false =>
                    have hr0 : r = false := HNo.out rfl
                    subst hr0
                    have hfin := bon k1 hWU
                    clear HNo HYes
                    go_wp2_with fail
                    go_ret
                    exact ⟨rfl, hfin⟩
            · have hr0 : r = true := by rw [HR3.out]; exact stg_yes fun j hj => HJ.out j hj (by omega)
              subst hr0
              have hfin := bon k1 hWV
              go_wp2_with fail
              go_ret
              exact ⟨rfl, hfin⟩
    · have hr0 : r = false := by rw [HR2.out]; unfold fk; rw [decide_eq_false hn]; rfl
      subst hr0
      go_wp2_with fail
      go_ret
      exact ⟨rfl, k1⟩
end Go.Proofs.YtlldfmnoidndmaaGreatDoor
