/- The walks of the reference's digit, letter, all, in, Number, Print. -/
import Derived.Test.YtoojbpldhhbkbaaGreatDoorPd
namespace Go.Proofs.YtoojbpldhhbkbaaGreatDoor
open Go.RowKit Go.Shelf Go.Sort

theorem xdigit_any (c : UInt8) (w : World) : Calls Tryz.prog 51 #[.int .u8 c.toNat] w fun e w' => e = .returned (.bool (Vm.dg c)) ∧ w' = w := by
  go_enter Tryz.func51, Tryz.ntmps51
  go_wp2
  all_goals go_ret
  all_goals exact ⟨ret_bool (by unfold Vm.dg; rw [Bool.eq_iff_iff]; simp; omega), rfl⟩

theorem xletter_any (c : UInt8) (w : World) : Calls Tryz.prog 65 #[.int .u8 c.toNat] w fun e w' => e = .returned (.bool (Vm.lr c)) ∧ w' = w := by
  go_enter Tryz.func65, Tryz.ntmps65
  go_wp2
  all_goals go_ret
  all_goals exact ⟨ret_bool (by unfold Vm.lr; rw [Bool.eq_iff_iff]; simp; omega), rfl⟩

set_option maxHeartbeats 400000 in
theorem xall_any (l m : List UInt8) (w : World) (hl : l.length ≤ 200) : Calls Tryz.prog 52 #[.string ⟨l.toArray⟩, .string ⟨m.toArray⟩] w fun e w' => e = .returned (.bool (l.all (Vm.ok1 m))) ∧ w' = w := by
  go_enter Tryz.func52, Tryz.ntmps52
  go_wp2
  go_loop [8] (fun i => ∃ k : Nat, k ≤ l.length ∧ i = .int .i64 k ∧ ∀ j (hj : j < l.length), j < k → Vm.ok1 m l[j] = true) (fun i => l.length - (intOf i).toNat)
  case atStart => exact ⟨0, Nat.zero_le _, rfl, fun j _ h => absurd h (Nat.not_lt_zero _)⟩
  case round =>
    obtain ⟨k, hk, rfl, hpre0⟩ := hrel
    have hpre : Hid (∀ j (hj : j < l.length), j < k → Vm.ok1 m l[j] = true) := hpre0
    clear hpre0
    by_cases hlt : k < l.length
    · have more : Vm.ok1 m l[k] = true → ∀ j (hj : j < l.length), j < k + 1 → Vm.ok1 m l[j] = true := fun hc j hj h => by
        by_cases e : j = k
        · subst e; exact hc
        · exact hpre.out j hj (by omega)
      have HM := Lib.hid more
      clear more
      go_wp2_with (first | (go_at_call 51; refine (xdigit_any _ _).mono ?_; rintro e w' ⟨rfl, rfl⟩) | (go_at_call 65; refine (xletter_any _ _).mono ?_; rintro e w' ⟨rfl, rfl⟩) | (go_at_call 64; refine (idx_any _ _ _).mono ?_; rintro e w' ⟨rfl, rfl⟩))
      · exact ⟨⟨k + 1, hlt, by go_num, HM.out (ok_dig ‹_›)⟩, by simp [intOf]; omega⟩
      · exact ⟨⟨k + 1, hlt, by go_num, HM.out (ok_let ‹_›)⟩, by simp [intOf]; omega⟩
      · go_ret
        have h1 : ¬ Vm.dg l[k] = true := ‹_›
        have h2 : ¬ Vm.lr l[k] = true := ‹_›
        exact ⟨ret_bool (all_no k hlt (ok_no (by simpa using h1) (by simpa using h2) ‹_›)), rfl⟩
      · have h3 : 0 ≤ Lib.indexByte m l[k] := ‹_›
        exact ⟨⟨k + 1, hlt, by go_num, HM.out (ok_in (by omega))⟩, by simp [intOf]; omega⟩
    · go_wp2
      go_ret
      exact ⟨ret_bool (all_to (fun j hj => hpre.out j hj (by omega))), rfl⟩

def inB (e : Int) : Bool := decide (0 ≤ e) && decide (e < 1000000000)
theorem xin_any (e : Int) (w : World) : Calls Tryz.prog 31 #[.int .i64 e, .int .i64 0, .int .i64 999999999] w fun x w' => x = .returned (.bool (inB e)) ∧ w' = w := by
  go_enter Tryz.func31, Tryz.ntmps31
  go_wp2
  all_goals go_ret
  all_goals exact ⟨ret_bool (by unfold inB; rw [Bool.eq_iff_iff]; simp; omega), rfl⟩

theorem num_nil (w : World) : Calls Tryz.prog 36 #[.string ⟨([] : List UInt8).toArray⟩, .int .i64 9] w fun e w' => e = .returned (.tuple #[.int .i64 0, .bool false]) ∧ w' = w := by
  go_enter Tryz.func36, Tryz.ntmps36
  go_wp2
  go_ret2
  exact ⟨rfl, rfl⟩
theorem num_long (l : List UInt8) (w : World) (hl : 9 < l.length) : Calls Tryz.prog 36 #[.string ⟨l.toArray⟩, .int .i64 9] w fun e w' => e = .returned (.tuple #[.int .i64 0, .bool false]) ∧ w' = w := by
  have h0 : ((l.length : Int) == 0) = false := by rw [beq_eq_false_iff_ne]; omega
  go_enter Tryz.func36, Tryz.ntmps36
  go_wp2
  go_ret2
  exact ⟨rfl, rfl⟩
attribute [local go_sem] pb_head in
theorem num_nought (c d : UInt8) (t : List UInt8) (w : World) (hl : (c :: d :: t).length ≤ 9) (hc : ((c.toNat : Int) == 48) = true) : Calls Tryz.prog 36 #[.string ⟨(c :: d :: t).toArray⟩, .int .i64 9] w fun e w' => e = .returned (.tuple #[.int .i64 0, .bool false]) ∧ w' = w := by
  simp only [List.length_cons] at hl
  have h0 : (((t.length : Int) + 1 + 1) == 0) = false := by rw [beq_eq_false_iff_ne]; omega
  go_enter Tryz.func36, Tryz.ntmps36
  go_wp2
  go_ret2
  exact ⟨rfl, rfl⟩

theorem num_val {c : UInt8} {m : Nat} (h : Vm.dg c = true) : Value.int .i64 ((m : Int) * 10 + ((c.toNat : Int) - 48) % 256) = .int .i64 ((10 * m + (c.toNat - 48) : Nat) : Int) := by
  have := (Vm.dg_iff c).1 h
  congr 1
  omega

set_option maxHeartbeats 800000 in
set_option maxRecDepth 100000 in
theorem num_loop (l : List UInt8) (w : World) (hl : l.length ≤ 9) (h0 : 0 < (ByteArray.mk l.toArray).size) (g0 : l.length = 1 ∨ (1 < l.length ∧ ((((ByteArray.mk l.toArray)[0]'h0).toNat : Int) == 48) = false)) : Calls Tryz.prog 36 #[.string ⟨l.toArray⟩, .int .i64 9] w fun e w' =>
    e = .returned (.tuple #[.int .i64 (if l.all Vm.dg = true then Vm.vl 0 l else 0), .bool (l.all Vm.dg)]) ∧ w' = w := by
  obtain ⟨A, hA⟩ : ∃ A, A = (if l.all Vm.dg = true then (Vm.vl 0 l : Int) else 0) := ⟨_, rfl⟩
  have HA : Hid (A = (if l.all Vm.dg = true then (Vm.vl 0 l : Int) else 0)) := hA
  rw [← hA]
  clear hA
  have hz : ((l.length : Int) == 0) = false := by rw [beq_eq_false_iff_ne]; have : 0 < l.length := h0; omega
  rcases g0 with g0 | ⟨g0, g1⟩
  all_goals
    go_enter Tryz.func36, Tryz.ntmps36
    go_wp2
    go_loop [6, 29] (fun n i => ∃ k m : Nat, k ≤ l.length ∧ i = .int .i64 k ∧ n = .int .i64 m ∧ m < 1000000000 ∧ Hid (m = Vm.vl 0 (l.take k)) ∧ Hid (∀ j (hj : j < l.length), j < k → Vm.dg l[j] = true)) (fun _ i => l.length - (intOf i).toNat)
    case atStart => exact ⟨0, 0, Nat.zero_le _, rfl, rfl, by decide, rfl, fun j _ h => absurd h (Nat.not_lt_zero _)⟩
    case round =>
      obtain ⟨k, m, hk, rfl, rfl, hm, HV, HP⟩ := hrel
      by_cases hlt : k < l.length
      · go_wp2_with (go_at_call 51; refine (xdigit_any _ _).mono ?_; rintro e w' ⟨rfl, rfl⟩)
        · go_ret2
          have hd : Vm.dg l[k] = false := by have h : (!Vm.dg l[k]) = true := ‹_›; simpa using h
          have ha : l.all Vm.dg = false := (all_no k hlt hd).symm
          exact ⟨by rw [HA.out, ha]; simp, rfl⟩
        · have hd : Vm.dg l[k] = true := by have h : (!Vm.dg l[k]) = false := ‹_›; simpa using h
          have hp : ∀ j (hj : j < l.length), j < k + 1 → Vm.dg l[j] = true := fun j hj h => by
            by_cases e : j = k
            · subst e; exact hd
            · exact HP.out j hj (by omega)
          have hv : 10 * m + (l[k].toNat - 48) = Vm.vl 0 (l.take (k + 1)) := by rw [Vm.vl_take l k hlt, HV.out]
          exact ⟨⟨k + 1, 10 * m + (l[k].toNat - 48), hlt, by go_num, num_val hd, by rw [hv]; exact Vm.vl_take_lt l (k + 1) (by omega) hp, hv, hp⟩, by simp [intOf]; omega⟩
      · go_wp2
        go_ret2
        have ha : l.all Vm.dg = true := (all_to (fun j hj => HP.out j hj (by omega))).symm
        have hkl : k = l.length := by omega
        exact ⟨by rw [HA.out, ha, HV.out, hkl, List.take_length]; simp, rfl⟩

theorem num_any (l : List UInt8) (w : World) : Calls Tryz.prog 36 #[.string ⟨l.toArray⟩, .int .i64 9] w fun e w' =>
    e = .returned (match Vm.pep l with | none => .tuple #[.int .i64 0, .bool false] | some n => .tuple #[.int .i64 n, .bool true]) ∧ w' = w := by
  cases l with
  | nil => exact num_nil w
  | cons c t =>
    by_cases h9 : 9 < (c :: t).length
    · have : Vm.pep (c :: t) = none := by unfold Vm.pep; rw [if_pos (Or.inr (Or.inl h9))]
      rw [this]; exact num_long (c :: t) w h9
    · by_cases h48 : c = 48 ∧ t ≠ []
      · obtain ⟨rfl, ht⟩ := h48
        cases t with
        | nil => exact absurd rfl ht
        | cons d t =>
          have : Vm.pep (48 :: d :: t) = none := by unfold Vm.pep; rw [if_pos (Or.inr (Or.inr ⟨rfl, by simp⟩))]
          rw [this]; exact num_nought 48 d t w (by omega) rfl
      · have hp : Vm.pep (c :: t) = if (c :: t).all Vm.dg = true then some (Vm.vl 0 (c :: t)) else none := by
          unfold Vm.pep; rw [if_neg]
          rintro (h | h | h)
          · cases h
          · exact h9 h
          · exact h48 ⟨h.1, fun e => h.2 (by rw [e, show c = 48 from h.1])⟩
        have h := num_loop (c :: t) w (by omega) (by simp [ByteArray.size]) (by
          by_cases ht : t = []
          · left; subst ht; rfl
          · right
            have hc : c ≠ 48 := fun e => h48 ⟨e, ht⟩
            rw [pb_head]
            have h1 : c.toNat ≠ 48 := fun e => hc (UInt8.toNat_inj.1 e)
            have h2 : 0 < t.length := by cases t with
              | nil => exact absurd rfl ht
              | cons _ _ => simp
            exact ⟨by simp; omega, beq_eq_false_iff_ne.2 (by omega)⟩)
        rw [hp]
        refine h.mono ?_
        rintro e w' ⟨rfl, rfl⟩
        cases hall : (c :: t).all Vm.dg with
        | false => simp
        | true => simp

set_option maxHeartbeats 1600000 in
set_option maxRecDepth 100000 in
theorem xprint_any (e : Int) (u r : List UInt8) (w : World) (h0 : -9223372036854775808 ≤ e) (h1 : e ≤ 9223372036854775807) (hu : u.length ≤ 200) (hr : r.length ≤ 200) (htab : Lib.TabIs Tryz.prog w "internal/strconv.uint64pow10" .u64 Lib.pow10Tab) :
    Calls Tryz.prog 14 #[.agg #[.int .i64 e, .string ⟨u.toArray⟩, .string ⟨r.toArray⟩]] w fun x w' => x = .returned (.string ⟨(Vm.pt e u r).toArray⟩) ∧ Below w.heap.size w w' := by
  have hb : ∀ o, Below w.heap.size w (w.alloc o) := fun o => (Below.refl _ _).alloc (Nat.le_refl _) _
  have htab' := fun o => (Lib.tabBelow_of_tabIs htab).on (hb o)
  have le := Lib.itoa_length_le e h0 h1
  have HLE := Lib.hid le
  clear htab
  by_cases he : e = 0
  · subst he
    by_cases hr0 : r = []
    · subst hr0
      go_enter Tryz.func14, Tryz.ntmps14
      go_wp2
      go_ret
      exact ⟨ret_sv (by apply ByteArray.ext; simp [Vm.pt, Vm.pe, Vm.pr]), hb _⟩
    · have hre : r.isEmpty = false := by cases r with
        | nil => exact absurd rfl hr0
        | cons c r => rfl
      go_enter Tryz.func14, Tryz.ntmps14
      go_wp2
      go_ret
      exact ⟨ret_sv (by apply ByteArray.ext; simp [Vm.pt, Vm.pe, Vm.pr, hr0]), hb _⟩
  · have hne : (e != 0) = true := by simpa using he
    obtain ⟨li, hli⟩ : ∃ l : List UInt8, l = Lib.itoa e := ⟨_, rfl⟩
    have HI := Lib.hid hli
    rw [← hli] at le
    have hc := fun W h => Tryz.strconv_Itoa e h0 h1 W h
    rw [← hli] at hc
    have HC := Lib.hid hc
    clear hc HLE hli
    by_cases hr0 : r = []
    · subst hr0
      go_enter Tryz.func14, Tryz.ntmps14
      go_wp2_with fail
      refine (HC.out _ (htab' _).here).mono ?_
      rintro x w1 ⟨rfl, k, os, hw1⟩
      have b1 : Below (w.alloc (.cells #[.int .i64 e, .string ⟨u.toArray⟩, .string ⟨([] : List UInt8).toArray⟩] 23)).heap.size (w.alloc (.cells #[.int .i64 e, .string ⟨u.toArray⟩, .string ⟨([] : List UInt8).toArray⟩] 23)) w1 := by rw [hw1]; exact Lib.below_grow _ _ (Nat.le_refl _) k os
      clear hw1
      have c1 : w1.cell? ⟨w.heap.size, 1, none⟩ = some (.string ⟨u.toArray⟩) := by rw [b1.cell (by simp)]; simp
      have c2 : w1.cell? ⟨w.heap.size, 2, none⟩ = some (.string ⟨#[]⟩) := by rw [b1.cell (by simp)]; simp
      go_wp2
      go_ret
      exact ⟨ret_sv (by apply ByteArray.ext; simp [Vm.pt, Vm.pe, Vm.pr, he, HI.out]), (hb _).trans (b1.mono (by simp))⟩
    · have hre : r.isEmpty = false := by cases r with
        | nil => exact absurd rfl hr0
        | cons c r => rfl
      go_enter Tryz.func14, Tryz.ntmps14
      go_wp2_with fail
      refine (HC.out _ (htab' _).here).mono ?_
      rintro x w1 ⟨rfl, k, os, hw1⟩
      have b1 : Below (w.alloc (.cells #[.int .i64 e, .string ⟨u.toArray⟩, .string ⟨r.toArray⟩] 23)).heap.size (w.alloc (.cells #[.int .i64 e, .string ⟨u.toArray⟩, .string ⟨r.toArray⟩] 23)) w1 := by rw [hw1]; exact Lib.below_grow _ _ (Nat.le_refl _) k os
      clear hw1
      have c1 : w1.cell? ⟨w.heap.size, 1, none⟩ = some (.string ⟨u.toArray⟩) := by rw [b1.cell (by simp)]; simp
      have c2 : w1.cell? ⟨w.heap.size, 2, none⟩ = some (.string ⟨r.toArray⟩) := by rw [b1.cell (by simp)]; simp
      go_wp2
      go_ret
      exact ⟨ret_sv (by apply ByteArray.ext; simp [Vm.pt, Vm.pe, Vm.pr, he, hr0, HI.out]), (hb _).trans (b1.mono (by simp))⟩

end Go.Proofs.YtoojbpldhhbkbaaGreatDoor
