/- The walks of the reference's rank, sign, half. -/
import Derived.Test.YtkaeiofolknoeabGreatDoorCb
namespace Go.Proofs.YtkaeiofolknoeabGreatDoor
open Go.RowKit

theorem rdigit_any (c : UInt8) (w : World) : Calls Tryz.prog 27 #[.int .u8 c.toNat] w fun e w' => e = .returned (.bool (Vm.dg c)) ∧ w' = w := by
  go_enter Tryz.func27, Tryz.ntmps27
  go_wp2
  all_goals go_ret
  all_goals exact ⟨ret_bool (by unfold Vm.dg; rw [Bool.eq_iff_iff]; simp; omega), rfl⟩

theorem rletter_any (c : UInt8) (w : World) : Calls Tryz.prog 121 #[.int .u8 c.toNat] w fun e w' => e = .returned (.bool (Vm.lr c)) ∧ w' = w := by
  go_enter Tryz.func121, Tryz.ntmps121
  go_wp2
  all_goals go_ret
  all_goals exact ⟨ret_bool (by unfold Vm.lr; rw [Bool.eq_iff_iff]; simp; omega), rfl⟩

theorem ba_head (c : UInt8) (l : List UInt8) (h : 0 < (ByteArray.mk (c :: l).toArray).size) : (ByteArray.mk (c :: l).toArray)[0]'h = c := rfl
theorem ba_tail (c : UInt8) (l : List UInt8) : (ByteArray.mk (c :: l).toArray).extract 1 (l.length + 1) = ⟨l.toArray⟩ := ba_drop (c :: l) 1
theorem ba_first (c : UInt8) (l : List UInt8) : (ByteArray.mk (c :: l).toArray).extract 0 1 = ⟨[c].toArray⟩ := by rw [ba_take]; rfl
attribute [local go_sem] ba_head ba_tail ba_first

theorem rr_dig {c : UInt8} (l : List UInt8) (h : Vm.dg c = true) : 1 = Vm.rr (c :: l) := by rw [Vm.rr_cons, if_pos h]
theorem rr_til {c : UInt8} (l : List UInt8) (h : Vm.dg c = false) (h1 : ((c.toNat : Int) == 126) = true) : 0 = Vm.rr (c :: l) := by
  have h0 : ¬ Vm.dg c = true := by simp [h]
  rw [Vm.rr_cons, if_neg h0, if_pos (by have := beq_iff_eq.1 h1; omega)]
theorem rr_let {c : UInt8} (l : List UInt8) (h : Vm.dg c = false) (h1 : ((c.toNat : Int) == 126) = false) (h2 : Vm.lr c = true) : wrap64 (2 + wrap64 (c.toNat : Int)) = Vm.rr (c :: l) := by
  have h0 : ¬ Vm.dg c = true := by simp [h]
  have := c.toNat_lt
  rw [Vm.rr_cons, if_neg h0, if_neg (by have := beq_eq_false_iff_ne.1 h1; omega), if_pos h2, w64 (c.toNat) (by omega) (by omega), w64 _ (by omega) (by omega)]
theorem rr_oth {c : UInt8} (l : List UInt8) (h : Vm.dg c = false) (h1 : ((c.toNat : Int) == 126) = false) (h2 : Vm.lr c = false) : wrap64 (300 + wrap64 (c.toNat : Int)) = Vm.rr (c :: l) := by
  have h0 : ¬ Vm.dg c = true := by simp [h]
  have h3 : ¬ Vm.lr c = true := by simp [h2]
  have := c.toNat_lt
  rw [Vm.rr_cons, if_neg h0, if_neg (by have := beq_eq_false_iff_ne.1 h1; omega), if_neg h3, w64 (c.toNat) (by omega) (by omega), w64 _ (by omega) (by omega)]

theorem empty_or (p q : List UInt8) (hpq : ¬ (p = [] ∧ q = [])) : (p.isEmpty = false) ∨ (p.isEmpty = true ∧ q.isEmpty = false) := by
  cases p with
  | nil => right; cases q with
    | nil => simp at hpq
    | cons c q => simp
  | cons c p => left; rfl
theorem dw_short (p : List UInt8) : (Vm.dw p).length ≤ p.length := dw_le Vm.dg p _ (Nat.le_refl _)
theorem dw_one (p : List UInt8) (h : Vm.rr p = 1) (hp : p ≠ []) : (Vm.dw p).length < p.length := by
  have h1 := (Vm.rr_one h)
  have := nr_lt p hp
  unfold Vm.nr at this
  rw [h1.2] at this
  exact this
theorem dw_lt (p q : List UInt8) (h1 : Vm.rr p = 1) (h2 : Vm.rr q = 1) (hpq : ¬ (p = [] ∧ q = [])) : (Vm.dw p).length + (Vm.dw q).length < p.length + q.length := by
  have a1 := dw_short p
  have a2 := dw_short q
  by_cases e : p = []
  · have := dw_one q h2 (fun h => hpq ⟨e, h⟩); omega
  · have := dw_one p h1 e; omega

theorem ba_app (x y : List UInt8) : ByteArray.mk x.toArray ++ ByteArray.mk y.toArray = ⟨(x ++ y).toArray⟩ := by
  apply ByteArray.ext; simp
theorem tzA {d : List UInt8} {c : UInt8} (h : Vm.tz d = []) (hc : ((c.toNat : Int) != 48) = true) : Value.string (ByteArray.mk #[] ++ ByteArray.mk #[c]) = .string ⟨(Vm.tz (d ++ [c])).toArray⟩ := by
  have h1 : c ≠ 48 := by rintro rfl; simp at hc
  rw [Vm.tz_snoc, if_pos (Or.inr h1), h]
  exact congrArg Value.string (ba_app [] [c])
theorem tzB {d : List UInt8} {c : UInt8} (h : Vm.tz d = []) (hc : ((c.toNat : Int) != 48) = false) : Value.string (ByteArray.mk #[]) = .string ⟨(Vm.tz (d ++ [c])).toArray⟩ := by
  have h1 : c = 48 := by
    apply UInt8.toNat_inj.1
    have : (c.toNat : Int) = 48 := by simpa using hc
    have e : (48 : UInt8).toNat = 48 := rfl
    omega
  rw [Vm.tz_snoc, if_neg (by simp [h, h1])]
theorem tzC {d : List UInt8} {c : UInt8} (h : ¬ Vm.tz d = []) : Value.string (ByteArray.mk (Vm.tz d).toArray ++ ByteArray.mk #[c]) = .string ⟨(Vm.tz (d ++ [c])).toArray⟩ := by
  rw [Vm.tz_snoc, if_pos (Or.inl h)]
  exact congrArg Value.string (ba_app (Vm.tz d) [c])
theorem run_more {p d r : List UInt8} {c : UInt8} (h : p = d ++ c :: r ∧ ∀ x ∈ d, Vm.dg x = true) (hc : Vm.dg c = true) : p = (d ++ [c]) ++ r ∧ ∀ x ∈ d ++ [c], Vm.dg x = true := by
  refine ⟨by rw [h.1]; simp, fun x hx => ?_⟩
  rcases List.mem_append.1 hx with h1 | h1
  · exact h.2 x h1
  · rw [List.mem_singleton.1 h1]; exact hc
theorem tz_len (d : List UInt8) : (Vm.tz d).length ≤ d.length := dw_le _ d _ (Nat.le_refl _)
theorem run_len {p d r : List UInt8} (h : p = d ++ r ∧ ∀ x ∈ d, Vm.dg x = true) (n : Nat) (hp : p.length ≤ n) : (Vm.tz d).length ≤ n := by
  have := tz_len d
  rw [h.1] at hp; simp at hp; omega
theorem run_stop {p d r : List UInt8} (h : p = d ++ r ∧ ∀ x ∈ d, Vm.dg x = true) (hx : ¬ ∃ c t, r = c :: t ∧ Vm.dg c = true) : Vm.tw p = d ∧ Vm.dw p = r := by
  rw [h.1]
  refine Vm.run_end d r h.2 (fun c t e => ?_)
  cases hc : Vm.dg c with
  | false => rfl
  | true => exact absurd ⟨c, t, e, hc⟩ hx
theorem run_head {r : List UInt8} (hx : ¬ ∃ c t, r = c :: t ∧ Vm.dg c = true) : r = [] ∨ ∃ c t, r = c :: t ∧ Vm.dg c = false := by
  cases r with
  | nil => left; rfl
  | cons c t =>
    right; refine ⟨c, t, rfl, ?_⟩
    cases hc : Vm.dg c with
    | false => rfl
    | true => exact absurd ⟨c, t, rfl, hc⟩ hx

end Go.Proofs.YtkaeiofolknoeabGreatDoor
