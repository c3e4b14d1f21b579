/- The walks of blanks, Trim, lines, values, either side. -/
import Derived.Test.YtniknhfpbcbcbabDoorSb
namespace Go.Proofs.YtniknhfpbcbcbabDoor
open Go.RowKit Go.Shelf

def strLen : Value → Nat
  | .string s => s.size
  | _ => 0
theorem tl_cons_bl {c : UInt8} {t : List UInt8} (h : Sm.bl c = true) : Sm.tl (c :: t) = Sm.tl t := by unfold Sm.tl; rw [List.dropWhile_cons, if_pos h]
theorem tl_cons_no {c : UInt8} {t : List UInt8} (h : Sm.bl c = false) : Sm.tl (c :: t) = c :: t := by unfold Sm.tl; rw [List.dropWhile_cons, if_neg (by simp [h])]
theorem tr_app_bl {c : UInt8} {t : List UInt8} (h : Sm.bl c = true) : Sm.tr (t ++ [c]) = Sm.tr t := by unfold Sm.tr; rw [List.reverse_append]; simp [h]
theorem tr_app_no {c : UInt8} {t : List UInt8} (h : Sm.bl c = false) : Sm.tr (t ++ [c]) = t ++ [c] := by unfold Sm.tr; rw [List.reverse_append]; simp [h]

theorem last_get (m : List UInt8) (d : UInt8) (h : m.length < (ByteArray.mk (m ++ [d]).toArray).size) : (ByteArray.mk (m ++ [d]).toArray)[m.length]'h = d := by
  show (m ++ [d])[m.length]'h = d
  simp

theorem cok_no1 {c : UInt8} (h : c.toNat < 32) (h9 : (c == 9) = false) : Sm.cok c = false := by unfold Sm.cok; rw [h9, show decide (32 ≤ c.toNat) = false from by simp; omega]; rfl
theorem cok_no2 {c : UInt8} (h : (c == 127) = true) : Sm.cok c = false := by unfold Sm.cok; rw [h]; simp
theorem cok_yes {c : UInt8} (h1 : 32 ≤ c.toNat ∨ (c == 9) = true) (h2 : (c == 127) = false) : Sm.cok c = true := by
  unfold Sm.cok; rw [h2]; rcases h1 with h1 | h1 <;> simp_all
theorem lok_no {l : List UInt8} (h : l.all Sm.cok = false) : false = Sm.lok l := by unfold Sm.lok; rw [h]; rfl
theorem lok_all {l : List UInt8} (h : l.all Sm.cok = true) : (Sm.tr (Sm.tl l) == l) = Sm.lok l := by unfold Sm.lok; rw [h]; rfl

theorem trimS_eq (l : List UInt8) : Lib.trimS l [32, 9] = Sm.tl (Sm.tr l) := by
  have h : (fun c : UInt8 => [32, 9].contains c) = Sm.bl := by funext c; simp [Sm.bl]; rfl
  unfold Lib.trimS Lib.trimLeftS Lib.trimRightS Sm.tl Sm.tr
  rw [h]
theorem tl_suf (l : List UInt8) : Sm.tl l <:+ l := List.dropWhile_suffix _
theorem tr_pre (l : List UInt8) : Sm.tr l <+: l := by
  have := (List.dropWhile_suffix Sm.bl (l := l.reverse))
  unfold Sm.tr
  exact List.reverse_suffix.1 (by simpa using this)
theorem trim_l (l : List UInt8) : Sm.tr (Sm.tl l) = l ↔ (Sm.tl l = l ∧ Sm.tr l = l) := by
  constructor
  · intro h
    have h1 := (tl_suf l).length_le
    have h2 := (tr_pre (Sm.tl l)).length_le
    rw [h] at h2
    have h3 : Sm.tl l = l := (tl_suf l).eq_of_length (by omega)
    rw [h3] at h; exact ⟨h3, h⟩
  · rintro ⟨h1, h2⟩; rw [h1, h2]
theorem trim_r (l : List UInt8) : Sm.tl (Sm.tr l) = l ↔ (Sm.tl l = l ∧ Sm.tr l = l) := by
  constructor
  · intro h
    have h1 := (tr_pre l).length_le
    have h2 := (tl_suf (Sm.tr l)).length_le
    rw [h] at h2
    have h3 : Sm.tr l = l := (tr_pre l).eq_of_length (by omega)
    rw [h3] at h; exact ⟨h, h3⟩
  · rintro ⟨h1, h2⟩; rw [h2, h1]
theorem trim_beq (l : List UInt8) : (Lib.trimS l [32, 9] == l) = (Sm.tr (Sm.tl l) == l) := by
  rw [trimS_eq, Bool.eq_iff_iff, beq_iff_eq, beq_iff_eq, trim_l, trim_r]

theorem below_dn {B : Nat} {a w : World} (h : Below B a w) (n : Nat) : Below B a (w.drewN n) := h.trans ⟨rfl, rfl, rfl, Nat.le_refl _, fun _ _ => rfl⟩

theorem trim_nil (w : World) : Calls Tryd.prog 75 #[.string ⟨#[]⟩, .string ⟨#[32, 9]⟩] w fun e w' => e = .returned (.string ⟨#[]⟩) ∧ w' = w := by
  go_enter Tryd.func75, Tryd.ntmps75
  go_wp2
  go_ret
  exact ⟨rfl, rfl⟩
theorem trim_any (l : List UInt8) (w : World) (hl : l.length ≤ 1000000) : Calls Tryd.prog 75 #[.string ⟨l.toArray⟩, .string ⟨#[32, 9]⟩] w fun e w' => e = .returned (.string ⟨(Lib.trimS l [32, 9]).toArray⟩) ∧ Below w.heap.size w w' := by
  cases l with
  | nil => exact (trim_nil w).mono fun _ _ ⟨he, hw⟩ => ⟨he, by rw [hw]; exact Below.refl _ _⟩
  | cons c t =>
    have e1 : (ByteArray.mk (c :: t).toArray).size = (c :: t).length := by simp [ByteArray.size]
    refine (Tryd.strings_Trim_set ⟨(c :: t).toArray⟩ ⟨#[32, 9]⟩ w (by decide) (by rw [e1]; simp) (by rw [e1]; omega) (by decide) (by
      intro j b hj
      match j, hj with
      | 0, hj => simp at hj; subst hj; decide
      | 1, hj => simp at hj; subst hj; decide)).mono ?_
    rintro e w' ⟨rfl, q, rfl⟩
    exact ⟨by simp, below_dn (((Below.refl _ _).alloc (Nat.le_refl _) _).alloc (by simp) _) q⟩

set_option maxHeartbeats 1600000 in
set_option maxRecDepth 100000 in
theorem line_any (l : List UInt8) (w : World) (hl : l.length ≤ 1000000) : Calls Tryd.prog 120 #[.string ⟨l.toArray⟩] w fun e w' => e = .returned (.bool (Sm.lok l)) ∧ Below w.heap.size w w' := by
  obtain ⟨b, hb⟩ : ∃ b, b = Sm.lok l := ⟨_, rfl⟩
  have HB := Lib.hid hb
  rw [← hb]
  clear hb
  have hbr := Below.refl w.heap.size w
  go_enter Tryd.func120, Tryd.ntmps120
  go_wp2
  go_loop [7] (fun i => ∃ k : Nat, k ≤ l.length ∧ i = .int .i64 k ∧ Hid (∀ j (hj : j < l.length), j < k → Sm.cok l[j] = true)) (fun i => l.length - (intOf i).toNat)
  case atStart => exact ⟨0, Nat.zero_le _, rfl, fun j _ h => absurd h (Nat.not_lt_zero _)⟩
  case round =>
    obtain ⟨k, hk, rfl, HP⟩ := hrel
    by_cases hlt : k < l.length
    · have more : Sm.cok l[k] = true → ∀ j (hj : j < l.length), j < k + 1 → Sm.cok l[j] = true := fun hc j hj h => by
        by_cases e : j = k
        · subst e; exact hc
        · exact HP.out j hj (by omega)
      have HM := Lib.hid more
      have HN : Hid (Sm.cok l[k] = false → false = b) := fun h => by rw [HB.out]; exact lok_no (all_no k hlt h)
      clear more
      have eg : (ByteArray.mk l.toArray)[k]'hlt = l[k] := rfl
      have e127 := eq127 l[k]
      have e9 := eq9 l[k]
      by_cases a1 : l[k].toNat < 32
      · cases a2 : (l[k] == 9) with
        | true =>
          rw [a2] at e9
          have n9 : ((l[k].toNat : Int) != 9) = false := by unfold bne; rw [e9]; rfl
          have f127 : ((l[k].toNat : Int) == 127) = false := by rw [beq_eq_false_iff_ne]; omega
          have HC := HM.out (cok_yes (Or.inr a2) (by rw [← e127]; exact f127))
          have HC' := Lib.hid HC
          clear HC HM HN e127
          go_wp2
          exact ⟨⟨k + 1, hlt, by go_num, HC'⟩, by simp [intOf]; omega⟩
        | false =>
          rw [a2] at e9
          have n9 : ((l[k].toNat : Int) != 9) = true := by unfold bne; rw [e9]; rfl
          have HF : Hid (false = b) := HN.out (cok_no1 a1 a2)
          clear HM HN
          go_wp2
          go_ret
          exact ⟨ret_bool HF.out, hbr⟩
      · cases a3 : (l[k] == 127) with
        | true =>
          rw [a3] at e127
          have HF : Hid (false = b) := HN.out (cok_no2 a3)
          clear HM HN
          go_wp2
          go_ret
          exact ⟨ret_bool HF.out, hbr⟩
        | false =>
          rw [a3] at e127
          have HC := HM.out (cok_yes (Or.inl (by omega)) a3)
          have HC' := Lib.hid HC
          clear HC HM HN
          go_wp2
          exact ⟨⟨k + 1, hlt, by go_num, HC'⟩, by simp [intOf]; omega⟩
    · have hall : l.all Sm.cok = true := all_to (fun j hj => HP.out j hj (by omega))
      have HY : Hid (b = (Lib.trimS l [32, 9] == l)) := by show b = _; rw [HB.out, trim_beq, lok_all hall]
      clear HP hall
      go_wp2_with (go_at_call 75; refine (trim_any l _ hl).mono ?_; rintro x w1 ⟨rfl, b1⟩)
      go_ret
      exact ⟨ret_bool HY.out.symm, b1⟩

end Go.Proofs.YtniknhfpbcbcbabDoor
