/- The walks of blanks, Trim, lines, values, either side. -/
import Derived.Test.YtmlmdncepgcimaaGreatDoorZav
import Derived.Shelf.Strings.SlTrimAscii
import Derived.Deep.QuietTactic
import Derived.BigQuiet
import Derived.Lib.QuietBelow
namespace Go.Proofs.YtmlmdncepgcimaaGreatDoor.Stz
open Go.RowKit Go.Shelf

theorem xblank_any (c : UInt8) (w : World) : Calls Tryz.prog 161 #[.int .u8 c.toNat] w fun e w' => e = .returned (.bool (Sm.bl c)) ∧ w' = w := by
  have e32 := eq32 c
  have e9 := eq9 c
  cases h1 : (c == 32) with
  | true =>
    rw [h1] at e32
    go_enter Tryz.func161, Tryz.ntmps161
    go_wp2
    go_ret
    exact ⟨ret_bool (by simp [Sm.bl, h1]), rfl⟩
  | false =>
    rw [h1] at e32
    cases h2 : (c == 9) with
    | true =>
      rw [h2] at e9
      go_enter Tryz.func161, Tryz.ntmps161
      go_wp2
      go_ret
      exact ⟨ret_bool (by simp [Sm.bl, h1, h2]), rfl⟩
    | false =>
      rw [h2] at e9
      go_enter Tryz.func161, Tryz.ntmps161
      go_wp2
      go_ret
      exact ⟨ret_bool (by simp [Sm.bl, h1, h2]), rfl⟩

def strLen : Value → Nat
  | .string s => s.size
  | _ => 0
theorem tl_cons_bl {c : UInt8} {t : List UInt8} (h : Sm.bl c = true) : Sm.tl (c :: t) = Sm.tl t := by unfold Sm.tl; rw [List.dropWhile_cons, if_pos h]
theorem tl_cons_no {c : UInt8} {t : List UInt8} (h : Sm.bl c = false) : Sm.tl (c :: t) = c :: t := by unfold Sm.tl; rw [List.dropWhile_cons, if_neg (by simp [h])]
theorem tr_app_bl {c : UInt8} {t : List UInt8} (h : Sm.bl c = true) : Sm.tr (t ++ [c]) = Sm.tr t := by unfold Sm.tr; rw [List.reverse_append]; simp [h]
theorem tr_app_no {c : UInt8} {t : List UInt8} (h : Sm.bl c = false) : Sm.tr (t ++ [c]) = t ++ [c] := by unfold Sm.tr; rw [List.reverse_append]; simp [h]

theorem last_get (m : List UInt8) (d : UInt8) (h : m.length < (ByteArray.mk (m ++ [d]).toArray).size) : (ByteArray.mk (m ++ [d]).toArray)[m.length]'h = d := by
  show (m ++ [d])[m.length]'h = d
  simp

attribute [local go_sem] ba_head in
set_option maxHeartbeats 3200000 in
set_option maxRecDepth 100000 in
theorem xtrim_any (l : List UInt8) (w : World) (hl : l.length ≤ 1000000) : Calls Tryz.prog 160 #[.string ⟨l.toArray⟩] w fun e w' => e = .returned (.string ⟨(Sm.tr (Sm.tl l)).toArray⟩) ∧ w' = w := by
  obtain ⟨r, hr⟩ : ∃ r, r = Sm.tr (Sm.tl l) := ⟨_, rfl⟩
  have HR := Lib.hid hr
  rw [← hr]
  clear hr
  go_enter Tryz.func160, Tryz.ntmps160
  go_wp2
  go_loop [0] (fun v => ∃ m : List UInt8, v = .string ⟨m.toArray⟩ ∧ m.length ≤ 1000000 ∧ Hid (r = Sm.tr (Sm.tl m))) (fun v => strLen v)
  case atStart => exact ⟨l, rfl, hl, HR⟩
  case round =>
    obtain ⟨m, rfl, hm, HM⟩ := hrel
    cases m with
    | nil =>
      go_wp2_with fail
      go_loop [0] (fun v => ∃ m : List UInt8, v = .string ⟨m.toArray⟩ ∧ m.length ≤ 1000000 ∧ Hid (r = Sm.tr m)) (fun v => strLen v)
      case atStart => exact ⟨[], rfl, by simp, HM⟩
      case round =>
        obtain ⟨m, rfl, hm, HM⟩ := hrel
        rcases List.eq_nil_or_concat m with rfl | ⟨m', d, rfl⟩
        · go_wp2
          go_ret
          exact ⟨by rw [HM.out]; rfl, rfl⟩
        · rw [List.concat_eq_append] at *
          have hne : (m' ++ [d]).isEmpty = false := by cases m' <;> rfl
          have hla : (m' ++ [d]).length = m'.length + 1 := by simp
          have eg : ∀ h, (ByteArray.mk (m' ++ [d]).toArray)[m'.length]'h = d := fun h => last_get m' d h
          have hx : (ByteArray.mk (m' ++ [d]).toArray).extract 0 m'.length = ⟨m'.toArray⟩ := by apply ByteArray.ext; simp
          cases hd : Sm.bl d with
          | true =>
            have cB : ∀ W, Calls Tryz.prog 161 #[.int .u8 d.toNat] W fun e w' => e = .returned (.bool true) ∧ w' = W := fun W => by rw [← hd]; exact xblank_any d W
            have HT : Hid (r = Sm.tr m') := by show r = _; rw [HM.out, tr_app_bl hd]
            have hm' : m'.length ≤ 1000000 := by omega
            clear HM
            go_wp2_with (go_at_call 161; with_reducible refine (cB _).mono ?_; rintro x w' ⟨rfl, rfl⟩)
            exact ⟨⟨m', rfl, hm', HT⟩, by simp [strLen, ByteArray.size]⟩
          | false =>
            have cB : ∀ W, Calls Tryz.prog 161 #[.int .u8 d.toNat] W fun e w' => e = .returned (.bool false) ∧ w' = W := fun W => by rw [← hd]; exact xblank_any d W
            have HT : Hid (r = m' ++ [d]) := by show r = _; rw [HM.out, tr_app_no hd]
            clear HM
            go_wp2_with (go_at_call 161; with_reducible refine (cB _).mono ?_; rintro x w' ⟨rfl, rfl⟩)
            go_ret
            exact ⟨by rw [HT.out]; rfl, rfl⟩
    | cons c t =>
      cases hc : Sm.bl c with
      | true =>
        have cB : ∀ W, Calls Tryz.prog 161 #[.int .u8 c.toNat] W fun e w' => e = .returned (.bool true) ∧ w' = W := fun W => by rw [← hc]; exact xblank_any c W
        have HT : Hid (r = Sm.tr (Sm.tl t)) := by show r = _; rw [HM.out, tl_cons_bl hc]
        have hx : (ByteArray.mk (c :: t).toArray).extract 1 (t.length + 1) = ⟨t.toArray⟩ := by apply ByteArray.ext; simp
        simp only [List.length_cons] at hm
        clear HM
        go_wp2_with (go_at_call 161; with_reducible refine (cB _).mono ?_; rintro x w' ⟨rfl, rfl⟩)
        exact ⟨⟨t, rfl, by omega, HT⟩, by simp [strLen, ByteArray.size]⟩
      | false =>
        have cB : ∀ W, Calls Tryz.prog 161 #[.int .u8 c.toNat] W fun e w' => e = .returned (.bool false) ∧ w' = W := fun W => by rw [← hc]; exact xblank_any c W
        have HT : Hid (r = Sm.tr (c :: t)) := by show r = _; rw [HM.out, tl_cons_no hc]
        simp only [List.length_cons] at hm
        have hm1 : (c :: t).length ≤ 1000000 := by simpa using hm
        clear HM
        go_wp2_with (go_at_call 161; with_reducible refine (cB _).mono ?_; rintro x w' ⟨rfl, rfl⟩)
        go_loop [0] (fun v => ∃ m : List UInt8, v = .string ⟨m.toArray⟩ ∧ m.length ≤ 1000000 ∧ Hid (r = Sm.tr m)) (fun v => strLen v)
        case atStart => exact ⟨c :: t, rfl, hm1, HT⟩
        case round =>
          obtain ⟨m, rfl, hm, HM⟩ := hrel
          rcases List.eq_nil_or_concat m with rfl | ⟨m', d, rfl⟩
          · go_wp2
            go_ret
            exact ⟨by rw [HM.out]; rfl, rfl⟩
          · rw [List.concat_eq_append] at *
            have hne : (m' ++ [d]).isEmpty = false := by cases m' <;> rfl
            have hla : (m' ++ [d]).length = m'.length + 1 := by simp
            have eg : ∀ h, (ByteArray.mk (m' ++ [d]).toArray)[m'.length]'h = d := fun h => last_get m' d h
            have hx : (ByteArray.mk (m' ++ [d]).toArray).extract 0 m'.length = ⟨m'.toArray⟩ := by apply ByteArray.ext; simp
            cases hd : Sm.bl d with
            | true =>
              have cB : ∀ W, Calls Tryz.prog 161 #[.int .u8 d.toNat] W fun e w' => e = .returned (.bool true) ∧ w' = W := fun W => by rw [← hd]; exact xblank_any d W
              have HT : Hid (r = Sm.tr m') := by show r = _; rw [HM.out, tr_app_bl hd]
              have hm' : m'.length ≤ 1000000 := by omega
              clear HM
              go_wp2_with (go_at_call 161; with_reducible refine (cB _).mono ?_; rintro x w' ⟨rfl, rfl⟩)
              exact ⟨⟨m', rfl, hm', HT⟩, by simp [strLen, ByteArray.size]⟩
            | false =>
              have cB : ∀ W, Calls Tryz.prog 161 #[.int .u8 d.toNat] W fun e w' => e = .returned (.bool false) ∧ w' = W := fun W => by rw [← hd]; exact xblank_any d W
              have HT : Hid (r = m' ++ [d]) := by show r = _; rw [HM.out, tr_app_no hd]
              clear HM
              go_wp2_with (go_at_call 161; with_reducible refine (cB _).mono ?_; rintro x w' ⟨rfl, rfl⟩)
              go_ret
              exact ⟨by rw [HT.out]; rfl, rfl⟩

theorem cok_no1 {c : UInt8} (h : c.toNat < 32) (h9 : (c == 9) = false) : Sm.cok c = false := by unfold Sm.cok; rw [h9, show decide (32 ≤ c.toNat) = false from by simp; omega]; rfl
theorem cok_no2 {c : UInt8} (h : (c == 127) = true) : Sm.cok c = false := by unfold Sm.cok; rw [h]; simp
theorem cok_yes {c : UInt8} (h1 : 32 ≤ c.toNat ∨ (c == 9) = true) (h2 : (c == 127) = false) : Sm.cok c = true := by
  unfold Sm.cok; rw [h2]; rcases h1 with h1 | h1 <;> simp_all
theorem lok_no {l : List UInt8} (h : l.all Sm.cok = false) : false = Sm.lok l := by unfold Sm.lok; rw [h]; rfl
theorem lok_all {l : List UInt8} (h : l.all Sm.cok = true) : (Sm.tr (Sm.tl l) == l) = Sm.lok l := by unfold Sm.lok; rw [h]; rfl

set_option maxHeartbeats 1600000 in
set_option maxRecDepth 100000 in
theorem xline_any (l : List UInt8) (w : World) (hl : l.length ≤ 1000000) : Calls Tryz.prog 115 #[.string ⟨l.toArray⟩] w fun e w' => e = .returned (.bool (Sm.lok l)) ∧ w' = w := by
  obtain ⟨b, hb⟩ : ∃ b, b = Sm.lok l := ⟨_, rfl⟩
  have HB := Lib.hid hb
  rw [← hb]
  clear hb
  go_enter Tryz.func115, Tryz.ntmps115
  go_wp2
  go_loop [6] (fun i => ∃ k : Nat, k ≤ l.length ∧ i = .int .i64 k ∧ Hid (∀ j (hj : j < l.length), j < k → Sm.cok l[j] = true)) (fun i => l.length - (intOf i).toNat)
  case atStart => exact ⟨0, Nat.zero_le _, rfl, fun j _ h => absurd h (Nat.not_lt_zero _)⟩
  case round =>
    obtain ⟨k, hk, rfl, HP⟩ := hrel
    by_cases hlt : k < l.length
    · have more : Sm.cok l[k] = true → ∀ j (hj : j < l.length), j < k + 1 → Sm.cok l[j] = true := fun hc j hj h => by
        by_cases e : j = k
        · subst e; exact hc
        · exact HP.out j hj (by omega)
      have HM := Lib.hid more
      have HN : Hid (Sm.cok l[k] = false → false = b) := fun h => by rw [HB.out]; exact lok_no (all_no k hlt h)
      clear more
      have eg : (ByteArray.mk l.toArray)[k]'hlt = l[k] := rfl
      have e127 := eq127 l[k]
      have e9 := eq9 l[k]
      by_cases a1 : l[k].toNat < 32
      · cases a2 : (l[k] == 9) with
        | true =>
          rw [a2] at e9
          have n9 : ((l[k].toNat : Int) != 9) = false := by unfold bne; rw [e9]; rfl
          have f127 : ((l[k].toNat : Int) == 127) = false := by rw [beq_eq_false_iff_ne]; omega
          have HC := HM.out (cok_yes (Or.inr a2) (by rw [← e127]; exact f127))
          have HC' := Lib.hid HC
          clear HC HM HN e127
          go_wp2
          exact ⟨⟨k + 1, hlt, by go_num, HC'⟩, by simp [intOf]; omega⟩
        | false =>
          rw [a2] at e9
          have n9 : ((l[k].toNat : Int) != 9) = true := by unfold bne; rw [e9]; rfl
          have HF : Hid (false = b) := HN.out (cok_no1 a1 a2)
          clear HM HN
          go_wp2
          go_ret
          exact ⟨ret_bool HF.out, rfl⟩
      · cases a3 : (l[k] == 127) with
        | true =>
          rw [a3] at e127
          have HF : Hid (false = b) := HN.out (cok_no2 a3)
          clear HM HN
          go_wp2
          go_ret
          exact ⟨ret_bool HF.out, rfl⟩
        | false =>
          rw [a3] at e127
          have HC := HM.out (cok_yes (Or.inl (by omega)) a3)
          have HC' := Lib.hid HC
          clear HC HM HN
          go_wp2
          exact ⟨⟨k + 1, hlt, by go_num, HC'⟩, by simp [intOf]; omega⟩
    · have hall : l.all Sm.cok = true := all_to (fun j hj => HP.out j hj (by omega))
      have HY : Hid (b = (Sm.tr (Sm.tl l) == l)) := by show b = _; rw [HB.out, lok_all hall]
      clear HP hall
      go_wp2_with (go_at_call 160; refine (xtrim_any l _ hl).mono ?_; rintro x w' ⟨rfl, rfl⟩)
      go_ret
      exact ⟨ret_bool HY.out.symm, rfl⟩

theorem trimS_eq (l : List UInt8) : Lib.trimS l [32, 9] = Sm.tl (Sm.tr l) := by
  have h : (fun c : UInt8 => [32, 9].contains c) = Sm.bl := by funext c; simp [Sm.bl]; rfl
  unfold Lib.trimS Lib.trimLeftS Lib.trimRightS Sm.tl Sm.tr
  rw [h]
theorem tl_suf (l : List UInt8) : Sm.tl l <:+ l := List.dropWhile_suffix _
theorem tr_pre (l : List UInt8) : Sm.tr l <+: l := by
  have := (List.dropWhile_suffix Sm.bl (l := l.reverse))
  unfold Sm.tr
  exact List.reverse_suffix.1 (by simpa using this)
theorem trim_l (l : List UInt8) : Sm.tr (Sm.tl l) = l ↔ (Sm.tl l = l ∧ Sm.tr l = l) := by
  constructor
  · intro h
    have h1 := (tl_suf l).length_le
    have h2 := (tr_pre (Sm.tl l)).length_le
    rw [h] at h2
    have h3 : Sm.tl l = l := (tl_suf l).eq_of_length (by omega)
    rw [h3] at h; exact ⟨h3, h⟩
  · rintro ⟨h1, h2⟩; rw [h1, h2]
theorem trim_r (l : List UInt8) : Sm.tl (Sm.tr l) = l ↔ (Sm.tl l = l ∧ Sm.tr l = l) := by
  constructor
  · intro h
    have h1 := (tr_pre l).length_le
    have h2 := (tl_suf (Sm.tr l)).length_le
    rw [h] at h2
    have h3 : Sm.tr l = l := (tr_pre l).eq_of_length (by omega)
    rw [h3] at h; exact ⟨h, h3⟩
  · rintro ⟨h1, h2⟩; rw [h2, h1]
theorem trim_beq (l : List UInt8) : (Lib.trimS l [32, 9] == l) = (Sm.tr (Sm.tl l) == l) := by
  rw [trimS_eq, Bool.eq_iff_iff, beq_iff_eq, beq_iff_eq, trim_l, trim_r]

theorem below_dn {B : Nat} {a w : World} (h : Below B a w) (n : Nat) : Below B a (w.drewN n) := h.trans ⟨rfl, rfl, rfl, Nat.le_refl _, fun _ _ => rfl⟩

theorem trim_nil (w : World) : Calls Tryz.prog 141 #[.string ⟨#[]⟩, .string ⟨#[32, 9]⟩] w fun e w' => e = .returned (.string ⟨#[]⟩) ∧ w' = w := by
  go_enter Tryz.func141, Tryz.ntmps141
  go_wp2
  go_ret
  exact ⟨rfl, rfl⟩
theorem asc2 : ∀ (j : Nat) (b : UInt8), (ByteArray.mk #[32, 9]).data.toList[j]? = some b → b.toNat < 128 := by
  intro j b hj
  match j, hj with
  | 0, hj => simp at hj; subst hj; decide
  | 1, hj => simp at hj; subst hj; decide
  | j + 2, hj => simp at hj
theorem trim_any (l : List UInt8) (w : World) (hl : l.length ≤ 1000000) : Calls Tryz.prog 141 #[.string ⟨l.toArray⟩, .string ⟨#[32, 9]⟩] w fun e w' => e = .returned (.string ⟨(Lib.trimS l [32, 9]).toArray⟩) ∧ Below w.heap.size w w' :=
  Any.strings_Trim_laid Tryz.lays160 (by kernel_rfl) ⟨l.toArray⟩ ⟨#[32, 9]⟩ w (by have : (ByteArray.mk l.toArray).size = l.length := by simp [ByteArray.size]
                                                                                  omega) (by decide) asc2

set_option maxHeartbeats 1600000 in
set_option maxRecDepth 100000 in
theorem line_any (l : List UInt8) (w : World) (hl : l.length ≤ 1000000) : Calls Tryz.prog 208 #[.string ⟨l.toArray⟩] w fun e w' => e = .returned (.bool (Sm.lok l)) ∧ Below w.heap.size w w' := by
  obtain ⟨b, hb⟩ : ∃ b, b = Sm.lok l := ⟨_, rfl⟩
  have HB := Lib.hid hb
  rw [← hb]
  clear hb
  have hbr := Below.refl w.heap.size w
  go_enter Tryz.func208, Tryz.ntmps208
  go_wp2
  go_loop [7] (fun i => ∃ k : Nat, k ≤ l.length ∧ i = .int .i64 k ∧ Hid (∀ j (hj : j < l.length), j < k → Sm.cok l[j] = true)) (fun i => l.length - (intOf i).toNat)
  case atStart => exact ⟨0, Nat.zero_le _, rfl, fun j _ h => absurd h (Nat.not_lt_zero _)⟩
  case round =>
    obtain ⟨k, hk, rfl, HP⟩ := hrel
    by_cases hlt : k < l.length
    · have more : Sm.cok l[k] = true → ∀ j (hj : j < l.length), j < k + 1 → Sm.cok l[j] = true := fun hc j hj h => by
        by_cases e : j = k
        · subst e; exact hc
        · exact HP.out j hj (by omega)
      have HM := Lib.hid more
      have HN : Hid (Sm.cok l[k] = false → false = b) := fun h => by rw [HB.out]; exact lok_no (all_no k hlt h)
      clear more
      have eg : (ByteArray.mk l.toArray)[k]'hlt = l[k] := rfl
      have e127 := eq127 l[k]
      have e9 := eq9 l[k]
      by_cases a1 : l[k].toNat < 32
      · cases a2 : (l[k] == 9) with
        | true =>
          rw [a2] at e9
          have n9 : ((l[k].toNat : Int) != 9) = false := by unfold bne; rw [e9]; rfl
          have f127 : ((l[k].toNat : Int) == 127) = false := by rw [beq_eq_false_iff_ne]; omega
          have HC := HM.out (cok_yes (Or.inr a2) (by rw [← e127]; exact f127))
          have HC' := Lib.hid HC
          clear HC HM HN e127
          go_wp2
          exact ⟨⟨k + 1, hlt, by go_num, HC'⟩, by simp [intOf]; omega⟩
        | false =>
          rw [a2] at e9
          have n9 : ((l[k].toNat : Int) != 9) = true := by unfold bne; rw [e9]; rfl
          have HF : Hid (false = b) := HN.out (cok_no1 a1 a2)
          clear HM HN
          go_wp2
          go_ret
          exact ⟨ret_bool HF.out, hbr⟩
      · cases a3 : (l[k] == 127) with
        | true =>
          rw [a3] at e127
          have HF : Hid (false = b) := HN.out (cok_no2 a3)
          clear HM HN
          go_wp2
          go_ret
          exact ⟨ret_bool HF.out, hbr⟩
        | false =>
          rw [a3] at e127
          have HC := HM.out (cok_yes (Or.inl (by omega)) a3)
          have HC' := Lib.hid HC
          clear HC HM HN
          go_wp2
          exact ⟨⟨k + 1, hlt, by go_num, HC'⟩, by simp [intOf]; omega⟩
    · have hall : l.all Sm.cok = true := all_to (fun j hj => HP.out j hj (by omega))
      have HY : Hid (b = (Lib.trimS l [32, 9] == l)) := by show b = _; rw [HB.out, trim_beq, lok_all hall]
      clear HP hall
      go_wp2_with (go_at_call 141; refine (trim_any l _ hl).mono ?_; rintro x w1 ⟨rfl, b1⟩)
      go_ret
      exact ⟨ret_bool HY.out.symm, b1⟩

end Go.Proofs.YtmlmdncepgcimaaGreatDoor.Stz

/- The walks of strings.Cut at one byte, and of a value's lines. -/
namespace Go.Proofs.YtmlmdncepgcimaaGreatDoor.Stz
open Go.RowKit Go.Shelf

theorem ret_cut {a b c d : ByteArray} {x y : Bool} (h1 : a = b) (h2 : c = d) (h3 : x = y) : Ending.returned (.tuple #[.string a, .string c, .bool x]) = .returned (.tuple #[.string b, .string d, .bool y]) := by rw [h1, h2, h3]
theorem ba_take (l : List UInt8) (k : Nat) : (ByteArray.mk l.toArray).extract 0 k = ⟨(l.take k).toArray⟩ := by apply ByteArray.ext; simp
theorem ba_drop (l : List UInt8) (k : Nat) : (ByteArray.mk l.toArray).extract k l.length = ⟨(l.drop k).toArray⟩ := by
  apply ByteArray.ext; simp; exact List.take_of_length_le (by simp)

theorem lcut_some (c : UInt8) (l : List UInt8) (k : Nat) (w : World) (hl : l.length ≤ 1000000) (hk : k < l.length) (hi : Lib.indexByte l c = k) : Calls Tryz.prog 162 #[.string ⟨l.toArray⟩, .string ⟨#[c]⟩] w fun e w' =>
    e = .returned (.tuple #[.string ⟨(l.take k).toArray⟩, .string ⟨(l.drop (k + 1)).toArray⟩, .bool true]) ∧ ∃ n, w' = w.drewN n := by
  have HI := Lib.hid hi
  clear hi
  go_enter Tryz.func162, Tryz.ntmps162
  go_wp2_with fail
  refine (Tryz.stringslite_Index_one ⟨l.toArray⟩ c _).mono ?_
  rintro e w' ⟨rfl, rfl⟩
  rw [show Lib.indexByte (ByteArray.mk l.toArray).data.toList c = (k : Int) from HI.out]
  have h1 : (k : Int) ≤ (l.length : Int) := by omega
  have h2 : (k : Int) + 1 ≤ (l.length : Int) := by omega
  go_wp2_with fail
  go_quiet (fail)
  go_wp2
  go_ret3
  exact ⟨ret_cut (ba_take l k) (ba_drop l (k + 1)) rfl, _, rfl⟩

theorem lcut_none (c : UInt8) (l : List UInt8) (w : World) (hi : Lib.indexByte l c = -1) : Calls Tryz.prog 162 #[.string ⟨l.toArray⟩, .string ⟨#[c]⟩] w fun e w' =>
    e = .returned (.tuple #[.string ⟨l.toArray⟩, .string ⟨#[]⟩, .bool false]) ∧ ∃ n, w' = w.drewN n := by
  have HI := Lib.hid hi
  clear hi
  go_enter Tryz.func162, Tryz.ntmps162
  go_wp2_with fail
  refine (Tryz.stringslite_Index_one ⟨l.toArray⟩ c _).mono ?_
  rintro e w' ⟨rfl, rfl⟩
  rw [show Lib.indexByte (ByteArray.mk l.toArray).data.toList c = -1 from HI.out]
  go_wp2
  go_ret3
  exact ⟨rfl, 0, rfl⟩

theorem cut_some (c : UInt8) (l : List UInt8) (k : Nat) (w : World) (hl : l.length ≤ 1000000) (hk : k < l.length) (hi : Lib.indexByte l c = k) : Calls Tryz.prog 110 #[.string ⟨l.toArray⟩, .string ⟨#[c]⟩] w fun e w' =>
    e = .returned (.tuple #[.string ⟨(l.take k).toArray⟩, .string ⟨(l.drop (k + 1)).toArray⟩, .bool true]) ∧ Below w.heap.size w w' := by
  have HI := Lib.hid hi
  clear hi
  go_enter Tryz.func110, Tryz.ntmps110
  go_wp2_with fail
  refine (lcut_some c l k _ hl hk HI.out).mono ?_
  rintro e w' ⟨rfl, n, rfl⟩
  go_wp2
  go_ret3
  exact ⟨rfl, below_dn (Below.refl _ _) n⟩
theorem cut_none (c : UInt8) (l : List UInt8) (w : World) (hi : Lib.indexByte l c = -1) : Calls Tryz.prog 110 #[.string ⟨l.toArray⟩, .string ⟨#[c]⟩] w fun e w' =>
    e = .returned (.tuple #[.string ⟨l.toArray⟩, .string ⟨#[]⟩, .bool false]) ∧ Below w.heap.size w w' := by
  have HI := Lib.hid hi
  clear hi
  go_enter Tryz.func110, Tryz.ntmps110
  go_wp2_with fail
  refine (lcut_none c l _ HI.out).mono ?_
  rintro e w' ⟨rfl, n, rfl⟩
  go_wp2
  go_ret3
  exact ⟨rfl, below_dn (Below.refl _ _) n⟩

/-- What strings.Cut at a line feed hands back. -/
structure CutIs (l x y : List UInt8) (b : Bool) : Prop where
  len : x.length ≤ l.length
  less : b = true → y.length < l.length
  spl : Sm.spl l = if b = true then x :: Sm.spl y else [x]
  nil : b = false → y = []
  call : ∀ w, l.length ≤ 1000000 → Calls Tryz.prog 110 #[.string ⟨l.toArray⟩, .string ⟨#[10]⟩] w fun e w' => e = .returned (.tuple #[.string ⟨x.toArray⟩, .string ⟨y.toArray⟩, .bool b]) ∧ Below w.heap.size w w'
theorem cut_line (l : List UInt8) : ∃ x y b, CutIs l x y b := by
  rcases Sm.fc_spl l with ⟨h1, h2⟩ | ⟨k, hk, h1, h2⟩
  · exact ⟨l, [], false, Nat.le_refl _, by simp, by simpa using h2, fun _ => rfl, fun w _ => cut_none 10 l w h1⟩
  · exact ⟨l.take k, l.drop (k + 1), true, by simp; omega, by simp; omega, by simpa using h2, by simp, fun w hl => cut_some 10 l k w hl hk h1⟩

/-- Lines that are left, i of them taken. -/
def restOk (i : Nat) (m : Bool) (l : List UInt8) : Bool := if m = false then true else if i = 0 then Sm.vok l else Sm.mok (Sm.spl l)

theorem restOk_step {i : Nat} {l x y : List UInt8} {b : Bool} (C : CutIs l x y b) : restOk i true l = ((!(decide (0 < i) && (x == []))) && Sm.lok x && restOk (i + 1) b y) := by
  unfold restOk
  cases b with
  | false =>
    have h := C.spl; simp at h
    by_cases hi : i = 0
    · subst hi; simp [Sm.vok, h, Sm.mok]
    · simp [hi, h, Sm.mok, Nat.pos_of_ne_zero hi]
  | true =>
    have h := C.spl; simp at h
    by_cases hi : i = 0
    · subst hi; simp [Sm.vok, h]
    · simp [hi, h, Sm.mok, Nat.pos_of_ne_zero hi]

set_option maxHeartbeats 1600000 in
set_option maxRecDepth 100000 in
theorem value_any (l : List UInt8) (w : World) (hl : l.length ≤ 1000000) : Calls Tryz.prog 167 #[.string ⟨l.toArray⟩] w fun e w' => e = .returned (.bool (Sm.vok l)) ∧ Below w.heap.size w w' := by
  obtain ⟨b, hb⟩ : ∃ b, b = Sm.vok l := ⟨_, rfl⟩
  have HB : Hid (b = restOk 0 true l) := by show b = _; rw [hb]; rfl
  rw [← hb]
  clear hb
  go_enter Tryz.func167, Tryz.ntmps167
  go_wp2
  go_loopw [0, 3, 4] (fun v i m W => ∃ (y : List UInt8) (k : Nat) (q : Bool), v = .string ⟨y.toArray⟩ ∧ i = .int .i64 k ∧ m = .bool q ∧ Hid (q = true → k + y.length ≤ l.length) ∧ k ≤ l.length + 1 ∧ y.length ≤ l.length ∧ Hid (b = restOk k q y) ∧ Below w.heap.size w W) (fun v i m _ => match m with | .bool true => strLen v + 1 | _ => 0)
  case atStart => exact ⟨l, 0, true, rfl, rfl, rfl, fun _ => by omega, by omega, Nat.le_refl _, HB, Below.refl _ _⟩
  case round =>
    obtain ⟨y, k, q, rfl, rfl, rfl, h1, h2, h3, HK, hW⟩ := hrel
    cases q with
    | false =>
      go_wp2
      go_ret
      exact ⟨ret_bool (by rw [HK.out]; rfl), hW⟩
    | true =>
      obtain ⟨x, z, b', C⟩ := cut_line y
      have hst := restOk_step (i := k) C
      have hkb : k + y.length ≤ l.length := h1.out rfl
      have hxl : x.length ≤ 1000000 := by have := C.len; omega
      have HL : Hid (b' = true → z.length < y.length) := C.less
      have HZ : Hid (b' = false → z = []) := C.nil
      have hcc := fun W => C.call W (by omega)
      have HC := Lib.hid hcc
      have HS : Hid (b = ((!(decide (0 < k) && (x == []))) && Sm.lok x && restOk (k + 1) b' z)) := by show b = _; rw [HK.out, hst]
      have hin : Hid ((b' = true → k + 1 + z.length ≤ l.length) ∧ k + 1 ≤ l.length + 1 ∧ z.length ≤ l.length) := by
        refine ⟨fun e => ?_, by omega, ?_⟩
        · have := C.less e; omega
        · cases hb' : b' with
          | true => have := C.less hb'; omega
          | false => rw [C.nil hb']; simp
      have hme : Hid ((match Value.bool b' with | .bool true => z.length + 1 | _ => 0) < y.length + 1) := by
        cases hb' : b' with
        | true => have := C.less hb'; show z.length + 1 < y.length + 1; omega
        | false => show 0 < y.length + 1; omega
      clear hst hcc C HL HZ HK h1
      by_cases hk0 : k = 0
      · subst hk0
        cases hlx : Sm.lok x with
        | true =>
          have HS' : Hid (b = restOk (0 + 1) b' z) := by show b = _; rw [HS.out, hlx]; simp
          have cL : ∀ W, Calls Tryz.prog 208 #[.string ⟨x.toArray⟩] W fun e w' => e = .returned (.bool true) ∧ Below W.heap.size W w' := fun W => by rw [← hlx]; exact line_any x W hxl
          clear HS
          go_wp2_with fail
          refine (HC.out _).mono ?_
          rintro e w1 ⟨rfl, b1⟩
          go_wp2_with fail
          refine (cL _).mono ?_
          rintro e w2 ⟨rfl, b2⟩
          go_wp2_with fail
          exact ⟨⟨z, 0 + 1, b', rfl, by go_num, rfl, hin.out.1, hin.out.2.1, hin.out.2.2, HS', onn (onn hW b1) b2⟩, hme.out⟩
        | false =>
          have HS' : Hid (b = false) := by show b = _; rw [HS.out, hlx]; simp
          have cL : ∀ W, Calls Tryz.prog 208 #[.string ⟨x.toArray⟩] W fun e w' => e = .returned (.bool false) ∧ Below W.heap.size W w' := fun W => by rw [← hlx]; exact line_any x W hxl
          clear HS
          go_wp2_with fail
          refine (HC.out _).mono ?_
          rintro e w1 ⟨rfl, b1⟩
          go_wp2_with fail
          refine (cL _).mono ?_
          rintro e w2 ⟨rfl, b2⟩
          go_wp2_with fail
          go_ret
          exact ⟨ret_bool HS'.out.symm, onn (onn hW b1) b2⟩
      · have hkp : 0 < k := Nat.pos_of_ne_zero hk0
        cases x with
        | nil =>
          have HS' : Hid (b = false) := by show b = _; rw [HS.out]; simp [hkp]
          clear HS
          go_wp2_with fail
          refine (HC.out _).mono ?_
          rintro e w1 ⟨rfl, b1⟩
          go_wp2_with fail
          go_ret
          exact ⟨ret_bool HS'.out.symm, onn hW b1⟩
        | cons c t =>
          obtain ⟨x, hx⟩ : ∃ x, x = c :: t := ⟨_, rfl⟩
          have hxe : x.isEmpty = false := by rw [hx]; rfl
          have hxn : (x == []) = false := by rw [hx]; rfl
          rw [← hx] at hxl HC HS
          clear hx
          cases hlx : Sm.lok x with
          | true =>
            have HS' : Hid (b = restOk (k + 1) b' z) := by show b = _; rw [HS.out, hlx, hxn]; simp
            have cL : ∀ W, Calls Tryz.prog 208 #[.string ⟨x.toArray⟩] W fun e w' => e = .returned (.bool true) ∧ Below W.heap.size W w' := fun W => by rw [← hlx]; exact line_any x W hxl
            clear HS
            go_wp2_with fail
            refine (HC.out _).mono ?_
            rintro e w1 ⟨rfl, b1⟩
            go_wp2_with fail
            refine (cL _).mono ?_
            rintro e w2 ⟨rfl, b2⟩
            go_wp2_with fail
            exact ⟨⟨z, k + 1, b', rfl, by go_num, rfl, hin.out.1, hin.out.2.1, hin.out.2.2, HS', onn (onn hW b1) b2⟩, hme.out⟩
          | false =>
            have HS' : Hid (b = false) := by show b = _; rw [HS.out, hlx]; simp
            have cL : ∀ W, Calls Tryz.prog 208 #[.string ⟨x.toArray⟩] W fun e w' => e = .returned (.bool false) ∧ Below W.heap.size W w' := fun W => by rw [← hlx]; exact line_any x W hxl
            clear HS
            go_wp2_with fail
            refine (HC.out _).mono ?_
            rintro e w1 ⟨rfl, b1⟩
            go_wp2_with fail
            refine (cL _).mono ?_
            rintro e w2 ⟨rfl, b2⟩
            go_wp2_with fail
            go_ret
            exact ⟨ret_bool HS'.out.symm, onn (onn hW b1) b2⟩

end Go.Proofs.YtmlmdncepgcimaaGreatDoor.Stz

/- The walks of find, and of fields in a row. -/
namespace Go.Proofs.YtmlmdncepgcimaaGreatDoor.Stz
open Go.RowKit Go.Shelf Go.Sort

abbrev fv (f : Sm.F) : Value := .agg #[.string ⟨f.1.toArray⟩, .string ⟨f.2.toArray⟩]

/-- Fields that lie in a row. -/
structure Fl (W : World) (b o : Nat) (l : List Sm.F) : Prop where
  lt : b < W.heap.size
  c0 : ∀ i (hi : i < l.length), W.cell? ⟨b, o + i * 2, none⟩ = some (.string ⟨l[i].1.toArray⟩)
  c1 : ∀ i (hi : i < l.length), W.cell? ⟨b, o + i * 2 + 1, none⟩ = some (.string ⟨l[i].2.toArray⟩)
theorem Fl.on {W w' : World} {b o : Nat} {l : List Sm.F} (h : Fl W b o l) (k : Below W.heap.size W w') : Fl w' b o l :=
  ⟨Nat.lt_of_lt_of_le h.lt k.size, fun i hi => by rw [k.cell h.lt]; exact h.c0 i hi, fun i hi => by rw [k.cell h.lt]; exact h.c1 i hi⟩
theorem Fl.take {W : World} {b o : Nat} {l : List Sm.F} (h : Fl W b o l) (k : Nat) : Fl W b o (l.take k) :=
  ⟨h.lt, fun i hi => by rw [h.c0 i (by simp at hi; omega)]; simp, fun i hi => by rw [h.c1 i (by simp at hi; omega)]; simp⟩
/-- Fields short enough. -/
structure Sz (l : List Sm.F) : Prop where
  n : l.length ≤ 60
  s : ∀ f ∈ l, f.1.length ≤ 100 ∧ f.2.length ≤ 4000

theorem rg {w W w' : World} (h : Below w.heap.size w W) (h' : ∃ p : Regrown, w' = grow (redrawn W p.d) p.os) : Below w.heap.size w w' := by
  obtain ⟨p, rfl⟩ := h'
  exact h.trans ((below_regrown W p.d p.os).mono h.size)

set_option maxHeartbeats 1600000 in
set_option maxRecDepth 100000 in
theorem clos_any (f : Sm.F) (s : List UInt8) (p : Nat) (w : World) (hp : w.cell? ⟨p, 0, none⟩ = some (.string ⟨s.toArray⟩)) (hl : f.1.length ≤ 1000000) :
    Calls Tryz.prog 179 #[fv f, .pointer (some ⟨p, 0, none⟩)] w fun e w' => e = .returned (.bool (Sm.small f.1 == s)) ∧ Below w.heap.size w w' := by
  obtain ⟨⟨x, y⟩, hf⟩ : ∃ g, g = f := ⟨_, rfl⟩
  subst hf
  have hA : Below w.heap.size w (w.alloc (.cells #[.string ⟨x.toArray⟩, .string ⟨y.toArray⟩] 52)) := (Below.refl _ _).alloc (Nat.le_refl _) _
  go_enter Tryz.func179, Tryz.ntmps179
  go_wp2_with fail
  have b0 : (w.alloc (.cells #[.string ⟨x.toArray⟩, .string ⟨y.toArray⟩] 52)).cell? ⟨w.heap.size, 0, none⟩ = some (.string ⟨x.toArray⟩) := by simp
  have b1 : (w.alloc (.cells #[.string ⟨x.toArray⟩, .string ⟨y.toArray⟩] 52)).cell? ⟨p, 0, none⟩ = some (.string ⟨s.toArray⟩) := by rw [hA.cell (block_lt_of_cell hp)]; exact hp
  generalize (w.alloc (.cells #[.string ⟨x.toArray⟩, .string ⟨y.toArray⟩] 52)) = wr at hA b0 b1 ⊢
  have k0 := cell_regrown b0
  have k1 := cell_regrown b1
  obtain ⟨t, ht⟩ : ∃ t, t = Sm.small x := ⟨_, rfl⟩
  have d1 : ∀ d os, Calls Tryz.prog 177 #[.string ⟨x.toArray⟩] (grow (redrawn wr d) os) fun x w'' => x = .returned (.string ⟨t.toArray⟩) ∧ ∃ p : Regrown, w'' = grow (redrawn wr p.d) p.os := fun d os => Calls.regrown_of (by rw [ht]; exact small_any x _ hl)
  have HT := Lib.hid ht
  clear ht
  refine wp_region_quiet_below (by kernel_rfl) (by kernel_rfl) ?_
  repeat (any_goals (first | go_big_quiet_step ((with_reducible exact d1 _ _)) | quiet_step ((with_reducible exact d1 _ _))))
  refine wpQuiet_nil ?_
  intro wq hwq
  have hq := rg hA hwq
  go_wp2
  go_ret
  exact ⟨ret_bool (by rw [HT.out]), hq⟩

def ix : Option Nat → Int
  | none => -1
  | some i => i
theorem ret_int {a b : Int} (h : a = b) : Ending.returned (.int .i64 a) = .returned (.int .i64 b) := by rw [h]
theorem fi_none {l : List Sm.F} {q : Sm.F → Bool} (h : ∀ j (hj : j < l.length), q l[j] = false) : l.findIdx? q = none := by
  rw [List.findIdx?_eq_none_iff]
  intro x hx
  obtain ⟨j, hj, rfl⟩ := List.getElem_of_mem hx
  exact h j hj
theorem fi_some {l : List Sm.F} {q : Sm.F → Bool} (k : Nat) (hk : k < l.length) (h1 : q l[k] = true) (h : ∀ j (hj : j < l.length), j < k → q l[j] = false) : l.findIdx? q = some k := by
  rw [List.findIdx?_eq_some_iff_getElem]
  exact ⟨hk, h1, fun j hj => by rw [h j (by omega) hj]; simp⟩

set_option maxHeartbeats 1600000 in
set_option maxRecDepth 100000 in
theorem idxf_any (b o c : Nat) (l : List Sm.F) (s : List UInt8) (p : Nat) (w : World) (h : Fl w b o l) (hz : Sz l) (hp : w.cell? ⟨p, 0, none⟩ = some (.string ⟨s.toArray⟩)) :
    Calls Tryz.prog 178 #[.slice (some ⟨b, o, none⟩) l.length c, .func (Fn.func 179) #[] #[.pointer (some ⟨p, 0, none⟩)]] w fun e w' => e = .returned (.int .i64 (ix (l.findIdx? fun f => Sm.small f.1 == s))) ∧ Below w.heap.size w w' := by
  obtain ⟨r, hr⟩ : ∃ r, r = ix (l.findIdx? fun f => Sm.small f.1 == s) := ⟨_, rfl⟩
  have HR := Lib.hid hr
  rw [← hr]
  clear hr
  have hn := hz.n
  have HZ := Lib.hid hz
  clear hz
  go_enter Tryz.func178, Tryz.ntmps178
  go_wp2
  go_loopw [8] (fun i W => ∃ k : Nat, k ≤ l.length ∧ i = .int .i64 k ∧ Below w.heap.size w W ∧ Hid (∀ j (hj : j < l.length), j < k → (Sm.small l[j].1 == s) = false)) (fun i _ => l.length - (intOf i).toNat)
  case atStart => exact ⟨0, Nat.zero_le _, rfl, Below.refl _ _, fun j _ h => absurd h (Nat.not_lt_zero _)⟩
  case round =>
    obtain ⟨k, hk, rfl, hW, HP⟩ := hrel
    by_cases hlt : k < l.length
    · have hF := h.on hW
      have c0 := hF.c0 k hlt
      have c1 := hF.c1 k hlt
      have hpk := hp
      rw [← hW.cell (block_lt_of_cell hp)] at hpk
      have hfs := HZ.out.s l[k] (List.getElem_mem hlt)
      have cC := clos_any l[k] s p wr hpk (by omega)
      cases hq : (Sm.small l[k].1 == s) with
      | true =>
        rw [hq] at cC
        have HF : Hid (r = k) := by show r = _; rw [HR.out, fi_some k hlt hq (fun j hj h => HP.out j hj h)]; rfl
        go_wp2_with fail
        refine cC.mono ?_
        rintro e w1 ⟨rfl, b1⟩
        go_wp2_with fail
        go_ret
        exact ⟨ret_int HF.out.symm, onn hW b1⟩
      | false =>
        rw [hq] at cC
        have HN : Hid (∀ j (hj : j < l.length), j < k + 1 → (Sm.small l[j].1 == s) = false) := fun j hj h => by
          by_cases e : j = k
          · subst e; exact hq
          · exact HP.out j hj (by omega)
        go_wp2_with fail
        refine cC.mono ?_
        rintro e w1 ⟨rfl, b1⟩
        go_wp2_with fail
        exact ⟨⟨k + 1, hlt, by go_num, onn hW b1, HN⟩, by simp [intOf]; omega⟩
    · go_wp2
      go_ret
      exact ⟨ret_int (by rw [HR.out, fi_none (fun j hj => HP.out j hj (by omega))]; rfl), hW⟩

theorem idxf_nil (A : Option Addr) (c : Nat) (p : Nat) (w : World) :
    Calls Tryz.prog 178 #[.slice A 0 c, .func (Fn.func 179) #[] #[.pointer (some ⟨p, 0, none⟩)]] w fun e w' => e = .returned (.int .i64 (-1)) ∧ w' = w := by
  go_enter Tryz.func178, Tryz.ntmps178
  go_wp2
  refine wp_loop_rounds 1 ?_
  rw [rounds_succ]
  go_wp2
  go_ret
  exact ⟨rfl, rfl⟩

/-- A list of fields as it is handed in: in a row, or none. -/
structure Sl (W : World) (v : Value) (l : List Sm.F) : Prop where
  is : (l = [] ∧ ∃ A c, v = .slice A 0 c) ∨ ∃ b o c, v = .slice (some ⟨b, o, none⟩) l.length c ∧ l.length ≤ c ∧ Fl W b o l
theorem Sl.on {W w' : World} {v : Value} {l : List Sm.F} (h : Sl W v l) (k : Below W.heap.size W w') : Sl w' v l := by
  rcases h.is with ⟨h1, h2⟩ | ⟨b, o, c, h1, h2, h3⟩
  · exact ⟨Or.inl ⟨h1, h2⟩⟩
  · exact ⟨Or.inr ⟨b, o, c, h1, h2, h3.on k⟩⟩

theorem idxf_sl (v : Value) (l : List Sm.F) (s : List UInt8) (p : Nat) (w : World) (h : Sl w v l) (hz : Sz l) (hp : w.cell? ⟨p, 0, none⟩ = some (.string ⟨s.toArray⟩)) :
    Calls Tryz.prog 178 #[v, .func (Fn.func 179) #[] #[.pointer (some ⟨p, 0, none⟩)]] w fun e w' => e = .returned (.int .i64 (ix (l.findIdx? fun f => Sm.small f.1 == s))) ∧ Below w.heap.size w w' := by
  rcases h.is with ⟨rfl, A, c, rfl⟩ | ⟨b, o, c, rfl, _, hf⟩
  · exact (idxf_nil A c p w).mono fun _ _ ⟨he, hw⟩ => ⟨he, by rw [hw]; exact Below.refl _ _⟩
  · exact idxf_any b o c l s p w hf hz hp

set_option maxHeartbeats 1600000 in
set_option maxRecDepth 100000 in
theorem find_any (v : Value) (l : List Sm.F) (n : List UInt8) (w : World) (h : Sl w v l) (hz : Sz l) (hn : n.length ≤ 1000000) :
    Calls Tryz.prog 138 #[v, .string ⟨n.toArray⟩] w fun e w' => e = .returned (.int .i64 (ix (Sm.fnd l n))) ∧ Below w.heap.size w w' := by
  have HZ := Lib.hid hz
  have HS := Lib.hid h
  clear hz h
  go_enter Tryz.func138, Tryz.ntmps138
  go_wp2_with fail
  refine (small_any n _ hn).mono ?_
  rintro e w1 ⟨rfl, b1⟩
  have b2 : Below w1.heap.size w1 (w1.alloc (.cells #[.string ⟨(Sm.small n).toArray⟩] 9)) := (Below.refl _ _).alloc (Nat.le_refl _) _
  have hc : (w1.alloc (.cells #[.string ⟨(Sm.small n).toArray⟩] 9)).cell? ⟨w1.heap.size, 0, none⟩ = some (.string ⟨(Sm.small n).toArray⟩) := by simp
  go_wp2_with fail
  refine (idxf_sl v l (Sm.small n) w1.heap.size _ (HS.out.on (onn b1 b2)) HZ.out hc).mono ?_
  rintro e w3 ⟨rfl, b3⟩
  go_wp2
  go_ret
  exact ⟨rfl, onn (onn b1 b2) b3⟩

end Go.Proofs.YtmlmdncepgcimaaGreatDoor.Stz

/- The walks of Get, either side. -/
namespace Go.Proofs.YtmlmdncepgcimaaGreatDoor.Stz
open Go.RowKit Go.Shelf Go.Sort

theorem clone_any (l : List UInt8) (w : World) (hl : l.length ≤ 1000000) : Calls Tryz.prog 44 #[.string ⟨l.toArray⟩] w fun e w' => e = .returned (.string ⟨l.toArray⟩) ∧ Below w.heap.size w w' := by
  go_enter Tryz.func44, Tryz.ntmps44
  go_wp2_with fail
  refine (Tryz.stringslite_Clone ⟨l.toArray⟩ _ (by have : (ByteArray.mk l.toArray).size = l.length := by simp [ByteArray.size]
                                                   omega)).mono ?_
  rintro e w' ⟨rfl, hb⟩
  go_wp2
  go_ret
  exact ⟨rfl, hb⟩

def getVal : Option (List UInt8) → Value
  | none => .tuple #[.string ⟨#[]⟩, .bool false]
  | some v => .tuple #[.string ⟨v.toArray⟩, .bool true]

theorem fnd_lt {l : List Sm.F} {s : List UInt8} {i : Nat} (h : Sm.fnd l s = some i) : i < l.length := by
  unfold Sm.fnd at h; rw [List.findIdx?_eq_some_iff_getElem] at h; exact h.1
theorem gets_some {l : List Sm.F} {s : List UInt8} {i : Nat} (h : Sm.fnd l s = some i) : Sm.gets l s = some (l[i]'(fnd_lt h)).2 := by
  unfold Sm.gets; rw [h]; simp [List.getD, fnd_lt h]
theorem gets_none {l : List Sm.F} {s : List UInt8} (h : Sm.fnd l s = none) : Sm.gets l s = none := by unfold Sm.gets; rw [h]; rfl

set_option maxHeartbeats 1600000 in
set_option maxRecDepth 100000 in
theorem get_any (v : Value) (l : List Sm.F) (n : List UInt8) (w : World) (h : Sl w v l) (hz : Sz l) (hn : n.length ≤ 1000000) :
    Calls Tryz.prog 75 #[v, .string ⟨n.toArray⟩] w fun e w' => e = .returned (getVal (Sm.gets l n)) ∧ Below w.heap.size w w' := by
  have cF := fun W hW => find_any v l n W hW hz hn
  cases hf : Sm.fnd l n with
  | none =>
    rw [hf] at cF
    rw [gets_none hf]
    have HS := Lib.hid h
    have HF := Lib.hid cF
    clear h cF hf hz
    go_enter Tryz.func75, Tryz.ntmps75
    go_wp2_with fail
    refine (HF.out _ HS.out).mono ?_
    rintro e w1 ⟨rfl, b1⟩
    rw [show ix none = -1 from rfl]
    go_wp2
    go_ret2
    exact ⟨rfl, b1⟩
  | some i =>
    rw [hf] at cF
    have hi := fnd_lt hf
    rw [show Sm.gets l n = some l[i].2 from gets_some hf]
    have hsz := hz.s l[i] (List.getElem_mem hi)
    have hln := hz.n
    rcases h.is with ⟨rfl, _⟩ | ⟨b, o, c, rfl, hlc, hfl⟩
    · simp at hi
    have HS := Lib.hid h
    have HF := Lib.hid cF
    have HL := Lib.hid hfl
    clear h cF hf hz hfl
    go_enter Tryz.func75, Tryz.ntmps75
    go_wp2_with fail
    refine (HF.out _ HS.out).mono ?_
    rintro e w1 ⟨rfl, b1⟩
    rw [show ix (some i) = (i : Int) from rfl]
    have c1 := (HL.out.on b1).c1 i hi
    go_wp2_with fail
    refine (clone_any l[i].2 _ (by omega)).mono ?_
    rintro e w2 ⟨rfl, b2⟩
    go_wp2
    go_ret2
    exact ⟨rfl, onn b1 b2⟩

set_option maxHeartbeats 1600000 in
set_option maxRecDepth 100000 in
theorem xget_row (b o c : Nat) (l : List Sm.F) (n : List UInt8) (w : World) (h : Fl w b o l) (hz : Sz l) (hn : n.length ≤ 1000000) :
    Calls Tryz.prog 69 #[.slice (some ⟨b, o, none⟩) l.length c, .string ⟨n.toArray⟩] w fun e w' => e = .returned (getVal (Sm.gets l n)) ∧ Below w.heap.size w w' := by
  obtain ⟨r, hr⟩ : ∃ r, r = Sm.gets l n := ⟨_, rfl⟩
  have HR := Lib.hid hr
  rw [← hr]
  clear hr
  have hln := hz.n
  have HZ := Lib.hid hz
  clear hz
  go_enter Tryz.func69, Tryz.ntmps69
  go_wp2
  go_loopw [10] (fun i W => ∃ k : Nat, k ≤ l.length ∧ i = .int .i64 k ∧ Below w.heap.size w W ∧ Hid (∀ j (hj : j < l.length), j < k → (Sm.small l[j].1 == Sm.small n) = false)) (fun i _ => l.length - (intOf i).toNat)
  case atStart => exact ⟨0, Nat.zero_le _, rfl, Below.refl _ _, fun j _ h => absurd h (Nat.not_lt_zero _)⟩
  case round =>
    obtain ⟨k, hk, rfl, hW, HP⟩ := hrel
    by_cases hlt : k < l.length
    · have hF := h.on hW
      have c0 := hF.c0 k hlt
      have c1 := hF.c1 k hlt
      have hfs := HZ.out.s l[k] (List.getElem_mem hlt)
      have bA : Below w.heap.size w (wr.alloc (.cells #[.string ⟨l[k].1.toArray⟩, .string ⟨l[k].2.toArray⟩] 52)) := hW.alloc hW.size _
      go_wp2_with fail
      refine (xsmall_any l[k].1 _ (by omega)).mono ?_
      rintro e w1 ⟨rfl, b1⟩
      have d1 : w1.cell? ⟨wr.heap.size, 1, none⟩ = some (.string ⟨l[k].2.toArray⟩) := by rw [b1.cell (by simp)]; simp
      go_wp2_with fail
      refine (xsmall_any n _ hn).mono ?_
      rintro e w2 ⟨rfl, b2⟩
      have d2 : w2.cell? ⟨wr.heap.size, 1, none⟩ = some (.string ⟨l[k].2.toArray⟩) := by rw [b2.cell (block_lt_of_cell d1)]; exact d1
      cases hq : (Sm.small l[k].1 == Sm.small n) with
      | true =>
        have HF : Hid (r = some l[k].2) := by
          show r = _
          rw [HR.out]
          exact gets_some (i := k) (fi_some k hlt hq (fun j hj h => HP.out j hj h))
        go_wp2_with fail
        go_ret2
        exact ⟨by rw [HF.out]; rfl, onn (onn bA b1) b2⟩
      | false =>
        have HN : Hid (∀ j (hj : j < l.length), j < k + 1 → (Sm.small l[j].1 == Sm.small n) = false) := fun j hj h => by
          by_cases e : j = k
          · subst e; exact hq
          · exact HP.out j hj (by omega)
        go_wp2_with fail
        exact ⟨⟨k + 1, hlt, by go_num, onn (onn bA b1) b2, HN⟩, by simp [intOf]; omega⟩
    · go_wp2
      go_ret2
      exact ⟨by rw [HR.out, gets_none (fi_none (fun j hj => HP.out j hj (by omega)))]; rfl, hW⟩
theorem xget_nil (A : Option Addr) (c : Nat) (n : List UInt8) (w : World) :
    Calls Tryz.prog 69 #[.slice A 0 c, .string ⟨n.toArray⟩] w fun e w' => e = .returned (getVal none) ∧ w' = w := by
  go_enter Tryz.func69, Tryz.ntmps69
  go_wp2
  refine wp_loop_rounds 1 ?_
  rw [rounds_succ]
  go_wp2
  go_ret2
  exact ⟨rfl, rfl⟩
theorem xget_any (v : Value) (l : List Sm.F) (n : List UInt8) (w : World) (h : Sl w v l) (hz : Sz l) (hn : n.length ≤ 1000000) :
    Calls Tryz.prog 69 #[v, .string ⟨n.toArray⟩] w fun e w' => e = .returned (getVal (Sm.gets l n)) ∧ Below w.heap.size w w' := by
  rcases h.is with ⟨rfl, A, c, rfl⟩ | ⟨b, o, c, rfl, _, hf⟩
  · exact (xget_nil A c n w).mono fun _ _ ⟨he, hw⟩ => ⟨he, by rw [hw]; exact Below.refl _ _⟩
  · exact xget_row b o c l n w hf hz hn

end Go.Proofs.YtmlmdncepgcimaaGreatDoor.Stz
