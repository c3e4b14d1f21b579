/- The walk of take: any line. -/
import Derived.Test.YtfoangkkagijcaaGreatDoorQg
namespace Go.Proofs.YtfoangkkagijcaaGreatDoor.Stz
open Go.RowKit Go.Shelf Go.Sort

theorem nm_set {cur : List Sm.F} {val : List UInt8} (h1 : (setL cur val).length ≤ 40) (h2 : ∀ f ∈ setL cur val, f.1.length ≤ 100) : Nm cur := by
  refine ⟨by rw [setL_length] at h1; omega, fun f hf => ?_⟩
  have h3 : f.1 ∈ (setL cur val).map (·.1) := by rw [setL_names]; exact List.mem_map.2 ⟨f, hf, rfl⟩
  obtain ⟨f', h4, h5⟩ := List.mem_map.1 h3
  rw [← h5]; exact h2 f' h4

theorem idx_cases (l : List UInt8) (c : UInt8) : Lib.indexByte l c = -1 ∨ ∃ k : Nat, Lib.indexByte l c = k ∧ k < l.length := by
  induction l with
  | nil => exact Or.inl rfl
  | cons b l ih =>
    unfold Lib.indexByte
    by_cases h : b = c
    · right; exact ⟨0, by simp [h], by simp⟩
    · rcases ih with ih | ⟨k, h1, h2⟩
      · left; simp [h, ih]
      · right
        refine ⟨k + 1, ?_, by simp; omega⟩
        have hk : ((k : Int) == -1) = false := by rw [beq_eq_false_iff_ne]; omega
        simp [h, h1, hk]

theorem bg_any {B C r : Nat} {S A V : Value} {out : List (List Sm.F)} {vs : List Value} {cur : List Sm.F} {val : List UInt8} {w0 W : World} (h : Rd B C r S A V out vs cur val w0 W) (hp : Nm cur) (hv : val.length ≤ 1000000) (l : List UInt8) (hl : l.length ≤ 1000000) :
    Calls Tryz.prog 195 #[.pointer (some ⟨r, 0, none⟩), .string ⟨l.toArray⟩] W fun e w' => e = .returned (.bool (bg (setL cur val) l).isSome) ∧ Below B w0 w' ∧
      ∀ x, bg (setL cur val) l = some x → ∃ A' V', Rd B C r S A' V' out vs (setL cur val ++ [(x.1, [])]) x.2 w0 w' := by
  by_cases hi : Lib.indexByte l 58 < 0
  · have hb : bg (setL cur val) l = none := by unfold bg; rw [if_pos hi]
    rw [hb]
    have hi' : Lib.indexByte l 58 = -1 := by
      rcases idx_cases l 58 with h1 | ⟨k, h1, _⟩
      · exact h1
      · omega
    refine (bg_none h l hi').mono ?_
    rintro e w' ⟨rfl, R⟩
    exact ⟨rfl, R.be, fun x hx => by cases hx⟩
  · obtain ⟨k, hk, hkl⟩ : ∃ k : Nat, Lib.indexByte l 58 = k ∧ k < l.length := by
      rcases idx_cases l 58 with h1 | ⟨k, h1, h2⟩
      · omega
      · exact ⟨k, h1, h2⟩
    have hb : bg (setL cur val) l = if (Sm.nok (l.take k) && Sm.lok (Lib.trimS (l.drop (k + 1)) [32, 9]) && !(cur.length == 40) && (Sm.fnd cur (l.take k)).isNone) = true then some (l.take k, Lib.trimS (l.drop (k + 1)) [32, 9]) else none := by
      unfold bg
      rw [if_neg hi, hk, setL_length]
      simp only [Int.toNat_natCast, fnd_names (setL_names cur val)]
    refine (bg_some h hp hv l hl k hkl hk _ _ rfl rfl (by simp; omega) (by have := trim_len (l.drop (k + 1)); simp at this; omega)).mono ?_
    rintro e w' ⟨q, rfl, hq, h1, h2⟩
    rw [← hq] at hb
    rw [hb]
    cases q with
    | false => exact ⟨rfl, (h1 rfl).be, fun x hx => by cases hx⟩
    | true => exact ⟨rfl, by obtain ⟨_, _, R⟩ := h2 rfl; exact R.be, fun x hx => by cases hx; exact h2 rfl⟩

set_option maxHeartbeats 1600000 in
set_option maxRecDepth 100000 in
theorem take_new {B C r : Nat} {S A V : Value} {out : List (List Sm.F)} {vs : List Value} {cur : List Sm.F} {val : List UInt8} {w0 W : World} (h : Rd B C r S A V out vs cur val w0 W) (hp : Nm cur) (hv : val.length ≤ 1000000) (c : UInt8) (l t : List UInt8) (hl : (c :: l).length ≤ 1000000) (hh : (c == 35) = false) (ht : Lib.trimS (c :: l) [32, 9] = t) (hne : t.isEmpty = false) (hb : Sm.bl c = false) :
    Calls Tryz.prog 146 #[.pointer (some ⟨r, 0, none⟩), .string ⟨(c :: l).toArray⟩] W fun e w' => e = .returned (.bool (bg (setL cur val) (c :: l)).isSome) ∧ Below B w0 w' ∧
      ∀ x, bg (setL cur val) (c :: l) = some x → ∃ A' V', Rd B C r S A' V' out vs (setL cur val ++ [(x.1, [])]) x.2 w0 w' := by
  have cH : ∀ W, Calls Tryz.prog 106 #[.string ⟨(c :: l).toArray⟩, .string ⟨#[35]⟩] W fun e w' => e = .returned (.bool false) ∧ w' = W := fun W => by
    have := hp35 (c :: l) W
    have e1 : ((c :: l).head? == some 35) = false := by simpa using hh
    rw [e1] at this; exact this
  have cT : ∀ W, Calls Tryz.prog 141 #[.string ⟨(c :: l).toArray⟩, .string ⟨#[32, 9]⟩] W fun e w' => e = .returned (.string ⟨t.toArray⟩) ∧ Below W.heap.size W w' := fun W => by
    have := trim_any (c :: l) W hl; rw [ht] at this; exact this
  have cI : ∀ W, Calls Tryz.prog 170 #[.string ⟨#[32, 9]⟩, .int .u8 c.toNat] W fun e w' => ∃ k : Int, e = .returned (.int .i64 k) ∧ decide (0 ≤ k) = false ∧ w' = W := fun W => by
    refine (idx_bl c W).mono ?_
    rintro e w' ⟨k, rfl, h1, h2⟩
    exact ⟨k, rfl, by rw [← h1, hb], h2⟩
  have HT := Lib.hid cT
  have HR := Lib.hid h
  have HV := Lib.hid hv
  have HL := Lib.hid hl
  obtain ⟨g, hg⟩ : ∃ g, g = bg (setL cur val) (c :: l) := ⟨_, rfl⟩
  have HG := Lib.hid hg
  clear h hh ht cT hv hg hb
  rw [← HG.out]
  go_enter Tryz.func146, Tryz.ntmps146
  go_wp2_with fail
  refine (HT.out _).mono ?_
  rintro e w1 ⟨rfl, b1⟩
  go_wp2_with (first | (go_at_call 106; with_reducible refine (cH _).mono ?_; rintro x w' ⟨rfl, rfl⟩) | (go_at_call 170; refine (cI _).mono ?_; rintro x w' ⟨k, rfl, hk, rfl⟩))
  refine (bg_any (HR.out.on b1) hp HV.out (c :: l) HL.out).mono ?_
  rintro e w2 ⟨rfl, R2⟩
  have HR2 := Lib.hid R2
  clear R2
  rw [← HG.out] at HR2 ⊢
  go_wp2
  go_ret
  exact ⟨rfl, HR2.out⟩

theorem mem_addL {cu : List Sm.F} {u : List UInt8} {f : Sm.F} (h : f ∈ addL cu u) : ∃ g ∈ cu, g.1 = f.1 := by
  unfold addL at h
  rcases List.eq_nil_or_concat cu with rfl | ⟨p, g, rfl⟩
  · simp at h
  · simp at h
    rcases h with h | rfl
    · exact ⟨f, by simp [h], rfl⟩
    · exact ⟨g, by simp, rfl⟩
theorem addL_length (cu : List Sm.F) (u : List UInt8) : (addL cu u).length = cu.length := by
  unfold addL
  rcases List.eq_nil_or_concat cu with rfl | ⟨p, g, rfl⟩
  · rfl
  · simp
theorem bg_len {cu : List Sm.F} {l : List UInt8} {x : List UInt8 × List UInt8} (h : bg cu l = some x) : x.1.length ≤ 24 ∧ x.2.length ≤ l.length ∧ cu.length ≠ 40 := by
  unfold bg at h
  split at h
  · cases h
  · simp only at h
    split at h
    · rename_i hq
      cases h
      simp only [Bool.and_eq_true] at hq
      refine ⟨?_, ?_, by simpa using hq.1.2⟩
      · have := hq.1.1.1; unfold Sm.nok at this; simp at this; simp; omega
      · have := trim_len (l.drop ((Lib.indexByte l 58).toNat + 1)); simp only [List.length_drop] at this; show (Lib.trimS _ _).length ≤ _; omega
    · cases h

theorem take_any {B r : Nat} {out : List (List Sm.F)} {cu : List Sm.F} {m : Nat} {w0 W : World} (h : Rs B r out cu m w0 W) (l : List UInt8) (hm : m ≤ 1000000) (hl : l.length ≤ 1000000) (ho : out.length ≤ 1000000) :
    Calls Tryz.prog 146 #[.pointer (some ⟨r, 0, none⟩), .string ⟨l.toArray⟩] W fun e w' => e = .returned (.bool (step out cu l).isSome) ∧ Below B w0 w' ∧ ∀ x, step out cu l = some x → Rs B r x.1 x.2 (m + l.length + 1) w0 w' := by
  obtain ⟨⟨C, S, A, V, vs, cur, val, hr, rfl, hvm⟩, hnm, hn⟩ := h
  have hNm := nm_set hn hnm
  have hc : cur.length ≤ 100 := by have := hNm.n; omega
  have hv : val.length ≤ 1000000 := by omega
  unfold step
  by_cases h1 : l.head? = some 35
  · rw [if_pos h1]
    refine (take_hash hr l hl h1).mono ?_
    rintro e w' ⟨rfl, R⟩
    exact ⟨rfl, R.be, fun x hx => by cases hx; exact ⟨⟨C, S, A, V, vs, cur, val, R, rfl, by omega⟩, hnm, hn⟩⟩
  · rw [if_neg h1]
    have h1' : (l.head? == some 35) = false := by rw [beq_eq_false_iff_ne]; exact h1
    by_cases h2 : Lib.trimS l [32, 9] = []
    · rw [if_pos h2]
      refine (take_empty hr hc hv ho l hl h1' h2).mono ?_
      rintro e w' ⟨rfl, C', S', V', vs', R⟩
      exact ⟨rfl, R.be, fun x hx => by cases hx; exact ⟨⟨C', S', _, V', vs', [], [], R, rfl, by simp⟩, by simp, by simp⟩⟩
    · rw [if_neg h2]
      cases l with
      | nil => exact absurd rfl h2
      | cons c l =>
        have h1c : (c == 35) = false := by simpa using h1'
        have hne : (Lib.trimS (c :: l) [32, 9]).isEmpty = false := by
          cases hq : Lib.trimS (c :: l) [32, 9] with
          | nil => exact absurd hq h2
          | cons a b => rfl
        have htl := trim_len (c :: l)
        cases hb : Sm.bl c with
        | true =>
          rw [if_pos (by simpa using hb), gOk_set]
          refine (take_more hr hc hv c l _ hl h1c rfl hne (by omega) hb).mono ?_
          rintro e w' ⟨rfl, R⟩
          refine ⟨by simp, ?_, fun x hx => ?_⟩
          · cases hg : gOk cur (Lib.trimS (c :: l) [32, 9]) with
            | none => exact ((R []).2 hg).be
            | some u => obtain ⟨_, R'⟩ := (R u).1 hg; exact R'.be
          cases hg : gOk cur (Lib.trimS (c :: l) [32, 9]) with
          | none => rw [hg] at hx; cases hx
          | some u =>
            rw [hg] at hx
            cases hx
            obtain ⟨V', R'⟩ := (R u).1 hg
            have hul := gOk_len hg
            refine ⟨⟨C, S, A, V', vs, cur, _, R', (setL_add cur val u).symm, ?_⟩, ?_, ?_⟩
            · simp at hul ⊢; simp at htl; omega
            · intro f hf
              obtain ⟨g, hg1, hg2⟩ := mem_addL hf
              rw [← hg2]; exact hnm g hg1
            · rw [addL_length]; exact hn
        | false =>
          rw [if_neg (by simp [hb])]
          refine (take_new hr hNm hv c l _ hl h1c rfl hne hb).mono ?_
          rintro e w' ⟨rfl, be, R⟩
          refine ⟨by simp, be, fun x hx => ?_⟩
          cases hg : bg (setL cur val) (c :: l) with
          | none => rw [hg] at hx; cases hx
          | some u =>
            rw [hg] at hx
            cases hx
            obtain ⟨A', V', R'⟩ := R u hg
            obtain ⟨k1, k2, k3⟩ := bg_len hg
            refine ⟨⟨C, S, A', V', vs, _, _, R', (setL_app _ (u.1, []) u.2).symm, ?_⟩, ?_, ?_⟩
            · omega
            · intro f hf
              rcases List.mem_append.1 hf with hf | hf
              · exact hnm f hf
              · simp at hf; subst hf; omega
            · simp; omega
end Go.Proofs.YtfoangkkagijcaaGreatDoor.Stz
