/- What the keeper does to a disk: mathematics. -/
import Derived.Test.YtjllnhdampjieaaDoorKc
import Derived.Test.YtjllnhdampjieaaDoorNa
namespace Go.Proofs.YtjllnhdampjieaaDoor
open Go.RowKit Go.Sort Go.Maps

def stt (a : Ent) : Ent := ⟨a.now, some a.now⟩
def syn (L : Kv Ent) : Kv Ent := mapV stt L
theorem nms_iff {L : Kv Ent} (h : Srt L) (k : List UInt8) : k ∈ nms L ↔ (lkL k L).isSome = true := by
  rw [nms_mem]
  constructor
  · rintro ⟨a, ha⟩; rw [(lk_iff h).2 ha]; rfl
  · intro hs
    obtain ⟨a, ha⟩ := Option.isSome_iff_exists.1 hs
    exact ⟨a, (lk_iff h).1 ha⟩
theorem chg_on (c : Int) : chg false c = c := by unfold chg; simp
theorem pwr_on (c : Int) : pwr false c = true := rfl
/-- Files made safe, one behind the other. -/
structure Sy (L : Kv Ent) (ns : List (List UInt8)) (L' : Kv Ent) : Prop where
  srt : Srt L'
  lk : ∀ k, lkL k L' = if k ∈ ns then (lkL k L).map stt else lkL k L
theorem Sy.start {L : Kv Ent} (h : Srt L) : Sy L [] L := ⟨h, fun k => by simp⟩
theorem Sy.at {L L' : Kv Ent} {ns : List (List UInt8)} (h : Sy L ns L') {k : List UInt8} {a : Ent} (hk : lkL k L = some a) : (lkL k L').isSome = true ∧ (ent k L').now = a.now := by
  unfold ent
  rw [h.lk, hk]
  split <;> exact ⟨rfl, rfl⟩
theorem Sy.step {L L' : Kv Ent} {ns : List (List UInt8)} (h : Sy L ns L') {k : List UInt8} {a : Ent} (hk : lkL k L = some a) (c : Int) : tcd L' false c k = 0 ∧ Sy L (ns ++ [k]) (sL L' false c k) := by
  obtain ⟨h1, h2⟩ := h.at hk
  refine ⟨by unfold tcd; rw [h1, pwr_on]; rfl, ?_⟩
  unfold sL
  rw [if_pos ⟨h1, rfl⟩, h2]
  refine ⟨h.srt.put _ _, fun k' => ?_⟩
  by_cases e : k' = k
  · subst e
    rw [lk_put_same h.srt, if_pos (by simp), hk]; rfl
  · rw [lk_put_other h.srt e, h.lk]
    have : (k' ∈ ns ++ [k]) = (k' ∈ ns) := by simp [e]
    simp only [this]
theorem syn_srt {L : Kv Ent} (h : Srt L) : Srt (syn L) := mapV_srt h
theorem syn_lk (L : Kv Ent) (k : List UInt8) : lkL k (syn L) = (lkL k L).map stt := mapV_lk _ _ _
theorem Sy.done {L L' : Kv Ent} (hS : Srt L) (h : Sy L (nms L) L') : L' = syn L := by
  refine ext_lk h.srt (syn_srt hS) fun k => ?_
  rw [h.lk, syn_lk]
  split
  · rfl
  · rename_i hn
    rw [nms_iff hS] at hn
    cases hl : lkL k L with
    | none => rfl
    | some a => exact absurd (by rw [hl]; rfl) hn
theorem Sy.kok {L L' : Kv Ent} {ns : List (List UInt8)} (h : Sy L ns L') (hK : Kok L) : Kok L' := by
  refine ⟨h.srt, fun k a ha => ?_⟩
  rw [h.lk] at ha
  split at ha
  · cases hl : lkL k L with
    | none => rw [hl] at ha; cases ha
    | some b =>
      rw [hl] at ha
      cases ha
      obtain ⟨h1, h2, h3⟩ := hK.is k b hl
      exact ⟨h1, h2, fun s hs => by cases hs; exact h2⟩
  · exact hK.is k a ha
theorem syn_kok {L : Kv Ent} (h : Kok L) : Kok (syn L) := by
  refine ⟨syn_srt h.srt, fun k a ha => ?_⟩
  rw [syn_lk] at ha
  cases hl : lkL k L with
  | none => rw [hl] at ha; cases ha
  | some b =>
    rw [hl] at ha
    cases ha
    obtain ⟨h1, h2, h3⟩ := h.is k b hl
    exact ⟨h1, h2, fun s hs => by cases hs; exact h2⟩
/-- Files that are safe as they are. -/
structure Stl (M : Kv Ent) : Prop where
  is : ∀ k a, lkL k M = some a → a.sf = some a.now
theorem syn_stl (L : Kv Ent) : Stl (syn L) := ⟨fun k a ha => by
  rw [syn_lk] at ha
  cases hl : lkL k L with
  | none => rw [hl] at ha; cases ha
  | some b => rw [hl] at ha; cases ha; rfl⟩
theorem ent_eta (a : Ent) (h : a.sf = some a.now) : (⟨a.now, some a.now⟩ : Ent) = a := by cases a; simp at h; rw [h]
theorem Stl.start {M : Kv Ent} (h : Stl M) (hS : Srt M) (n : Int) : stL M n = M := by
  refine ext_lk (stL_srt hS n) hS fun k => ?_
  rw [stL_lk hS]
  cases hl : lkL k M with
  | none => rfl
  | some a =>
    have := h.is k a hl
    unfold gl lf
    simp only [Option.bind_some]
    rw [if_pos this]
    simp only [Option.map_some]
    rw [ent_eta a this]
/-- Files written since. -/
structure Wr (M L : Kv Ent) : Prop where
  kok : Kok L
  sf : ∀ k a, lkL k L = some a → a.sf = (lkL k M).map (·.now)
  up : ∀ k, (lkL k M).isSome = true → (lkL k L).isSome = true
theorem Wr.start {M : Kv Ent} (hK : Kok M) (h : Stl M) : Wr M M := ⟨hK, fun k a ha => by rw [h.is k a ha, ha]; rfl, fun _ h => h⟩
theorem fit_on (L : Kv Ent) (k s : List UInt8) : fit L k s false 0 = true := rfl
theorem nok_one (x : UInt8) : nok [x] = true := rfl
theorem wL_on (L : Kv Ent) (c : Int) (x : UInt8) (s : List UInt8) : wL L false c false 0 [x] s = putL [x] ⟨s, (ent [x] L).sf⟩ L ∧ wcd L false c false 0 [x] s = 0 ∧ wc false c [x] = c := by
  refine ⟨?_, ?_, ?_⟩
  · unfold wL; rw [if_pos ⟨nok_one x, rfl, rfl⟩]
  · unfold wcd; rw [nok_one, pwr_on, fit_on]; rfl
  · unfold wc; rw [if_pos (nok_one x), chg_on]
theorem Wr.sfe {M L : Kv Ent} (h : Wr M L) (k : List UInt8) : (ent k L).sf = (lkL k M).map (·.now) := by
  unfold ent
  cases hl : lkL k L with
  | some a => exact h.sf k a hl
  | none =>
    have : (lkL k M).isSome = false := by
      cases hm : (lkL k M).isSome with
      | false => rfl
      | true => have := h.up k hm; rw [hl] at this; cases this
    rw [Option.isSome_eq_false_iff, Option.isNone_iff_eq_none] at this
    rw [this]; rfl
theorem Wr.step {M L : Kv Ent} (h : Wr M L) (c : Int) (x : Kc) (hx : x.t = 0) : Wr M (kst L false c x) := by
  have e : kst L false c x = putL [ltr x.f] ⟨kwr x, (ent [ltr x.f] L).sf⟩ L := by
    unfold kst; rw [if_pos hx, (wL_on L c _ _).1]
  refine ⟨h.kok.st false c x, fun k a ha => ?_, fun k hk => ?_⟩
  · rw [e] at ha
    by_cases ek : k = [ltr x.f]
    · subst ek
      rw [lk_put_same h.kok.srt] at ha
      cases ha
      exact h.sfe _
    · rw [lk_put_other h.kok.srt ek] at ha
      exact h.sf k a ha
  · rw [e]
    by_cases ek : k = [ltr x.f]
    · subst ek; rw [lk_put_same h.kok.srt]; rfl
    · rw [lk_put_other h.kok.srt ek]; exact h.up k hk
theorem Wr.back {M L : Kv Ent} (h : Wr M L) (hM : Srt M) (hs : Stl M) : stL L 0 = M := by
  refine ext_lk (stL_srt h.kok.srt 0) hM fun k => ?_
  rw [stL_lk h.kok.srt]
  cases hl : lkL k L with
  | none =>
    cases hm : lkL k M with
    | none => rfl
    | some a => have := h.up k (by rw [hm]; rfl); rw [hl] at this; cases this
  | some a =>
    have hsf := h.sf k a hl
    cases hm : lkL k M with
    | none =>
      rw [hm] at hsf
      simp at hsf
      unfold gl lf
      simp [hsf]
    | some b =>
      rw [hm] at hsf
      simp at hsf
      unfold gl lf
      simp only [Option.bind_some, hsf]
      have e1 := ent_eta b (hs.is k b hm)
      split
      · rename_i hh
        simp at hh
        simp only [Option.map_some]
        rw [← hh, e1]
      · simp only [Int.le_refl, if_true, Option.map_some]
        rw [e1]
/-- Files written again, in whatever order. -/
structure Wv (M L : Kv Ent) (left : List UInt8 → Bool) (L' : Kv Ent) : Prop where
  srt : Srt L'
  lk : ∀ k, lkL k L' = if ((lkL k L).isSome && !left k) = true then lkL k L else lkL k M
theorem Wv.start {M L : Kv Ent} (hM : Srt M) {left : List UInt8 → Bool} (hl : ∀ k, left k = (lkL k L).isSome) : Wv M L left M := ⟨hM, fun k => by rw [hl]; cases (lkL k L).isSome <;> simp⟩
theorem Wv.step {M L L' : Kv Ent} {left : List UInt8 → Bool} (h : Wv M L left L') (hW : Wr M L) (hs : Stl M) {k : List UInt8} {a : Ent} (ha : lkL k L = some a) (hk : left k = true) : Wv M L (fun z => left z && !(z == k)) (putL k ⟨a.now, (ent k L').sf⟩ L') := by
  have e1 : (⟨a.now, (ent k L').sf⟩ : Ent) = a := by
    have : (ent k L').sf = a.sf := by
      unfold ent
      rw [h.lk, hk, hW.sf k a ha]
      simp only [Bool.not_true, Bool.and_false, Bool.false_eq_true, if_false]
      cases hm : lkL k M with
      | none => rfl
      | some b => exact hs.is k b hm
    rw [this]
  rw [e1]
  refine ⟨h.srt.put _ _, fun k' => ?_⟩
  by_cases e : k' = k
  · subst e
    rw [lk_put_same h.srt, ha]
    simp
  · rw [lk_put_other h.srt e, h.lk]
    have : (k' == k) = false := by rw [beq_eq_false_iff_ne]; exact e
    rw [this]
    simp
theorem Wv.kok {M L L' : Kv Ent} {left : List UInt8 → Bool} (h : Wv M L left L') (hM : Kok M) (hL : Kok L) : Kok L' := ⟨h.srt, fun k a ha => by
  rw [h.lk] at ha
  split at ha
  · exact hL.is k a ha
  · exact hM.is k a ha⟩
theorem Wv.done {M L L' : Kv Ent} {left : List UInt8 → Bool} (h : Wv M L left L') (hW : Wr M L) (hl : ∀ k, left k = false) : L' = L := by
  refine ext_lk h.srt hW.kok.srt fun k => ?_
  rw [h.lk, hl]
  cases hk : lkL k L with
  | some a => simp
  | none =>
    simp
    cases hm : lkL k M with
    | none => rfl
    | some a => have := hW.up k (by rw [hm]; rfl); rw [hk] at this; cases this
/-- What is told of the files, by names. -/
structure Od (L : Kv Ent) (ns : List (List UInt8)) (O : Kv (List UInt8)) : Prop where
  srt : Srt O
  lk : ∀ k, lkL k O = if k ∈ ns then (lkL k L).map (·.now) else none
theorem Od.start (L : Kv Ent) : Od L [] [] := ⟨Srt.nil, fun k => by simp [lkL]⟩
theorem Od.step {L : Kv Ent} {O : Kv (List UInt8)} {ns : List (List UInt8)} (h : Od L ns O) {k : List UInt8} {a : Ent} (hk : lkL k L = some a) : Od L (ns ++ [k]) (putL k a.now O) := by
  refine ⟨h.srt.put _ _, fun k' => ?_⟩
  by_cases e : k' = k
  · subst e
    rw [lk_put_same h.srt, if_pos (by simp), hk]; rfl
  · rw [lk_put_other h.srt e, h.lk]
    have : (k' ∈ ns ++ [k]) = (k' ∈ ns) := by simp [e]
    simp only [this]
def nowL (L : Kv Ent) : Kv (List UInt8) := mapV (·.now) L
theorem nowL_lk (L : Kv Ent) (k : List UInt8) : lkL k (nowL L) = (lkL k L).map (·.now) := mapV_lk _ _ _
theorem Od.done {L : Kv Ent} {O : Kv (List UInt8)} (hS : Srt L) (h : Od L (nms L) O) : O = nowL L := by
  refine ext_lk h.srt (mapV_srt hS) fun k => ?_
  rw [h.lk, nowL_lk]
  split
  · rfl
  · rename_i hn
    rw [nms_iff hS] at hn
    cases hl : lkL k L with
    | none => rfl
    | some a => exact absurd (by rw [hl]; rfl) hn
theorem Od.len {L : Kv Ent} {O : Kv (List UInt8)} {ns : List (List UInt8)} (h : Od L ns O) (hK : Kok L) : O.length ≤ 6 := by
  have h1 : (O.map (·.1)).Nodup := by
    unfold List.Nodup
    rw [List.pairwise_map]
    exact h.srt.imp fun {p q} hpq e => by
      rw [e, before_irr] at hpq
      cases hpq
  have h2 := len_sub (m := [[97], [98], [99], [100], [101], [(102 : UInt8)]]) h1 fun k hk => by
    obtain ⟨p, hp, rfl⟩ := List.mem_map.1 hk
    have h3 := (lk_iff h.srt).2 hp
    rw [h.lk] at h3
    split at h3
    · cases hl : lkL p.1 L with
      | none => rw [hl] at h3; cases h3
      | some a => exact hK.keys p.1 (List.mem_map.2 ⟨(p.1, a), (lk_iff hK.srt).1 hl, rfl⟩)
    · cases h3
  rwa [List.length_map] at h2
/-- What stands of a file behind a cut that keeps so many bytes: what the keeper holds of it. -/
theorem kept {a : Ent} {old : List UInt8} {kk : Nat} (h1 : 1 ≤ kk) (hsf : a.sf.getD [] = old) :
    ∃ x, lf a kk = some x ∧ (a.now = old → x = a.now) ∧ (a.now ≠ old → x.take (min kk a.now.length) = a.now.take (min kk a.now.length) ∧ x.length = max (min kk a.now.length) old.length) := by
  unfold lf
  by_cases hs : a.sf = some a.now
  · rw [if_pos hs]
    refine ⟨_, rfl, fun _ => rfl, fun hne => absurd ?_ hne⟩
    rw [← hsf, hs]; rfl
  · rw [if_neg hs, if_neg (by omega)]
    refine ⟨_, rfl, fun he => ?_, fun hne => ⟨?_, ?_⟩⟩
    · have hn : a.sf = none := by
        cases hx : a.sf with
        | none => rfl
        | some s => rw [hx] at hsf; simp at hsf; exact absurd (by rw [hx, hsf, he]) hs
      rw [hn] at hsf
      simp at hsf
      rw [he, hn, hsf]; simp
    · simp only [Int.toNat_natCast]
      rw [List.take_append_of_le_length (by simp), List.take_take]
      congr 1
      omega
    · rw [hsf]; simp; omega
end Go.Proofs.YtjllnhdampjieaaDoor
