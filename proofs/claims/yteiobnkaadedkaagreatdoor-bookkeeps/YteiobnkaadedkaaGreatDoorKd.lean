/- A book on a disk that is safe: mathematics. -/
import Derived.Test.YteiobnkaadedkaaGreatDoorKc
import Derived.Test.YteiobnkaadedkaaGreatDoorKb
import Derived.Test.YteiobnkaadedkaaGreatDoorBv
namespace Go.Proofs.YteiobnkaadedkaaGreatDoor
open Go.RowKit Go.Sort Go.Maps

/-- What lies on the disk is a book, made safe, and one file besides. -/
structure SF (L : Kv Ent) (P : Bk) (N : Nat → Bk) : Prop where
  ks : ∀ k a, lkL k L = some a → k = frF ∨ k = pgF ∨ ∃ i, i < 37 ∧ k = shF i
  st : ∀ k a, lkL k L = some a → k ≠ frF → a.sf = some a.now
  bn : Bn 19560 L
  fl : Fl L P N
theorem SF.nil : SF [] [] fun _ => [] := ⟨fun k a h => (by cases h), fun k a h => (by cases h), ⟨fun k a h => (by cases h)⟩, rfl, fun _ _ => rfl⟩
def fls3 : List (List UInt8) := frF :: pgF :: (List.range 37).map shF
theorem SF.small {L : Kv Ent} {P : Bk} {N : Nat → Bk} (h : SF L P N) (hS : Srt L) : tot nl L ≤ 762840 ∧ L.length ≤ 39 := by
  have hl : L.length ≤ 39 := by
    have := len_keys hS fls3 fun p hp => by
      rcases h.ks p.1 p.2 ((lk_iff hS).2 hp) with e | e | ⟨i, hi, e⟩
      · rw [e]; exact List.mem_cons_self ..
      · rw [e]; exact List.mem_cons_of_mem _ (List.mem_cons_self ..)
      · rw [e]; exact List.mem_cons_of_mem _ (List.mem_cons_of_mem _ (List.mem_map.2 ⟨i, by simpa using hi, rfl⟩))
    simpa [fls3] using this
  have h1 := bn_tot h.bn hS
  exact ⟨by omega, hl⟩
theorem SF.names {L : Kv Ent} {P : Bk} {N : Nat → Bk} (h : SF L P N) (hS : Srt L) : ∀ k ∈ nms L, k.length ≤ 1000 := fun k hk => by
  obtain ⟨a, ha⟩ := nms_mem.1 hk
  rcases h.ks k a ((lk_iff hS).2 ha) with e | e | ⟨i, hi, e⟩
  · rw [e]; decide
  · rw [e]; decide
  · rw [e]; have := shF_len hi; omega
/-- The file besides is written. -/
theorem SF.fr {L : Kv Ent} {P : Bk} {N : Nat → Bk} (h : SF L P N) (hS : Srt L) {a : Ent} (ha : a.now.length ≤ 19560 ∧ (a.sf.getD []).length ≤ 19560) : SF (putL frF a L) P N := by
  have hl : ∀ k, k ≠ frF → lkL k (putL frF a L) = lkL k L := fun k hk => lk_put_other hS hk a
  have he : ∀ k, k ≠ frF → ent k (putL frF a L) = ent k L := fun k hk => by unfold ent; rw [hl k hk]
  refine ⟨fun k x hx => ?_, fun k x hx hk => ?_, ⟨fun k x hx => ?_⟩, ?_, fun i hi => ?_⟩
  · by_cases e : k = frF
    · exact .inl e
    · rw [hl k e] at hx; exact h.ks k x hx
  · rw [hl k hk] at hx; exact h.st k x hx hk
  · by_cases e : k = frF
    · subst e
      rw [lk_put_same hS] at hx
      cases hx; exact ha
    · rw [hl k e] at hx; exact h.bn.is k x hx
  · rw [he pgF pg_fr]; exact h.fl.pg
  · rw [he _ (shF_fr hi)]; exact h.fl.sh i hi
theorem ent_bn {M : Nat} {L : Kv Ent} (h : Bn M L) (k : List UInt8) : ((ent k L).sf.getD []).length ≤ M := by
  unfold ent
  cases hl : lkL k L with
  | none => exact Nat.zero_le _
  | some a => exact (h.is k a hl).2
theorem SF.k1 {L : Kv Ent} {P : Bk} {N : Nat → Bk} (h : SF L P N) (hS : Srt L) {s : List UInt8} (hs : s.length ≤ 19560) : SF (k1L L s) P N := h.fr hS ⟨hs, ent_bn h.bn frF⟩
theorem SF.k2 {L : Kv Ent} {P : Bk} {N : Nat → Bk} (h : SF L P N) (hS : Srt L) {s : List UInt8} (hs : s.length ≤ 19560) : SF (k2L L s) P N := (h.k1 hS hs).fr (hS.put _ _) ⟨hs, hs⟩
theorem k3_bn {L : Kv Ent} {P : Bk} {N : Nat → Bk} (h : SF L P N) (hS : Srt L) {f s : List UInt8} (hf : f ≠ frF) (hs : s.length ≤ 19560) : Bn 19560 (k3L L f s) ∧ (∀ k a, lkL k (k3L L f s) = some a → k ≠ frF → a.sf = some a.now) := by
  refine ⟨⟨fun k a hk => ?_⟩, fun k a hk hne => ?_⟩
  · rw [lk_k3 hS hf] at hk
    split at hk
    · cases hk; exact ⟨hs, hs⟩
    · split at hk
      · cases hk
      · exact h.bn.is k a hk
  · rw [lk_k3 hS hf] at hk
    split at hk
    · cases hk; rfl
    · exact h.st k a hk hne
theorem SF.sheet {L : Kv Ent} {P : Bk} {N : Nat → Bk} (h : SF L P N) (hS : Srt L) {i : Nat} (hi : i < 37) {M : Bk} (hM : (prt M).length ≤ 19560) : SF (k3L L (shF i) (prt M)) P (upd N i M) := by
  obtain ⟨hb, hst⟩ := k3_bn h hS (shF_fr hi) hM
  refine ⟨fun k a hk => ?_, hst, hb, ?_, fun j hj => ?_⟩
  · rw [lk_k3 hS (shF_fr hi)] at hk
    by_cases e : k = shF i
    · exact .inr (.inr ⟨i, hi, e⟩)
    · rw [if_neg e] at hk
      by_cases e2 : k = frF
      · rw [if_pos e2] at hk; cases hk
      · rw [if_neg e2] at hk; exact h.ks k a hk
  · rw [ent_k3 hS (shF_fr hi) pg_fr, if_neg (fun e => shF_pg hi e.symm)]; exact h.fl.pg
  · rw [ent_k3 hS (shF_fr hi) (shF_fr hj)]
    by_cases e : j = i
    · subst e; rw [if_pos rfl, upd_same]
    · rw [if_neg (fun e2 => e (shF_inj hj hi e2)), upd_other _ _ e]; exact h.fl.sh j hj
theorem SF.page {L : Kv Ent} {P : Bk} {N : Nat → Bk} (h : SF L P N) (hS : Srt L) {A : Bk} (hA : (prt A).length ≤ 19560) : SF (k3L L pgF (prt A)) A N := by
  obtain ⟨hb, hst⟩ := k3_bn h hS pg_fr hA
  refine ⟨fun k a hk => ?_, hst, hb, ?_, fun j hj => ?_⟩
  · rw [lk_k3 hS pg_fr] at hk
    by_cases e : k = pgF
    · exact .inr (.inl e)
    · rw [if_neg e] at hk
      by_cases e2 : k = frF
      · rw [if_pos e2] at hk; cases hk
      · rw [if_neg e2] at hk; exact h.ks k a hk
  · rw [ent_k3 hS pg_fr pg_fr, if_pos rfl]
  · rw [ent_k3 hS pg_fr (shF_fr hj), if_neg (shF_pg hj)]; exact h.fl.sh j hj
/-- What keep leaves, at any power. -/
theorem SF.kl {L : Kv Ent} {P : Bk} {N : Nat → Bk} (h : SF L P N) (hS : Srt L) {e : Bool} {c : Int} {f s : List UInt8} (hs : s.length ≤ 19560) (hp : pw3 e c = false) : SF (kL L e c f s) P N := by
  unfold pw3 at hp
  unfold kL
  cases h1 : pwr e c with
  | false => exact h
  | true =>
    rw [if_pos rfl]
    cases h2 : pwr e (chg e c) with
    | false => exact h.k1 hS hs
    | true =>
      rw [if_pos rfl]
      cases h3 : pwr e (chg e (chg e c)) with
      | false => exact h.k2 hS hs
      | true => rw [h1, h2, h3] at hp; cases hp
theorem kL_yes {L : Kv Ent} {e : Bool} {c : Int} {f s : List UInt8} (hp : pw3 e c = true) : kL L e c f s = k3L L f s := by
  unfold pw3 at hp
  simp only [Bool.and_eq_true] at hp
  unfold kL
  rw [if_pos hp.1.1, if_pos hp.1.2, if_pos hp.2]
/-- One file less. -/
theorem SF.rm {L : Kv Ent} {P : Bk} {N : Nat → Bk} {j : Nat} (h : SF L P (tN N j)) (hS : Srt L) (hj : j < 37) {e : Bool} {c : Int} (hp : pwr e c = true ∨ (lkL (shF j) L).isSome = false) : SF (rL L e c (shF j)) P (tN N (j + 1)) := by
  have hl : ∀ k, lkL k (rL L e c (shF j)) = if k = shF j then none else lkL k L := fun k => by
    unfold rL
    split
    · by_cases e1 : k = shF j
      · rw [if_pos e1, e1]; exact lk_del_same _
      · rw [if_neg e1]; exact lk_del_other hS e1
    · rename_i hn
      have hz : (lkL (shF j) L).isSome = false := by
        rcases hp with hp | hp
        · cases hq : (lkL (shF j) L).isSome with
          | false => rfl
          | true => exact absurd ⟨hq, hp⟩ hn
        · exact hp
      by_cases e1 : k = shF j
      · rw [if_pos e1, e1]; exact Option.not_isSome_iff_eq_none.1 (by rw [hz]; simp)
      · rw [if_neg e1]
  have hk : ∀ k a, lkL k (rL L e c (shF j)) = some a → lkL k L = some a := fun k a hk => by
    rw [hl] at hk
    by_cases e1 : k = shF j
    · rw [if_pos e1] at hk; cases hk
    · rwa [if_neg e1] at hk
  refine ⟨fun k a h1 => h.ks k a (hk k a h1), fun k a h1 => h.st k a (hk k a h1), ⟨fun k a h1 => h.bn.is k a (hk k a h1)⟩, ?_, fun i hi => ?_⟩
  · have : ent pgF (rL L e c (shF j)) = ent pgF L := by unfold ent; rw [hl, if_neg (fun e1 => shF_pg hj e1.symm)]
    rw [this]; exact h.fl.pg
  · by_cases e1 : i = j
    · subst e1
      have : ent (shF i) (rL L e c (shF i)) = zent := by unfold ent; rw [hl, if_pos rfl]; rfl
      rw [this]
      unfold tN
      rw [if_pos (by omega)]; rfl
    · have : ent (shF i) (rL L e c (shF j)) = ent (shF i) L := by unfold ent; rw [hl, if_neg (fun e2 => e1 (shF_inj hi hj e2))]
      rw [this, h.fl.sh i hi]
      unfold tN
      by_cases e2 : i < j
      · rw [if_pos e2, if_pos (by omega)]
      · rw [if_neg e2, if_neg (by omega)]
theorem SF.td {L : Kv Ent} {P : Bk} {N : Nat → Bk} (h : SF L P N) (hS : Srt L) {e : Bool} {c : Int} (hc : c ≤ 9223372036854775807) : ∀ j, j ≤ 37 → (∀ i, i < j → Rd e L c i) → SF (td e L c j).1 P (tN N j)
  | 0, _, _ => by rw [show tN N 0 = N from funext fun i => if_neg (Nat.not_lt_zero _)]; exact h
  | j + 1, hj, hr => (SF.td h hS hc j (by omega) fun i hi => hr i (by omega)).rm (td_all hS e hc j).1 (by omega) (hr j (by omega))
/-- What a start leaves. -/
theorem SF.start {L : Kv Ent} {P : Bk} {N : Nat → Bk} (h : SF L P N) (hS : Srt L) (n : Int) : SF (stL L n) P N := by
  have hl : ∀ k, k ≠ frF → lkL k (stL L n) = lkL k L := fun k hk => by
    rw [stL_lk hS]
    cases hx : lkL k L with
    | none => rfl
    | some a =>
      have h1 := h.st k a hx hk
      obtain ⟨nw, sf⟩ := a
      dsimp only at h1
      subst h1
      show (lf ⟨nw, some nw⟩ n).map _ = _
      unfold lf
      rw [if_pos rfl]
      rfl
  have he : ∀ k, k ≠ frF → ent k (stL L n) = ent k L := fun k hk => by unfold ent; rw [hl k hk]
  refine ⟨fun k a hk => ?_, fun k a hk hne => ?_, ⟨fun k a hk => ?_⟩, ?_, fun i hi => ?_⟩
  · by_cases e : k = frF
    · exact .inl e
    · rw [hl k e] at hk; exact h.ks k a hk
  · rw [hl k hne] at hk; exact h.st k a hk hne
  · rw [stL_lk hS] at hk
    exact gl_le (fun e he => h.bn.is k e he) a hk
  · rw [he pgF pg_fr]; exact h.fl.pg
  · rw [he _ (shF_fr hi)]; exact h.fl.sh i hi
end Go.Proofs.YteiobnkaadedkaaGreatDoor
