/- A book on a disk: mathematics. -/
import Derived.Test.YteiobnkaadedkaaGreatDoorBt
namespace Go.Proofs.YteiobnkaadedkaaGreatDoor
open Go.RowKit Go.Sort Go.Maps

/-- What lies on the disk is a book, and nothing else. -/
structure DF (L : Kv Ent) (P : Bk) (N : Nat → Bk) : Prop where
  ks : ∀ k a, lkL k L = some a → k = pgF ∨ ∃ i, i < 37 ∧ k = shF i
  fl : Fl L P N
theorem DF.nil : DF [] [] fun _ => [] := ⟨fun k a h => (by cases h), rfl, fun _ _ => rfl⟩
def fls : List (List UInt8) := pgF :: (List.range 37).map shF
theorem DF.small {L : Kv Ent} {P : Bk} {N : Nat → Bk} (h : DF L P N) (hS : Srt L) {A : Bk} {n : Nat} (hP : Pg A P N n) (hn : n ≤ 60) : tot nl L ≤ 743280 ∧ L.length ≤ 38 := by
  have hl : L.length ≤ 38 := by
    have := len_keys hS fls fun p hp => by
      rcases h.ks p.1 p.2 ((lk_iff hS).2 hp) with e | ⟨i, hi, e⟩
      · rw [e]; exact List.mem_cons_self ..
      · rw [e]; exact List.mem_cons_of_mem _ (List.mem_map.2 ⟨i, by simpa using hi, rfl⟩)
    simpa [fls] using this
  have h1 := tot_le nl 19560 (L := L) fun p hp => by
    have hlk := (lk_iff hS).2 hp
    have he : (ent p.1 L).now = p.2.now := by unfold ent; rw [hlk]; rfl
    show p.2.now.length ≤ 19560
    rw [← he]
    rcases h.ks p.1 p.2 hlk with e | ⟨i, hi, e⟩
    · rw [e, h.fl.pg]
      have := prt_len hP.gp
      have := hP.lp
      omega
    · rw [e, h.fl.sh i hi]
      have := prt_len (hP.gn i hi)
      have := hP.ln i hi
      omega
  exact ⟨by omega, hl⟩
theorem lk_k3 {L : Kv Ent} (hS : Srt L) {f s k : List UInt8} (_hf : f ≠ frF) : lkL k (k3L L f s) = if k = f then some ⟨s, some s⟩ else if k = frF then none else lkL k L := by
  have h1 := hS.put frF ⟨s, (ent frF L).sf⟩
  have h2 := h1.put frF ⟨s, some s⟩
  have h3 := h2.del frF
  unfold k3L k2L k1L
  by_cases e : k = f
  · rw [if_pos e, e]; exact lk_put_same h3 _ _
  · rw [if_neg e, lk_put_other h3 e]
    by_cases e2 : k = frF
    · rw [if_pos e2, e2]; exact lk_del_same _
    · rw [if_neg e2, lk_del_other h2 e2, lk_put_other h1 e2, lk_put_other hS e2]
theorem ent_k3 {L : Kv Ent} (hS : Srt L) {f s k : List UInt8} (hf : f ≠ frF) (hk : k ≠ frF) : (ent k (k3L L f s)).now = if k = f then s else (ent k L).now := by
  unfold ent
  rw [lk_k3 hS hf]
  by_cases e : k = f
  · rw [if_pos e, if_pos e]; rfl
  · rw [if_neg e, if_neg e, if_neg hk]
theorem DF.set {L : Kv Ent} {P : Bk} {N : Nat → Bk} (h : DF L P N) (hS : Srt L) {i : Nat} (hi : i < 37) (M : Bk) : DF (k3L L (shF i) (prt M)) P (upd N i M) := by
  refine ⟨fun k a hk => ?_, ?_, fun j hj => ?_⟩
  · rw [lk_k3 hS (shF_fr hi)] at hk
    by_cases e : k = shF i
    · exact .inr ⟨i, hi, e⟩
    · rw [if_neg e] at hk
      by_cases e2 : k = frF
      · rw [if_pos e2] at hk; cases hk
      · rw [if_neg e2] at hk; exact h.ks k a hk
  · rw [ent_k3 hS (shF_fr hi) pg_fr, if_neg (fun e => shF_pg hi e.symm)]; exact h.fl.pg
  · rw [ent_k3 hS (shF_fr hi) (shF_fr hj)]
    by_cases e : j = i
    · subst e; rw [if_pos rfl, upd_same]
    · rw [if_neg (fun e2 => e (shF_inj hj hi e2)), upd_other _ _ e]; exact h.fl.sh j hj
theorem DF.page {L : Kv Ent} {P : Bk} {N : Nat → Bk} (h : DF L P N) (hS : Srt L) (A : Bk) : DF (k3L L pgF (prt A)) A N := by
  refine ⟨fun k a hk => ?_, ?_, fun j hj => ?_⟩
  · rw [lk_k3 hS pg_fr] at hk
    by_cases e : k = pgF
    · exact .inl e
    · rw [if_neg e] at hk
      by_cases e2 : k = frF
      · rw [if_pos e2] at hk; cases hk
      · rw [if_neg e2] at hk; exact h.ks k a hk
  · rw [ent_k3 hS pg_fr pg_fr, if_pos rfl]
  · rw [ent_k3 hS pg_fr (shF_fr hj), if_neg (shF_pg hj)]; exact h.fl.sh j hj
theorem k3_srt {L : Kv Ent} (hS : Srt L) (f s : List UInt8) : Srt (k3L L f s) := (((hS.put _ _).put _ _).del _).put _ _
/-- One file less. -/
theorem DF.rm {L : Kv Ent} {P : Bk} {N : Nat → Bk} {j : Nat} (h : DF L P (tN N j)) (hS : Srt L) (hj : j < 37) {e : Bool} {c : Int} (hp : pwr e c = true ∨ (lkL (shF j) L).isSome = false) : DF (rL L e c (shF j)) P (tN N (j + 1)) := by
  have hl : ∀ k, lkL k (rL L e c (shF j)) = if k = shF j then none else lkL k L := fun k => by
    unfold rL
    split
    · by_cases e1 : k = shF j
      · rw [if_pos e1, e1]; exact lk_del_same _
      · rw [if_neg e1]; exact lk_del_other hS e1
    · rename_i hn
      have hz : (lkL (shF j) L).isSome = false := by
        rcases hp with hp | hp
        · cases hq : (lkL (shF j) L).isSome with
          | false => rfl
          | true => exact absurd ⟨hq, hp⟩ hn
        · exact hp
      by_cases e1 : k = shF j
      · rw [if_pos e1, e1]; exact Option.not_isSome_iff_eq_none.1 (by rw [hz]; simp)
      · rw [if_neg e1]
  refine ⟨fun k a hk => ?_, ?_, fun i hi => ?_⟩
  · rw [hl] at hk
    by_cases e1 : k = shF j
    · rw [if_pos e1] at hk; cases hk
    · rw [if_neg e1] at hk; exact h.ks k a hk
  · have : ent pgF (rL L e c (shF j)) = ent pgF L := by unfold ent; rw [hl, if_neg (fun e1 => shF_pg hj e1.symm)]
    rw [this]; exact h.fl.pg
  · by_cases e1 : i = j
    · subst e1
      have : ent (shF i) (rL L e c (shF i)) = zent := by unfold ent; rw [hl, if_pos rfl]; rfl
      rw [this]
      unfold tN
      rw [if_pos (by omega)]; rfl
    · have : ent (shF i) (rL L e c (shF j)) = ent (shF i) L := by unfold ent; rw [hl, if_neg (fun e2 => e1 (shF_inj hi hj e2))]
      rw [this, h.fl.sh i hi]
      unfold tN
      by_cases e2 : i < j
      · rw [if_pos e2, if_pos (by omega)]
      · rw [if_neg e2, if_neg (by omega)]
theorem DF.td {L : Kv Ent} {P : Bk} {N : Nat → Bk} (h : DF L P N) (hS : Srt L) {c : Int} (hc : c ≤ 9223372036854775807) : ∀ j, j ≤ 37 → DF (td false L c j).1 P (tN N j)
  | 0, _ => by rw [show tN N 0 = N from funext fun i => if_neg (Nat.not_lt_zero _)]; exact h
  | j + 1, hj => (DF.td h hS hc j (by omega)).rm (td_all hS false hc j).1 (by omega) (.inl rfl)
theorem tN_all (N : Nat → Bk) {i : Nat} (hi : i < 37) : tN N 37 i = [] := if_pos hi
end Go.Proofs.YteiobnkaadedkaaGreatDoor
