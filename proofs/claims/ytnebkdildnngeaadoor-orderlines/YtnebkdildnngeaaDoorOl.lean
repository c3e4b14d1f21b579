/- Who comes ahead stands ahead: mathematics. -/
import Derived.Test.YtnebkdildnngeaaDoorOk
namespace Go.Proofs.YtnebkdildnngeaaDoor
open Om

/-- One that none other comes ahead of. -/
theorem minex {P : T} {n : Nat} (htr : ∀ a b c, b < n → P a b = true → P b c = true → P a c = true) : ∀ L : List Nat, L ≠ [] → (∀ a ∈ L, a < n) → (∀ a ∈ L, ∀ b ∈ L, P a b = true → P b a = true → a = b) → ∃ m ∈ L, ∀ a ∈ L, a ≠ m → P a m = false
  | [], h, _, _ => absurd rfl h
  | [x], _, _, _ => ⟨x, by simp, fun a ha hne => absurd (by simpa using ha) hne⟩
  | x :: y :: L, _, hn, ha => by
    obtain ⟨m, hm, hmin⟩ := minex htr (y :: L) (by simp) (fun a h => hn a (by simp [h])) (fun a h1 b h2 => ha a (by simp [h1]) b (by simp [h2]))
    by_cases hx : x ≠ m ∧ P x m = true
    · refine ⟨x, by simp, fun a h hne => ?_⟩
      have h' : a ∈ y :: L := by rcases List.mem_cons.1 h with e | e; · exact absurd e hne
                                 · exact e
      cases e : P a x with
      | false => rfl
      | true =>
        have h2 := htr a x m (hn x (by simp)) e hx.2
        by_cases e2 : a = m
        · subst e2
          exact absurd (ha x (by simp) a (by simp [h']) hx.2 e) (Ne.symm hne)
        · rw [hmin a h' e2] at h2; cases h2
    · refine ⟨m, by simp [hm], fun a h hne => ?_⟩
      rcases List.mem_cons.1 h with e | e
      · subst e
        cases e2 : P a m with
        | false => rfl
        | true => exact absurd ⟨hne, e2⟩ hx
      · exact hmin a e hne
/-- Of every few of them there is one that does not wait. -/
def Good (A : T) (L : List Nat) : Prop := ∀ M : List Nat, M ≠ [] → (∀ a ∈ M, a ∈ L) → ∃ m ∈ M, ∀ a ∈ M, a ≠ m → A a m = false
theorem erase_perm (L : List Nat) (i : Nat) (h : i < L.length) : (L[i] :: L.eraseIdx i).Perm L := by
  have e : L.take i ++ L[i] :: L.drop (i + 1) = L := by rw [← List.drop_eq_getElem_cons h, List.take_append_drop]
  have hp : (L[i] :: (L.take i ++ L.drop (i + 1))).Perm (L.take i ++ L[i] :: L.drop (i + 1)) := List.perm_middle.symm
  rw [List.eraseIdx_eq_take_drop_succ]
  rw [e] at hp
  exact hp
theorem nx_good {A : T} {L : List Nat} (h0 : 0 < L.length) (hg : Good A L) : ∀ a ∈ L, a ≠ L[nx A L]'(nx_lt A L h0).1 → A a (L[nx A L]'(nx_lt A L h0).1) = false := by
  obtain ⟨m, hm, hmin⟩ := hg L (List.ne_nil_of_length_pos h0) (fun _ h => h)
  obtain ⟨j, hj, rfl⟩ := List.getElem_of_mem hm
  have hw : wts A L L[j] = false := by
    unfold wts
    rw [List.any_eq_false]
    intro a ha
    by_cases e : a = L[j]
    · simp [e]
    · simp [hmin a ha e]
  have hex : ∃ k, L.findIdx? (fun b => !wts A L b) = some k := by
    cases e : L.findIdx? (fun b => !wts A L b) with
    | some k => exact ⟨k, rfl⟩
    | none =>
      rw [List.findIdx?_eq_none_iff] at e
      have := e _ hm
      rw [hw] at this; cases this
  obtain ⟨k, hk⟩ := hex
  have hnx : nx A L = k := by unfold nx; rw [hk]; simp [fx]
  obtain ⟨hkl, hkw, _⟩ := List.findIdx?_eq_some_iff_getElem.1 hk
  have hwk : wts A L L[k] = false := by simpa using hkw
  intro a ha hne
  unfold wts at hwk
  rw [List.any_eq_false] at hwk
  have h3 := hwk a ha
  simp only [hnx] at hne ⊢
  cases e : A a L[k] with
  | false => rfl
  | true => rw [e] at h3; simp [hne] at h3
theorem obo_perm (A : T) : ∀ (k : Nat) (L : List Nat), k = L.length → (obo A k L).Perm L
  | 0, L, h => by rw [List.length_eq_zero_iff.1 h.symm]; exact List.Perm.refl _
  | k + 1, L, h => by
    have h0 : 0 < L.length := by omega
    have hi := (nx_lt A L h0).1
    have e : obo A (k + 1) L = L[nx A L]'hi :: obo A k (L.eraseIdx (nx A L)) := by show L.getD (nx A L) 0 :: _ = _; simp [List.getD, hi]
    rw [e]
    exact ((obo_perm A k _ (by rw [List.length_eraseIdx_of_lt hi]; omega)).cons _).trans (erase_perm L _ hi)
theorem ob_perm (A : T) (L : List Nat) : (ob A L).Perm L := obo_perm A _ L rfl
theorem obo_pw (A : T) : ∀ (k : Nat) (L : List Nat), k = L.length → L.Nodup → Good A L → (obo A k L).Pairwise fun a b => A b a = false
  | 0, L, _, _, _ => List.Pairwise.nil
  | k + 1, L, h, hnd, hg => by
    have h0 : 0 < L.length := by omega
    have hi := (nx_lt A L h0).1
    have e : obo A (k + 1) L = L[nx A L]'hi :: obo A k (L.eraseIdx (nx A L)) := by show L.getD (nx A L) 0 :: _ = _; simp [List.getD, hi]
    have hx := nx_good h0 hg
    have hp := erase_perm L _ hi
    have hnd2 := hp.nodup_iff.2 hnd
    rw [List.nodup_cons] at hnd2
    rw [e, List.pairwise_cons]
    refine ⟨fun b hb => ?_, obo_pw A k _ (by rw [List.length_eraseIdx_of_lt hi]; omega) hnd2.2 (fun M hM hs => hg M hM fun a ha => List.mem_of_mem_eraseIdx (hs a ha))⟩
    have hb' := (obo_perm A k _ (by rw [List.length_eraseIdx_of_lt hi]; omega)).mem_iff.1 hb
    exact hx b (List.mem_of_mem_eraseIdx hb') (fun e => hnd2.1 (e ▸ hb'))
theorem ob_pw {A : T} {L : List Nat} (hnd : L.Nodup) (hg : Good A L) : (ob A L).Pairwise fun a b => A b a = false := obo_pw A _ L rfl hnd hg

theorem fsts_nodup (C : T) : ∀ n, (fsts C n).Nodup
  | 0 => by simp [fsts]
  | n + 1 => by
    have ih := fsts_nodup C n
    unfold fsts
    split
    · exact ih
    · rw [List.nodup_append]
      exact ⟨ih, by simp, fun a ha b hb => by have := fsts_lt C n a ha; simp at hb; omega⟩
theorem fsts_apart (C : T) : ∀ n, ∀ a ∈ fsts C n, ∀ b ∈ fsts C n, C a b = true → C b a = true → a = b
  | 0, a, h => by simp [fsts] at h
  | n + 1, a, ha => by
    have ih := fsts_apart C n
    intro b hb h1 h2
    unfold fsts at ha hb
    split at ha
    · rename_i h; rw [if_pos h] at hb; exact ih a ha b hb h1 h2
    · rename_i h
      rw [if_neg h] at hb
      have hno : ∀ x ∈ fsts C n, ¬ (C n x = true ∧ C x n = true) := fun x hx hh => h (by rw [List.any_eq_true]; exact ⟨x, hx, by simp [hh.1, hh.2]⟩)
      rcases List.mem_append.1 ha with ha | ha <;> rcases List.mem_append.1 hb with hb | hb
      · exact ih a ha b hb h1 h2
      · simp at hb; subst hb; exact absurd ⟨h2, h1⟩ (hno a ha)
      · simp at ha; subst ha; exact absurd ⟨h1, h2⟩ (hno b hb)
      · simp at ha hb; rw [ha, hb]
theorem fsts_all {C : T} {m : Nat} (hr : ∀ a, a < m → C a a = true) : ∀ n, n ≤ m → ∀ a, a < n → ∃ f ∈ fsts C n, C a f = true ∧ C f a = true
  | 0, _, a, h => absurd h (Nat.not_lt_zero _)
  | n + 1, hm, a, h => by
    have ih := fsts_all hr n (by omega)
    unfold fsts
    by_cases ha : a < n
    · obtain ⟨f, hf, h1⟩ := ih a ha
      split
      · exact ⟨f, hf, h1⟩
      · exact ⟨f, by simp [hf], h1⟩
    · have e : a = n := by omega
      subst e
      split
      · rename_i h2
        rw [List.any_eq_true] at h2
        obtain ⟨f, hf, h3⟩ := h2
        simp at h3
        exact ⟨f, hf, h3⟩
      · exact ⟨a, by simp, hr a (by omega), hr a (by omega)⟩
theorem mem_seto {C : T} {n f a : Nat} : a ∈ seto C n f ↔ a < n ∧ C f a = true ∧ C a f = true := by unfold seto; rw [List.mem_filter]; simp
/-- A table of ways. -/
structure Wy (n : Nat) (C : T) : Prop where
  r : ∀ a, a < n → C a a = true
  t : ∀ a b c, b < n → C a b = true → C b c = true → C a c = true
theorem cl_wy (n : Nat) (M : T) : Wy n (cl n M) := ⟨fun _ h => cl_refl M h, fun _ _ _ hb h1 h2 => cl_tr M hb h1 h2⟩
theorem fsts_good {n : Nat} {C : T} (h : Wy n C) : Good C (fsts C n) := fun M hM hs =>
  minex (P := C) (n := n) h.t M hM (fun a ha => fsts_lt C n a (hs a ha)) (fun a ha b hb => fsts_apart C n a (hs a ha) b (hs b hb))
/-- Sets that are told first come ahead, or apart. -/
theorem rgs_pw {n : Nat} {C : T} (h : Wy n C) : (rgs C n).Pairwise fun r s => ∀ a ∈ r, ∀ b ∈ s, C b a = false := by
  unfold rgs
  rw [List.pairwise_map]
  have hp := ob_pw (fsts_nodup C n) (fsts_good h)
  refine hp.imp_of_mem ?_
  intro f g hf hg hfg a ha b hb
  have hfn := fsts_lt C n f (ob_mem hf)
  have hgn := fsts_lt C n g (ob_mem hg)
  rw [mem_seto] at ha hb
  cases e : C b a with
  | false => rfl
  | true =>
    have h1 := h.t g b a hb.1 hb.2.1 e
    have h2 := h.t g a f ha.1 h1 ha.2.2
    rw [hfg] at h2; cases h2
theorem rgs_nodup {n : Nat} {C : T} (h : Wy n C) : (rgs C n).flatten.Nodup := by
  have hn : ∀ r ∈ rgs C n, r.Nodup := fun r hr => by
    obtain ⟨f, _, rfl⟩ := List.mem_map.1 hr
    exact List.Nodup.sublist (List.filter_sublist) List.nodup_range
  have hp := rgs_pw h
  unfold List.Nodup
  rw [List.pairwise_flatten]
  refine ⟨hn, (hp.imp_of_mem ?_)⟩
  intro r s hr hs hrs a ha b hb e
  subst e
  have hlt := (rgs_at h.r hr).2.2 a ha
  have := h.r a hlt
  rw [hrs a ha a hb] at this
  cases this
theorem mem_rgs {n : Nat} {C : T} (h : Wy n C) (a : Nat) : a ∈ (rgs C n).flatten ↔ a < n := by
  constructor
  · intro ha
    obtain ⟨r, hr, har⟩ := List.mem_flatten.1 ha
    exact (rgs_at h.r hr).2.2 a har
  · intro ha
    obtain ⟨f, hf, h1, h2⟩ := fsts_all h.r n (Nat.le_refl _) a ha
    exact List.mem_flatten.2 ⟨seto C n f, List.mem_map.2 ⟨f, (ob_perm C _).mem_iff.2 hf, rfl⟩, mem_seto.2 ⟨ha, h2, h1⟩⟩
theorem perm_range : ∀ (n : Nat) (l : List Nat), l.Nodup → (∀ a, a ∈ l ↔ a < n) → l.length = n
  | 0, l, _, h => by
    cases l with
    | nil => rfl
    | cons a l => exact absurd ((h a).1 (by simp)) (Nat.not_lt_zero _)
  | n + 1, l, hnd, h => by
    have hn := (h n).2 (by omega)
    have hp := List.perm_cons_erase hn
    have hnd2 := hp.nodup_iff.1 hnd
    rw [List.nodup_cons] at hnd2
    have := perm_range n (l.erase n) hnd2.2 (fun a => by
      have hm := hp.mem_iff (a := a)
      rw [List.mem_cons, h a] at hm
      constructor
      · intro ha
        have h1 := hm.2 (.inr ha)
        have : a ≠ n := fun e => hnd2.1 (e ▸ ha)
        omega
      · intro ha
        rcases hm.1 (by omega) with e | e
        · omega
        · exact e)
    have hl := hp.length_eq
    rw [List.length_cons] at hl
    omega
theorem flat_perm (S : T) : ∀ R : List (List Nat), (R.flatMap (ob S)).Perm R.flatten
  | [] => List.Perm.refl _
  | r :: R => by rw [List.flatMap_cons, List.flatten_cons]; exact (ob_perm S r).append (flat_perm S R)
theorem lin_perm (C S : T) (n : Nat) : (lin C S n).Perm (rgs C n).flatten := flat_perm S _
/-- All are told, each once. -/
theorem lin_all {n : Nat} {C : T} (h : Wy n C) (S : T) : (lin C S n).length = n ∧ (lin C S n).Nodup ∧ ∀ a, a ∈ lin C S n ↔ a < n := by
  have hp := lin_perm C S n
  have h1 : (lin C S n).Nodup := hp.nodup_iff.2 (rgs_nodup h)
  have h2 : ∀ a, a ∈ lin C S n ↔ a < n := fun a => hp.mem_iff.trans (mem_rgs h a)
  exact ⟨perm_range n _ h1 h2, h1, h2⟩
/-- Where sets stand in line. -/
theorem lin_pw {n : Nat} {C S : T} (h : Wy n C) (Q : Nat → Nat → Prop) (h1 : ∀ r ∈ rgs C n, ∀ a ∈ r, ∀ b ∈ r, Q a b) (h2 : ∀ a b, C b a = false → Q a b) : (lin C S n).Pairwise Q := by
  unfold lin
  rw [List.pairwise_flatMap]
  refine ⟨fun r hr => ?_, (rgs_pw h).imp_of_mem ?_⟩
  · refine List.pairwise_iff_getElem.2 fun i j hi hj _ => ?_
    exact h1 r hr _ (ob_mem (List.getElem_mem hi)) _ (ob_mem (List.getElem_mem hj))
  · intro r s hr hs hrs a ha b hb
    exact h2 a b (hrs a (ob_mem ha) b (ob_mem hb))
/-- Of strong edges without rings each is kept. -/
theorem lin_strong {n : Nat} {C S : T} (h : Wy n C) (hS : ∀ a b, S a b = true → C a b = true) (hlen : n ≤ (rgs (cl n S) n).length) : (lin C S n).Pairwise fun a b => S b a = false := by
  have hw := cl_wy n S
  have hl : (fsts (cl n S) n).length = n := by
    have h1 : (rgs (cl n S) n).length = (fsts (cl n S) n).length := by unfold rgs; rw [List.length_map, ob_len]
    have := fsts_le (cl n S) n
    omega
  have hall : ∀ m, (fsts (cl n S) m).length = m → ∀ a, a < m → a ∈ fsts (cl n S) m := by
    intro m
    induction m with
    | zero => intro _ a ha; omega
    | succ m ih =>
      intro hm a ha
      have hle := fsts_le (cl n S) m
      unfold fsts at hm ⊢
      split at hm
      · omega
      · rename_i hc
        rw [if_neg hc]
        simp at hm
        by_cases e : a < m
        · exact List.mem_append.2 (.inl (ih hm a e))
        · exact List.mem_append.2 (.inr (by simp; omega))
  have hanti : ∀ a b, a < n → b < n → cl n S a b = true → cl n S b a = true → a = b := fun a b ha hb => fsts_apart _ n a (hall n hl a ha) b (hall n hl b hb)
  have hgood : ∀ r ∈ rgs C n, Good S r := fun r hr M hM hs => by
    have hlt : ∀ a ∈ M, a < n := fun a ha => (rgs_at h.r hr).2.2 a (hs a ha)
    obtain ⟨m, hm, hmin⟩ := minex (P := cl n S) (n := n) hw.t M hM hlt (fun a ha b hb => hanti a b (hlt a ha) (hlt b hb))
    refine ⟨m, hm, fun a ha hne => ?_⟩
    cases e : S a m with
    | false => rfl
    | true => have := hmin a ha hne; rw [cl_ge e] at this; cases this
  unfold lin
  rw [List.pairwise_flatMap]
  refine ⟨fun r hr => ?_, (rgs_pw h).imp_of_mem ?_⟩
  · obtain ⟨f, _, rfl⟩ := List.mem_map.1 hr
    exact ob_pw (List.Nodup.sublist (List.filter_sublist) List.nodup_range) (hgood _ hr)
  · intro r s hr hs hrs a ha b hb
    cases e : S b a with
    | false => rfl
    | true => have := hrs a (ob_mem ha) b (ob_mem hb); rw [hS b a e] at this; cases this
end Go.Proofs.YtnebkdildnngeaaDoor
