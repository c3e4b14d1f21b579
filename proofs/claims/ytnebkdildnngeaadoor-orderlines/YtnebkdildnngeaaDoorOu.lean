/- Sets as the reference finds them: mathematics. -/
import Derived.Test.YtnebkdildnngeaaDoorOl
namespace Go.Proofs.YtnebkdildnngeaaDoor
open Om

def frb (C : T) (n : Nat) (told : Nat → Bool) (i : Nat) : Bool := !told i && (List.range n).all fun j => told j || (!C j i || C i j)
def tel (C : T) (told : Nat → Bool) (i : Nat) : Nat → Bool := fun j => told j || (C i j && C j i)
def rst (C : T) (n : Nat) (told : Nat → Bool) : Option Nat := (List.range n).find? (frb C n told)
def rr (C : T) (n : Nat) : Nat → (Nat → Bool) → List (List Nat)
  | 0, _ => []
  | k + 1, told => match rst C n told with
    | none => rr C n k told
    | some i => seto C n i :: rr C n k (tel C told i)
theorem fsts_least {C : T} {m : Nat} (h : Wy m C) : ∀ n, n ≤ m → ∀ f ∈ fsts C n, ∀ i, i < n → C f i = true → C i f = true → f ≤ i
  | 0, _, f, hf => by simp [fsts] at hf
  | n + 1, hm, f, hf => by
    intro i hi h1 h2
    have ih := fsts_least h n (by omega)
    unfold fsts at hf
    split at hf
    · by_cases e : i < n
      · exact ih f hf i e h1 h2
      · have := fsts_lt C n f hf; omega
    · rename_i hc
      rcases List.mem_append.1 hf with hf | hf
      · by_cases e : i < n
        · exact ih f hf i e h1 h2
        · have := fsts_lt C n f hf; omega
      · simp at hf
        subst hf
        by_cases e : i < f
        · exfalso
          obtain ⟨g, hg, g1, g2⟩ := fsts_all (m := m) h.r f (by omega) i e
          exact hc (by rw [List.any_eq_true]; exact ⟨g, hg, by simp [h.t f i g (by omega) h1 g1, h.t g i f (by omega) g2 h2]⟩)
        · omega
/-- Whose set is not yet told. -/
structure Lf (C : T) (n : Nat) (L : List Nat) (told : Nat → Bool) : Prop where
  sub : ∀ f ∈ L, f ∈ fsts C n
  srt : L.Pairwise (· < ·)
  told : ∀ j, j < n → (told j = false ↔ ∃ f ∈ L, C f j = true ∧ C j f = true)
theorem Lf.nd {C : T} {n : Nat} {L : List Nat} {told : Nat → Bool} (h : Lf C n L told) : L.Nodup := h.srt.imp fun h e => by omega
theorem Lf.good {C : T} {n : Nat} {L : List Nat} {told : Nat → Bool} (h : Lf C n L told) (hw : Wy n C) : Good C L := fun M hM hs => fsts_good hw M hM fun a ha => h.sub a (hs a ha)
theorem nx_first {A : T} {L : List Nat} (_h0 : 0 < L.length) (_hg : Good A L) : ∀ k (hk : k < L.length), wts A L L[k] = false → nx A L ≤ k := by
  intro k hk hw
  unfold nx
  cases e : L.findIdx? (fun b => !wts A L b) with
  | none =>
    rw [List.findIdx?_eq_none_iff] at e
    have := e _ (List.getElem_mem hk)
    rw [hw] at this; cases this
  | some j =>
    obtain ⟨hj, _, hmin⟩ := List.findIdx?_eq_some_iff_getElem.1 e
    simp [fx]
    rcases Nat.lt_or_ge k j with h | h
    · have := hmin k h
      rw [hw] at this; simp at this
    · exact h
theorem rst_some {C : T} {n : Nat} {L : List Nat} {told : Nat → Bool} (hw : Wy n C) (h : Lf C n L told) (h0 : 0 < L.length) : rst C n told = some (L[nx C L]'(nx_lt C L h0).1) := by
  have hi := (nx_lt C L h0).1
  have hg := h.good hw
  have hx := nx_good h0 hg
  obtain ⟨x, ex⟩ : ∃ x, x = L[nx C L]'hi := ⟨_, rfl⟩
  rw [← ex] at hx ⊢
  have hxL : x ∈ L := by rw [ex]; exact List.getElem_mem hi
  have hxn := fsts_lt C n x (h.sub x hxL)
  unfold rst
  rw [List.find?_range_eq_some]
  refine ⟨?_, by simpa using hxn, ?_⟩
  · unfold frb
    rw [Bool.and_eq_true, List.all_eq_true]
    refine ⟨by rw [(h.told x hxn).2 ⟨x, hxL, hw.r x hxn, hw.r x hxn⟩]; rfl, fun j hj => ?_⟩
    have hj' : j < n := by simpa using hj
    cases ht : told j with
    | true => rfl
    | false =>
      obtain ⟨f, hf, f1, f2⟩ := (h.told j hj').1 ht
      cases hc : C j x with
      | false => rfl
      | true =>
        by_cases e : f = x
        · subst e; simp [f1]
        · have := hx f hf e
          rw [hw.t f j x hj' f1 hc] at this; cases this
  · intro i hix
    have hin : i < n := by omega
    rw [Bool.not_eq_true', ← Bool.not_eq_true]
    intro hfi
    unfold frb at hfi
    rw [Bool.and_eq_true, List.all_eq_true] at hfi
    have ht : told i = false := by simpa using hfi.1
    obtain ⟨f, hf, f1, f2⟩ := (h.told i hin).1 ht
    have hfn := fsts_lt C n f (h.sub f hf)
    have hfi2 := fsts_least hw n (Nat.le_refl _) f (h.sub f hf) i hin f1 f2
    obtain ⟨k, hk, ek⟩ := List.getElem_of_mem hf
    have hwf : wts C L L[k] = false := by
      unfold wts
      rw [List.any_eq_false]
      intro a ha
      rw [ek]
      by_cases e : a = f
      · simp [e]
      · have han := fsts_lt C n a (h.sub a ha)
        have hta : told a = false := (h.told a han).2 ⟨a, ha, hw.r a han, hw.r a han⟩
        have h5 := hfi.2 a (by simpa using han)
        cases hc : C a f with
        | false => simp
        | true =>
          exfalso
          have c1 := hw.t a f i hfn hc f1
          rw [hta, c1] at h5
          have c2 : C i a = true := by simpa using h5
          exact e (fsts_apart C n a (h.sub a ha) f (h.sub f hf) hc (hw.t f i a hin f1 c2))
    have hle := nx_first h0 hg k hk hwf
    have hlt : L[k] < L[nx C L] := by rw [ek, ← ex]; omega
    rcases Nat.lt_or_ge (nx C L) k with c | c
    · have := List.pairwise_iff_getElem.1 h.srt (nx C L) k hi hk c; omega
    · have : nx C L = k := by omega
      simp only [this] at hlt
      omega
theorem rst_none {C : T} {n : Nat} {told : Nat → Bool} (h : Lf C n [] told) : rst C n told = none := by
  unfold rst
  rw [List.find?_eq_none]
  intro i hi
  have hin : i < n := by simpa using hi
  have : told i = true := by
    cases ht : told i with
    | true => rfl
    | false => obtain ⟨f, hf, _⟩ := (h.told i hin).1 ht; simp at hf
  unfold frb; simp [this]
theorem Lf.next {C : T} {n : Nat} {L : List Nat} {told : Nat → Bool} (hw : Wy n C) (h : Lf C n L told) (i : Nat) (hi : i < L.length) : Lf C n (L.eraseIdx i) (tel C told L[i]) := by
  have hxL : L[i] ∈ L := List.getElem_mem hi
  have hp := erase_perm L i hi
  have hnd := hp.nodup_iff.2 h.nd
  rw [List.nodup_cons] at hnd
  have hxn := fsts_lt C n L[i] (h.sub _ hxL)
  refine ⟨fun f hf => h.sub f (List.mem_of_mem_eraseIdx hf), h.srt.sublist (List.eraseIdx_sublist _ _), fun j hj => ?_⟩
  unfold tel
  rw [Bool.or_eq_false_iff, h.told j hj]
  constructor
  · rintro ⟨⟨f, hf, f1, f2⟩, hc⟩
    have hne : f ≠ L[i] := fun e => by rw [← e, f1, f2] at hc; cases hc
    rcases List.mem_cons.1 (hp.mem_iff.2 hf) with e | e
    · exact absurd e hne
    · exact ⟨f, e, f1, f2⟩
  · rintro ⟨f, hf, f1, f2⟩
    have hfL := List.mem_of_mem_eraseIdx hf
    have hne : f ≠ L[i] := fun e => hnd.1 (e ▸ hf)
    refine ⟨⟨f, hfL, f1, f2⟩, ?_⟩
    cases hc : (C L[i] j && C j L[i]) with
    | false => rfl
    | true =>
      rw [Bool.and_eq_true] at hc
      exact absurd (fsts_apart C n f (h.sub f hfL) L[i] (h.sub _ hxL) (hw.t f j _ hj f1 hc.2) (hw.t _ j f hj hc.1 f2)) hne
theorem rr_obo {C : T} {n : Nat} (hw : Wy n C) : ∀ (k : Nat) (L : List Nat) (told : Nat → Bool), L.length ≤ k → Lf C n L told → rr C n k told = (obo C L.length L).map (seto C n)
  | 0, L, told, hk, _ => by rw [List.length_eq_zero_iff.1 (by omega : L.length = 0)]; rfl
  | k + 1, L, told, hk, h => by
    by_cases h0 : 0 < L.length
    · have hi := (nx_lt C L h0).1
      have e : obo C L.length L = L[nx C L]'hi :: obo C (L.eraseIdx (nx C L)).length (L.eraseIdx (nx C L)) := ob_step C L h0
      have hl : (L.eraseIdx (nx C L)).length = L.length - 1 := List.length_eraseIdx_of_lt hi
      show (match rst C n told with | none => rr C n k told | some i => seto C n i :: rr C n k (tel C told i)) = _
      rw [rst_some hw h h0, e, List.map_cons]
      rw [← rr_obo hw k (L.eraseIdx (nx C L)) (tel C told (L[nx C L]'hi)) (by omega) (h.next hw _ hi)]
    · have e : L = [] := List.length_eq_zero_iff.1 (by omega)
      subst e
      show (match rst C n told with | none => rr C n k told | some i => seto C n i :: rr C n k (tel C told i)) = _
      rw [rst_none h]
      exact rr_obo hw k [] told (Nat.zero_le _) h
theorem fsts_srt (C : T) : ∀ n, (fsts C n).Pairwise (· < ·)
  | 0 => by simp [fsts]
  | n + 1 => by
    unfold fsts
    split
    · exact fsts_srt C n
    · rw [List.pairwise_append]
      exact ⟨fsts_srt C n, by simp, fun a ha b hb => by have := fsts_lt C n a ha; simp at hb; omega⟩
/-- The reference's sets are the program's. -/
theorem rr_rgs {C : T} {n : Nat} (hw : Wy n C) : rr C n n (fun _ => false) = rgs C n :=
  rr_obo hw n (fsts C n) _ (fsts_le C n) ⟨fun _ h => h, fsts_srt C n, fun j hj => by
    constructor
    · intro _
      obtain ⟨f, hf, h1, h2⟩ := fsts_all hw.r n (Nat.le_refl _) j hj
      exact ⟨f, hf, h2, h1⟩
    · intro _; rfl⟩
end Go.Proofs.YtnebkdildnngeaaDoor
