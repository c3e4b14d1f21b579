/- The mathematics of Needs: who would miss whom, whichever way it is found. -/
namespace Go.Proofs.YthijccmiemlilaaGreatDoor
namespace Nds

section
variable (n : Nat) (w : Nat → Bool) (A : Nat → List (Nat → Bool))
/-- Is all that i asks for met without those of G? -/
def mt (G : Nat → Bool) (i : Nat) : Bool := (A i).all fun q => (List.range n).any fun j => w j && !G j && q j
/-- Would i, that works, miss those of G? -/
def bad (G : Nat → Bool) (i : Nat) : Bool := w i && mt n w A (fun _ => false) i && !mt n w A G i
/-- Does i ask for j? -/
def ask (i j : Nat) : Bool := (A i).any fun q => q j
/-- Those of a list. -/
def inl (g : List Nat) (j : Nat) : Bool := g.contains j

theorem mt_iff {G : Nat → Bool} {i : Nat} : mt n w A G i = true ↔ ∀ q ∈ A i, ∃ j, j < n ∧ w j = true ∧ G j = false ∧ q j = true := by
  unfold mt
  rw [List.all_eq_true]
  constructor
  · intro h q hq
    obtain ⟨j, hj, h2⟩ := List.any_eq_true.1 (h q hq)
    simp only [Bool.and_eq_true, Bool.not_eq_true'] at h2
    exact ⟨j, List.mem_range.1 hj, h2.1.1, h2.1.2, h2.2⟩
  · intro h q hq
    obtain ⟨j, h1, h2, h3, h4⟩ := h q hq
    exact List.any_eq_true.2 ⟨j, List.mem_range.2 h1, by simp [h2, h3, h4]⟩
theorem mt_anti {G H : Nat → Bool} (hs : ∀ j, G j = true → H j = true) {i : Nat} (h : mt n w A H i = true) : mt n w A G i = true := by
  rw [mt_iff] at h ⊢
  intro q hq
  obtain ⟨j, h1, h2, h3, h4⟩ := h q hq
  refine ⟨j, h1, h2, ?_, h4⟩
  cases hg : G j with
  | false => rfl
  | true => rw [hs j hg] at h3; cases h3
theorem bad_mono {G H : Nat → Bool} (hs : ∀ j, G j = true → H j = true) {i : Nat} (h : bad n w A G i = true) : bad n w A H i = true := by
  unfold bad at h ⊢
  simp only [Bool.and_eq_true, Bool.not_eq_true'] at h ⊢
  refine ⟨h.1, ?_⟩
  cases hm : mt n w A H i with
  | false => rfl
  | true => rw [mt_anti n w A hs hm] at h; cases h.2
/-- What is found one by one, each of them missing those ahead of it. -/
inductive Rch (s : Nat) : List Nat → Prop
  | one : Rch s [s]
  | more {g : List Nat} {i : Nat} : Rch s g → i < n → bad n w A (inl g) i = true → inl g i = false → Rch s (g ++ [i])
/-- Nobody else misses any. -/
def Cls (g : List Nat) : Prop := ∀ i, i < n → bad n w A (inl g) i = true → inl g i = true
theorem inl_mem {g : List Nat} {j : Nat} : inl g j = true ↔ j ∈ g := by unfold inl; simp
theorem rch_sub {s : Nat} {g h : List Nat} (hg : Rch n w A s g) (hh : Cls n w A h) (hs : s ∈ h) : ∀ i ∈ g, i ∈ h := by
  induction hg with
  | one => intro i hi; rw [List.mem_singleton.1 hi]; exact hs
  | more _ hlt hb _ ih =>
    intro j hj
    rcases List.mem_append.1 hj with h1 | h1
    · exact ih j h1
    · rw [List.mem_singleton.1 h1]
      exact inl_mem.1 (hh _ hlt (bad_mono n w A (fun k hk => inl_mem.2 (ih k (inl_mem.1 hk))) hb))
theorem rch_in {s : Nat} {g : List Nat} (h : Rch n w A s g) : s ∈ g := by
  induction h with
  | one => simp
  | more _ _ _ _ ih => exact List.mem_append.2 (.inl ih)
theorem rch_nodup {s : Nat} {g : List Nat} (h : Rch n w A s g) : g.Nodup := by
  induction h with
  | one => simp
  | more _ _ _ hn ih =>
    rw [List.nodup_append]
    refine ⟨ih, by simp, fun a ha b hb e => ?_⟩
    rw [List.mem_singleton.1 hb] at e
    subst e
    rw [inl_mem.2 ha] at hn
    cases hn
theorem rch_lt {s : Nat} {g : List Nat} (hs : s < n) (h : Rch n w A s g) : ∀ i ∈ g, i < n := by
  induction h with
  | one => intro i hi; rw [List.mem_singleton.1 hi]; exact hs
  | more _ hl _ _ ih =>
    intro j hj
    rcases List.mem_append.1 hj with h1 | h1
    · exact ih j h1
    · rw [List.mem_singleton.1 h1]; exact hl
/-- Two that are found so, and closed, are the same. -/
theorem same {s : Nat} {g h : List Nat} (hg : Rch n w A s g) (cg : Cls n w A g) (hh : Rch n w A s h) (ch : Cls n w A h) : ∀ i, i ∈ g ↔ i ∈ h :=
  fun i => ⟨rch_sub n w A hg ch (rch_in n w A hh) i, rch_sub n w A hh cg (rch_in n w A hg) i⟩
/-- What the queue has looked at: who asks for one of those that went, and stays, was met without those up to it. -/
def Seen (g : List Nat) (at_ : Nat) : Prop := ∀ p, p < at_ → ∀ (hp : p < g.length) i, i < n → inl g i = false → w i = true → mt n w A (fun _ => false) i = true → ask A i g[p] = true → mt n w A (inl (g.take (p + 1))) i = true
/-- The last one of a list that is so. -/
theorem last_so {g : List Nat} (f : Nat → Bool) (h : ∃ p, ∃ hp : p < g.length, f g[p] = true) : ∃ p, ∃ hp : p < g.length, f g[p] = true ∧ ∀ r (hr : r < g.length), p < r → f g[r] = false := by
  have key : ∀ k, k ≤ g.length → (∃ p, ∃ hp : p < g.length, p < k ∧ f g[p] = true) → ∃ p, ∃ hp : p < g.length, f g[p] = true ∧ ∀ r (hr : r < g.length), p < r → r < k → f g[r] = false := by
    intro k
    induction k with
    | zero => rintro _ ⟨p, _, h0, _⟩; exact absurd h0 (Nat.not_lt_zero _)
    | succ k ih =>
      rintro hk ⟨p, hp, hlt, hf⟩
      have hkl : k < g.length := by omega
      by_cases ha : f g[k] = true
      · exact ⟨k, hkl, ha, fun r _ h1 h2 => by omega⟩
      · have hpk : p < k := by
          rcases Nat.lt_or_ge p k with h1 | h1
          · exact h1
          · have : p = k := by omega
            subst this
            exact absurd hf ha
        obtain ⟨q, hq, h1, h2⟩ := ih (by omega) ⟨p, hp, hpk, hf⟩
        refine ⟨q, hq, h1, fun r hr h3 h4 => ?_⟩
        rcases Nat.lt_or_ge r k with h5 | h5
        · exact h2 r hr h3 h5
        · have : r = k := by omega
          subst this
          simpa using ha
  obtain ⟨p, hp, hf⟩ := h
  obtain ⟨q, hq, h1, h2⟩ := key g.length (Nat.le_refl _) ⟨p, hp, hp, hf⟩
  exact ⟨q, hq, h1, fun r hr h3 => h2 r hr h3 hr⟩
theorem seen_cls {g : List Nat} (h : Seen n w A g g.length) : Cls n w A g := by
  intro i hi hb
  unfold bad at hb
  simp only [Bool.and_eq_true, Bool.not_eq_true'] at hb
  cases hn : inl g i with
  | true => rfl
  | false =>
    exfalso
    have hm : mt n w A (inl g) i = true := by
      rw [mt_iff]
      intro q hq
      obtain ⟨j, h1, h2, _, h4⟩ := (mt_iff n w A).1 hb.1.2 q hq
      cases hj : inl g j with
      | false => exact ⟨j, h1, h2, hj, h4⟩
      | true =>
        obtain ⟨p0, hp0, e0⟩ := List.getElem_of_mem (inl_mem.1 hj)
        obtain ⟨p, hp, hf, hlast⟩ := last_so (g := g) (fun k => w k && q k) ⟨p0, hp0, by rw [e0]; simp [h2, h4]⟩
        simp only [Bool.and_eq_true] at hf
        have hs := h p hp hp i hi hn hb.1.1 hb.1.2 (by unfold ask; exact List.any_eq_true.2 ⟨q, hq, hf.2⟩)
        obtain ⟨k, k1, k2, k3, k4⟩ := (mt_iff n w A).1 hs q hq
        refine ⟨k, k1, k2, ?_, k4⟩
        cases hk : inl g k with
        | false => rfl
        | true =>
          obtain ⟨r, hr, e⟩ := List.getElem_of_mem (inl_mem.1 hk)
          rcases Nat.lt_or_ge p r with h5 | h5
          · have := hlast r hr h5
            rw [e] at this
            simp [k2, k4] at this
          · exfalso
            have : k ∈ g.take (p + 1) := by
              rw [← e]
              exact List.mem_take_iff_getElem.2 ⟨r, by omega, rfl⟩
            rw [inl_mem.2 this] at k3
            cases k3
    rw [hm] at hb
    cases hb.2
end
end Nds
end Go.Proofs.YthijccmiemlilaaGreatDoor
namespace Go.Proofs.YthijccmiemlilaaGreatDoor
namespace Nds

section
variable (n : Nat) (w : Nat → Bool) (A : Nat → List (Nat → Bool))
theorem inl_snoc (g : List Nat) (i j : Nat) : inl (g ++ [i]) j = (inl g j || (j == i)) := by
  rw [Bool.eq_iff_iff]
  simp [inl]
theorem take_snoc {g : List Nat} {k : Nat} (i : Nat) (hk : k ≤ g.length) : (g ++ [i]).take k = g.take k := List.take_append_of_le_length hk
theorem seen_grow {g : List Nat} {k : Nat} (i : Nat) (hk : k ≤ g.length) (h : Seen n w A g k) : Seen n w A (g ++ [i]) k := by
  intro p hp hpl j hj hn hw hm ha
  have hpg : p < g.length := by omega
  rw [List.getElem_append_left hpg] at ha
  rw [take_snoc i (by omega)]
  rw [inl_snoc] at hn
  exact h p hp hpg j hj (by cases hh : inl g j <;> simp_all) hw hm ha
/-- What the round at k has looked at, up to m. -/
def Part (g : List Nat) (k m : Nat) : Prop := ∀ (hk : k < g.length) i, i < m → inl g i = false → w i = true → mt n w A (fun _ => false) i = true → ask A i g[k] = true → mt n w A (inl (g.take (k + 1))) i = true
theorem part_zero (g : List Nat) (k : Nat) : Part n w A g k 0 := fun _ _ h => absurd h (Nat.not_lt_zero _)
theorem part_grow {g : List Nat} {k m : Nat} (i : Nat) (hk : k < g.length) (h : Part n w A g k m) : Part n w A (g ++ [i]) k m := by
  intro hkl j hj hn hw hm ha
  rw [List.getElem_append_left hk] at ha
  rw [take_snoc i (by omega)]
  rw [inl_snoc] at hn
  exact h hk j hj (by cases hh : inl g j <;> simp_all) hw hm ha
theorem take_sub {g : List Nat} {k j : Nat} (h : inl (g.take k) j = true) : inl g j = true := inl_mem.2 (List.mem_of_mem_take (inl_mem.1 h))
/-- One more was looked at, and is met, or not asked for, or gone. -/
theorem part_more {g : List Nat} {k m : Nat} (h : Part n w A g k m) (hm : ∀ (hk : k < g.length), inl g m = false → w m = true → mt n w A (fun _ => false) m = true → ask A m g[k] = true → mt n w A (inl g) m = true) : Part n w A g k (m + 1) := by
  intro hk i hi hn hw hmt ha
  by_cases e : i = m
  · subst e
    exact mt_anti n w A (fun j hj => take_sub hj) (hm hk hn hw hmt ha)
  · exact h hk i (by omega) hn hw hmt ha
theorem part_seen {g : List Nat} {k : Nat} (h : Seen n w A g k) (hp : Part n w A g k n) : Seen n w A g (k + 1) := by
  intro p hpl hpg i hi hn hw hm ha
  by_cases e : p = k
  · subst e
    exact hp hpg i hi hn hw hm ha
  · exact h p (by omega) hpg i hi hn hw hm ha
theorem seen_zero (g : List Nat) : Seen n w A g 0 := fun _ h => absurd h (Nat.not_lt_zero _)
theorem nd_len : ∀ (n : Nat) {g : List Nat}, g.Nodup → (∀ i ∈ g, i < n) → g.length ≤ n
  | 0, g, _, h => by
    cases g with
    | nil => exact Nat.le_refl _
    | cons a t => exact absurd (h a (by simp)) (Nat.not_lt_zero _)
  | n + 1, g, hd, h => by
    have h1 := nd_len n (hd.erase n) (fun i hi => by
      have h2 := h i (List.mem_of_mem_erase hi)
      have h3 : i ≠ n := fun e => by subst e; exact (List.Nodup.not_mem_erase hd) hi
      omega)
    rw [List.length_erase] at h1
    split at h1 <;> omega
theorem rch_len {s : Nat} {g : List Nat} (hs : s < n) (h : Rch n w A s g) : g.length ≤ n := by
  exact nd_len n (rch_nodup n w A h) (rch_lt n w A hs h)
theorem rch_head {s : Nat} {g : List Nat} (h : Rch n w A s g) : ∃ t, g = s :: t := by
  induction h with
  | one => exact ⟨[], rfl⟩
  | more _ _ _ _ ih => obtain ⟨t, rfl⟩ := ih; exact ⟨_, rfl⟩
/-- What is told: rising, those that were found, but the first. -/
structure NdR (s : Nat) (R : List Nat) : Prop where
  up : R.Pairwise (· < ·)
  is : ∃ g, Rch n w A s g ∧ Cls n w A g ∧ ∀ i, i ∈ R ↔ i ∈ g ∧ i ≠ s
theorem tail_iff {s : Nat} {t : List Nat} (h : (s :: t).Nodup) (i : Nat) : i ∈ t ↔ i ∈ s :: t ∧ i ≠ s := by
  rw [List.nodup_cons] at h
  constructor
  · intro hi
    exact ⟨List.mem_cons_of_mem _ hi, fun e => h.1 (e ▸ hi)⟩
  · rintro ⟨h1, h2⟩
    rcases List.mem_cons.1 h1 with e | h3
    · exact absurd e h2
    · exact h3
end
/-- Sorted numbers. -/
theorem srt (T : List Nat) (hN : T.Nodup) : ∃ R : List Nat, (T.map Int.ofNat).mergeSort (fun x y => decide (x ≤ y)) = R.map Int.ofNat ∧ R.Pairwise (· < ·) ∧ (∀ i, i ∈ R ↔ i ∈ T) ∧ R.length = T.length := by
  have hp := List.mergeSort_perm (T.map Int.ofNat) (fun x y => decide (x ≤ y))
  have hs := List.pairwise_mergeSort (le := fun x y : Int => decide (x ≤ y)) (fun a b c h1 h2 => by simp at h1 h2 ⊢; omega) (fun a b => by simp; omega) (T.map Int.ofNat)
  generalize (T.map Int.ofNat).mergeSort (fun x y => decide (x ≤ y)) = M at hp hs
  have hpos : ∀ x ∈ M, 0 ≤ x := fun x hx => by
    obtain ⟨k, _, rfl⟩ := List.mem_map.1 (hp.mem_iff.1 hx)
    exact Int.natCast_nonneg k
  have hnd : M.Nodup := hp.nodup_iff.2 (by
    rw [List.Nodup, List.pairwise_map]
    exact hN.imp fun h e => h (Int.ofNat.inj e))
  have he : M = (M.map Int.toNat).map Int.ofNat := by
    rw [List.map_map]
    symm
    refine (List.map_congr_left fun x hx => ?_).trans (List.map_id M)
    exact Int.toNat_of_nonneg (hpos x hx)
  refine ⟨M.map Int.toNat, he, ?_, fun i => ?_, ?_⟩
  · rw [List.pairwise_map]
    have h2 := hs.and hnd
    refine h2.imp_of_mem fun ha hb h => ?_
    obtain ⟨h3, h4⟩ := h
    have h5 := hpos _ ha
    have h6 := hpos _ hb
    simp at h3
    omega
  · rw [List.mem_map]
    constructor
    · rintro ⟨x, hx, rfl⟩
      obtain ⟨k, hk, rfl⟩ := List.mem_map.1 (hp.mem_iff.1 hx)
      exact hk
    · intro hi
      exact ⟨(i : Int), hp.mem_iff.2 (List.mem_map.2 ⟨i, hi, rfl⟩), Int.toNat_natCast i⟩
  · rw [List.length_map, hp.length_eq, List.length_map]
end Nds
end Go.Proofs.YthijccmiemlilaaGreatDoor
