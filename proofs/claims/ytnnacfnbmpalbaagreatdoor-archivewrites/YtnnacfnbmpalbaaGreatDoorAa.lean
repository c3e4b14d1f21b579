/- Files of a package, and a package's bytes: mathematics. -/
import Derived.Test.YtnnacfnbmpalbaaGreatDoorYm
namespace Go.Proofs.YtnnacfnbmpalbaaGreatDoor

abbrev Fl2 := List UInt8 × List UInt8
/-- A path lies beneath another one. -/
def bnt (p a : List UInt8) : Bool := (a ++ [47]).isPrefixOf p
def csh (g f : List UInt8) : Bool := decide (g = f) || (bnt g f || bnt f g)
/-- A file may be behind those ahead of it. -/
def fki (F : List Fl2) (i : Nat) : Bool := pth (F.getD i ([], [])).1 && !((F.take i).any fun g => csh g.1 (F.getD i ([], [])).1)
def fk (F : List Fl2) : Bool := decide (F.length ≤ 20) && (List.range F.length).all (fki F)
def stg (F : List Fl2) (S : List (List UInt8)) : Bool := S.all fun s => F.any fun f => decide (f.1 = s)
theorem fki_at {F : List Fl2} {i : Nat} (h : i < F.length) : fki F i = (pth F[i].1 && !((F.take i).any fun g => csh g.1 F[i].1)) := by
  unfold fki; rw [List.getD_eq_getElem?_getD, List.getElem?_eq_getElem h]; rfl
theorem fk_no {F : List Fl2} {i : Nat} (h : i < F.length) (hn : fki F i = false) : fk F = false := by
  unfold fk
  rw [show (List.range F.length).all (fki F) = false from List.all_eq_false.2 ⟨i, List.mem_range.2 h, by rw [hn]; simp⟩, Bool.and_false]
theorem fk_yes {F : List Fl2} (h : ∀ i, i < F.length → fki F i = true) : fk F = decide (F.length ≤ 20) := by
  unfold fk
  rw [show (List.range F.length).all (fki F) = true from List.all_eq_true.2 fun i hi => h i (List.mem_range.1 hi), Bool.and_true]
/-- What the reference asks of two files. -/
def xki (F : List Fl2) (i k : Nat) : Bool := !decide (i = k) && (decide ((F.getD i ([], [])).1 = (F.getD k ([], [])).1) || bnt (F.getD k ([], [])).1 (F.getD i ([], [])).1)
theorem getD_at {F : List Fl2} {i : Nat} (h : i < F.length) : F.getD i ([], []) = F[i] := by
  rw [List.getD_eq_getElem?_getD, List.getElem?_eq_getElem h]; rfl
theorem xki_at {F : List Fl2} {i k : Nat} (h : i < F.length) (hk : k < F.length) : xki F i k = (!decide (i = k) && (decide (F[i].1 = F[k].1) || bnt F[k].1 F[i].1)) := by
  unfold xki; rw [getD_at h, getD_at hk]
theorem fk_bad {F : List Fl2} {i k : Nat} (h : i < F.length) (hk : k < F.length) (hx : xki F i k = true) : fk F = false := by
  rw [xki_at h hk] at hx
  simp only [Bool.and_eq_true, Bool.not_eq_true', decide_eq_false_iff_not, Bool.or_eq_true, decide_eq_true_eq] at hx
  obtain ⟨hne, hx⟩ := hx
  have key : ∀ a b (ha : a < F.length) (hb : b < F.length), a < b → csh F[a].1 F[b].1 = true → fk F = false := fun a b ha hb hab hc => by
    refine fk_no hb ?_
    rw [fki_at hb, show ((F.take b).any fun g => csh g.1 F[b].1) = true from List.any_eq_true.2 ⟨F[a], ?_, hc⟩]
    · simp
    · rw [List.mem_take_iff_getElem]; exact ⟨a, by omega, rfl⟩
  rcases Nat.lt_or_gt_of_ne hne with hlt | hlt
  · refine key i k h hk hlt ?_
    unfold csh
    rcases hx with hx | hx
    · simp [hx]
    · simp [hx]
  · refine key k i hk h hlt ?_
    unfold csh
    rcases hx with hx | hx
    · simp [hx]
    · simp [hx]
theorem fk_good {F : List Fl2} (hp : ∀ i (h : i < F.length), pth F[i].1 = true) (hx : ∀ i k, i < F.length → k < F.length → xki F i k = false) : fk F = decide (F.length ≤ 20) := by
  refine fk_yes fun i hi => ?_
  rw [fki_at hi, hp i hi, show ((F.take i).any fun g => csh g.1 F[i].1) = false from ?_]
  · rfl
  · rw [List.any_eq_false]
    intro g hg
    obtain ⟨j, hj, rfl⟩ := List.mem_take_iff_getElem.1 hg
    have hj1 : j < i := by omega
    have hj2 : j < F.length := by omega
    have h1 := hx j i hj2 hi
    have h2 := hx i j hi hj2
    rw [xki_at hj2 hi, show decide (j = i) = false from decide_eq_false (by omega), Bool.not_false, Bool.true_and, Bool.or_eq_false_iff] at h1
    rw [xki_at hi hj2, show decide (i = j) = false from decide_eq_false (by omega), Bool.not_false, Bool.true_and, Bool.or_eq_false_iff] at h2
    unfold csh
    rw [h1.1, h1.2, h2.2]; simp
theorem fk_path {F : List Fl2} {i : Nat} (h : i < F.length) (hp : pth F[i].1 = false) : fk F = false := by
  refine fk_no h ?_; rw [fki_at h, hp]; rfl
theorem stg_no {F : List Fl2} {S : List (List UInt8)} {i : Nat} (h : i < S.length) (hn : (F.any fun f => decide (f.1 = S[i])) = false) : stg F S = false := by
  unfold stg; exact List.all_eq_false.2 ⟨S[i], List.getElem_mem h, by rw [hn]; simp⟩
theorem stg_yes {F : List Fl2} {S : List (List UInt8)} (h : ∀ i (hi : i < S.length), (F.any fun f => decide (f.1 = S[i])) = true) : stg F S = true := by
  unfold stg; rw [List.all_eq_true]; intro s hs; obtain ⟨j, hj, rfl⟩ := List.getElem_of_mem hs; exact h j hj
theorem fk_len {F : List Fl2} (h : fk F = true) : F.length ≤ 20 := by
  unfold fk at h; simp only [Bool.and_eq_true, decide_eq_true_eq] at h; exact h.1
theorem fk_pth {F : List Fl2} (h : fk F = true) : ∀ f ∈ F, pth f.1 = true := fun f hf => by
  obtain ⟨j, hj, rfl⟩ := List.getElem_of_mem hf
  unfold fk at h
  simp only [Bool.and_eq_true, decide_eq_true_eq, List.all_eq_true, List.mem_range] at h
  have := h.2 j hj
  rw [fki_at hj, Bool.and_eq_true] at this
  exact this.1
/-- A file's bytes. -/
def fln (f : Fl2) : List UInt8 := f.1 ++ [32] ++ Lib.itoa f.2.length ++ [10] ++ f.2 ++ [10]
end Go.Proofs.YtnnacfnbmpalbaaGreatDoor
