/- The order within a set, as the reference finds it: mathematics. -/
import Derived.Test.YtnebkdildnngeaaDoorOl
namespace Go.Proofs.YtnebkdildnngeaaDoor
open Om

def frL (S : T) (r : List Nat) (told : Nat → Bool) (v : Nat) : Bool := !told v && !(r.any fun u => !decide (u = v) && (S u v && !told u))
def unt (r : List Nat) (told : Nat → Bool) : List Nat := r.filter fun v => !told v
def bst (S : T) (r : List Nat) (told : Nat → Bool) : Option Nat := (r.find? (frL S r told)).or (r.find? fun v => !told v)
theorem frL_eq (S : T) (r : List Nat) (told : Nat → Bool) : frL S r told = fun v => !told v && !wts S (unt r told) v := by
  funext v
  unfold frL wts unt
  rw [List.any_filter]
  congr 2
  congr 1
  funext u
  cases told u <;> simp
theorem find_and (p q : Nat → Bool) : ∀ r : List Nat, r.find? (fun v => p v && q v) = (r.filter p).find? q
  | [] => rfl
  | x :: r => by
    have ih := find_and p q r
    rw [List.find?_cons, List.filter_cons]
    cases h : p x
    · simp only [Bool.false_and, Bool.false_eq_true, if_false]; exact ih
    · simp only [Bool.true_and, if_true, List.find?_cons]; rw [ih]
theorem bst_nx {S : T} {r : List Nat} {told : Nat → Bool} (h : 0 < (unt r told).length) : bst S r told = some ((unt r told).getD (nx S (unt r told)) 0) := by
  unfold bst
  rw [frL_eq, find_and]
  have e2 : (r.find? fun v => !told v) = (unt r told).find? fun _ => true := by
    rw [show (unt r told) = r.filter (fun v => !told v) from rfl, ← find_and]; simp
  rw [e2, show r.filter (fun v => !told v) = unt r told from rfl]
  generalize unt r told = L at h
  unfold nx
  cases e : L.findIdx? fun b => !wts S L b with
  | none =>
    rw [List.findIdx?_eq_none_iff] at e
    have e3 : (L.find? fun b => !wts S L b) = none := by
      rw [List.find?_eq_none]
      intro x hx
      simp [e x hx]
    rw [e3]
    cases L with
    | nil => simp at h
    | cons a L =>
      have e4 : (max 0 (-1 : Int)).toNat = 0 := by decide
      simp [fx, e4]
  | some k =>
    obtain ⟨hk, hp, hmin⟩ := List.findIdx?_eq_some_iff_getElem.1 e
    have e3 : (L.find? fun b => !wts S L b) = some L[k] := by
      rw [List.find?_eq_some_iff_getElem]
      exact ⟨hp, k, hk, rfl, fun j hj => by simpa using hmin j hj⟩
    rw [e3]
    simp [fx, List.getD, hk]
theorem filt_erase : ∀ (L : List Nat) (i : Nat) (hi : i < L.length), L.Nodup → L.filter (fun v => !decide (v = L[i])) = L.eraseIdx i
  | [], i, hi, _ => absurd hi (by simp)
  | x :: L, 0, _, hn => by
    have hx := (List.nodup_cons.1 hn).1
    have : L.filter (fun v => !decide (v = x)) = L := List.filter_eq_self.2 fun a ha => by simp; intro e; exact hx (e ▸ ha)
    simp [this]
  | x :: L, i + 1, hi, hn => by
    have hx := (List.nodup_cons.1 hn).1
    have hi' : i < L.length := by simpa using hi
    have ih := filt_erase L i hi' (List.nodup_cons.1 hn).2
    have hne : x ≠ L[i] := fun e => hx (e ▸ List.getElem_mem hi')
    simp [hne]
    simpa using ih
theorem unt_put {S : T} {r : List Nat} {told : Nat → Bool} {b : Nat} (hn : r.Nodup) (h : 0 < (unt r told).length) (hb : b = (unt r told).getD (nx S (unt r told)) 0) : unt r (fun v => decide (v = b) || told v) = (unt r told).eraseIdx (nx S (unt r told)) := by
  have hi := (nx_lt S (unt r told) h).1
  have e : b = (unt r told)[nx S (unt r told)] := by rw [hb]; simp [List.getD, hi]
  have hnd : (unt r told).Nodup := hn.sublist List.filter_sublist
  rw [← filt_erase _ _ hi hnd, ← e]
  unfold unt
  rw [List.filter_filter]
  congr 1
  funext v
  by_cases h1 : v = b <;> cases h2 : told v <;> simp [h1, h2]
theorem bst_in {S : T} {r : List Nat} {told : Nat → Bool} {b : Nat} (h : bst S r told = some b) : b ∈ r ∧ told b = false := by
  unfold bst at h
  rcases e : r.find? (frL S r told) with _ | x
  · rw [e] at h
    have h2 : r.find? (fun v => !told v) = some b := by simpa using h
    exact ⟨List.mem_of_find?_eq_some h2, by simpa using List.find?_some h2⟩
  · rw [e] at h
    obtain rfl : x = b := by simpa using h
    have := List.find?_some e
    unfold frL at this
    exact ⟨List.mem_of_find?_eq_some e, by simp at this; exact this.1⟩
/-- What is told, and what is left. -/
structure Tl (S : T) (r : List Nat) (q : Nat) (told : Nat → Bool) (D : List Nat) : Prop where
  len : (unt r told).length = r.length - q
  eq : D ++ obo S (r.length - q) (unt r told) = ob S r
  dl : D.length = q
theorem tl_0 (S : T) (r : List Nat) : Tl S r 0 (fun _ => false) [] := by
  have e : unt r (fun _ => false) = r := by unfold unt; simp
  exact ⟨by rw [e]; rfl, by rw [e]; rfl, rfl⟩
theorem tl_next {S : T} {r : List Nat} {q : Nat} {told : Nat → Bool} {D : List Nat} (h : Tl S r q told D) (hq : q < r.length) (hn : r.Nodup) : ∃ b, bst S r told = some b ∧ Tl S r (q + 1) (fun v => decide (v = b) || told v) (D ++ [b]) := by
  have h0 : 0 < (unt r told).length := by rw [h.len]; omega
  refine ⟨_, bst_nx h0, ?_⟩
  have hi := (nx_lt S (unt r told) h0).1
  have e := unt_put (S := S) hn h0 rfl
  refine ⟨?_, ?_, by simp [h.dl]⟩
  · rw [e, List.length_eraseIdx_of_lt hi, h.len]; omega
  · rw [e]
    have h1 := h.eq
    rw [show r.length - q = r.length - (q + 1) + 1 by omega] at h1
    rw [← h1]
    show _ = D ++ (_ :: _)
    simp
theorem tl_end {S : T} {r : List Nat} {told : Nat → Bool} {D : List Nat} (h : Tl S r r.length told D) : D = ob S r := by
  have := h.eq
  rw [Nat.sub_self] at this
  simpa [obo] using this
/-- The best so far. -/
def bI : Option Nat → Int
  | none => -1
  | some v => v
theorem find_take (p : Nat → Bool) (r : List Nat) (k : Nat) (hk : k < r.length) : (r.take (k + 1)).find? p = ((r.take k).find? p).or (if p r[k] then some r[k] else none) := by
  rw [List.take_succ_eq_append_getElem hk, List.find?_append]
  cases h : p r[k] <;> simp [h]
theorem strong_any (l : List (Int × Int)) (r : List Nat) (told : Nat → Bool) (v : Nat) : (l.any fun e => r.any fun u => decide (e.1 = (u : Int)) && (decide (e.2 = (v : Int)) && (!decide (u = v) && !told u))) = r.any fun u => !decide (u = v) && (et l u v && !told u) := by
  rw [Bool.eq_iff_iff]
  simp only [List.any_eq_true, Bool.and_eq_true, decide_eq_true_eq, et]
  constructor
  · rintro ⟨e, he, u, hu, h1, h2, h3, h4⟩
    exact ⟨u, hu, h3, by rw [← h1, ← h2]; exact he, h4⟩
  · rintro ⟨u, hu, h3, he, h4⟩
    exact ⟨_, he, u, hu, rfl, rfl, h3, h4⟩
end Go.Proofs.YtnebkdildnngeaaDoor
