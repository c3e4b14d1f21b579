/- Plain mathematics of versions as texts. -/
import Derived.Test.YthijccmiemlilaaGreatDoorVm
import Derived.Lib.ItoaNum
import Derived.Lib.Bytealg
import Derived.Lib.LastIndexByte
namespace Go.Proofs.YthijccmiemlilaaGreatDoor
namespace Vm

/-- How a version is written. -/
def pe (e : Int) : List UInt8 := if e = 0 then [] else Lib.itoa e ++ [58]
def pr (r : List UInt8) : List UInt8 := if r = [] then [] else 45 :: r
def pt (e : Int) (u r : List UInt8) : List UInt8 := pe e ++ u ++ pr r

/-- A byte that may stand in a part, m being the signs that may. -/
def ok1 (m : List UInt8) (c : UInt8) : Bool := dg c || lr c || m.contains c
def sgn : List UInt8 := [46, 43, 126]
def us (e : Int) (r : List UInt8) : List UInt8 := (if 0 < e then sgn ++ [58] else sgn) ++ (if r = [] then [] else [45])
def ft (e : Int) (u r : List UInt8) : Bool := decide (u.length ≤ 40) && decide (r.length ≤ 40) && decide ((pt e u r).length ≤ 40)
def hd (u : List UInt8) : Bool := match u with | [] => false | c :: _ => dg c
def rt (e : Int) (u r : List UInt8) : Bool := decide (0 ≤ e) && decide (e < 1000000000) && ft e u r && hd u && u.all (ok1 (us e r)) && r.all (ok1 sgn)

theorem idx_neg (m : List UInt8) (c : UInt8) : decide (Lib.indexByte m c < 0) = !m.contains c := by
  induction m with
  | nil => simp [Lib.indexByte]
  | cons b m ih =>
    have hge := Lib.indexByte_ge m c
    unfold Lib.indexByte
    by_cases h : b = c
    · subst h; simp
    · have h' : ¬ c = b := fun e => h e.symm
      simp only [beq_iff_eq, h, if_false, List.contains_cons]
      rw [show (c == b) = false from by simpa using h', Bool.false_or, ← ih]
      by_cases h1 : Lib.indexByte m c = -1
      · simp [h1]
      · have h2 : ¬ Lib.indexByte m c < 0 := by omega
        have h3 : ¬ Lib.indexByte m c + 1 < 0 := by omega
        simp [h1, h2, h3]

/-! ### Cuts -/

/-- A text cut at a byte's first place. -/
def fc (c : UInt8) : List UInt8 → Option (List UInt8 × List UInt8)
  | [] => none
  | b :: l => if b = c then some ([], l) else match fc c l with
    | none => none
    | some (x, y) => some (b :: x, y)
/-- .. at its last one. -/
def lc (c : UInt8) : List UInt8 → Option (List UInt8 × List UInt8)
  | [] => none
  | b :: l => match lc c l with
    | some (x, y) => some (b :: x, y)
    | none => if b = c then some ([], l) else none

theorem fc_idx (c : UInt8) (l : List UInt8) : (Lib.indexByte l c = -1 ∧ fc c l = none) ∨ ∃ k : Nat, k < l.length ∧ Lib.indexByte l c = k ∧ fc c l = some (l.take k, l.drop (k + 1)) := by
  induction l with
  | nil => left; exact ⟨rfl, rfl⟩
  | cons b l ih =>
    unfold Lib.indexByte fc
    by_cases h : b = c
    · right; exact ⟨0, by simp, by simp [h], by simp [h]⟩
    · rcases ih with ⟨h1, h2⟩ | ⟨k, hk, h1, h2⟩
      · left; simp [h, h1, h2]
      · right
        refine ⟨k + 1, by simpa using hk, ?_, by simp [h, h2]⟩
        have h3 : ¬ (k : Int) = -1 := by omega
        simp [h, h1, h3]

theorem lc_none (c : UInt8) (l : List UInt8) (h : ∀ x ∈ l, x ≠ c) : lc c l = none := by
  induction l with
  | nil => rfl
  | cons b l ih =>
    unfold lc
    rw [ih (fun x hx => h x (List.mem_cons_of_mem _ hx))]
    simp [h b (List.mem_cons_self ..)]
theorem lc_at (c : UInt8) (l : List UInt8) (i : Nat) (hi : i < l.length) (h1 : l[i] = c) (h2 : ∀ j (hj : j < l.length), i < j → l[j] ≠ c) : lc c l = some (l.take i, l.drop (i + 1)) := by
  induction l generalizing i with
  | nil => simp at hi
  | cons b l ih =>
    unfold lc
    cases i with
    | zero =>
      rw [lc_none c l (fun x hx => by
        obtain ⟨j, hj, rfl⟩ := List.getElem_of_mem hx
        exact h2 (j + 1) (by simpa using hj) (by omega))]
      simp at h1
      simp [h1]
    | succ i =>
      rw [ih i (by simpa using hi) (by simpa using h1) (fun j hj h => h2 (j + 1) (by simpa using hj) (by omega))]
      simp
theorem lc_idx (c : UInt8) (l : List UInt8) : (Lib.lastIndexByte ⟨l.toArray⟩ c.toNat = -1 ∧ lc c l = none) ∨ ∃ k : Nat, k < l.length ∧ Lib.lastIndexByte ⟨l.toArray⟩ c.toNat = k ∧ lc c l = some (l.take k, l.drop (k + 1)) := by
  have get : ∀ j (hj : j < l.length), ((ByteArray.mk l.toArray).data[j]!) = l[j] := fun j hj => by simp [hj]
  rcases Lib.lastIdx_spec ⟨l.toArray⟩ c.toNat (ByteArray.mk l.toArray).size with ⟨h1, h2⟩ | ⟨i, hi, h1, h2, h3⟩
  · left
    refine ⟨h1, lc_none c l (fun x hx => ?_)⟩
    obtain ⟨j, hj, rfl⟩ := List.getElem_of_mem hx
    intro e
    have := h2 j hj
    rw [get j hj, e] at this
    exact this rfl
  · right
    refine ⟨i, hi, h1, lc_at c l i hi ?_ (fun j hj h e => ?_)⟩
    · rw [get i hi] at h2
      exact UInt8.toNat_inj.1 (by omega)
    · have := h3 j h hj
      rw [get j hj, e] at this
      exact this rfl

/-- The epoch that a text is. -/
def pep (s : List UInt8) : Option Nat :=
  if s = [] ∨ 9 < s.length ∨ (s.headD 0 = 48 ∧ s ≠ [48]) then none else if s.all dg = true then some (vl 0 s) else none

theorem vl_snoc (l : List UInt8) (c : UInt8) : vl 0 (l ++ [c]) = 10 * vl 0 l + (c.toNat - 48) := by
  unfold vl; rw [List.foldl_append]; rfl
theorem take_snoc (l : List UInt8) (k : Nat) (h : k < l.length) : l.take (k + 1) = l.take k ++ [l[k]] := by
  rw [List.take_succ_eq_append_getElem h]
theorem vl_take (l : List UInt8) (k : Nat) (h : k < l.length) : vl 0 (l.take (k + 1)) = 10 * vl 0 (l.take k) + (l[k].toNat - 48) := by
  rw [take_snoc l k h, vl_snoc]
theorem vl_take_lt (l : List UInt8) (k : Nat) (hk : k ≤ 9) (h : ∀ j (hj : j < l.length), j < k → dg l[j] = true) : vl 0 (l.take k) < 1000000000 := by
  have h1 := vl_lt (l.take k) (fun c hc => by
    obtain ⟨j, hj, rfl⟩ := List.getElem_of_mem hc
    simp at hj
    rw [List.getElem_take]
    exact h j (by omega) (by omega))
  have h2 : (l.take k).length ≤ 9 := by simp; omega
  have h3 : 10 ^ (l.take k).length ≤ 10 ^ 9 := Nat.pow_le_pow_right (by omega) h2
  have h4 : (10 : Nat) ^ 9 = 1000000000 := by decide
  omega

/-- The version that a text is. -/
def pv (s : List UInt8) : Option (Int × List UInt8 × List UInt8) :=
  if 40 < s.length then none else
  match (match fc 58 s with
    | none => some ((0 : Int), s)
    | some (x, y) => match pep x with
      | none => none
      | some n => some ((n : Int), y)) with
  | none => none
  | some (e, y) => match lc 45 y with
    | none => if rt e y [] = true then some (e, y, []) else none
    | some (u, r) => if r = [] then none else if rt e u r = true then some (e, u, r) else none

end Vm
end Go.Proofs.YthijccmiemlilaaGreatDoor
namespace Go.Proofs.YthijccmiemlilaaGreatDoor
namespace Vm

theorem dd_unfold (u : Nat) : Lib.decDigits u = if u < 10 then [UInt8.ofNat (48 + u)] else Lib.decDigits (u / 10) ++ [UInt8.ofNat (48 + u % 10)] := by
  rw [Lib.decDigits]; split <;> rfl

theorem d1_toNat (k : Nat) (h : k < 10) : (UInt8.ofNat (48 + k)).toNat = 48 + k := by
  rw [UInt8.toNat_ofNat']; omega

theorem dd_all (u : Nat) : (∀ c ∈ Lib.decDigits u, dg c = true) ∧ vl 0 (Lib.decDigits u) = u := by
  induction u using Nat.strongRecOn with
  | _ u ih =>
    rw [dd_unfold]
    by_cases h : u < 10
    · rw [if_pos h]
      refine ⟨fun c hc => ?_, ?_⟩
      · rw [List.mem_singleton.1 hc, dg_iff, d1_toNat u h]; omega
      · show vl 0 ([] ++ [_]) = u
        rw [vl_snoc, d1_toNat u h]; simp [vl]
    · rw [if_neg h]
      have h2 := ih (u / 10) (by omega)
      refine ⟨fun c hc => ?_, ?_⟩
      · rcases List.mem_append.1 hc with hc | hc
        · exact h2.1 c hc
        · rw [List.mem_singleton.1 hc, dg_iff, d1_toNat (u % 10) (by omega)]; omega
      · rw [vl_snoc, h2.2, d1_toNat (u % 10) (by omega)]; omega

theorem dd_len (k : Nat) : ∀ u, u < 10 ^ (k + 1) → (Lib.decDigits u).length ≤ k + 1 := by
  induction k with
  | zero => intro u h; rw [dd_unfold, if_pos (by simpa using h)]; simp
  | succ k ih =>
    intro u h
    rw [dd_unfold]
    by_cases h1 : u < 10
    · rw [if_pos h1]; simp
    · rw [if_neg h1]
      have h2 : 10 ^ (k + 1 + 1) = 10 ^ (k + 1) * 10 := Nat.pow_succ ..
      have := ih (u / 10) (by omega)
      simp; omega

theorem dd_head (u : Nat) (hu : 1 ≤ u) : ∃ c t, Lib.decDigits u = c :: t ∧ c ≠ 48 := by
  induction u using Nat.strongRecOn with
  | _ u ih =>
    rw [dd_unfold]
    by_cases h : u < 10
    · rw [if_pos h]
      refine ⟨_, [], rfl, fun e => ?_⟩
      have := congrArg UInt8.toNat e
      rw [d1_toNat u h] at this
      have e48 : (48 : UInt8).toNat = 48 := rfl
      omega
    · rw [if_neg h]
      obtain ⟨c, t, h1, h2⟩ := ih (u / 10) (by omega) (by omega)
      exact ⟨c, t ++ [_], by rw [h1]; rfl, h2⟩

theorem pep_dd (n : Nat) (h1 : 1 ≤ n) (h2 : n < 1000000000) : pep (Lib.decDigits n) = some n := by
  obtain ⟨c, t, hc, hne⟩ := dd_head n h1
  have hl := dd_len 8 n (by have : (10 : Nat) ^ (8 + 1) = 1000000000 := by decide
                            omega)
  have ha := dd_all n
  unfold pep
  rw [if_neg, if_pos (by rw [List.all_eq_true]; exact ha.1), ha.2]
  rintro (h | h | h)
  · rw [h] at hc; cases hc
  · omega
  · rw [hc] at h; exact hne h.1

theorem fc_none (c : UInt8) (l : List UInt8) (h : ∀ x ∈ l, x ≠ c) : fc c l = none := by
  induction l with
  | nil => rfl
  | cons b l ih =>
    unfold fc
    rw [if_neg (h b (List.mem_cons_self ..)), ih (fun x hx => h x (List.mem_cons_of_mem _ hx))]
theorem fc_app (c : UInt8) (l r : List UInt8) (h : ∀ x ∈ l, x ≠ c) : fc c (l ++ c :: r) = some (l, r) := by
  induction l with
  | nil => simp [fc]
  | cons b l ih =>
    rw [List.cons_append]
    unfold fc
    rw [if_neg (h b (List.mem_cons_self ..)), ih (fun x hx => h x (List.mem_cons_of_mem _ hx))]
theorem lc_app (c : UInt8) (l r : List UInt8) (h : ∀ x ∈ r, x ≠ c) : lc c (l ++ c :: r) = some (l, r) := by
  induction l with
  | nil => rw [List.nil_append]; unfold lc; rw [lc_none c r h]; simp
  | cons b l ih => rw [List.cons_append]; unfold lc; rw [ih]

theorem ok_ne {m : List UInt8} {l : List UInt8} {c : UInt8} (hc : ok1 m c = false) (h : l.all (ok1 m) = true) : ∀ x ∈ l, x ≠ c := by
  intro x hx e
  subst e
  have := List.all_eq_true.1 h x hx
  rw [hc] at this; cases this

theorem rt_parts {e : Int} {u r : List UInt8} (h : rt e u r = true) : 0 ≤ e ∧ e < 1000000000 ∧ u.length ≤ 40 ∧ r.length ≤ 40 ∧ (pt e u r).length ≤ 40 ∧ u.all (ok1 (us e r)) = true ∧ r.all (ok1 sgn) = true := by
  unfold rt ft at h
  simp only [Bool.and_eq_true, decide_eq_true_eq] at h
  exact ⟨h.1.1.1.1.1, h.1.1.1.1.2, h.1.1.1.2.1.1, h.1.1.1.2.1.2, h.1.1.1.2.2, h.1.2, h.2⟩

theorem lc_part {e : Int} {u r : List UInt8} (h : rt e u r = true) : (match lc 45 (u ++ pr r) with
    | none => if rt e (u ++ pr r) [] = true then some (e, (u ++ pr r), []) else none
    | some (u, r) => if r = [] then none else if rt e u r = true then some (e, u, r) else none) = some (e, u, r) := by
  have hp := rt_parts h
  by_cases hr : r = []
  · subst hr
    have hm : ok1 (us e []) 45 = false := by
      unfold us; by_cases he : 0 < e
      · simp only [he, if_true]; decide
      · simp only [he, if_false]; decide
    have : u ++ pr [] = u := by simp [pr]
    rw [this, lc_none 45 u (ok_ne hm hp.2.2.2.2.2.1)]
    simp [h]
  · have : u ++ pr r = u ++ 45 :: r := by simp [pr, hr]
    rw [this, lc_app 45 u r (ok_ne (by decide) hp.2.2.2.2.2.2)]
    simp [h, hr]

/-- What a version is written as is that version. -/
theorem pv_pt {e : Int} {u r : List UInt8} (h : rt e u r = true) : pv (pt e u r) = some (e, u, r) := by
  have hp := rt_parts h
  unfold pv
  rw [if_neg (by omega)]
  have hr58 : ∀ x ∈ pr r, x ≠ 58 := by
    intro x hx
    unfold pr at hx
    split at hx
    · cases hx
    · rcases List.mem_cons.1 hx with rfl | hx
      · decide
      · exact ok_ne (by decide) hp.2.2.2.2.2.2 x hx
  by_cases he : e = 0
  · subst he
    have hm : ok1 (us 0 r) 58 = false := by
      unfold us; by_cases hr : r = []
      · simp only [hr, if_true]; decide
      · simp only [hr, if_false]; decide
    have e1 : pt 0 u r = u ++ pr r := by simp [pt, pe]
    rw [e1, fc_none 58 _ (fun x hx => by
      rcases List.mem_append.1 hx with hx | hx
      · exact ok_ne hm hp.2.2.2.2.2.1 x hx
      · exact hr58 x hx)]
    exact lc_part h
  · obtain ⟨n, hn⟩ := Int.eq_ofNat_of_zero_le hp.1
    subst hn
    have hit : Lib.itoa (n : Int) = Lib.decDigits n := by
      unfold Lib.itoa; rw [if_neg (by omega)]; rfl
    have e1 : pt (n : Int) u r = Lib.decDigits n ++ 58 :: (u ++ pr r) := by
      unfold pt pe; rw [if_neg he, hit]; simp
    rw [e1, fc_app 58 _ _ (fun x hx e => by
      have := (dd_all n).1 x hx
      rw [e] at this
      exact absurd this (by decide))]
    simp only [pep_dd n (by omega) (by omega)]
    exact lc_part h

theorem pep_lt {l : List UInt8} {n : Nat} (h : pep l = some n) : n < 1000000000 := by
  unfold pep at h
  split at h
  · cases h
  · rename_i hh
    split at h
    · rename_i ha
      cases h
      have h9 : l.length ≤ 9 := Nat.le_of_not_lt (fun h => hh (Or.inr (Or.inl h)))
      have := vl_take_lt l l.length h9 (fun j hj _ => List.all_eq_true.1 ha _ (List.getElem_mem hj))
      rwa [List.take_length] at this
    · cases h

end Vm
end Go.Proofs.YthijccmiemlilaaGreatDoor
