/- Plain mathematics: a version that may be, written and read, is that version. -/
import Derived.Test.YtoojbpldhhbkbaaDoorVp
namespace Go.Proofs.YtoojbpldhhbkbaaDoor
namespace Vm

theorem dd_unfold (u : Nat) : Lib.decDigits u = if u < 10 then [UInt8.ofNat (48 + u)] else Lib.decDigits (u / 10) ++ [UInt8.ofNat (48 + u % 10)] := by
  rw [Lib.decDigits]; split <;> rfl

theorem d1_toNat (k : Nat) (h : k < 10) : (UInt8.ofNat (48 + k)).toNat = 48 + k := by
  rw [UInt8.toNat_ofNat']; omega

theorem dd_all (u : Nat) : (∀ c ∈ Lib.decDigits u, dg c = true) ∧ vl 0 (Lib.decDigits u) = u := by
  induction u using Nat.strongRecOn with
  | _ u ih =>
    rw [dd_unfold]
    by_cases h : u < 10
    · rw [if_pos h]
      refine ⟨fun c hc => ?_, ?_⟩
      · rw [List.mem_singleton.1 hc, dg_iff, d1_toNat u h]; omega
      · show vl 0 ([] ++ [_]) = u
        rw [vl_snoc, d1_toNat u h]; simp [vl]
    · rw [if_neg h]
      have h2 := ih (u / 10) (by omega)
      refine ⟨fun c hc => ?_, ?_⟩
      · rcases List.mem_append.1 hc with hc | hc
        · exact h2.1 c hc
        · rw [List.mem_singleton.1 hc, dg_iff, d1_toNat (u % 10) (by omega)]; omega
      · rw [vl_snoc, h2.2, d1_toNat (u % 10) (by omega)]; omega

theorem dd_len (k : Nat) : ∀ u, u < 10 ^ (k + 1) → (Lib.decDigits u).length ≤ k + 1 := by
  induction k with
  | zero => intro u h; rw [dd_unfold, if_pos (by simpa using h)]; simp
  | succ k ih =>
    intro u h
    rw [dd_unfold]
    by_cases h1 : u < 10
    · rw [if_pos h1]; simp
    · rw [if_neg h1]
      have h2 : 10 ^ (k + 1 + 1) = 10 ^ (k + 1) * 10 := Nat.pow_succ ..
      have := ih (u / 10) (by omega)
      simp; omega

theorem dd_head (u : Nat) (hu : 1 ≤ u) : ∃ c t, Lib.decDigits u = c :: t ∧ c ≠ 48 := by
  induction u using Nat.strongRecOn with
  | _ u ih =>
    rw [dd_unfold]
    by_cases h : u < 10
    · rw [if_pos h]
      refine ⟨_, [], rfl, fun e => ?_⟩
      have := congrArg UInt8.toNat e
      rw [d1_toNat u h] at this
      have e48 : (48 : UInt8).toNat = 48 := rfl
      omega
    · rw [if_neg h]
      obtain ⟨c, t, h1, h2⟩ := ih (u / 10) (by omega) (by omega)
      exact ⟨c, t ++ [_], by rw [h1]; rfl, h2⟩

theorem pep_dd (n : Nat) (h1 : 1 ≤ n) (h2 : n < 1000000000) : pep (Lib.decDigits n) = some n := by
  obtain ⟨c, t, hc, hne⟩ := dd_head n h1
  have hl := dd_len 8 n (by have : (10 : Nat) ^ (8 + 1) = 1000000000 := by decide
                            omega)
  have ha := dd_all n
  unfold pep
  rw [if_neg, if_pos (by rw [List.all_eq_true]; exact ha.1), ha.2]
  rintro (h | h | h)
  · rw [h] at hc; cases hc
  · omega
  · rw [hc] at h; exact hne h.1

theorem fc_none (c : UInt8) (l : List UInt8) (h : ∀ x ∈ l, x ≠ c) : fc c l = none := by
  induction l with
  | nil => rfl
  | cons b l ih =>
    unfold fc
    rw [if_neg (h b (List.mem_cons_self ..)), ih (fun x hx => h x (List.mem_cons_of_mem _ hx))]
theorem fc_app (c : UInt8) (l r : List UInt8) (h : ∀ x ∈ l, x ≠ c) : fc c (l ++ c :: r) = some (l, r) := by
  induction l with
  | nil => simp [fc]
  | cons b l ih =>
    rw [List.cons_append]
    unfold fc
    rw [if_neg (h b (List.mem_cons_self ..)), ih (fun x hx => h x (List.mem_cons_of_mem _ hx))]
theorem lc_app (c : UInt8) (l r : List UInt8) (h : ∀ x ∈ r, x ≠ c) : lc c (l ++ c :: r) = some (l, r) := by
  induction l with
  | nil => rw [List.nil_append]; unfold lc; rw [lc_none c r h]; simp
  | cons b l ih => rw [List.cons_append]; unfold lc; rw [ih]

theorem ok_ne {m : List UInt8} {l : List UInt8} {c : UInt8} (hc : ok1 m c = false) (h : l.all (ok1 m) = true) : ∀ x ∈ l, x ≠ c := by
  intro x hx e
  subst e
  have := List.all_eq_true.1 h x hx
  rw [hc] at this; cases this

theorem rt_parts {e : Int} {u r : List UInt8} (h : rt e u r = true) : 0 ≤ e ∧ e < 1000000000 ∧ u.length ≤ 40 ∧ r.length ≤ 40 ∧ (pt e u r).length ≤ 40 ∧ u.all (ok1 (us e r)) = true ∧ r.all (ok1 sgn) = true := by
  unfold rt ft at h
  simp only [Bool.and_eq_true, decide_eq_true_eq] at h
  exact ⟨h.1.1.1.1.1, h.1.1.1.1.2, h.1.1.1.2.1.1, h.1.1.1.2.1.2, h.1.1.1.2.2, h.1.2, h.2⟩

theorem lc_part {e : Int} {u r : List UInt8} (h : rt e u r = true) : (match lc 45 (u ++ pr r) with
    | none => if rt e (u ++ pr r) [] = true then some (e, (u ++ pr r), []) else none
    | some (u, r) => if r = [] then none else if rt e u r = true then some (e, u, r) else none) = some (e, u, r) := by
  have hp := rt_parts h
  by_cases hr : r = []
  · subst hr
    have hm : ok1 (us e []) 45 = false := by
      unfold us; by_cases he : 0 < e
      · simp only [he, if_true]; decide
      · simp only [he, if_false]; decide
    have : u ++ pr [] = u := by simp [pr]
    rw [this, lc_none 45 u (ok_ne hm hp.2.2.2.2.2.1)]
    simp [h]
  · have : u ++ pr r = u ++ 45 :: r := by simp [pr, hr]
    rw [this, lc_app 45 u r (ok_ne (by decide) hp.2.2.2.2.2.2)]
    simp [h, hr]

/-- What a version is written as is that version. -/
theorem pv_pt {e : Int} {u r : List UInt8} (h : rt e u r = true) : pv (pt e u r) = some (e, u, r) := by
  have hp := rt_parts h
  unfold pv
  rw [if_neg (by omega)]
  have hr58 : ∀ x ∈ pr r, x ≠ 58 := by
    intro x hx
    unfold pr at hx
    split at hx
    · cases hx
    · rcases List.mem_cons.1 hx with rfl | hx
      · decide
      · exact ok_ne (by decide) hp.2.2.2.2.2.2 x hx
  by_cases he : e = 0
  · subst he
    have hm : ok1 (us 0 r) 58 = false := by
      unfold us; by_cases hr : r = []
      · simp only [hr, if_true]; decide
      · simp only [hr, if_false]; decide
    have e1 : pt 0 u r = u ++ pr r := by simp [pt, pe]
    rw [e1, fc_none 58 _ (fun x hx => by
      rcases List.mem_append.1 hx with hx | hx
      · exact ok_ne hm hp.2.2.2.2.2.1 x hx
      · exact hr58 x hx)]
    exact lc_part h
  · obtain ⟨n, hn⟩ := Int.eq_ofNat_of_zero_le hp.1
    subst hn
    have hit : Lib.itoa (n : Int) = Lib.decDigits n := by
      unfold Lib.itoa; rw [if_neg (by omega)]; rfl
    have e1 : pt (n : Int) u r = Lib.decDigits n ++ 58 :: (u ++ pr r) := by
      unfold pt pe; rw [if_neg he, hit]; simp
    rw [e1, fc_app 58 _ _ (fun x hx e => by
      have := (dd_all n).1 x hx
      rw [e] at this
      exact absurd this (by decide))]
    simp only [pep_dd n (by omega) (by omega)]
    exact lc_part h

theorem pep_lt {l : List UInt8} {n : Nat} (h : pep l = some n) : n < 1000000000 := by
  unfold pep at h
  split at h
  · cases h
  · rename_i hh
    split at h
    · rename_i ha
      cases h
      have h9 : l.length ≤ 9 := Nat.le_of_not_lt (fun h => hh (Or.inr (Or.inl h)))
      have := vl_take_lt l l.length h9 (fun j hj _ => List.all_eq_true.1 ha _ (List.getElem_mem hj))
      rwa [List.take_length] at this
    · cases h

end Vm
end Go.Proofs.YtoojbpldhhbkbaaDoor
