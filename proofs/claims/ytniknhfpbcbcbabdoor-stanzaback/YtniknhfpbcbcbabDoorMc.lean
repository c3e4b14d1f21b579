/- What was read may be written: bounds and rightness of what the reader holds. -/
import Derived.Test.YtniknhfpbcbcbabDoorMb
namespace Go.Proofs.YtniknhfpbcbcbabDoor
open Sm

/-- Fields that may stand behind one another. -/
structure Ok (cu : List F) : Prop where
  n : cu.length ≤ 40
  f : ∀ k (hk : k < cu.length), fok (cu.take k) cu[k] = true
theorem ok_nil : Ok [] := ⟨by simp, fun k hk => by simp at hk⟩
theorem Ok.app {p : List F} {f : F} (h : Ok p) (hl : p.length ≠ 40) (hf : fok p f = true) : Ok (p ++ [f]) := by
  refine ⟨by have := h.n; simp; omega, fun k hk => ?_⟩
  by_cases hkp : k < p.length
  · rw [List.take_append_of_le_length (by omega), List.getElem_append_left hkp]; exact h.f k hkp
  · have e : k = p.length := by simp at hk; omega
    subst e
    rw [List.take_left, List.getElem_append_right (Nat.le_refl _)]
    simpa using hf
theorem Ok.set {p : List F} {n v v' : List UInt8} (h : Ok (p ++ [(n, v)])) (hv : vok v = true → vok v' = true) : Ok (p ++ [(n, v')]) := by
  refine ⟨by have := h.n; simpa using this, fun k hk => ?_⟩
  have h1 := h.f k (by simpa using hk)
  by_cases hkp : k < p.length
  · rw [List.take_append_of_le_length (by omega), List.getElem_append_left hkp] at h1 ⊢; exact h1
  · have e : k = p.length := by simp at hk; omega
    subst e
    rw [List.take_left, List.getElem_append_right (Nat.le_refl _)] at h1 ⊢
    simp only [Nat.sub_self, List.getElem_cons_zero] at h1 ⊢
    unfold fok at h1 ⊢
    simp only [Bool.and_eq_true] at h1 ⊢
    exact ⟨⟨h1.1.1, hv h1.1.2⟩, h1.2⟩
theorem Ok.rgt {l : List F} (h : Ok l) (h0 : ¬ l = []) (ht : (txt l).length ≤ 4000) : rgt l = true := by
  unfold Sm.rgt
  simp only [Bool.and_eq_true, decide_eq_true_eq]
  refine ⟨⟨⟨?_, h.n⟩, foks_yes h.f⟩, ht⟩
  cases l with
  | nil => exact absurd rfl h0
  | cons a b => simp

theorem l0_le (x : List UInt8) : (l0 x).length ≤ x.length + 2 := by
  unfold l0
  split
  · simp
  · simp
theorem l0_ge (x : List UInt8) : x.length ≤ (l0 x).length := by
  unfold l0
  split
  · rename_i h; simp [h]
  · simp; omega
theorem bg_parts {cu : List F} {l : List UInt8} {x : F} (h : bg cu l = some x) : ∃ k, k < l.length ∧ x.1 = l.take k ∧ x.2 = Lib.trimS (l.drop (k + 1)) [32, 9] ∧ nok x.1 = true ∧ lok x.2 = true ∧ cu.length ≠ 40 ∧ fnd cu x.1 = none := by
  unfold bg at h
  split at h
  · cases h
  · rename_i hi
    rcases idx_cases l 58 with h1 | ⟨k, h1, h2⟩
    · omega
    · rw [h1] at h
      simp only [Int.toNat_natCast] at h
      split at h
      · rename_i hq
        cases h
        simp only [Bool.and_eq_true, Bool.not_eq_true', beq_eq_false_iff_ne] at hq
        exact ⟨k, h2, rfl, rfl, hq.1.1.1, hq.1.1.2, hq.1.2, by simpa using hq.2⟩
      · cases h
theorem vok_lok {v : List UInt8} (h : lok v = true) : vok v = true := by
  unfold vok; rw [spl_no (lok_10 h)]; simp [h, mok]
theorem vt_lok {v : List UInt8} (h : lok v = true) : vt v = l0 v := by
  unfold vt; rw [spl_no (lok_10 h)]; simp
theorem txt_app (a b : List F) : txt (a ++ b) = txt a ++ txt b := by simp [txt]
theorem txt_one (f : F) : txt [f] = ft f := by simp [txt]
theorem spl_more {v u : List UInt8} (h : lok u = true) : spl (v ++ [10] ++ u) = spl v ++ [u] := by
  rw [List.append_assoc]
  show spl (v ++ 10 :: u) = _
  rw [spl_app, spl_no (lok_10 h)]
theorem vt_more {v u : List UInt8} (h : lok u = true) : vt (v ++ [10] ++ u) = vt v ++ ln u := by
  unfold vt
  rw [spl_more h]
  cases hs : spl v with
  | nil => exact absurd hs (spl_ne v)
  | cons x r => simp
theorem vok_more {v u : List UInt8} (h : lok u = true) (h0 : ¬ u = []) (hv : vok v = true) : vok (v ++ [10] ++ u) = true := by
  unfold vok at hv ⊢
  rw [spl_more h]
  cases hs : spl v with
  | nil => exact absurd hs (spl_ne v)
  | cons x r =>
    rw [hs] at hv
    simp only [Bool.and_eq_true] at hv
    show (lok x && mok (r ++ [u])) = true
    have : mok (r ++ [u]) = true := by
      have h2 := hv.2
      unfold mok at h2 ⊢
      rw [List.all_append, h2]; simp [h, h0]
    simp [hv.1, this]

theorem gOk_parts {cu : List F} {t u : List UInt8} (ht : ¬ t = []) (h : gOk cu t = some u) : ¬ cu = [] ∧ lok u = true ∧ ¬ u = [] ∧ (ln u).length ≤ t.length + 2 := by
  unfold gOk at h
  cases hg : gl t with
  | none => rw [hg] at h; cases h
  | some y =>
    rw [hg] at h
    simp only at h
    split at h
    · rename_i hq
      cases h
      simp only [Bool.and_eq_true, Bool.not_eq_true'] at hq
      refine ⟨fun e => by rw [e] at hq; simp at hq, hq.2, ?_, ?_⟩
      · unfold gl at hg
        split at hg
        · split at hg
          · cases hg; intro e; rename_i h2; rw [e] at h2; cases h2
          · cases hg
        · cases hg; exact ht
      · unfold gl at hg
        split at hg
        · split at hg
          · cases hg
            have : t.tail.length + 1 = t.length := by cases t with | nil => exact absurd rfl ht | cons a b => simp
            unfold ln; split <;> simp <;> omega
          · cases hg
        · rename_i h46
          cases hg
          unfold ln; rw [if_neg h46]; simp
    · cases h
theorem trims_less {l : List UInt8} (h : l.head?.any bl = true) : (Lib.trimS l [32, 9]).length + 1 ≤ l.length := by
  cases l with
  | nil => simp at h
  | cons c t =>
    rw [trims, tl_cons_bl (by simpa using h)]
    have h1 := (tr_pre (tl t)).length_le
    have h2 := (tl_suf t).length_le
    simp; omega

/-- What the reader holds: right, and not too long. -/
structure Hd (m : Nat) (out : List (List F)) (cu : List F) : Prop where
  o : ∀ x ∈ out, ¬ x = [] ∧ Ok x ∧ (txt x).length ≤ m
  c : Ok cu
  t : (txt cu).length ≤ m
theorem Hd.endO {m : Nat} {out : List (List F)} {cu : List F} (h : Hd m out cu) : ∀ x ∈ endO out cu, ¬ x = [] ∧ Ok x ∧ (txt x).length ≤ m := by
  intro x hx
  unfold Go.Proofs.YtniknhfpbcbcbabDoor.endO at hx
  split at hx
  · exact h.o x hx
  · rename_i h0
    rcases List.mem_append.1 hx with hx | hx
    · exact h.o x hx
    · simp at hx; subst hx; exact ⟨h0, h.c, h.t⟩
theorem Hd.step {m : Nat} {out : List (List F)} {cu : List F} {l : List UInt8} {o : List (List F) × List F} (h : Hd m out cu) (hs : step out cu l = some o) : Hd (m + (l.length + 3)) o.1 o.2 := by
  have up : ∀ x : List F, (¬ x = [] ∧ Ok x ∧ (txt x).length ≤ m) → (¬ x = [] ∧ Ok x ∧ (txt x).length ≤ m + (l.length + 3)) := fun x hx => ⟨hx.1, hx.2.1, by have := hx.2.2; omega⟩
  have ht := h.t
  unfold Go.Proofs.YtniknhfpbcbcbabDoor.step at hs
  split at hs
  · cases hs; exact ⟨fun x hx => up x (h.o x hx), h.c, by show (txt cu).length ≤ _; omega⟩
  · split at hs
    · cases hs; exact ⟨fun x hx => up x (h.endO x hx), ok_nil, by simp [txt]⟩
    · rename_i hne
      split at hs
      · rename_i hb
        cases hg : gOk cu (Lib.trimS l [32, 9]) with
        | none => rw [hg] at hs; cases hs
        | some u =>
          rw [hg] at hs; cases hs
          obtain ⟨k1, k2, k3, k4⟩ := gOk_parts hne hg
          have k5 := trims_less hb
          rcases List.eq_nil_or_concat cu with rfl | ⟨p, f, rfl⟩
          · exact absurd rfl k1
          · rw [List.concat_eq_append] at h ht
            rw [List.concat_eq_append]
            show Hd _ out (addL (p ++ [f]) u)
            rw [show addL (p ++ [f]) u = p ++ [(f.1, f.2 ++ [10] ++ u)] from addL_last p f.1 f.2 u]
            refine ⟨fun x hx => up x (h.o x hx), h.c.set (fun hv => vok_more k2 k3 hv), ?_⟩
            rw [txt_app, txt_one] at ht ⊢
            unfold ft at ht ⊢
            simp only at ht ⊢
            rw [vt_more k2]
            simp only [List.length_append, List.length_cons] at ht ⊢
            omega
      · cases hg : bg cu l with
        | none => rw [hg] at hs; cases hs
        | some x =>
          rw [hg] at hs; cases hs
          obtain ⟨k, hk, e1, e2, k1, k2, k3, k4⟩ := bg_parts hg
          refine ⟨fun x hx => up x (h.o x hx), h.c.app k3 (by unfold fok; simp [k1, vok_lok k2, k4]), ?_⟩
          show (txt (cu ++ [x])).length ≤ _
          rw [txt_app, txt_one]
          unfold ft
          rw [vt_lok k2]
          have h1 := l0_le x.2
          have h2 : x.1.length ≤ k := by rw [e1]; simp; omega
          have h3 : x.2.length ≤ l.length - (k + 1) := by rw [e2]; have := trim_len (l.drop (k + 1)); simpa using this
          simp only [List.length_append, List.length_cons]
          omega
theorem run_holds (ls : List (List UInt8)) : ∀ (i m : Nat) (out : List (List F)) (cu : List F) (o : List (List F)), Hd m out cu → run i out cu ls = .ok o → ∀ x ∈ o, ¬ x = [] ∧ Ok x ∧ (txt x).length ≤ m + (ls.map fun x => x.length + 3).sum := by
  induction ls with
  | nil =>
    intro i m out cu o h hr
    simp only [run] at hr
    cases hr
    intro x hx
    have := h.endO x hx
    exact ⟨this.1, this.2.1, by have := this.2.2; omega⟩
  | cons l ls ih =>
    intro i m out cu o h hr
    simp only [run] at hr
    cases hs : step out cu l with
    | none => rw [hs] at hr; cases hr
    | some p =>
      rw [hs] at hr
      intro x hx
      have := ih _ _ _ _ _ (h.step hs) hr x hx
      refine ⟨this.1, this.2.1, ?_⟩
      have := this.2.2
      rw [List.map_cons, List.sum_cons]
      omega

theorem vt_ge (v : List UInt8) : v.length ≤ (vt v).length := by
  unfold vt
  cases hs : spl v with
  | nil => exact absurd hs (spl_ne v)
  | cons x r =>
    have e := spl_join v x r hs
    have h1 : x.length ≤ (l0 x).length := l0_ge x
    have h2 : (r.flatMap fun y => 10 :: y).length ≤ (r.flatMap ln).length := by
      clear hs e
      induction r with
      | nil => simp
      | cons y r ih =>
        rw [List.flatMap_cons, List.flatMap_cons, List.length_append, List.length_append]
        have : (10 :: y).length ≤ (ln y).length := by unfold ln; simp; omega
        omega
    rw [e]
    simp only [List.length_append]
    omega
theorem ft_in {l : List F} {f : F} (h : f ∈ l) : (ft f).length ≤ (txt l).length := by
  obtain ⟨a, b, rfl⟩ := List.append_of_mem h
  have : txt (a ++ f :: b) = txt a ++ (ft f ++ txt b) := by simp [txt]
  rw [this]; simp; omega

/-- What is read of a text that is not too long may be written. -/
theorem read_right {s : List UInt8} (hl : s.length ≤ 1000) {o : List (List F)} (h : run 0 [] [] (spl s) = .ok o) : (∀ x ∈ o, rgt x = true ∧ Sz x) ∧ o.length ≤ 2000 := by
  have hm := (spl_sum s).1
  have hn := (spl_sum s).2
  have hr := run_holds (spl s) 0 0 [] [] o ⟨by simp, ok_nil, by simp [txt]⟩ h
  refine ⟨fun x hx => ?_, ?_⟩
  · obtain ⟨h0, hk, ht⟩ := hr x hx
    refine ⟨hk.rgt h0 (by omega), ⟨by have := hk.n; omega, fun f hf => ?_⟩⟩
    obtain ⟨k, hk1, rfl⟩ := List.getElem_of_mem hf
    have hfk := hk.f k hk1
    unfold fok at hfk
    simp only [Bool.and_eq_true] at hfk
    have hnk := hfk.1.1
    unfold nok at hnk
    simp only [Bool.and_eq_true, decide_eq_true_eq] at hnk
    have hft := ft_in (l := x) (f := x[k]) (List.getElem_mem hk1)
    have hv := vt_ge x[k].2
    unfold ft at hft
    simp only [List.length_append, List.length_cons] at hft
    exact ⟨by have := hnk.1.2; omega, by omega⟩
  · have : ∀ (ls : List (List UInt8)) (i : Nat) (out : List (List F)) (cu : List F) (o : List (List F)), run i out cu ls = .ok o → o.length ≤ out.length + ls.length + 1 := by
      intro ls
      induction ls with
      | nil => intro i out cu o hr; simp only [run] at hr; cases hr; have := endO_len out cu; simpa using this
      | cons l ls ih =>
        intro i out cu o hr
        simp only [run] at hr
        cases hs : step out cu l with
        | none => rw [hs] at hr; cases hr
        | some p =>
          rw [hs] at hr
          have h1 := ih _ _ _ _ hr
          have h2 := step_len hs
          simp; omega
    have := this _ _ _ _ _ h
    simp at this
    omega

/-- Big letters. -/
theorem fnd_at {l : List F} (h : ∀ k (hk : k < l.length), fok (l.take k) l[k] = true) (k : Nat) (hk : k < l.length) (s : List UInt8) (hs : small s = small l[k].1) : fnd l s = some k := by
  have h1 := h k hk
  unfold fok at h1
  simp only [Bool.and_eq_true] at h1
  have h2 : fnd (l.take k) l[k].1 = none := by simpa using h1.2
  unfold fnd at h2 ⊢
  rw [hs]
  rw [List.findIdx?_eq_none_iff] at h2
  rw [List.findIdx?_eq_some_iff_getElem]
  refine ⟨hk, by simp, fun j hj => ?_⟩
  have := h2 l[j] (by
    rw [List.mem_take_iff_getElem]
    exact ⟨j, by omega, rfl⟩)
  simpa using this
end Go.Proofs.YtniknhfpbcbcbabDoor
