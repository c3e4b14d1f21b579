/- The mathematics of what is asked for: what is written is read as it was. -/
import Derived.Test.YtmlmdncepgcimaaGreatDoorUe
namespace Go.Proofs.YtmlmdncepgcimaaGreatDoor

theorem sp_app {c : UInt8} {a b : List UInt8} (h : ∀ x ∈ a, x ≠ c) : sp c (a ++ c :: b) = a :: sp c b := sp_some (Vm.fc_app c a b h)
theorem sp_one {c : UInt8} {a : List UInt8} (h : ∀ x ∈ a, x ≠ c) : sp c a = [a] := sp_none (Vm.fc_none c a h)

/-- A byte that is not nothing. -/
def ink (c : UInt8) : Bool := !bls.contains c
theorem dw_ink {c : UInt8} (l : List UInt8) (h : ink c = true) : (c :: l).dropWhile (bls.contains ·) = c :: l := by
  unfold ink at h
  rw [List.dropWhile_cons, if_neg (by simpa using h)]
theorem dw_blank : ∀ (u l : List UInt8), (∀ c ∈ u, bls.contains c = true) → (u ++ l).dropWhile (bls.contains ·) = l.dropWhile (bls.contains ·)
  | [], _, _ => rfl
  | c :: u, l, h => by
    rw [List.cons_append, List.dropWhile_cons, if_pos (h c (List.mem_cons_self ..))]
    exact dw_blank u l (fun x hx => h x (List.mem_cons_of_mem _ hx))
/-- A text that begins and ends with ink. -/
structure Inked (w : List UInt8) : Prop where
  h : ∃ c l, w = c :: l ∧ ink c = true
  e : ∃ l c, w = l ++ [c] ∧ ink c = true
theorem Inked.r {w : List UInt8} (h : Inked w) (v : List UInt8) (hv : ∀ c ∈ v, bls.contains c = true) (a : List UInt8) : Lib.trimRightS (a ++ w ++ v) bls = a ++ w := by
  obtain ⟨l, c, rfl, hc⟩ := h.e
  unfold Lib.trimRightS
  rw [show (a ++ (l ++ [c]) ++ v).reverse = v.reverse ++ (c :: (a ++ l).reverse) by simp]
  rw [dw_blank _ _ (fun x hx => hv x (by simpa using hx)), dw_ink _ hc]
  simp
theorem Inked.t {w : List UInt8} (h : Inked w) (u v : List UInt8) (hu : ∀ c ∈ u, bls.contains c = true) (hv : ∀ c ∈ v, bls.contains c = true) : Lib.trimS (u ++ w ++ v) bls = w := by
  unfold Lib.trimS
  rw [h.r v hv u]
  obtain ⟨c, l, rfl, hc⟩ := h.h
  unfold Lib.trimLeftS
  rw [dw_blank _ _ hu, dw_ink _ hc]

theorem ink_of {c : UInt8} (h1 : c ≠ 32) (h2 : c ≠ 9) (h3 : c ≠ 10) : ink c = true := by
  unfold ink bls
  simp [h1, h2, h3]
theorem ink_n {c : UInt8} (h : nby c = true) : ink c = true ∧ c ≠ 40 ∧ c ≠ 44 ∧ c ≠ 124 := by
  refine ⟨ink_of ?_ ?_ ?_, ?_, ?_, ?_⟩
  all_goals
    rintro rfl
    revert h
    decide
theorem ink_v {c : UInt8} (h : Vm.ok1 [46, 43, 126, 58, 45] c = true) : ink c = true ∧ c ≠ 44 ∧ c ≠ 124 := by
  refine ⟨ink_of ?_ ?_ ?_, ?_, ?_⟩
  all_goals
    rintro rfl
    revert h
    decide
theorem nmo_all {n : List UInt8} (h : nmo n = true) : (∀ c ∈ n, nby c = true) ∧ n ≠ [] := by
  unfold nmo at h
  simp only [Bool.and_eq_true, decide_eq_true_eq, List.all_eq_true] at h
  exact ⟨h.2, by rintro rfl; simp at h⟩
theorem inked_of {w : List UInt8} (h0 : w ≠ []) (h : ∀ c ∈ w, ink c = true) : Inked w := by
  refine ⟨?_, ?_⟩
  · cases w with
    | nil => exact absurd rfl h0
    | cons c l => exact ⟨c, l, rfl, h c (List.mem_cons_self ..)⟩
  · rcases List.eq_nil_or_concat w with rfl | ⟨l, c, rfl⟩
    · exact absurd rfl h0
    · exact ⟨l, c, by simp, h c (by simp)⟩

theorem ok_more {m m' : List UInt8} {c : UInt8} (hm : ∀ x ∈ m, x ∈ m') (h : Vm.ok1 m c = true) : Vm.ok1 m' c = true := by
  unfold Vm.ok1 at *
  simp only [Bool.or_eq_true, List.contains_iff_mem] at *
  rcases h with h | h
  · exact .inl h
  · exact .inr (hm c h)
theorem pt_ok {e : Int} {u r : List UInt8} (h : Vm.rt e u r = true) : (∀ c ∈ Vm.pt e u r, Vm.ok1 [46, 43, 126, 58, 45] c = true) ∧ Vm.pt e u r ≠ [] := by
  obtain ⟨h0, h1, _, _, _, hu, hr⟩ := Vm.rt_parts h
  have hune : u ≠ [] := by
    rintro rfl
    unfold Vm.rt Vm.hd at h
    simp at h
  refine ⟨fun c hc => ?_, by unfold Vm.pt; simp [hune]⟩
  unfold Vm.pt at hc
  rcases List.mem_append.1 hc with hc | hc
  · rcases List.mem_append.1 hc with hc | hc
    · unfold Vm.pe at hc
      split at hc
      · cases hc
      · rcases List.mem_append.1 hc with hc | hc
        · unfold Lib.itoa at hc
          rw [if_neg (by omega)] at hc
          have := (Vm.dd_all e.toNat).1 c hc
          unfold Vm.ok1; rw [this]; rfl
        · simp at hc; subst hc; decide
    · refine ok_more ?_ (List.all_eq_true.1 hu c hc)
      unfold Vm.us Vm.sgn
      by_cases h1 : 0 < e <;> by_cases h2 : r = [] <;> simp only [h1, h2, if_true, if_false] <;> decide
  · unfold Vm.pr at hc
    split at hc
    · cases hc
    · rcases List.mem_cons.1 hc with rfl | hc
      · decide
      · exact ok_more (by decide) (List.all_eq_true.1 hr c hc)

theorem cutS_sg (p : List UInt8) : ∀ k, 1 ≤ k → k < 6 → cutS (sgt k ++ 32 :: p) = (k, 32 :: p)
  | 1, _, _ => by simp [cutS, sgt, List.isPrefixOf]
  | 2, _, _ => by simp [cutS, sgt, List.isPrefixOf]
  | 3, _, _ => by simp [cutS, sgt, List.isPrefixOf]
  | 4, _, _ => by simp [cutS, sgt, List.isPrefixOf]
  | 5, _, _ => by simp [cutS, sgt, List.isPrefixOf]
theorem sgt_ink (k : Nat) : ∀ c ∈ sgt k, c ≠ 44 ∧ c ≠ 124 := by
  unfold sgt; split <;> simp

/-- A term that may be, as it is written: what stands in it. -/
theorem wr_ink {t : Tm} (h : tok t = true) : Inked (wrT t) ∧ (∀ c ∈ wrT t, c ≠ 44) ∧ ∀ c ∈ wrT t, c ≠ 124 := by
  unfold tok at h
  rw [Bool.and_eq_true] at h
  obtain ⟨hn, hne⟩ := nmo_all h.1
  have hi : ∀ c ∈ t.n, ink c = true := fun c hc => (ink_n (hn c hc)).1
  unfold wrT
  by_cases ho : t.o = 0
  · rw [if_pos ho]
    exact ⟨inked_of hne hi, fun c hc => (ink_n (hn c hc)).2.2.1, fun c hc => (ink_n (hn c hc)).2.2.2⟩
  · rw [if_neg ho]
    have h2 := h.2
    rw [if_neg ho] at h2
    simp only [Bool.and_eq_true, decide_eq_true_eq] at h2
    obtain ⟨hp, _⟩ := pt_ok h2.2.2
    refine ⟨⟨?_, ⟨_, 41, rfl, by decide⟩⟩, ?_, ?_⟩
    · obtain ⟨c, l, hc, hcc⟩ := (inked_of hne hi).h
      exact ⟨c, _, by rw [hc]; simp; rfl, hcc⟩
    · intro c hc
      simp only [List.append_assoc, List.mem_append] at hc
      rcases hc with hc | hc | hc | hc | hc | hc
      · exact (ink_n (hn c hc)).2.2.1
      · simp at hc; rcases hc with rfl | rfl <;> decide
      · exact (sgt_ink _ c hc).1
      · simp at hc; subst hc; decide
      · exact (ink_v (hp c hc)).2.1
      · simp at hc; subst hc; decide
    · intro c hc
      simp only [List.append_assoc, List.mem_append] at hc
      rcases hc with hc | hc | hc | hc | hc | hc
      · exact (ink_n (hn c hc)).2.2.2
      · simp at hc; rcases hc with rfl | rfl <;> decide
      · exact (sgt_ink _ c hc).2
      · simp at hc; subst hc; decide
      · exact (ink_v (hp c hc)).2.2
      · simp at hc; subst hc; decide

theorem bl32 : ∀ c ∈ ([32] : List UInt8), bls.contains c = true := by decide
theorem bl0 : ∀ c ∈ ([] : List UInt8), bls.contains c = true := by simp

/-- A term that may be is read as it was written. -/
theorem rdT_wr {t : Tm} (h : tok t = true) : rdT (wrT t) = some t := by
  unfold tok at h
  rw [Bool.and_eq_true] at h
  obtain ⟨hn, hne⟩ := nmo_all h.1
  have hi : ∀ c ∈ t.n, ink c = true := fun c hc => (ink_n (hn c hc)).1
  have h40 : ∀ c ∈ t.n, c ≠ 40 := fun c hc => (ink_n (hn c hc)).2.1
  have hI := inked_of hne hi
  unfold wrT
  by_cases ho : t.o = 0
  · rw [if_pos ho]
    have h2 := h.2
    rw [if_pos ho] at h2
    simp only [Bool.and_eq_true, decide_eq_true_eq] at h2
    unfold rdT
    rw [Vm.fc_none 40 t.n h40]
    have hr : Lib.trimRightS t.n bls = t.n := by have := hI.r [] bl0 []; simpa using this
    simp only [hr, h.1, if_true]
    obtain ⟨n, o, e, u, r⟩ := t
    simp only at ho h2
    obtain ⟨rfl, rfl, rfl⟩ := h2
    subst ho
    rfl
  · rw [if_neg ho]
    have h2 := h.2
    rw [if_neg ho] at h2
    simp only [Bool.and_eq_true, decide_eq_true_eq] at h2
    obtain ⟨hp, hpne⟩ := pt_ok h2.2.2
    have hPI := inked_of hpne (fun c hc => (ink_v (hp c hc)).1)
    unfold rdT
    rw [show t.n ++ [32, 40] ++ sgt t.o.toNat ++ [32] ++ Vm.pt t.e t.u t.r ++ [41] = (t.n ++ [32]) ++ 40 :: (sgt t.o.toNat ++ [32] ++ Vm.pt t.e t.u t.r ++ [41]) by simp]
    rw [Vm.fc_app 40 (t.n ++ [32]) _ (fun c hc => by rcases List.mem_append.1 hc with hc | hc; exact h40 c hc; simp at hc; subst hc; decide)]
    have hr : Lib.trimRightS (t.n ++ [32]) bls = t.n := by have := hI.r [32] bl32 []; simpa using this
    simp only [hr, h.1, if_true]
    have hE : cutE (sgt t.o.toNat ++ [32] ++ Vm.pt t.e t.u t.r ++ [41]) = sgt t.o.toNat ++ 32 :: Vm.pt t.e t.u t.r := by
      unfold cutE; rw [List.getLast?_concat, if_pos rfl, List.dropLast_concat]; simp
    have hS := cutS_sg (Vm.pt t.e t.u t.r) t.o.toNat (by omega) (by omega)
    have hT : Lib.trimS (32 :: Vm.pt t.e t.u t.r) bls = Vm.pt t.e t.u t.r := by have := hPI.t [32] [] bl32 bl0; simpa using this
    have hV : rdV (Vm.pt t.e t.u t.r) = some (t.e, t.u, t.r) := rdV_yes (Vm.pv_pt h2.2.2) rfl
    unfold rdB
    rw [hE, hS]
    simp only [hT, hV]
    rw [if_pos ⟨List.getLast?_concat .., by omega⟩]
    obtain ⟨n, o, e, u, r⟩ := t
    simp only at *
    rw [show ((o.toNat : Nat) : Int) = o by omega]
theorem rd_wr {t : Tm} (h : tok t = true) (u v : List UInt8) (hu : ∀ c ∈ u, bls.contains c = true) (hv : ∀ c ∈ v, bls.contains c = true) : rd (u ++ wrT t ++ v) = some t := by
  unfold rd
  rw [(wr_ink h).1.t u v hu hv]
  exact rdT_wr h

end Go.Proofs.YtmlmdncepgcimaaGreatDoor
