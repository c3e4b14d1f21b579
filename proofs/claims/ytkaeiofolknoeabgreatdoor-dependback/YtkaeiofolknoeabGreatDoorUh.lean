/- The mathematics of what is asked for: what was read may be asked for. -/
import Derived.Test.YtkaeiofolknoeabGreatDoorUg
namespace Go.Proofs.YtkaeiofolknoeabGreatDoor

theorem cutS_lt (s : List UInt8) : (cutS s).1 < 6 := by
  unfold cutS
  repeat' split
  all_goals simp
theorem rd_tok {x : List UInt8} {t : Tm} (h : rd x = some t) : tok t = true := by
  unfold rd rdT at h
  split at h
  · split at h
    · rename_i hn
      cases h
      unfold tok
      simp [hn]
    · cases h
  · split at h
    · rename_i a b _ hn
      unfold rdB at h
      split at h
      · rename_i e u r hv
        split at h
        · rename_i hc
          cases h
          have h1 := cutS_lt (cutE b)
          have h2 : Vm.rt e u r = true := by
            unfold rdV at hv
            split at hv
            · rename_i hp
              split at hv
              · cases hv; exact pv_rt hp
              · cases hv
            · cases hv
          unfold tok
          simp only [hn, Bool.true_and]
          rw [if_neg (by have := hc.2; omega)]
          simp only [h2, Bool.and_true, Bool.and_eq_true, decide_eq_true_eq]
          have := hc.2
          omega
        · cases h
      · cases h
    · cases h
/-- What may stand in lists that are read. -/
structure Good (n : Nat) (L : List (List Tm)) : Prop where
  l : L.flatten.length = n
  e : ∀ x ∈ L, x ≠ []
  t : ∀ t ∈ L.flatten, tok t = true
theorem good_put {n : Nat} {L : List (List Tm)} {i : Nat} {t : Tm} (h : Good n L) (hi : i = L.length ∨ i + 1 = L.length) (ht : tok t = true) : Good (n + 1) (put L i t) := by
  rcases hi with rfl | hi
  · rw [put_new]
    refine ⟨by simp [← h.l], fun x hx => ?_, fun y hy => ?_⟩
    · rcases List.mem_append.1 hx with hx | hx
      · exact h.e x hx
      · simp at hx; subst hx; simp
    · rw [List.flatten_append] at hy
      rcases List.mem_append.1 hy with hy | hy
      · exact h.t y hy
      · simp at hy; subst hy; exact ht
  · rcases List.eq_nil_or_concat L with rfl | ⟨I0, x, rfl⟩
    · simp at hi
    · have e : i = I0.length := by simp at hi; omega
      subst e
      rw [List.concat_eq_append] at h ⊢
      rw [put_last]
      refine ⟨?_, fun y hy => ?_, fun y hy => ?_⟩
      · have := h.l
        simp only [List.flatten_append, List.length_append] at this ⊢
        simp at this ⊢
        omega
      · rcases List.mem_append.1 hy with hy | hy
        · exact h.e y (List.mem_append_left _ hy)
        · simp at hy; subst hy; simp
      · simp only [List.flatten_append, List.mem_append, List.flatten_cons, List.flatten_nil, List.append_nil] at hy
        rcases hy with hy | hy | hy
        · exact h.t y (by simp only [List.flatten_append, List.mem_append]; exact .inl hy)
        · exact h.t y (by simp only [List.flatten_append, List.mem_append, List.flatten_cons, List.flatten_nil, List.append_nil]; exact .inr hy)
        · simp at hy; subst hy; exact ht
theorem go_good : ∀ (ps : List (Nat × List UInt8)) (n : Nat) (L M : List (List Tm)), Fit L.length ps → n ≤ 30 → Good n L → goT n L ps = .ok M → ∃ m, m ≤ 30 ∧ Good m M
  | [], n, L, M, _, hn, hg, h => by
    unfold goT at h
    cases h
    exact ⟨n, hn, hg⟩
  | (i, x) :: ps, n, L, M, hf, hn, hg, h => by
    cases hr : rd x with
    | none => rw [goT_none hr] at h; cases h
    | some t =>
      by_cases h30 : n = 30
      · subst h30; rw [goT_lim hr] at h; cases h
      · rw [goT_some hr h30] at h
        exact go_good ps (n + 1) (put L i t) M (by rw [put_len]; exact hf.2) (by omega) (good_put hg hf.1 (rd_tok hr)) h
/-- What was read may be asked for. -/
theorem rdA_ask {s : List UInt8} {m : List (List Tm)} (h : rdA s = .ok m) : ask m = true := by
  unfold rdA at h
  split at h
  · cases h; rfl
  · obtain ⟨k, hk, hg⟩ := go_good (pcs s) 0 [] m (fit_pcl _ 0) (by omega) ⟨rfl, by simp, by simp⟩ h
    unfold ask
    simp only [Bool.and_eq_true, List.all_eq_true, decide_eq_true_eq]
    exact ⟨hg.e, by rw [hg.l]; exact hk, hg.t⟩
theorem tok_shn {t : Tm} (h : tok t = true) : Shn t := by
  unfold tok at h
  rw [Bool.and_eq_true] at h
  have h2 := h.2
  by_cases ho : t.o = 0
  · rw [if_pos ho] at h2
    simp only [Bool.and_eq_true, decide_eq_true_eq] at h2
    exact ⟨by omega, by omega, by omega, by omega, by rw [h2.2.1]; simp, by rw [h2.2.2]; simp⟩
  · rw [if_neg ho] at h2
    simp only [Bool.and_eq_true, decide_eq_true_eq] at h2
    obtain ⟨a, b, c, d, _⟩ := Vm.rt_parts h2.2.2
    exact ⟨by omega, by omega, by omega, by omega, by omega, by omega⟩

end Go.Proofs.YtkaeiofolknoeabGreatDoor
