/- A book: all walked. -/
import Derived.Test.YteiobnkaadedkaaGreatDoorBi
import Derived.Test.YteiobnkaadedkaaGreatDoorNe
namespace Go.Proofs.YteiobnkaadedkaaGreatDoor
open Go.RowKit Go.Sort Go.Maps

theorem lv_inj (a b : List UInt8) (h : lv a = lv b) : a = b := by
  unfold lv at h
  simpa using h
/-- The inner loop of all under way. -/
structure AJ (w : World) (a m r c0 : Nat) (M A0 : Bk) (left : Lit → Bool) (cnt : Nat) (W : World) : Prop where
  rg : W.ranges Tryz.prog 9 Rv m r M.length (toD lv M) left cnt
  bl : Below w.heap.size w W
  ex : ∃ A' : Bk, Lm W a A' ∧ Srt A' ∧ (∀ k, lkL k A' = if (lkL k M).isSome = true ∧ left (.string k) = false then ovt (lkL k A0) (lkL k M) else lkL k A0) ∧ A'.length + cnt ≤ c0
theorem AJ.step {w : World} {a m r c0 : Nat} {M A0 : Bk} {left : Lit → Bool} {cnt : Nat} {W w5 : World} (h : AJ w a m r c0 M A0 left cnt W) (hr : w.heap.size ≤ r) {x : List UInt8} {cnt5 : Nat} (hrg : w5.ranges Tryz.prog 9 Rv m r M.length (toD lv M) (lft left x) cnt5) (hg : W.grownBy w5 (some r)) (hlt : cnt5 < cnt) (o1 : Obj) :
    (w5.alloc o1).ranges Tryz.prog 9 Rv m r M.length (toD lv M) (lft left x) cnt5 ∧ Below w.heap.size w (w5.alloc o1) ∧ ∃ A' : Bk, Lm (w5.alloc o1) a A' ∧ Srt A' ∧ (∀ k, lkL k A' = if (lkL k M).isSome = true ∧ left (.string k) = false then ovt (lkL k A0) (lkL k M) else lkL k A0) ∧ A'.length + 1 + cnt5 ≤ c0 := by
  obtain ⟨A', h1, h2, h3, h4⟩ := h.ex
  have hk : Kp (fun i => i = r) W (w5.alloc o1) := (Kp.grown hg fun i hi => by cases hi; rfl).alloc _
  have hrf := iter_ne h.rg h1
  refine ⟨hrg.alloc _, ?_, A', own_kp h1 hk (fun e => hrf e.symm), h2, h3, by omega⟩
  have hb := h.bl.grown hg h.bl.size (fun j hj => by cases hj; exact hr)
  exact hb.alloc hb.size _
theorem left_step {M A0 A' A'' : Bk} {left : Lit → Bool} {x : List UInt8} (hx : (lkL x M).isSome = true) (h : ∀ k, lkL k A' = if (lkL k M).isSome = true ∧ left (.string k) = false then ovt (lkL k A0) (lkL k M) else lkL k A0) (h1 : lkL x A'' = ovt (lkL x A0) (lkL x M)) (h2 : ∀ k, k ≠ x → lkL k A'' = lkL k A') : ∀ k, lkL k A'' = if (lkL k M).isSome = true ∧ lft left x (.string k) = false then ovt (lkL k A0) (lkL k M) else lkL k A0 := fun k => by
  by_cases e : k = x
  · subst e; rw [h1, if_pos ⟨hx, lft_same left k⟩]
  · rw [h2 k e, h k, lft_other left e]
theorem AJ.put {w : World} {a m r c0 : Nat} {M A0 : Bk} {left : Lit → Bool} {cnt : Nat} {W w5 : World} (h : AJ w a m r c0 M A0 left cnt W) (hr : w.heap.size ≤ r) (ha : w.heap.size ≤ a) (hm : m < w.heap.size) (hc : c0 ≤ 1000000) {x : List UInt8} (hxl : x.length ≤ 1000000) {cnt5 : Nat} (hrg : w5.ranges Tryz.prog 9 Rv m r M.length (toD lv M) (lft left x) cnt5) (hg : W.grownBy w5 (some r)) (hlt : cnt5 < cnt) {t : List UInt8} (he : lkL x M = some t) (ht : t ≠ []) (o1 : Obj) :
    ∃ w7, (Instr.mapUpdate 64 (.map (some a)) (.string ⟨x.toArray⟩) (.agg #[.string ⟨t.toArray⟩])).run Tryz.prog (w5.alloc o1) = .ok () w7 ∧ AJ w a m r c0 M A0 (lft left x) cnt5 w7 := by
  obtain ⟨h1, h2, A', h3, h4, h5, h6⟩ := h.step hr hrg hg hlt o1
  obtain ⟨w7, hrun, hown7, hturn⟩ := h3.store law9 Tryz.underlying64 (by unfold maxLen; omega) (key9 x hxl) (val := lv t) (d := .held (lv t)) (ps := []) rfl
  rw [toD_put] at hown7
  have hrf := iter_ne h1 h3
  refine ⟨w7, hrun, h1.kept hturn.grown (fun e => by cases e; omega) (fun e => hrf (by cases e; rfl)), h2.grown hturn.grown h2.size (fun i hi => by cases hi; exact ha), putL x t A', own_tight hown7, h4.put _ _, left_step (by rw [he]; rfl) h5 ?_ (fun k hk => lk_put_other h4 hk t), ?_⟩
  · rw [lk_put_same h4, he]; unfold ovt; simp [ht]
  · have := len_put A' x t; omega
theorem AJ.del {w : World} {a m r c0 : Nat} {M A0 : Bk} {left : Lit → Bool} {cnt : Nat} {W w5 : World} (h : AJ w a m r c0 M A0 left cnt W) (hr : w.heap.size ≤ r) (ha : w.heap.size ≤ a) (hm : m < w.heap.size) {x : List UInt8} {cnt5 : Nat} (hrg : w5.ranges Tryz.prog 9 Rv m r M.length (toD lv M) (lft left x) cnt5) (hg : W.grownBy w5 (some r)) (hlt : cnt5 < cnt) (he : lkL x M = some []) (o1 : Obj) :
    ∃ A' : Bk, Lm (w5.alloc o1) a A' ∧ ∀ w7 n, w7.ownsMap Tryz.prog 9 Rv a n ((toD lv A').del (.string x)) → (w5.alloc o1).mapTurned w7 a → AJ w a m r c0 M A0 (lft left x) cnt5 w7 := by
  obtain ⟨h1, h2, A', h3, h4, h5, h6⟩ := h.step hr hrg hg hlt o1
  refine ⟨A', h3, fun w7 n hown7 hturn => ?_⟩
  rw [toD_del] at hown7
  have hrf := iter_ne h1 h3
  refine ⟨h1.kept hturn.grown (fun e => by cases e; omega) (fun e => hrf (by cases e; rfl)), h2.grown hturn.grown h2.size (fun i hi => by cases hi; exact ha), delL x A', own_tight hown7, h4.del _, left_step (by rw [he]; rfl) h5 ?_ (fun k hk => lk_del_other h4 hk), ?_⟩
  · rw [lk_del_same, he]; rfl
  · have := len_del (L := A') x; omega
/-- The outer loop. -/
structure AO (w : World) (a : Nat) (P : Bk) (N : Nat → Bk) (k : Nat) (W : World) : Prop where
  bl : Below w.heap.size w W
  ex : ∃ A' : Bk, Lm W a A' ∧ Srt A' ∧ (∀ x, lkL x A' = if shf x < k then ov P N x else lkL x P) ∧ A'.length ≤ 1000 + k * 1000
theorem AJ.done {w : World} {a m r k : Nat} {P : Bk} {N : Nat → Bk} {A0 : Bk} {left : Lit → Bool} {cnt c0 : Nat} {W : World} (h : AJ w a m r c0 (N k) A0 left cnt W) (hl : ∀ kl, left kl = false) (hat : ∀ x t, lkL x (N k) = some t → shf x = k) (h0 : ∀ x, lkL x A0 = if shf x < k then ov P N x else lkL x P) (hc : c0 ≤ 1000 + (k + 1) * 1000) : AO w a P N (k + 1) W := by
  obtain ⟨A', h1, h2, h3, h4⟩ := h.ex
  refine ⟨h.bl, A', h1, h2, fun x => ?_, by omega⟩
  have e : lkL x A' = ovt (lkL x A0) (lkL x (N k)) := by
    rw [h3 x]
    cases hz : lkL x (N k) with
    | none => simp [ovt]
    | some t => rw [if_pos ⟨rfl, hl _⟩]
  rw [e, h0]
  cases hz : lkL x (N k) with
  | some t =>
    have hs := hat x t hz
    rw [if_neg (by omega), if_pos (by omega)]
    unfold ov; rw [hs, hz]
  | none =>
    show (if shf x < k then ov P N x else lkL x P) = _
    by_cases h5 : shf x < k
    · rw [if_pos h5, if_pos (by omega)]
    · rw [if_neg h5]
      by_cases h6 : shf x = k
      · rw [if_pos (by omega)]; unfold ov ovt; rw [h6, hz]
      · rw [if_neg (by omega)]
theorem AO.done {w : World} {a : Nat} {A P : Bk} {N : Nat → Bk} {W : World} (h : AO w a P N 37 W) (hA : Srt A) (ho : ∀ x, lkL x A = ov P N x) : Lm W a A := by
  obtain ⟨A', h1, h2, h3, h4⟩ := h.ex
  have : A' = A := ext_lk h2 hA fun x => by rw [h3, if_pos (shf_lt x), ho]
  rw [← this]; exact h1
end Go.Proofs.YteiobnkaadedkaaGreatDoor
