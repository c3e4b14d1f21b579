/- The walk of the reference's Start. -/
import Derived.Test.YteiobnkaadedkaaGreatDoorNd
namespace Go.Proofs.YteiobnkaadedkaaGreatDoor
open Go.RowKit Go.Sort Go.Maps

/-- The loop of Start under way. -/
structure SJ (w : World) (m r fm : Nat) (K : Kv Rx) (L : Kv Ent) (n : Int) (left : Lit → Bool) (cnt : Nat) (W : World) : Prop where
  rg : W.ranges Tryz.prog 9 Rv m r K.length (toD rvv K) left cnt
  bl : Below w.heap.size w W
  ex : ∃ (Kf : Kv Rx) (Lf : Kv Ent), W.ownsMap Tryz.prog 9 Rv fm Kf.length (toD rvv Kf) ∧ Srt Kf ∧ Srt Lf ∧ (∀ k, Rl W (lkL k Kf) (lkL k Lf)) ∧ (∀ k, lkL k Lf = if left (.string k) = true then none else gl n (lkL k L)) ∧ Kf.length + cnt ≤ K.length
abbrev lft (left : Lit → Bool) (x : List UInt8) : Lit → Bool := fun z => left z && !z.sameKey (.string x)
theorem lft_same (left : Lit → Bool) (x : List UInt8) : lft left x (.string x) = false := by simp [lft, Lit.sameKey]
theorem lft_other (left : Lit → Bool) {x y : List UInt8} (h : y ≠ x) : lft left x (.string y) = left (.string y) := by
  have : Lit.sameKey (.string y) (.string x) = false := by simpa [Lit.sameKey] using h
  unfold lft; rw [this]; simp
theorem iter_ne {W : World} {m r n n' fm : Nat} {D D' : DataW Value} {left : Lit → Bool} {cnt : Nat} (h : W.ranges Tryz.prog 9 Rv m r n D left cnt) (h' : W.ownsMap Tryz.prog 9 Rv fm n' D') : r ≠ fm := fun e => by
  obtain ⟨es, cl, h1, _⟩ := h'
  obtain ⟨_, _, _, _, _, _, _, _, _, h2, _⟩ := h
  rw [e, h1] at h2; cases h2
theorem nob_iter {W : World} {m r n : Nat} {D : DataW Value} {left : Lit → Bool} {cnt : Nat} (h : W.ranges Tryz.prog 9 Rv m r n D left cnt) : NoB W r := fun t e => by
  obtain ⟨_, _, _, _, _, _, _, _, _, h2, _⟩ := h
  rw [h2] at e; cases e
/-- A step that has come, and laid two boxes. -/
theorem SJ.step {w : World} {m r fm : Nat} {K : Kv Rx} {L : Kv Ent} {n : Int} {left : Lit → Bool} {cnt : Nat} {W w5 : World} (h : SJ w m r fm K L n left cnt W) (hr : w.heap.size ≤ r) {x : List UInt8} {cnt5 : Nat} (hrg : w5.ranges Tryz.prog 9 Rv m r K.length (toD rvv K) (lft left x) cnt5) (hg : W.grownBy w5 (some r)) (hlt : cnt5 < cnt) (o1 o2 : Obj) :
    ((w5.alloc o1).alloc o2).ranges Tryz.prog 9 Rv m r K.length (toD rvv K) (lft left x) cnt5 ∧ Below w.heap.size w ((w5.alloc o1).alloc o2) ∧ ∃ (Kf : Kv Rx) (Lf : Kv Ent), ((w5.alloc o1).alloc o2).ownsMap Tryz.prog 9 Rv fm Kf.length (toD rvv Kf) ∧ Srt Kf ∧ Srt Lf ∧ (∀ k, Rl ((w5.alloc o1).alloc o2) (lkL k Kf) (lkL k Lf)) ∧ (∀ k, lkL k Lf = if left (.string k) = true then none else gl n (lkL k L)) ∧ Kf.length + 1 + cnt5 ≤ K.length := by
  obtain ⟨Kf, Lf, h1, h2, h3, h4, h5, h6⟩ := h.ex
  have hk : Kp (fun i => i = r) W ((w5.alloc o1).alloc o2) := ((Kp.grown hg fun i hi => by cases hi; rfl).alloc _).alloc _
  have hrf := iter_ne h.rg h1
  refine ⟨(hrg.alloc _).alloc _, ?_, Kf, Lf, own_kp h1 hk (fun e => hrf e.symm), h2, h3, fun k => (h4 k).kp hk (fun i hi => by subst hi; exact nob_iter h.rg), h5, by omega⟩
  have hb := h.bl.grown hg h.bl.size (fun j hj => by cases hj; exact hr)
  exact (hb.alloc hb.size _).alloc (by have := hb.size; simp; omega) _
theorem SJ.skip {w : World} {m r fm : Nat} {K : Kv Rx} {L : Kv Ent} {n : Int} {left : Lit → Bool} {cnt : Nat} {W w5 : World} (h : SJ w m r fm K L n left cnt W) (hr : w.heap.size ≤ r) {x : List UInt8} {cnt5 : Nat} (hrg : w5.ranges Tryz.prog 9 Rv m r K.length (toD rvv K) (lft left x) cnt5) (hg : W.grownBy w5 (some r)) (hlt : cnt5 < cnt) (hlx : left (.string x) = true) {e : Ent} (he : lkL x L = some e) (hs : lf e n = none) (o1 o2 : Obj) : SJ w m r fm K L n (lft left x) cnt5 ((w5.alloc o1).alloc o2) := by
  obtain ⟨h1, h2, Kf, Lf, h3, h4, h5, h6, h7, h8⟩ := h.step hr hrg hg hlt o1 o2
  refine ⟨h1, h2, Kf, Lf, h3, h4, h5, h6, fun k => ?_, by omega⟩
  rw [h7]
  by_cases hk : k = x
  · subst hk
    rw [hlx, lft_same, he]
    show none = (lf e n).map _
    rw [hs]; rfl
  · rw [lft_other left hk]
theorem SJ.put {w : World} {m r fm : Nat} {K : Kv Rx} {L : Kv Ent} {n : Int} {left : Lit → Bool} {cnt : Nat} {W w5 : World} (h : SJ w m r fm K L n left cnt W) (hr : w.heap.size ≤ r) (hfm : w.heap.size ≤ fm) (hm : m < w.heap.size) (hK : K.length ≤ 1000000) {x : List UInt8} (hx : x.length ≤ 1000000) {cnt5 : Nat} (hrg : w5.ranges Tryz.prog 9 Rv m r K.length (toD rvv K) (lft left x) cnt5) (hg : W.grownBy w5 (some r)) (hlt : cnt5 < cnt) (hlx : left (.string x) = true) {e : Ent} (he : lkL x L = some e) {s : List UInt8} (hs : lf e n = some s) (o1 : Obj) :
    ∃ w7, (Instr.mapUpdate 48 (.map (some fm)) (.string ⟨x.toArray⟩) (.agg #[.string ⟨s.toArray⟩, .pointer (some ⟨w5.heap.size + 1, 0, none⟩)])).run Tryz.prog ((w5.alloc o1).alloc (bxo s)) = .ok () w7 ∧ SJ w m r fm K L n (lft left x) cnt5 w7 := by
  obtain ⟨h1, h2, Kf, Lf, h3, h4, h5, h6, h7, h8⟩ := h.step hr hrg hg hlt o1 (bxo s)
  have hbox : ((w5.alloc o1).alloc (bxo s)).heap[w5.heap.size + 1]? = some (bxo s) := by
    have := nb0 (w5.alloc o1) (bxo s)
    rwa [World.size_alloc] at this
  obtain ⟨w7, hrun, hown7, hturn⟩ := h3.store law9 Tryz.underlying48 (by unfold maxLen; omega) (key9 x hx) (val := rvv ⟨s, some (w5.heap.size + 1)⟩) (d := .held (rvv ⟨s, some (w5.heap.size + 1)⟩)) (ps := []) rfl
  rw [toD_put] at hown7
  have hk : Kp (fun i => i = fm) ((w5.alloc o1).alloc (bxo s)) w7 := Kp.grown hturn.grown fun i hi => by cases hi; rfl
  have hX : ∀ i, i = fm → NoB ((w5.alloc o1).alloc (bxo s)) i := fun i hi => by subst hi; exact nob_map h3
  have hrf := iter_ne h1 h3
  refine ⟨w7, hrun, h1.kept hturn.grown (fun e => by cases e; omega) (fun e => hrf (by cases e; rfl)), h2.trans ⟨hk.os, hk.tape, hk.output, hk.size, fun i hi => hk.block i (Nat.lt_of_lt_of_le hi h2.size) (by omega)⟩, putL x ⟨s, some (w5.heap.size + 1)⟩ Kf, putL x ⟨s, some s⟩ Lf, own_tight hown7, h4.put _ _, h5.put _ _, fun k => ?_, fun k => ?_, ?_⟩
  · by_cases hkx : k = x
    · subst hkx
      rw [lk_put_same h4, lk_put_same h5]
      refine ⟨.inr ⟨_, _, rfl, rfl, rfl, ⟨.inr ⟨_, _, rfl, rfl, ?_⟩⟩⟩⟩
      exact (hk.block _ (Array.getElem?_eq_some_iff.1 hbox).1 (fun e => hX _ e s hbox)).trans hbox
    · rw [lk_put_other h4 hkx, lk_put_other h5 hkx]
      exact (h6 k).kp hk hX
  · by_cases hkx : k = x
    · subst hkx
      rw [lk_put_same h5, lft_same, he]
      show _ = (lf e n).map _
      rw [hs]; rfl
    · rw [lk_put_other h5 hkx, lft_other left hkx, h7]
  · have := len_put Kf x ⟨s, some (w5.heap.size + 1)⟩
    omega
end Go.Proofs.YteiobnkaadedkaaGreatDoor
