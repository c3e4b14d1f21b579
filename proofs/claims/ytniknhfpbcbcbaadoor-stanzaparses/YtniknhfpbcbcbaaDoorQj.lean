/- What the reference holds while it reads. -/
import Derived.Test.YtniknhfpbcbcbaaDoorQi
namespace Go.Proofs.YtniknhfpbcbcbaaDoor
open Go.RowKit Go.Shelf Go.Sort

def strs (ls : List (List UInt8)) : List Value := ls.map fun x => .string ⟨x.toArray⟩

/-- What the reference holds: its answer's cell, the lines, the stanzas, the fields. -/
structure Rf (B C r : Nat) (L S A : Value) (ls : List (List UInt8)) (out : List (List Sm.F)) (vs : List Value) (cu : List Sm.F) (w0 W : World) : Prop where
  bx : W.heap[r]? = some (.cells #[.int .i64 0, .int .i64 0] 59 (0, 0))
  rB : B ≤ r
  hL : W.ownsRow B 9 1 L ls.length (strs ls)
  hA : W.ownsRow C 92 2 A cu.length (fcl cu)
  hS : W.ownsRow B 47 1 S vs.length vs
  CB : B ≤ C
  Cs : C ≤ W.heap.size
  be : Below B w0 W
  ol : vs.length = out.length
  ov : ∀ i (hi : i < vs.length) (hj : i < out.length), W.ownsRow B 92 2 vs[i] out[i].length (fcl out[i]) ∧ ∀ g, vs[i].ownBlock = some g → g < C

section
variable {B C r : Nat} {L S A : Value} {ls : List (List UInt8)} {out : List (List Sm.F)} {vs : List Value} {cu : List Sm.F} {w0 W : World}
theorem Rf.c0 (h : Rf B C r L S A ls out vs cu w0 W) : W.cell? ⟨r, 0, none⟩ = some (.int .i64 0) := by rw [Lib.cell_of_heap h.bx]; rfl
theorem Rf.c1 (h : Rf B C r L S A ls out vs cu w0 W) : W.cell? ⟨r, 1, none⟩ = some (.int .i64 0) := by rw [Lib.cell_of_heap h.bx]; rfl
theorem Rf.fz (h : Rf B C r L S A ls out vs cu w0 W) (j : Nat) : W.frozen? ⟨r, j, none⟩ = false := Lib.frozen_of_heap h.bx j
theorem Rf.lt (h : Rf B C r L S A ls out vs cu w0 W) : r < W.heap.size := (Array.getElem?_eq_some_iff.1 h.bx).1
theorem Rf.on {W' : World} (h : Rf B C r L S A ls out vs cu w0 W) (k : Below W.heap.size W W') : Rf B C r L S A ls out vs cu w0 W' := by
  have kp : ∀ {b e sz n : Nat} {v : Value} {xs : List Value}, W.ownsRow b e sz v n xs → W'.ownsRow b e sz v n xs := fun h1 => h1.kept (row := none) ⟨k.os, k.tape, k.output, k.size, fun j hj _ => k.block j hj⟩ (by
    rename_i v _
    cases hv : v.ownBlock with
    | none => exact Or.inl rfl
    | some g => exact Or.inr (by simp))
  exact ⟨by rw [k.block r h.lt]; exact h.bx, h.rB, kp h.hL, kp h.hA, kp h.hS, h.CB, Nat.le_trans h.Cs k.size, h.be.trans (k.mono (Nat.le_trans h.CB h.Cs)), h.ol, fun i hi hj => ⟨kp (h.ov i hi hj).1, (h.ov i hi hj).2⟩⟩
/-- The last field's value, stored. -/
theorem Rf.setLast {p : List Sm.F} {f : Sm.F} {g cap : Nat} (h : Rf B C r L S (.slice (some ⟨g, 0, none⟩) (p ++ [f]).length cap) ls out vs (p ++ [f]) w0 W) (v : List UInt8) :
    Rf B C r L S (.slice (some ⟨g, 0, none⟩) (p ++ [f]).length cap) ls out vs (p ++ [(f.1, v)]) w0 (W.setCell ⟨g, p.length * 2 + 1, none⟩ (.string ⟨v.toArray⟩)) := by
  have hg : C ≤ g ∧ g < W.heap.size := h.hA.lt g rfl
  obtain ⟨c, fz, hc⟩ := Lib.ownsRow_kind h.hA g rfl
  have hgr : g ≠ r := fun e => row_ne h.hA h.bx (by decide) (by rw [e]; rfl)
  have kp : ∀ {b e sz n : Nat} {v' : Value} {xs : List Value}, e ≠ 92 → W.ownsRow b e sz v' n xs → (W.setCell ⟨g, p.length * 2 + 1, none⟩ (.string ⟨v.toArray⟩)).ownsRow b e sz v' n xs := fun he h1 => ownsRow_setCell_other h1 (row_ne h1 hc (Ne.symm he)) _
  have hst := h.hA.stored (p.length * 2 + 1) (.string ⟨v.toArray⟩)
  rw [fcl_set] at hst
  refine ⟨?_, h.rB, kp (by decide) h.hL, ?_, kp (by decide) h.hS, h.CB, by simpa [World.setCell] using h.Cs, h.be.setCell (Nat.le_trans h.CB hg.1) _, h.ol, fun i hi hj => ⟨?_, (h.ov i hi hj).2⟩⟩
  · rw [Below.heap_setCell _ _ _ _ hgr.symm]; exact h.bx
  · simpa using hst.1
  · exact ownsRow_setCell_other (h.ov i hi hj).1 (fun e => by have := (h.ov i hi hj).2 g e; omega) _
/-- The fields let go. -/
theorem Rf.letgo (h : Rf B C r L S A ls out vs cu w0 W) : Rf B W.heap.size r L S (.slice none 0 0) ls out vs [] w0 W :=
  ⟨h.bx, h.rB, h.hL, World.ownsRow_nil _ _ _ _, h.hS, Nat.le_trans h.CB h.Cs, Nat.le_refl _, h.be, h.ol, fun i hi hj => ⟨(h.ov i hi hj).1, fun g e => Nat.lt_of_lt_of_le ((h.ov i hi hj).2 g e) h.Cs⟩⟩
/-- The fields handed over, and let go. -/
theorem Rf.hand (h : Rf B C r L S A ls out vs cu w0 W) {W' : World} {S' : Value} (hg : W.grownBy W' S.ownBlock) (hS' : W'.ownsRow B 47 1 S' (vs.length + 1) (vs ++ [A])) :
    Rf B W'.heap.size r L S' (.slice none 0 0) ls (out ++ [cu]) (vs ++ [A]) [] w0 W' := by
  have bx : W'.heap[r]? = some (.cells #[.int .i64 0, .int .i64 0] 59 (0, 0)) := by
    rw [hg.block r h.lt (fun e => row_ne h.hS h.bx (by decide) e.symm)]; exact h.bx
  have hA := h.hA.kept hg (rows_ne h.hA h.hS (by decide))
  refine ⟨bx, h.rB, h.hL.kept hg (rows_ne h.hL h.hS (by decide)), World.ownsRow_nil _ _ _ _, by simpa using hS', Nat.le_trans (Nat.le_trans h.CB h.Cs) hg.size, Nat.le_refl _, h.be.grown hg (Nat.le_trans h.CB h.Cs) (fun k e => (h.hS.lt k e).1), by simp [h.ol], ?_⟩
  intro i hi hj
  have hol := h.ol
  by_cases hil : i < vs.length
  · rw [List.getElem_append_left hil, List.getElem_append_left (by omega)]
    have := h.ov i hil (by omega)
    exact ⟨this.1.kept hg (rows_ne this.1 h.hS (by decide)), fun g e => Nat.lt_of_lt_of_le (Nat.lt_of_lt_of_le (this.2 g e) h.Cs) hg.size⟩
  · have hie : i = vs.length := by simp at hi; omega
    subst hie
    rw [List.getElem_append_right (Nat.le_refl _), List.getElem_append_right (by omega)]
    simp only [Nat.sub_self, hol, List.getElem_cons_zero]
    exact ⟨Go.Joins.ownsRow_le hA h.CB, fun g e => (hA.lt g e).2⟩
/-- A field more. -/
theorem Rf.appA (h : Rf B C r L S A ls out vs cu w0 W) {W' : World} {A' : Value} {f : Sm.F} (hg : W.grownBy W' A.ownBlock) (hA' : W'.ownsRow C 92 2 A' (cu.length + 1) (fcl cu ++ [.string ⟨f.1.toArray⟩, .string ⟨f.2.toArray⟩])) :
    Rf B C r L S A' ls out vs (cu ++ [f]) w0 W' := by
  have bx : W'.heap[r]? = some (.cells #[.int .i64 0, .int .i64 0] 59 (0, 0)) := by
    rw [hg.block r h.lt (fun e => row_ne h.hA h.bx (by decide) e.symm)]; exact h.bx
  have ek : fcl cu ++ [.string ⟨f.1.toArray⟩, .string ⟨f.2.toArray⟩] = fcl (cu ++ [f]) := by rw [fcl_app]; rfl
  rw [ek] at hA'
  refine ⟨bx, h.rB, h.hL.kept hg (rows_ne h.hL h.hA (by decide)), by simpa using hA', h.hS.kept hg (rows_ne h.hS h.hA (by decide)), h.CB, Nat.le_trans h.Cs hg.size, h.be.grown hg (Nat.le_trans h.CB h.Cs) (fun k e => Nat.le_trans h.CB (h.hA.lt k e).1), h.ol, fun i hi hj => ⟨(h.ov i hi hj).1.kept hg ?_, (h.ov i hi hj).2⟩⟩
  cases hv : vs[i].ownBlock with
  | none => exact Or.inl rfl
  | some g =>
    right
    intro e
    have h1 := (h.ov i hi hj).2 g hv
    have h2 := (h.hA.lt g e.symm).1
    omega
end

theorem run_nil (ls : List (List UInt8)) : ∀ (i : Nat) (out : List (List Sm.F)) (cu : List Sm.F), run i out cu (ls ++ [[]]) = run i out cu ls := by
  induction ls with
  | nil =>
    intro i out cu
    have h : step out cu [] = some (endO out cu, []) := rfl
    show run i out cu [[]] = _
    simp only [run, h]
    show Except.ok (endO (endO out cu) []) = _
    simp [endO]
  | cons x ls ih =>
    intro i out cu
    show run i out cu (x :: (ls ++ [[]])) = _
    simp only [run]
    cases step out cu x with
    | none => rfl
    | some o => exact ih _ _ _
end Go.Proofs.YtniknhfpbcbcbaaDoor
