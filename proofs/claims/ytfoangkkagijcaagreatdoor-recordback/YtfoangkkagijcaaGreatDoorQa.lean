/- The reader of stanzas: what it holds; the walk of endField. -/
import Derived.Test.YtfoangkkagijcaaGreatDoorZax
import Derived.Laws.OwnMore
import Derived.OneCell
import Derived.Lib.OwnKind
import Derived.Lib.SmallJoins
namespace Go.Proofs.YtfoangkkagijcaaGreatDoor.Stz
open Go.RowKit Go.Shelf Go.Sort

/-- Fields as cells. -/
def fcl (l : List Sm.F) : List Value := l.flatMap fun f => [.string ⟨f.1.toArray⟩, .string ⟨f.2.toArray⟩]
theorem fcl_length (l : List Sm.F) : (fcl l).length = l.length * 2 := by
  unfold fcl
  induction l with
  | nil => rfl
  | cons f l ih => simp at ih ⊢; omega
theorem fcl_app (a b : List Sm.F) : fcl (a ++ b) = fcl a ++ fcl b := by simp [fcl]
theorem fcl_last0 (p : List Sm.F) (f : Sm.F) : (fcl (p ++ [f]))[p.length * 2]? = some (.string ⟨f.1.toArray⟩) := by
  rw [fcl_app, List.getElem?_append_right (by rw [fcl_length]; exact Nat.le_refl _), fcl_length, Nat.sub_self]; rfl
theorem fcl_last1 (p : List Sm.F) (f : Sm.F) : (fcl (p ++ [f]))[p.length * 2 + 1]? = some (.string ⟨f.2.toArray⟩) := by
  rw [fcl_app, List.getElem?_append_right (by rw [fcl_length]; omega), fcl_length, show p.length * 2 + 1 - p.length * 2 = 1 from by omega]; rfl
theorem fcl_set (p : List Sm.F) (f : Sm.F) (v : List UInt8) : (fcl (p ++ [f])).set (p.length * 2 + 1) (.string ⟨v.toArray⟩) = fcl (p ++ [(f.1, v)]) := by
  rw [fcl_app, fcl_app, List.set_append_right _ _ (by rw [fcl_length]; omega), fcl_length, show p.length * 2 + 1 - p.length * 2 = 1 from by omega]; rfl

/-- What a reader holds. -/
structure Rd (B C r : Nat) (S A V : Value) (out : List (List Sm.F)) (vs : List Value) (cur : List Sm.F) (val : List UInt8) (w0 W : World) : Prop where
  bx : W.heap[r]? = some (.cells #[S, A, V] 170 (0, 0))
  rB : B ≤ r
  hV : W.ownsRow B 5 1 V val.length (Lib.byteCells val)
  hA : W.ownsRow C 52 2 A cur.length (fcl cur)
  hS : W.ownsRow B 31 1 S vs.length vs
  CB : B ≤ C
  Cs : C ≤ W.heap.size
  be : Below B w0 W
  ol : vs.length = out.length
  ov : ∀ i (hi : i < vs.length) (hj : i < out.length), W.ownsRow B 52 2 vs[i] out[i].length (fcl out[i]) ∧ ∀ g, vs[i].ownBlock = some g → g < C

section
variable {B C r : Nat} {S A V : Value} {out : List (List Sm.F)} {vs : List Value} {cur : List Sm.F} {val : List UInt8} {w0 W : World}
theorem Rd.c0 (h : Rd B C r S A V out vs cur val w0 W) : W.cell? ⟨r, 0, none⟩ = some S := by rw [Lib.cell_of_heap h.bx]; rfl
theorem Rd.c1 (h : Rd B C r S A V out vs cur val w0 W) : W.cell? ⟨r, 1, none⟩ = some A := by rw [Lib.cell_of_heap h.bx]; rfl
theorem Rd.c2 (h : Rd B C r S A V out vs cur val w0 W) : W.cell? ⟨r, 2, none⟩ = some V := by rw [Lib.cell_of_heap h.bx]; rfl
theorem Rd.fz (h : Rd B C r S A V out vs cur val w0 W) (j : Nat) : W.frozen? ⟨r, j, none⟩ = false := Lib.frozen_of_heap h.bx j
theorem Rd.lt (h : Rd B C r S A V out vs cur val w0 W) : r < W.heap.size := (Array.getElem?_eq_some_iff.1 h.bx).1
/-- A row of some kind is not the reader's own box. -/
theorem row_ne {e b n : Nat} {v : Value} {xs : List Value} {W : World} {cs : Array Value} {t : TypeId} {fz : Nat × Nat} {x sz : Nat} (h : W.ownsRow b e sz v n xs) (hx : W.heap[x]? = some (.cells cs t fz)) (ht : t ≠ e) : v.ownBlock ≠ some x := by
  intro hv
  obtain ⟨c, f, hc⟩ := Lib.ownsRow_kind h x hv
  rw [hx] at hc
  cases hc
  exact ht rfl
theorem rows_ne {e e' b b' n n' : Nat} {v v' : Value} {xs xs' : List Value} {W : World} {sz sz' : Nat} (h : W.ownsRow b e sz v n xs) (h' : W.ownsRow b' e' sz' v' n' xs') (ht : e ≠ e') : v.ownBlock = none ∨ v.ownBlock ≠ v'.ownBlock := by
  cases hv : v.ownBlock with
  | none => exact Or.inl rfl
  | some g =>
    right
    intro he
    obtain ⟨c, f, hc⟩ := Lib.ownsRow_kind h g hv
    exact row_ne h' hc ht he.symm

/-- Whatever is laid beside it. -/
theorem Rd.on {W' : World} (h : Rd B C r S A V out vs cur val w0 W) (k : Below W.heap.size W W') : Rd B C r S A V out vs cur val w0 W' := by
  have kp : ∀ {b e sz n : Nat} {v : Value} {xs : List Value}, W.ownsRow b e sz v n xs → W'.ownsRow b e sz v n xs := fun h1 => h1.kept (row := none) ⟨k.os, k.tape, k.output, k.size, fun j hj _ => k.block j hj⟩ (by
    rename_i v _
    cases hv : v.ownBlock with
    | none => exact Or.inl rfl
    | some g => exact Or.inr (by simp))
  exact ⟨by rw [k.block r h.lt]; exact h.bx, h.rB, kp h.hV, kp h.hA, kp h.hS, h.CB, Nat.le_trans h.Cs k.size, h.be.trans (k.mono (Nat.le_trans h.CB h.Cs)), h.ol, fun i hi hj => ⟨kp (h.ov i hi hj).1, (h.ov i hi hj).2⟩⟩

/-- The reader's own cell of the value's slice, stored. -/
theorem Rd.putV (h : Rd B C r S A V out vs cur val w0 W) {V' : Value} {val' : List UInt8} (hV' : W.ownsRow B 5 1 V' val'.length (Lib.byteCells val')) : Rd B C r S A V' out vs cur val' w0 (W.setCell ⟨r, 2, none⟩ V') := by
  have kp : ∀ {b e sz n : Nat} {v : Value} {xs : List Value}, e ≠ 170 → W.ownsRow b e sz v n xs → (W.setCell ⟨r, 2, none⟩ V').ownsRow b e sz v n xs := fun he h1 => ownsRow_setCell_other h1 (row_ne h1 h.bx (Ne.symm he)) _
  exact ⟨by simp [World.setCell, Array.getElem?_modify, h.bx], h.rB, kp (by decide) hV', kp (by decide) h.hA, kp (by decide) h.hS, h.CB, by simpa [World.setCell] using h.Cs, h.be.setCell h.rB _, h.ol, fun i hi hj => ⟨kp (by decide) (h.ov i hi hj).1, (h.ov i hi hj).2⟩⟩
/-- The last field's value, stored. -/
theorem Rd.setLast {p : List Sm.F} {f : Sm.F} {g cap : Nat} (h : Rd B C r S (.slice (some ⟨g, 0, none⟩) (p ++ [f]).length cap) V out vs (p ++ [f]) val w0 W) (v : List UInt8) :
    Rd B C r S (.slice (some ⟨g, 0, none⟩) (p ++ [f]).length cap) V out vs (p ++ [(f.1, v)]) val w0 (W.setCell ⟨g, p.length * 2 + 1, none⟩ (.string ⟨v.toArray⟩)) := by
  have hg : C ≤ g ∧ g < W.heap.size := h.hA.lt g rfl
  obtain ⟨c, fz, hc⟩ := Lib.ownsRow_kind h.hA g rfl
  have hgr : g ≠ r := fun e => row_ne h.hA h.bx (by decide) (by rw [e]; rfl)
  have kp : ∀ {b e sz n : Nat} {v' : Value} {xs : List Value}, e ≠ 52 → W.ownsRow b e sz v' n xs → (W.setCell ⟨g, p.length * 2 + 1, none⟩ (.string ⟨v.toArray⟩)).ownsRow b e sz v' n xs := fun he h1 => ownsRow_setCell_other h1 (row_ne h1 hc (Ne.symm he)) _
  have hst := h.hA.stored (p.length * 2 + 1) (.string ⟨v.toArray⟩)
  rw [fcl_set] at hst
  refine ⟨?_, h.rB, kp (by decide) h.hV, ?_, kp (by decide) h.hS, h.CB, by simpa [World.setCell] using h.Cs, h.be.setCell (Nat.le_trans h.CB hg.1) _, h.ol, fun i hi hj => ⟨?_, (h.ov i hi hj).2⟩⟩
  · rw [Below.heap_setCell _ _ _ _ hgr.symm]; exact h.bx
  · simpa using hst.1
  · exact ownsRow_setCell_other (h.ov i hi hj).1 (fun e => by have := (h.ov i hi hj).2 g e; omega) _
theorem Rd.drew (h : Rd B C r S A V out vs cur val w0 W) : Rd B C r S A V out vs cur val w0 W.drew := h.on (Below.refl _ _).drew
/-- The value's slice, cut to nothing. -/
theorem cutV (hV : W.ownsRow B 5 1 V val.length (Lib.byteCells val)) : (V = .slice none 0 0 ∧ val = []) ∨ ∃ g cap, V = .slice (some ⟨g, 0, none⟩) val.length cap ∧ val.length ≤ cap ∧ W.ownsRow B 5 1 (.slice (some ⟨g, 0, none⟩) 0 cap) ([] : List UInt8).length (Lib.byteCells []) := by
  rcases hV.2 with ⟨rfl, h0⟩ | ⟨g, cap, c, rfl, h1, h2, h3, h4, h5, h6⟩
  · exact Or.inl ⟨rfl, List.length_eq_zero_iff.1 h0⟩
  · exact Or.inr ⟨g, cap, rfl, h3, ⟨rfl, Or.inr ⟨g, cap, c, rfl, h1, h2, Nat.zero_le _, h4, h5, by simp [Lib.byteCells]⟩⟩⟩
end

theorem text_owned {w : World} {B : Nat} {v : Value} {l : List UInt8} (h : w.ownsRow B 5 1 v l.length (Lib.byteCells l)) : (convert 120 9 v).run Tryz.prog w = .ok (.string ⟨l.toArray⟩) w := by
  rcases h.2 with ⟨rfl, h0⟩ | ⟨g, cap, cur, rfl, -, -, -, -, -, -⟩
  · have : l = [] := List.length_eq_zero_iff.1 h0
    subst this
    exact run_convert_bytes_nil w 120 5 Tryz.underlying120 Tryz.underlying5 0 0 9 Tryz.underlying9
  · exact run_convert_bytes_back (P := Tryz.prog) w 120 9 5 ⟨g, 0, none⟩ cap l Tryz.underlying120 Tryz.underlying5 Tryz.underlying9 (fun j hj => h.cells (g := g) rfl j _ (by simp [Lib.byteCells, hj]))

/-- The last field's value is what stands in the reader's value. -/
def setL : List Sm.F → List UInt8 → List Sm.F
  | [], _ => []
  | [f], v => [(f.1, v)]
  | f :: g :: r, v => f :: setL (g :: r) v
theorem setL_app (p : List Sm.F) (f : Sm.F) (v : List UInt8) : setL (p ++ [f]) v = p ++ [(f.1, v)] := by
  induction p with
  | nil => rfl
  | cons a p ih =>
    cases p with
    | nil => rfl
    | cons b p => simp only [List.cons_append] at ih ⊢; rw [setL, ih]

set_option maxHeartbeats 1600000 in
set_option maxRecDepth 100000 in
theorem endF_nil {B C r : Nat} {S A V : Value} {out : List (List Sm.F)} {vs : List Value} {val : List UInt8} {w0 W : World} (h : Rd B C r S A V out vs [] val w0 W) :
    Calls Tryz.prog 196 #[.pointer (some ⟨r, 0, none⟩)] W fun e w' => e = .returned (.tuple #[]) ∧ ∃ V', Rd B C r S A V' out vs [] [] w0 w' := by
  have c1 := h.c1
  have c2 := h.c2
  have f2 := h.fz 2
  have hA0 : ∃ X c, A = .slice X 0 c := by
    rcases h.hA.2 with ⟨rfl, _⟩ | ⟨g, cap, c, rfl, _⟩
    · exact ⟨_, _, rfl⟩
    · exact ⟨_, _, rfl⟩
  obtain ⟨X, c, rfl⟩ := hA0
  rcases cutV h.hV with ⟨rfl, rfl⟩ | ⟨g, cap, rfl, hc, hV'⟩
  · have HR := Lib.hid (h.putV h.hV)
    go_enter Tryz.func196, Tryz.ntmps196
    go_wp2
    go_end0
    exact ⟨rfl, _, HR.out⟩
  · have HR := Lib.hid (h.putV hV')
    go_enter Tryz.func196, Tryz.ntmps196
    go_wp2
    go_end0
    exact ⟨rfl, _, HR.out⟩

set_option maxHeartbeats 1600000 in
set_option maxRecDepth 100000 in
theorem endF_cons {B C r : Nat} {S A V : Value} {out : List (List Sm.F)} {vs : List Value} {p : List Sm.F} {f : Sm.F} {val : List UInt8} {w0 W : World} (h : Rd B C r S A V out vs (p ++ [f]) val w0 W) (hp : p.length ≤ 100) (hv : val.length ≤ 1000000) :
    Calls Tryz.prog 196 #[.pointer (some ⟨r, 0, none⟩)] W fun e w' => e = .returned (.tuple #[]) ∧ ∃ V', Rd B C r S A V' out vs (p ++ [(f.1, val)]) [] w0 w' := by
  obtain ⟨g, cap, rfl⟩ := Go.Joins.ownsRow_form h.hA (by simp)
  have c1 := h.c1
  have c2 := h.c2
  have x1 : W.cell? ⟨g, p.length * 2 + 1, none⟩ = some (.string ⟨f.2.toArray⟩) := by rw [h.hA.cellAt _ (by simp; omega)]; exact fcl_last1 p f
  have xf : W.frozen? ⟨g, p.length * 2 + 1, none⟩ = false := h.hA.frozenAt _
  have hcv := text_owned h.drew.hV
  have H1 := (h.setLast val).drew
  have d2 := H1.c2
  have df2 := H1.fz 2
  simp only [List.length_append, List.length_singleton] at c1
  rcases cutV H1.hV with ⟨hV0, hval0⟩ | ⟨gv, capv, hV0, hcc, hV'⟩
  · have HR := Lib.hid (H1.putV H1.hV)
    subst hV0 hval0
    clear h H1
    go_enter Tryz.func196, Tryz.ntmps196
    go_wp2_with fail
    go_region
    all_goals go_wp2_with fail
    all_goals go_end0
    all_goals exact ⟨rfl, _, HR.out⟩
  · have HR := Lib.hid (H1.putV hV')
    subst hV0
    clear h H1
    go_enter Tryz.func196, Tryz.ntmps196
    go_wp2_with fail
    go_region
    all_goals go_wp2_with fail
    all_goals go_end0
    all_goals exact ⟨rfl, _, HR.out⟩
theorem endF_any {B C r : Nat} {S A V : Value} {out : List (List Sm.F)} {vs : List Value} {cur : List Sm.F} {val : List UInt8} {w0 W : World} (h : Rd B C r S A V out vs cur val w0 W) (hp : cur.length ≤ 100) (hv : val.length ≤ 1000000) :
    Calls Tryz.prog 196 #[.pointer (some ⟨r, 0, none⟩)] W fun e w' => e = .returned (.tuple #[]) ∧ ∃ V', Rd B C r S A V' out vs (setL cur val) [] w0 w' := by
  rcases List.eq_nil_or_concat cur with rfl | ⟨p, f, rfl⟩
  · exact endF_nil h
  · rw [List.concat_eq_append] at *
    rw [setL_app]
    exact endF_cons h (by simp at hp; omega) hv

theorem own_str {w : World} {B : Nat} {v : Value} {l u : List UInt8} (h : w.ownsRow B 5 1 v (l.length + (ByteArray.mk u.toArray).size) (Lib.byteCells l ++ Lib.strCells ⟨u.toArray⟩)) : w.ownsRow B 5 1 v (l ++ u).length (Lib.byteCells (l ++ u)) := by
  have e1 : Lib.byteCells l ++ Lib.strCells ⟨u.toArray⟩ = Lib.byteCells (l ++ u) := by simp [Lib.byteCells, Lib.strCells]
  have e2 : l.length + (ByteArray.mk u.toArray).size = (l ++ u).length := by simp [ByteArray.size]
  rw [e1, e2] at h; exact h
theorem own_one {w : World} {B : Nat} {v : Value} {l : List UInt8} {c : UInt8} (h : w.ownsRow B 5 1 v (l.length + 1) (Lib.byteCells l ++ [Value.int .u8 c.toNat])) : w.ownsRow B 5 1 v (l ++ [c]).length (Lib.byteCells (l ++ [c])) := by
  have e1 : Lib.byteCells l ++ [Value.int .u8 c.toNat] = Lib.byteCells (l ++ [c]) := by simp [Lib.byteCells]
  have e2 : l.length + 1 = (l ++ [c]).length := by simp
  rw [e1, e2] at h; exact h

section
variable {B C r : Nat} {S A V : Value} {out : List (List Sm.F)} {vs : List Value} {cur : List Sm.F} {val : List UInt8} {w0 W : World}
/-- Behind an append to the value: the value's slice not yet stored. -/
theorem Rd.grV (h : Rd B C r S A V out vs cur val w0 W) {W' : World} (hg : W.grownBy W' V.ownBlock) :
    W'.heap[r]? = some (.cells #[S, A, V] 170 (0, 0)) ∧ W'.ownsRow C 52 2 A cur.length (fcl cur) ∧ W'.ownsRow B 31 1 S vs.length vs ∧ Below B w0 W' ∧ C ≤ W'.heap.size ∧
    ∀ i (hi : i < vs.length) (hj : i < out.length), W'.ownsRow B 52 2 vs[i] out[i].length (fcl out[i]) := by
  refine ⟨?_, h.hA.kept hg (rows_ne h.hA h.hV (by decide)), h.hS.kept hg (rows_ne h.hS h.hV (by decide)), h.be.grown hg (Nat.le_trans h.CB h.Cs) (fun k e => (h.hV.lt k e).1), Nat.le_trans h.Cs hg.size, fun i hi hj => (h.ov i hi hj).1.kept hg (rows_ne (h.ov i hi hj).1 h.hV (by decide))⟩
  rw [hg.block r h.lt (fun e => row_ne h.hV h.bx (by decide) e.symm)]; exact h.bx
end
end Go.Proofs.YtfoangkkagijcaaGreatDoor.Stz
