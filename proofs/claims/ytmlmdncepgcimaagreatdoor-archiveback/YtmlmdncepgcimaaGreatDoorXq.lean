/- The reader of stanzas: what it holds; the walk of endField. -/
import Derived.Test.YtmlmdncepgcimaaGreatDoorZax
import Derived.Laws.OwnMore
import Derived.OneCell
import Derived.Lib.OwnKind
import Derived.Lib.SmallJoins
import Derived.Deep.AppendLies
import Derived.Deep.RegionLaw
namespace Go.Proofs.YtmlmdncepgcimaaGreatDoor.Stz
open Go.RowKit Go.Shelf Go.Sort

/-- Fields as cells. -/
def fcl (l : List Sm.F) : List Value := l.flatMap fun f => [.string ⟨f.1.toArray⟩, .string ⟨f.2.toArray⟩]
theorem fcl_length (l : List Sm.F) : (fcl l).length = l.length * 2 := by
  unfold fcl
  induction l with
  | nil => rfl
  | cons f l ih => simp at ih ⊢; omega
theorem fcl_app (a b : List Sm.F) : fcl (a ++ b) = fcl a ++ fcl b := by simp [fcl]
theorem fcl_last0 (p : List Sm.F) (f : Sm.F) : (fcl (p ++ [f]))[p.length * 2]? = some (.string ⟨f.1.toArray⟩) := by
  rw [fcl_app, List.getElem?_append_right (by rw [fcl_length]; exact Nat.le_refl _), fcl_length, Nat.sub_self]; rfl
theorem fcl_last1 (p : List Sm.F) (f : Sm.F) : (fcl (p ++ [f]))[p.length * 2 + 1]? = some (.string ⟨f.2.toArray⟩) := by
  rw [fcl_app, List.getElem?_append_right (by rw [fcl_length]; omega), fcl_length, show p.length * 2 + 1 - p.length * 2 = 1 from by omega]; rfl
theorem fcl_set (p : List Sm.F) (f : Sm.F) (v : List UInt8) : (fcl (p ++ [f])).set (p.length * 2 + 1) (.string ⟨v.toArray⟩) = fcl (p ++ [(f.1, v)]) := by
  rw [fcl_app, fcl_app, List.set_append_right _ _ (by rw [fcl_length]; omega), fcl_length, show p.length * 2 + 1 - p.length * 2 = 1 from by omega]; rfl

/-- What a reader holds. -/
structure Rd (B C r : Nat) (S A V : Value) (out : List (List Sm.F)) (vs : List Value) (cur : List Sm.F) (val : List UInt8) (w0 W : World) : Prop where
  bx : W.heap[r]? = some (.cells #[S, A, V] 170 (0, 0))
  rB : B ≤ r
  hV : W.ownsRow B 5 1 V val.length (Lib.byteCells val)
  hA : W.ownsRow C 52 2 A cur.length (fcl cur)
  hS : W.ownsRow B 31 1 S vs.length vs
  CB : B ≤ C
  Cs : C ≤ W.heap.size
  be : Below B w0 W
  ol : vs.length = out.length
  ov : ∀ i (hi : i < vs.length) (hj : i < out.length), W.ownsRow B 52 2 vs[i] out[i].length (fcl out[i]) ∧ ∀ g, vs[i].ownBlock = some g → g < C

section
variable {B C r : Nat} {S A V : Value} {out : List (List Sm.F)} {vs : List Value} {cur : List Sm.F} {val : List UInt8} {w0 W : World}
theorem Rd.c0 (h : Rd B C r S A V out vs cur val w0 W) : W.cell? ⟨r, 0, none⟩ = some S := by rw [Lib.cell_of_heap h.bx]; rfl
theorem Rd.c1 (h : Rd B C r S A V out vs cur val w0 W) : W.cell? ⟨r, 1, none⟩ = some A := by rw [Lib.cell_of_heap h.bx]; rfl
theorem Rd.c2 (h : Rd B C r S A V out vs cur val w0 W) : W.cell? ⟨r, 2, none⟩ = some V := by rw [Lib.cell_of_heap h.bx]; rfl
theorem Rd.fz (h : Rd B C r S A V out vs cur val w0 W) (j : Nat) : W.frozen? ⟨r, j, none⟩ = false := Lib.frozen_of_heap h.bx j
theorem Rd.lt (h : Rd B C r S A V out vs cur val w0 W) : r < W.heap.size := (Array.getElem?_eq_some_iff.1 h.bx).1
/-- A row of some kind is not the reader's own box. -/
theorem row_ne {e b n : Nat} {v : Value} {xs : List Value} {W : World} {cs : Array Value} {t : TypeId} {fz : Nat × Nat} {x sz : Nat} (h : W.ownsRow b e sz v n xs) (hx : W.heap[x]? = some (.cells cs t fz)) (ht : t ≠ e) : v.ownBlock ≠ some x := by
  intro hv
  obtain ⟨c, f, hc⟩ := Lib.ownsRow_kind h x hv
  rw [hx] at hc
  cases hc
  exact ht rfl
theorem rows_ne {e e' b b' n n' : Nat} {v v' : Value} {xs xs' : List Value} {W : World} {sz sz' : Nat} (h : W.ownsRow b e sz v n xs) (h' : W.ownsRow b' e' sz' v' n' xs') (ht : e ≠ e') : v.ownBlock = none ∨ v.ownBlock ≠ v'.ownBlock := by
  cases hv : v.ownBlock with
  | none => exact Or.inl rfl
  | some g =>
    right
    intro he
    obtain ⟨c, f, hc⟩ := Lib.ownsRow_kind h g hv
    exact row_ne h' hc ht he.symm

/-- Whatever is laid beside it. -/
theorem Rd.on {W' : World} (h : Rd B C r S A V out vs cur val w0 W) (k : Below W.heap.size W W') : Rd B C r S A V out vs cur val w0 W' := by
  have kp : ∀ {b e sz n : Nat} {v : Value} {xs : List Value}, W.ownsRow b e sz v n xs → W'.ownsRow b e sz v n xs := fun h1 => h1.kept (row := none) ⟨k.os, k.tape, k.output, k.size, fun j hj _ => k.block j hj⟩ (by
    rename_i v _
    cases hv : v.ownBlock with
    | none => exact Or.inl rfl
    | some g => exact Or.inr (by simp))
  exact ⟨by rw [k.block r h.lt]; exact h.bx, h.rB, kp h.hV, kp h.hA, kp h.hS, h.CB, Nat.le_trans h.Cs k.size, h.be.trans (k.mono (Nat.le_trans h.CB h.Cs)), h.ol, fun i hi hj => ⟨kp (h.ov i hi hj).1, (h.ov i hi hj).2⟩⟩

/-- The reader's own cell of the value's slice, stored. -/
theorem Rd.putV (h : Rd B C r S A V out vs cur val w0 W) {V' : Value} {val' : List UInt8} (hV' : W.ownsRow B 5 1 V' val'.length (Lib.byteCells val')) : Rd B C r S A V' out vs cur val' w0 (W.setCell ⟨r, 2, none⟩ V') := by
  have kp : ∀ {b e sz n : Nat} {v : Value} {xs : List Value}, e ≠ 170 → W.ownsRow b e sz v n xs → (W.setCell ⟨r, 2, none⟩ V').ownsRow b e sz v n xs := fun he h1 => ownsRow_setCell_other h1 (row_ne h1 h.bx (Ne.symm he)) _
  exact ⟨by simp [World.setCell, Array.getElem?_modify, h.bx], h.rB, kp (by decide) hV', kp (by decide) h.hA, kp (by decide) h.hS, h.CB, by simpa [World.setCell] using h.Cs, h.be.setCell h.rB _, h.ol, fun i hi hj => ⟨kp (by decide) (h.ov i hi hj).1, (h.ov i hi hj).2⟩⟩
/-- The last field's value, stored. -/
theorem Rd.setLast {p : List Sm.F} {f : Sm.F} {g cap : Nat} (h : Rd B C r S (.slice (some ⟨g, 0, none⟩) (p ++ [f]).length cap) V out vs (p ++ [f]) val w0 W) (v : List UInt8) :
    Rd B C r S (.slice (some ⟨g, 0, none⟩) (p ++ [f]).length cap) V out vs (p ++ [(f.1, v)]) val w0 (W.setCell ⟨g, p.length * 2 + 1, none⟩ (.string ⟨v.toArray⟩)) := by
  have hg : C ≤ g ∧ g < W.heap.size := h.hA.lt g rfl
  obtain ⟨c, fz, hc⟩ := Lib.ownsRow_kind h.hA g rfl
  have hgr : g ≠ r := fun e => row_ne h.hA h.bx (by decide) (by rw [e]; rfl)
  have kp : ∀ {b e sz n : Nat} {v' : Value} {xs : List Value}, e ≠ 52 → W.ownsRow b e sz v' n xs → (W.setCell ⟨g, p.length * 2 + 1, none⟩ (.string ⟨v.toArray⟩)).ownsRow b e sz v' n xs := fun he h1 => ownsRow_setCell_other h1 (row_ne h1 hc (Ne.symm he)) _
  have hst := h.hA.stored (p.length * 2 + 1) (.string ⟨v.toArray⟩)
  rw [fcl_set] at hst
  refine ⟨?_, h.rB, kp (by decide) h.hV, ?_, kp (by decide) h.hS, h.CB, by simpa [World.setCell] using h.Cs, h.be.setCell (Nat.le_trans h.CB hg.1) _, h.ol, fun i hi hj => ⟨?_, (h.ov i hi hj).2⟩⟩
  · rw [Below.heap_setCell _ _ _ _ hgr.symm]; exact h.bx
  · simpa using hst.1
  · exact ownsRow_setCell_other (h.ov i hi hj).1 (fun e => by have := (h.ov i hi hj).2 g e; omega) _
theorem Rd.drew (h : Rd B C r S A V out vs cur val w0 W) : Rd B C r S A V out vs cur val w0 W.drew := h.on (Below.refl _ _).drew
/-- The value's slice, cut to nothing. -/
theorem cutV (hV : W.ownsRow B 5 1 V val.length (Lib.byteCells val)) : (V = .slice none 0 0 ∧ val = []) ∨ ∃ g cap, V = .slice (some ⟨g, 0, none⟩) val.length cap ∧ val.length ≤ cap ∧ W.ownsRow B 5 1 (.slice (some ⟨g, 0, none⟩) 0 cap) ([] : List UInt8).length (Lib.byteCells []) := by
  rcases hV.2 with ⟨rfl, h0⟩ | ⟨g, cap, c, rfl, h1, h2, h3, h4, h5, h6⟩
  · exact Or.inl ⟨rfl, List.length_eq_zero_iff.1 h0⟩
  · exact Or.inr ⟨g, cap, rfl, h3, ⟨rfl, Or.inr ⟨g, cap, c, rfl, h1, h2, Nat.zero_le _, h4, h5, by simp [Lib.byteCells]⟩⟩⟩
end

theorem text_owned {w : World} {B : Nat} {v : Value} {l : List UInt8} (h : w.ownsRow B 5 1 v l.length (Lib.byteCells l)) : (convert 120 9 v).run Tryz.prog w = .ok (.string ⟨l.toArray⟩) w := by
  rcases h.2 with ⟨rfl, h0⟩ | ⟨g, cap, cur, rfl, -, -, -, -, -, -⟩
  · have : l = [] := List.length_eq_zero_iff.1 h0
    subst this
    exact run_convert_bytes_nil w 120 5 Tryz.underlying120 Tryz.underlying5 0 0 9 Tryz.underlying9
  · exact run_convert_bytes_back (P := Tryz.prog) w 120 9 5 ⟨g, 0, none⟩ cap l Tryz.underlying120 Tryz.underlying5 Tryz.underlying9 (fun j hj => h.cells (g := g) rfl j _ (by simp [Lib.byteCells, hj]))

/-- The last field's value is what stands in the reader's value. -/
def setL : List Sm.F → List UInt8 → List Sm.F
  | [], _ => []
  | [f], v => [(f.1, v)]
  | f :: g :: r, v => f :: setL (g :: r) v
theorem setL_app (p : List Sm.F) (f : Sm.F) (v : List UInt8) : setL (p ++ [f]) v = p ++ [(f.1, v)] := by
  induction p with
  | nil => rfl
  | cons a p ih =>
    cases p with
    | nil => rfl
    | cons b p => simp only [List.cons_append] at ih ⊢; rw [setL, ih]

set_option maxHeartbeats 1600000 in
set_option maxRecDepth 100000 in
theorem endF_nil {B C r : Nat} {S A V : Value} {out : List (List Sm.F)} {vs : List Value} {val : List UInt8} {w0 W : World} (h : Rd B C r S A V out vs [] val w0 W) :
    Calls Tryz.prog 196 #[.pointer (some ⟨r, 0, none⟩)] W fun e w' => e = .returned (.tuple #[]) ∧ ∃ V', Rd B C r S A V' out vs [] [] w0 w' := by
  have c1 := h.c1
  have c2 := h.c2
  have f2 := h.fz 2
  have hA0 : ∃ X c, A = .slice X 0 c := by
    rcases h.hA.2 with ⟨rfl, _⟩ | ⟨g, cap, c, rfl, _⟩
    · exact ⟨_, _, rfl⟩
    · exact ⟨_, _, rfl⟩
  obtain ⟨X, c, rfl⟩ := hA0
  rcases cutV h.hV with ⟨rfl, rfl⟩ | ⟨g, cap, rfl, hc, hV'⟩
  · have HR := Lib.hid (h.putV h.hV)
    go_enter Tryz.func196, Tryz.ntmps196
    go_wp2
    go_end0
    exact ⟨rfl, _, HR.out⟩
  · have HR := Lib.hid (h.putV hV')
    go_enter Tryz.func196, Tryz.ntmps196
    go_wp2
    go_end0
    exact ⟨rfl, _, HR.out⟩

set_option maxHeartbeats 1600000 in
set_option maxRecDepth 100000 in
theorem endF_cons {B C r : Nat} {S A V : Value} {out : List (List Sm.F)} {vs : List Value} {p : List Sm.F} {f : Sm.F} {val : List UInt8} {w0 W : World} (h : Rd B C r S A V out vs (p ++ [f]) val w0 W) (hp : p.length ≤ 100) (hv : val.length ≤ 1000000) :
    Calls Tryz.prog 196 #[.pointer (some ⟨r, 0, none⟩)] W fun e w' => e = .returned (.tuple #[]) ∧ ∃ V', Rd B C r S A V' out vs (p ++ [(f.1, val)]) [] w0 w' := by
  obtain ⟨g, cap, rfl⟩ := Go.Joins.ownsRow_form h.hA (by simp)
  have c1 := h.c1
  have c2 := h.c2
  have x1 : W.cell? ⟨g, p.length * 2 + 1, none⟩ = some (.string ⟨f.2.toArray⟩) := by rw [h.hA.cellAt _ (by simp; omega)]; exact fcl_last1 p f
  have xf : W.frozen? ⟨g, p.length * 2 + 1, none⟩ = false := h.hA.frozenAt _
  have hcv := text_owned h.drew.hV
  have H1 := (h.setLast val).drew
  have d2 := H1.c2
  have df2 := H1.fz 2
  simp only [List.length_append, List.length_singleton] at c1
  rcases cutV H1.hV with ⟨hV0, hval0⟩ | ⟨gv, capv, hV0, hcc, hV'⟩
  · have HR := Lib.hid (H1.putV H1.hV)
    subst hV0 hval0
    clear h H1
    go_enter Tryz.func196, Tryz.ntmps196
    go_wp2_with fail
    go_region
    all_goals go_wp2_with fail
    all_goals go_end0
    all_goals exact ⟨rfl, _, HR.out⟩
  · have HR := Lib.hid (H1.putV hV')
    subst hV0
    clear h H1
    go_enter Tryz.func196, Tryz.ntmps196
    go_wp2_with fail
    go_region
    all_goals go_wp2_with fail
    all_goals go_end0
    all_goals exact ⟨rfl, _, HR.out⟩
theorem endF_any {B C r : Nat} {S A V : Value} {out : List (List Sm.F)} {vs : List Value} {cur : List Sm.F} {val : List UInt8} {w0 W : World} (h : Rd B C r S A V out vs cur val w0 W) (hp : cur.length ≤ 100) (hv : val.length ≤ 1000000) :
    Calls Tryz.prog 196 #[.pointer (some ⟨r, 0, none⟩)] W fun e w' => e = .returned (.tuple #[]) ∧ ∃ V', Rd B C r S A V' out vs (setL cur val) [] w0 w' := by
  rcases List.eq_nil_or_concat cur with rfl | ⟨p, f, rfl⟩
  · exact endF_nil h
  · rw [List.concat_eq_append] at *
    rw [setL_app]
    exact endF_cons h (by simp at hp; omega) hv

theorem own_str {w : World} {B : Nat} {v : Value} {l u : List UInt8} (h : w.ownsRow B 5 1 v (l.length + (ByteArray.mk u.toArray).size) (Lib.byteCells l ++ Lib.strCells ⟨u.toArray⟩)) : w.ownsRow B 5 1 v (l ++ u).length (Lib.byteCells (l ++ u)) := by
  have e1 : Lib.byteCells l ++ Lib.strCells ⟨u.toArray⟩ = Lib.byteCells (l ++ u) := by simp [Lib.byteCells, Lib.strCells]
  have e2 : l.length + (ByteArray.mk u.toArray).size = (l ++ u).length := by simp [ByteArray.size]
  rw [e1, e2] at h; exact h
theorem own_one {w : World} {B : Nat} {v : Value} {l : List UInt8} {c : UInt8} (h : w.ownsRow B 5 1 v (l.length + 1) (Lib.byteCells l ++ [Value.int .u8 c.toNat])) : w.ownsRow B 5 1 v (l ++ [c]).length (Lib.byteCells (l ++ [c])) := by
  have e1 : Lib.byteCells l ++ [Value.int .u8 c.toNat] = Lib.byteCells (l ++ [c]) := by simp [Lib.byteCells]
  have e2 : l.length + 1 = (l ++ [c]).length := by simp
  rw [e1, e2] at h; exact h

section
variable {B C r : Nat} {S A V : Value} {out : List (List Sm.F)} {vs : List Value} {cur : List Sm.F} {val : List UInt8} {w0 W : World}
/-- Behind an append to the value: the value's slice not yet stored. -/
theorem Rd.grV (h : Rd B C r S A V out vs cur val w0 W) {W' : World} (hg : W.grownBy W' V.ownBlock) :
    W'.heap[r]? = some (.cells #[S, A, V] 170 (0, 0)) ∧ W'.ownsRow C 52 2 A cur.length (fcl cur) ∧ W'.ownsRow B 31 1 S vs.length vs ∧ Below B w0 W' ∧ C ≤ W'.heap.size ∧
    ∀ i (hi : i < vs.length) (hj : i < out.length), W'.ownsRow B 52 2 vs[i] out[i].length (fcl out[i]) := by
  refine ⟨?_, h.hA.kept hg (rows_ne h.hA h.hV (by decide)), h.hS.kept hg (rows_ne h.hS h.hV (by decide)), h.be.grown hg (Nat.le_trans h.CB h.Cs) (fun k e => (h.hV.lt k e).1), Nat.le_trans h.Cs hg.size, fun i hi hj => (h.ov i hi hj).1.kept hg (rows_ne (h.ov i hi hj).1 h.hV (by decide))⟩
  rw [hg.block r h.lt (fun e => row_ne h.hV h.bx (by decide) e.symm)]; exact h.bx
end
end Go.Proofs.YtmlmdncepgcimaaGreatDoor.Stz
namespace Go.Proofs.YtmlmdncepgcimaaGreatDoor.Stz
open Go.RowKit Go.Shelf Go.Sort

section
variable {B C r : Nat} {S A V : Value} {out : List (List Sm.F)} {vs : List Value} {cur : List Sm.F} {val : List UInt8} {w0 W : World}
/-- Behind an append to the value, its slice stored. -/
theorem Rd.appV (h : Rd B C r S A V out vs cur val w0 W) {W' : World} {V' : Value} {val' : List UInt8} (hg : W.grownBy W' V.ownBlock) (hV' : W'.ownsRow B 5 1 V' val'.length (Lib.byteCells val')) :
    Rd B C r S A V' out vs cur val' w0 (W'.setCell ⟨r, 2, none⟩ V') := by
  obtain ⟨bx, hA, hS, be, Cs, ov⟩ := h.grV hg
  have kp : ∀ {b e sz n : Nat} {v : Value} {xs : List Value}, e ≠ 170 → W'.ownsRow b e sz v n xs → (W'.setCell ⟨r, 2, none⟩ V').ownsRow b e sz v n xs := fun he h1 => ownsRow_setCell_other h1 (row_ne h1 bx (Ne.symm he)) _
  exact ⟨by simp [World.setCell, Array.getElem?_modify, bx], h.rB, kp (by decide) hV', kp (by decide) hA, kp (by decide) hS, h.CB, by simpa [World.setCell] using Cs, be.setCell h.rB _, h.ol, fun i hi hj => ⟨kp (by decide) (ov i hi hj), (h.ov i hi hj).2⟩⟩
theorem Rd.appC (h : Rd B C r S A V out vs cur val w0 W) {W' : World} (hg : W.grownBy W' V.ownBlock) : W'.cell? ⟨r, 2, none⟩ = some V ∧ W'.frozen? ⟨r, 2, none⟩ = false := by
  obtain ⟨bx, _⟩ := h.grV hg
  exact ⟨by rw [Lib.cell_of_heap bx]; rfl, Lib.frozen_of_heap bx 2⟩
end

theorem isSlice {w : World} {b e sz n : Nat} {v : Value} {xs : List Value} (h : w.ownsRow b e sz v n xs) : ∃ X c, v = .slice X n c := by
  rcases h.2 with ⟨rfl, rfl⟩ | ⟨g, cap, c, rfl, _⟩
  · exact ⟨_, _, rfl⟩
  · exact ⟨_, _, rfl⟩

/-- A further line without the point that stands for a point. -/
def gl (t : List UInt8) : Option (List UInt8) := if t.head? = some 46 then (if t.tail.head? = some 46 then some t.tail else none) else some t

set_option maxHeartbeats 3200000 in
set_option maxRecDepth 100000 in
/-- Behind the point: the line u. -/
theorem goOn_plain {B C r : Nat} {S A V : Value} {out : List (List Sm.F)} {vs : List Value} {cur : List Sm.F} {val : List UInt8} {w0 W : World} (h : Rd B C r S A V out vs cur val w0 W) (u : List UInt8) (hd : (u.head? == some 46) = false) (hu : u.length ≤ 1000000) (hv : val.length ≤ 1000000) (hc : cur.length ≤ 100) :
    Calls Tryz.prog 194 #[.pointer (some ⟨r, 0, none⟩), .string ⟨u.toArray⟩] W fun e w' => ∃ q, e = .returned (.bool q) ∧ q = (!cur.isEmpty && Sm.lok u) ∧
      (q = true → ∃ V', Rd B C r S A V' out vs cur (val ++ [10] ++ u) w0 w') ∧ (q = false → Rd B C r S A V out vs cur val w0 w') := by
  have cP : ∀ W, Calls Tryz.prog 106 #[.string ⟨u.toArray⟩, .string ⟨#[46]⟩] W fun e w' => e = .returned (.bool false) ∧ w' = W := fun W => by rw [← hd]; exact hp46 u W
  have c1 := h.c1
  obtain ⟨X, cA, rfl⟩ := isSlice h.hA
  cases cur with
  | nil =>
    simp only [List.length_nil] at c1
    have HR := Lib.hid h
    clear h
    go_enter Tryz.func194, Tryz.ntmps194
    go_wp2_with (go_at_call 106; with_reducible refine (cP _).mono ?_; rintro x w' ⟨rfl, rfl⟩)
    go_ret
    exact ⟨false, rfl, rfl, (fun e => by cases e), fun _ => HR.out⟩
  | cons f0 cur0 =>
    obtain ⟨cur, hcur⟩ : ∃ c, c = f0 :: cur0 := ⟨_, rfl⟩
    have hce : cur.isEmpty = false := by rw [hcur]; rfl
    have hcn : ((cur.length : Int) == 0) = false := by rw [beq_eq_false_iff_ne, hcur]; simp; omega
    rw [← hcur] at h hc c1 ⊢
    clear hcur
    cases hlk : Sm.lok u with
    | false =>
      have HQ : Hid ((!cur.isEmpty && false) = false) := by show _ = _; simp
      have cL : ∀ W, Calls Tryz.prog 208 #[.string ⟨u.toArray⟩] W fun e w' => e = .returned (.bool false) ∧ Below W.heap.size W w' := fun W => by rw [← hlk]; exact line_any u W hu
      have HR := Lib.hid h
      clear h
      go_enter Tryz.func194, Tryz.ntmps194
      go_wp2_with (go_at_call 106; with_reducible refine (cP _).mono ?_; rintro x w' ⟨rfl, rfl⟩)
      refine (cL _).mono ?_
      rintro e w1 ⟨rfl, b1⟩
      go_wp2
      go_ret
      exact ⟨false, rfl, HQ.out.symm, (fun e => by cases e), fun _ => HR.out.on b1⟩
    | true =>
      have cL : ∀ W, Calls Tryz.prog 208 #[.string ⟨u.toArray⟩] W fun e w' => e = .returned (.bool true) ∧ Below W.heap.size W w' := fun W => by rw [← hlk]; exact line_any u W hu
      have HQ : Hid ((!cur.isEmpty && true) = true) := by show _ = _; rw [hce]; rfl
      obtain ⟨i0, hi, hz0, hz1, hz2⟩ := info_parts infoByte
      have HR := Lib.hid h
      have hCB := h.CB
      have hCs := h.Cs
      clear h
      go_enter Tryz.func194, Tryz.ntmps194
      go_wp2_with (go_at_call 106; with_reducible refine (cP _).mono ?_; rintro x w' ⟨rfl, rfl⟩)
      refine (cL _).mono ?_
      rintro e w1 ⟨rfl, b1⟩
      have R1 := HR.out.on b1
      have e2 := R1.c2
      have hBw1 : B ≤ w1.heap.size := Nat.le_trans R1.CB R1.Cs
      go_wp2_with (at_builtin; refine wpList_append_own _ rfl _ _ 120 rfl B 5 i0 (.int .u8 0) 1 1 Tryz.underlying120 hi hz0 hz1 hz2 rfl (by decide) _ _ _ rfl (R1.hV.alloc _) ⟨w1.heap.size, 0, none⟩ 1 1 [.int .u8 10] rfl rfl ?a1 ?a2 ?a3 ?a4 ?a5 ?_)
      case a1 =>
        intro j u hj
        match j, hj with
        | 0, hj => simp at hj; subst hj; simp [Addr.add]
      case a2 => intro u hu; simp at hu; subst hu; rfl
      case a3 => unfold maxLen; omega
      case a4 => omega
      case a5 => simp; omega
      intro v2 w2 hown2 hgrow2 _
      have RA := R1.on ((Below.refl _ _).alloc (Nat.le_refl _) (.cells #[.int .u8 10] 5))
      have R2 := RA.appV hgrow2 (own_one (c := 10) hown2)
      obtain ⟨g2, gf2⟩ := RA.appC hgrow2
      obtain ⟨X2, k2, rfl⟩ := isSlice hown2
      have HR2 := Lib.hid R2
      clear hown2 hgrow2 RA R1 R2
      have hBw2 : B ≤ (w2.setCell ⟨r, 2, none⟩ (.slice X2 (val.length + 1) k2)).heap.size := Nat.le_trans HR2.out.CB HR2.out.Cs
      have hown3 := HR2.out.hV
      have e3 := HR2.out.c2
      simp only [List.length_append, List.length_singleton] at hown3 e3
      go_wp2_with (at_builtin; refine Lib.wpList_append_own_string _ rfl _ _ 120 9 rfl B 5 i0 Tryz.underlying120 Tryz.underlying9 hi hz0 hz1 hz2 _ _ _ rfl hown3 ⟨u.toArray⟩ rfl ?b3 ?b4 ?b5 ?_)
      case b3 => have : (ByteArray.mk u.toArray).size = u.length := by simp [ByteArray.size]
                 unfold maxLen; omega
      case b4 => have : (ByteArray.mk u.toArray).size = u.length := by simp [ByteArray.size]
                 omega
      case b5 => exact hBw2
      intro v4 w4 hown4 hgrow4 _
      have hown4' := own_str (l := val ++ [10]) (u := u) (by simpa [ByteArray.size] using hown4)
      have R4 := HR2.out.appV hgrow4 hown4'
      obtain ⟨g4, gf4⟩ := HR2.out.appC hgrow4
      obtain ⟨X4, k4, rfl⟩ := isSlice hown4
      have HR4 := Lib.hid R4
      clear hown4 hown4' hgrow4 R4 HR2 hown3
      go_wp2
      go_ret
      exact ⟨true, rfl, HQ.out.symm, fun _ => ⟨_, HR4.out⟩, fun e => by cases e⟩
set_option maxHeartbeats 3200000 in
set_option maxRecDepth 100000 in
/-- A line with a point ahead of a point. -/
theorem goOn_dot {B C r : Nat} {S A V : Value} {out : List (List Sm.F)} {vs : List Value} {cur : List Sm.F} {val : List UInt8} {w0 W : World} (h : Rd B C r S A V out vs cur val w0 W) (u : List UInt8) (hd : (u.head? == some 46) = true) (hu : u.length ≤ 1000000) (hv : val.length ≤ 1000000) (hc : cur.length ≤ 100) :
    Calls Tryz.prog 194 #[.pointer (some ⟨r, 0, none⟩), .string ⟨(46 :: u).toArray⟩] W fun e w' => ∃ q, e = .returned (.bool q) ∧ q = (!cur.isEmpty && Sm.lok u) ∧
      (q = true → ∃ V', Rd B C r S A V' out vs cur (val ++ [10] ++ u) w0 w') ∧ (q = false → Rd B C r S A V out vs cur val w0 w') := by
  have cP : ∀ W, Calls Tryz.prog 106 #[.string ⟨(46 :: u).toArray⟩, .string ⟨#[46]⟩] W fun e w' => e = .returned (.bool true) ∧ w' = W := fun W => hp46 (46 :: u) W
  have cP2 : ∀ W, Calls Tryz.prog 106 #[.string ⟨u.toArray⟩, .string ⟨#[46]⟩] W fun e w' => e = .returned (.bool true) ∧ w' = W := fun W => by rw [← hd]; exact hp46 u W
  have hxs : (ByteArray.mk (46 :: u).toArray).extract 1 (u.length + 1) = ⟨u.toArray⟩ := by apply ByteArray.ext; simp
  have c1 := h.c1
  obtain ⟨X, cA, rfl⟩ := isSlice h.hA
  cases cur with
  | nil =>
    simp only [List.length_nil] at c1
    have HR := Lib.hid h
    clear h
    go_enter Tryz.func194, Tryz.ntmps194
    go_wp2_with (first | (go_at_call 106; with_reducible refine (cP _).mono ?_; rintro x w' ⟨rfl, rfl⟩) | (go_at_call 106; with_reducible refine (cP2 _).mono ?_; rintro x w' ⟨rfl, rfl⟩))
    go_ret
    exact ⟨false, rfl, rfl, (fun e => by cases e), fun _ => HR.out⟩
  | cons f0 cur0 =>
    obtain ⟨cur, hcur⟩ : ∃ c, c = f0 :: cur0 := ⟨_, rfl⟩
    have hce : cur.isEmpty = false := by rw [hcur]; rfl
    have hcn : ((cur.length : Int) == 0) = false := by rw [beq_eq_false_iff_ne, hcur]; simp; omega
    rw [← hcur] at h hc c1 ⊢
    clear hcur
    cases hlk : Sm.lok u with
    | false =>
      have HQ : Hid ((!cur.isEmpty && false) = false) := by show _ = _; simp
      have cL : ∀ W, Calls Tryz.prog 208 #[.string ⟨u.toArray⟩] W fun e w' => e = .returned (.bool false) ∧ Below W.heap.size W w' := fun W => by rw [← hlk]; exact line_any u W hu
      have HR := Lib.hid h
      clear h
      go_enter Tryz.func194, Tryz.ntmps194
      go_wp2_with (first | (go_at_call 106; with_reducible refine (cP _).mono ?_; rintro x w' ⟨rfl, rfl⟩) | (go_at_call 106; with_reducible refine (cP2 _).mono ?_; rintro x w' ⟨rfl, rfl⟩))
      refine (cL _).mono ?_
      rintro e w1 ⟨rfl, b1⟩
      go_wp2
      go_ret
      exact ⟨false, rfl, HQ.out.symm, (fun e => by cases e), fun _ => HR.out.on b1⟩
    | true =>
      have cL : ∀ W, Calls Tryz.prog 208 #[.string ⟨u.toArray⟩] W fun e w' => e = .returned (.bool true) ∧ Below W.heap.size W w' := fun W => by rw [← hlk]; exact line_any u W hu
      have HQ : Hid ((!cur.isEmpty && true) = true) := by show _ = _; rw [hce]; rfl
      obtain ⟨i0, hi, hz0, hz1, hz2⟩ := info_parts infoByte
      have HR := Lib.hid h
      have hCB := h.CB
      have hCs := h.Cs
      clear h
      go_enter Tryz.func194, Tryz.ntmps194
      go_wp2_with (first | (go_at_call 106; with_reducible refine (cP _).mono ?_; rintro x w' ⟨rfl, rfl⟩) | (go_at_call 106; with_reducible refine (cP2 _).mono ?_; rintro x w' ⟨rfl, rfl⟩))
      refine (cL _).mono ?_
      rintro e w1 ⟨rfl, b1⟩
      have R1 := HR.out.on b1
      have e2 := R1.c2
      have hBw1 : B ≤ w1.heap.size := Nat.le_trans R1.CB R1.Cs
      go_wp2_with (at_builtin; refine wpList_append_own _ rfl _ _ 120 rfl B 5 i0 (.int .u8 0) 1 1 Tryz.underlying120 hi hz0 hz1 hz2 rfl (by decide) _ _ _ rfl (R1.hV.alloc _) ⟨w1.heap.size, 0, none⟩ 1 1 [.int .u8 10] rfl rfl ?a1 ?a2 ?a3 ?a4 ?a5 ?_)
      case a1 =>
        intro j u hj
        match j, hj with
        | 0, hj => simp at hj; subst hj; simp [Addr.add]
      case a2 => intro u hu; simp at hu; subst hu; rfl
      case a3 => unfold maxLen; omega
      case a4 => omega
      case a5 => simp; omega
      intro v2 w2 hown2 hgrow2 _
      have RA := R1.on ((Below.refl _ _).alloc (Nat.le_refl _) (.cells #[.int .u8 10] 5))
      have R2 := RA.appV hgrow2 (own_one (c := 10) hown2)
      obtain ⟨g2, gf2⟩ := RA.appC hgrow2
      obtain ⟨X2, k2, rfl⟩ := isSlice hown2
      have HR2 := Lib.hid R2
      clear hown2 hgrow2 RA R1 R2
      have hBw2 : B ≤ (w2.setCell ⟨r, 2, none⟩ (.slice X2 (val.length + 1) k2)).heap.size := Nat.le_trans HR2.out.CB HR2.out.Cs
      have hown3 := HR2.out.hV
      have e3 := HR2.out.c2
      simp only [List.length_append, List.length_singleton] at hown3 e3
      go_wp2_with (at_builtin; refine Lib.wpList_append_own_string _ rfl _ _ 120 9 rfl B 5 i0 Tryz.underlying120 Tryz.underlying9 hi hz0 hz1 hz2 _ _ _ rfl hown3 ⟨u.toArray⟩ rfl ?b3 ?b4 ?b5 ?_)
      case b3 => have : (ByteArray.mk u.toArray).size = u.length := by simp [ByteArray.size]
                 unfold maxLen; omega
      case b4 => have : (ByteArray.mk u.toArray).size = u.length := by simp [ByteArray.size]
                 omega
      case b5 => exact hBw2
      intro v4 w4 hown4 hgrow4 _
      have hown4' := own_str (l := val ++ [10]) (u := u) (by simpa [ByteArray.size] using hown4)
      have R4 := HR2.out.appV hgrow4 hown4'
      obtain ⟨g4, gf4⟩ := HR2.out.appC hgrow4
      obtain ⟨X4, k4, rfl⟩ := isSlice hown4
      have HR4 := Lib.hid R4
      clear hown4 hown4' hgrow4 R4 HR2 hown3
      go_wp2
      go_ret
      exact ⟨true, rfl, HQ.out.symm, fun _ => ⟨_, HR4.out⟩, fun e => by cases e⟩

set_option maxHeartbeats 800000 in
set_option maxRecDepth 100000 in
/-- A point, and no point behind it. -/
theorem goOn_bad (r : Nat) (W : World) (u : List UInt8) (hd : (u.head? == some 46) = false) (hu : u.length ≤ 1000000) :
    Calls Tryz.prog 194 #[.pointer (some ⟨r, 0, none⟩), .string ⟨(46 :: u).toArray⟩] W fun e w' => e = .returned (.bool false) ∧ w' = W := by
  have cP : ∀ W, Calls Tryz.prog 106 #[.string ⟨(46 :: u).toArray⟩, .string ⟨#[46]⟩] W fun e w' => e = .returned (.bool true) ∧ w' = W := fun W => hp46 (46 :: u) W
  have cP2 : ∀ W, Calls Tryz.prog 106 #[.string ⟨u.toArray⟩, .string ⟨#[46]⟩] W fun e w' => e = .returned (.bool false) ∧ w' = W := fun W => by rw [← hd]; exact hp46 u W
  have hxs : (ByteArray.mk (46 :: u).toArray).extract 1 (u.length + 1) = ⟨u.toArray⟩ := by apply ByteArray.ext; simp
  go_enter Tryz.func194, Tryz.ntmps194
  go_wp2_with (first | (go_at_call 106; with_reducible refine (cP _).mono ?_; rintro x w' ⟨rfl, rfl⟩) | (go_at_call 106; with_reducible refine (cP2 _).mono ?_; rintro x w' ⟨rfl, rfl⟩))
  go_ret
  exact ⟨rfl, rfl⟩

/-- Whether a further line may stand there, and what it adds. -/
def gOk (cur : List Sm.F) (t : List UInt8) : Option (List UInt8) := match gl t with
  | none => none
  | some u => if (!cur.isEmpty && Sm.lok u) = true then some u else none

theorem goOn_any {B C r : Nat} {S A V : Value} {out : List (List Sm.F)} {vs : List Value} {cur : List Sm.F} {val : List UInt8} {w0 W : World} (h : Rd B C r S A V out vs cur val w0 W) (t : List UInt8) (ht : t.length ≤ 1000000) (hv : val.length ≤ 1000000) (hc : cur.length ≤ 100) :
    Calls Tryz.prog 194 #[.pointer (some ⟨r, 0, none⟩), .string ⟨t.toArray⟩] W fun e w' => e = .returned (.bool (gOk cur t).isSome) ∧
      ∀ u, (gOk cur t = some u → ∃ V', Rd B C r S A V' out vs cur (val ++ [10] ++ u) w0 w') ∧ (gOk cur t = none → Rd B C r S A V out vs cur val w0 w') := by
  have fin : ∀ (u : List UInt8), gl t = some u → ∀ e w', (∃ q, e = Ending.returned (.bool q) ∧ q = (!cur.isEmpty && Sm.lok u) ∧ (q = true → ∃ V', Rd B C r S A V' out vs cur (val ++ [10] ++ u) w0 w') ∧ (q = false → Rd B C r S A V out vs cur val w0 w')) →
      e = .returned (.bool (gOk cur t).isSome) ∧ ∀ u, (gOk cur t = some u → ∃ V', Rd B C r S A V' out vs cur (val ++ [10] ++ u) w0 w') ∧ (gOk cur t = none → Rd B C r S A V out vs cur val w0 w') := by
    rintro u hg e w' ⟨q, rfl, hq, h1, h2⟩
    have hk : gOk cur t = if q = true then some u else none := by unfold gOk; rw [hg, hq]
    rw [hk]
    cases q with
    | true => exact ⟨rfl, fun u' => ⟨fun e => by cases e; exact h1 rfl, fun e => by cases e⟩⟩
    | false => exact ⟨rfl, fun u' => ⟨(fun e => by cases e), fun _ => h2 rfl⟩⟩
  cases hd : (t.head? == some 46) with
  | false =>
    have hg : gl t = some t := by unfold gl; rw [if_neg (by simpa using hd)]
    exact (goOn_plain h t hd ht hv hc).mono (fin t hg)
  | true =>
    cases t with
    | nil => simp at hd
    | cons a u =>
      obtain rfl : a = 46 := by simpa using hd
      cases hd2 : (u.head? == some 46) with
      | true =>
        have hg : gl (46 :: u) = some u := by
          have : u.head? = some 46 := by simpa using hd2
          simp [gl, this]
        exact (goOn_dot h u hd2 (by simp at ht; omega) hv hc).mono (fin u hg)
      | false =>
        have hg : gl (46 :: u) = none := by
          have : ¬ u.head? = some 46 := by simpa using hd2
          simp [gl, this]
        have hk : gOk cur (46 :: u) = none := by unfold gOk; rw [hg]
        rw [hk]
        exact (goOn_bad r W u hd2 (by simp at ht; omega)).mono fun e w' ⟨he, hw⟩ => ⟨he, fun u' => ⟨(fun e => by cases e), fun _ => by rw [hw]; exact h⟩⟩

end Go.Proofs.YtmlmdncepgcimaaGreatDoor.Stz
namespace Go.Proofs.YtmlmdncepgcimaaGreatDoor.Stz
open Go.RowKit Go.Shelf Go.Sort

theorem infoS : (Tryz.prog.info? 31).map (fun i => (i.zero, i.size, i.bytes)) = some (some (.slice none 0 0), 1, 24) := by kernel_rfl
theorem infoF : (Tryz.prog.info? 52).map (fun i => (i.zero, i.size, i.bytes)) = some (some (.agg #[.string ⟨#[]⟩, .string ⟨#[]⟩]), 2, 32) := by kernel_rfl

section
variable {B C r : Nat} {S A V : Value} {out : List (List Sm.F)} {vs : List Value} {cur : List Sm.F} {val : List UInt8} {w0 W : World}
/-- The fields' slice, let go: a stanza that has none. -/
theorem Rd.letgo (h : Rd B C r S A V out vs cur val w0 W) : Rd B W.heap.size r S (.slice none 0 0) V out vs [] val w0 (W.setCell ⟨r, 1, none⟩ (.slice none 0 0)) := by
  have kp : ∀ {b e sz n : Nat} {v : Value} {xs : List Value}, e ≠ 170 → W.ownsRow b e sz v n xs → (W.setCell ⟨r, 1, none⟩ (.slice none 0 0)).ownsRow b e sz v n xs := fun he h1 => ownsRow_setCell_other h1 (row_ne h1 h.bx (Ne.symm he)) _
  exact ⟨by simp [World.setCell, Array.getElem?_modify, h.bx], h.rB, kp (by decide) h.hV, World.ownsRow_nil _ _ _ _, kp (by decide) h.hS, Nat.le_trans h.CB h.Cs, by simp [World.setCell], h.be.setCell h.rB _, h.ol, fun i hi hj => ⟨kp (by decide) (h.ov i hi hj).1, fun g e => Nat.lt_of_lt_of_le ((h.ov i hi hj).2 g e) h.Cs⟩⟩

/-- The fields handed over, and let go. -/
theorem Rd.hand (h : Rd B C r S A V out vs cur val w0 W) {W' : World} {S' : Value} (hg : W.grownBy W' S.ownBlock) (hS' : W'.ownsRow B 31 1 S' (vs.length + 1) (vs ++ [A])) :
    Rd B (W'.setCell ⟨r, 0, none⟩ S').heap.size r S' (.slice none 0 0) V (out ++ [cur]) (vs ++ [A]) [] val w0 ((W'.setCell ⟨r, 0, none⟩ S').setCell ⟨r, 1, none⟩ (.slice none 0 0)) := by
  have bx : W'.heap[r]? = some (.cells #[S, A, V] 170 (0, 0)) := by
    rw [hg.block r h.lt (fun e => row_ne h.hS h.bx (by decide) e.symm)]; exact h.bx
  have bx2 : (W'.setCell ⟨r, 0, none⟩ S').heap[r]? = some (.cells #[S', A, V] 170 (0, 0)) := by simp [World.setCell, Array.getElem?_modify, bx]
  have kp : ∀ {b e sz n : Nat} {v : Value} {xs : List Value}, e ≠ 170 → W'.ownsRow b e sz v n xs → ((W'.setCell ⟨r, 0, none⟩ S').setCell ⟨r, 1, none⟩ (.slice none 0 0)).ownsRow b e sz v n xs := fun he h1 =>
    ownsRow_setCell_other (ownsRow_setCell_other h1 (row_ne h1 bx (Ne.symm he)) _) (row_ne h1 bx (Ne.symm he)) _
  have hA := h.hA.kept hg (rows_ne h.hA h.hS (by decide))
  have hsz : (W'.setCell ⟨r, 0, none⟩ S').heap.size = W'.heap.size := by simp [World.setCell]
  refine ⟨by simp [World.setCell, Array.getElem?_modify, bx], h.rB, kp (by decide) (h.hV.kept hg (rows_ne h.hV h.hS (by decide))), World.ownsRow_nil _ _ _ _, by simpa using kp (by decide) hS', ?_, by simp [World.setCell], ?_, by simp [h.ol], ?_⟩
  · rw [hsz]; exact Nat.le_trans (Nat.le_trans h.CB h.Cs) hg.size
  · exact ((h.be.grown hg (Nat.le_trans h.CB h.Cs) (fun k e => (h.hS.lt k e).1)).setCell h.rB _).setCell h.rB _
  · intro i hi hj
    rw [hsz]
    by_cases hil : i < vs.length
    · have hol := h.ol
      rw [List.getElem_append_left hil, List.getElem_append_left (by omega)]
      have := h.ov i hil (by omega)
      exact ⟨kp (by decide) (this.1.kept hg (rows_ne this.1 h.hS (by decide))), fun g e => Nat.lt_of_lt_of_le (Nat.lt_of_lt_of_le (this.2 g e) h.Cs) hg.size⟩
    · have hol := h.ol
      have hie : i = vs.length := by simp at hi; omega
      subst hie
      rw [List.getElem_append_right (Nat.le_refl _), List.getElem_append_right (by omega)]
      simp only [Nat.sub_self, hol, List.getElem_cons_zero]
      exact ⟨kp (by decide) (Go.Joins.ownsRow_le hA h.CB), fun g e => (hA.lt g e).2⟩
end

theorem new_block (w : World) (o : Obj) : (w.alloc o).drew.heap[w.heap.size]? = some o := by
  show (w.heap.push o)[w.heap.size]? = some o
  simp
theorem Rd.handC {B C r : Nat} {S A V : Value} {out : List (List Sm.F)} {vs : List Value} {cur : List Sm.F} {val : List UInt8} {w0 W : World} (h : Rd B C r S A V out vs cur val w0 W) {W' : World} (hg : W.grownBy W' S.ownBlock) :
    W'.cell? ⟨r, 0, none⟩ = some S ∧ W'.frozen? ⟨r, 0, none⟩ = false ∧ W'.cell? ⟨r, 1, none⟩ = some A ∧ W'.frozen? ⟨r, 1, none⟩ = false := by
  have bx : W'.heap[r]? = some (.cells #[S, A, V] 170 (0, 0)) := by
    rw [hg.block r h.lt (fun e => row_ne h.hS h.bx (by decide) e.symm)]; exact h.bx
  exact ⟨by rw [Lib.cell_of_heap bx]; rfl, Lib.frozen_of_heap bx 0, by rw [Lib.cell_of_heap bx]; rfl, Lib.frozen_of_heap bx 1⟩

/-- A stanza's end, among the stanzas. -/
def endO (out : List (List Sm.F)) (cur : List Sm.F) : List (List Sm.F) := if cur = [] then out else out ++ [cur]

set_option maxHeartbeats 3200000 in
set_option maxRecDepth 100000 in
theorem endS_any {B C r : Nat} {S A V : Value} {out : List (List Sm.F)} {vs : List Value} {cur : List Sm.F} {val : List UInt8} {w0 W : World} (h : Rd B C r S A V out vs cur val w0 W) (hp : cur.length ≤ 100) (hv : val.length ≤ 1000000) (ho : out.length ≤ 1000000) :
    Calls Tryz.prog 147 #[.pointer (some ⟨r, 0, none⟩)] W fun e w' => e = .returned (.tuple #[]) ∧ ∃ C' S' V' vs', Rd B C' r S' (.slice none 0 0) V' (endO out (setL cur val)) vs' [] [] w0 w' := by
  have HR := Lib.hid h
  clear h
  obtain ⟨cu, hcu0⟩ : ∃ cu, cu = setL cur val := ⟨_, rfl⟩
  rw [← hcu0]
  have HCU := Lib.hid hcu0
  clear hcu0
  obtain ⟨i0, hi, hz0, hz1, hz2⟩ := info_parts infoS
  go_enter Tryz.func147, Tryz.ntmps147
  go_wp2_with fail
  refine (endF_any HR.out hp hv).mono ?_
  rintro e w1 ⟨rfl, V1, R1⟩
  have c1 := R1.c1
  have c0 := R1.c0
  have f0 := R1.fz 0
  have f1 := R1.fz 1
  rw [← HCU.out] at R1
  clear HCU
  obtain ⟨X, cA, rfl⟩ := isSlice R1.hA
  by_cases hcn : cu = []
  · subst hcn
    have HN := Lib.hid R1.letgo
    simp only [List.length_nil] at c1
    clear R1 HR
    go_wp2_with fail
    go_end0
    exact ⟨rfl, _, _, _, _, HN.out⟩
  · have hen : endO out cu = out ++ [cu] := by unfold endO; rw [if_neg hcn]
    have HEN := Lib.hid hen
    have hcl : 0 < cu.length := List.length_pos_iff.2 hcn
    clear hen hcn
    have RA := R1.on ((Below.refl _ _).alloc (Nat.le_refl _) (.cells #[.slice X cu.length cA] 31))
    have R2 := RA.drew
    have ra0 := RA.c0
    have ra1 := RA.c1
    have raf0 := RA.fz 0
    have raf1 := RA.fz 1
    have hol := R1.ol
    have hB : B ≤ w1.heap.size := Nat.le_trans R1.CB R1.Cs
    have H2 := Lib.hid R2
    have h0 := R2.c0
    have h1' := R2.c1
    have f0' := R2.fz 0
    have f1' := R2.fz 1
    clear R1 R2 RA HR
    go_wp2_with fail
    have hnb := World.news_of_block (new_block w1 (.cells #[.slice X cu.length cA] 31))
    have HNB := Lib.hid hnb
    clear hnb
    go_region_law (refine step_append_lies _ rfl _ _ 111 rfl B 31 i0 (.slice none 0 0) 1 24 Tryz.underlying111 hi hz0 hz1 hz2 rfl (by decide) _ _ _ rfl H2.out.hS ⟨w1.heap.size, 0, none⟩ 1 1 [.slice X cu.length cA] rfl rfl HNB.out (by intro u hu; simp at hu; subst hu; rfl) (by decide) (by unfold maxLen; omega) (by omega) (by simp; omega) _ rfl ?_; intro g cp w2 hown hgrow _ _; obtain ⟨q0, qf0, q1, qf1⟩ := H2.out.handC hgrow)
    all_goals have HH := Lib.hid (H2.out.hand (S' := .slice (some ⟨g, 0, none⟩) (out.length + 1) cp) hgrow (by simpa [hol] using hown))
    all_goals clear hown hgrow
    all_goals go_wp2_with fail
    all_goals go_end0
    all_goals exact ⟨rfl, by rw [HEN.out]; exact ⟨_, _, _, _, HH.out⟩⟩
end Go.Proofs.YtmlmdncepgcimaaGreatDoor.Stz
namespace Go.Proofs.YtmlmdncepgcimaaGreatDoor.Stz
open Go.RowKit Go.Shelf Go.Sort

/-- Names short enough. -/
structure Nm (l : List Sm.F) : Prop where
  n : l.length ≤ 60
  s : ∀ f ∈ l, f.1.length ≤ 100

set_option maxHeartbeats 1600000 in
set_option maxRecDepth 100000 in
theorem idxq_any (b o c : Nat) (l : List Sm.F) (s : List UInt8) (p : Nat) (w : World) (h : Fl w b o l) (hz : Nm l) (hp : w.cell? ⟨p, 0, none⟩ = some (.string ⟨s.toArray⟩)) :
    Calls Tryz.prog 178 #[.slice (some ⟨b, o, none⟩) l.length c, .func (Fn.func 179) #[] #[.pointer (some ⟨p, 0, none⟩)]] w fun e w' => e = .returned (.int .i64 (ix (l.findIdx? fun f => Sm.small f.1 == s))) ∧ Below w.heap.size w w' := by
  obtain ⟨r, hr⟩ : ∃ r, r = ix (l.findIdx? fun f => Sm.small f.1 == s) := ⟨_, rfl⟩
  have HR := Lib.hid hr
  rw [← hr]
  clear hr
  have hn := hz.n
  have HZ := Lib.hid hz
  clear hz
  go_enter Tryz.func178, Tryz.ntmps178
  go_wp2
  go_loopw [8] (fun i W => ∃ k : Nat, k ≤ l.length ∧ i = .int .i64 k ∧ Below w.heap.size w W ∧ Hid (∀ j (hj : j < l.length), j < k → (Sm.small l[j].1 == s) = false)) (fun i _ => l.length - (intOf i).toNat)
  case atStart => exact ⟨0, Nat.zero_le _, rfl, Below.refl _ _, fun j _ h => absurd h (Nat.not_lt_zero _)⟩
  case round =>
    obtain ⟨k, hk, rfl, hW, HP⟩ := hrel
    by_cases hlt : k < l.length
    · have hF := h.on hW
      have c0 := hF.c0 k hlt
      have c1 := hF.c1 k hlt
      have hpk := hp
      rw [← hW.cell (block_lt_of_cell hp)] at hpk
      have hfs := HZ.out.s l[k] (List.getElem_mem hlt)
      have cC := clos_any l[k] s p wr hpk (by omega)
      cases hq : (Sm.small l[k].1 == s) with
      | true =>
        rw [hq] at cC
        have HF : Hid (r = k) := by show r = _; rw [HR.out, fi_some k hlt hq (fun j hj h => HP.out j hj h)]; rfl
        go_wp2_with fail
        refine cC.mono ?_
        rintro e w1 ⟨rfl, b1⟩
        go_wp2_with fail
        go_ret
        exact ⟨ret_int HF.out.symm, onn hW b1⟩
      | false =>
        rw [hq] at cC
        have HN : Hid (∀ j (hj : j < l.length), j < k + 1 → (Sm.small l[j].1 == s) = false) := fun j hj h => by
          by_cases e : j = k
          · subst e; exact hq
          · exact HP.out j hj (by omega)
        go_wp2_with fail
        refine cC.mono ?_
        rintro e w1 ⟨rfl, b1⟩
        go_wp2_with fail
        exact ⟨⟨k + 1, hlt, by go_num, onn hW b1, HN⟩, by simp [intOf]; omega⟩
    · go_wp2
      go_ret
      exact ⟨ret_int (by rw [HR.out, fi_none (fun j hj => HP.out j hj (by omega))]; rfl), hW⟩

theorem idxq_sl (v : Value) (l : List Sm.F) (s : List UInt8) (p : Nat) (w : World) (h : Sl w v l) (hz : Nm l) (hp : w.cell? ⟨p, 0, none⟩ = some (.string ⟨s.toArray⟩)) :
    Calls Tryz.prog 178 #[v, .func (Fn.func 179) #[] #[.pointer (some ⟨p, 0, none⟩)]] w fun e w' => e = .returned (.int .i64 (ix (l.findIdx? fun f => Sm.small f.1 == s))) ∧ Below w.heap.size w w' := by
  rcases h.is with ⟨rfl, A, c, rfl⟩ | ⟨b, o, c, rfl, _, hf⟩
  · exact (idxf_nil A c p w).mono fun _ _ ⟨he, hw⟩ => ⟨he, by rw [hw]; exact Below.refl _ _⟩
  · exact idxq_any b o c l s p w hf hz hp

set_option maxHeartbeats 1600000 in
set_option maxRecDepth 100000 in
theorem finq_any (v : Value) (l : List Sm.F) (n : List UInt8) (w : World) (h : Sl w v l) (hz : Nm l) (hn : n.length ≤ 1000000) :
    Calls Tryz.prog 138 #[v, .string ⟨n.toArray⟩] w fun e w' => e = .returned (.int .i64 (ix (Sm.fnd l n))) ∧ Below w.heap.size w w' := by
  have HZ := Lib.hid hz
  have HS := Lib.hid h
  clear hz h
  go_enter Tryz.func138, Tryz.ntmps138
  go_wp2_with fail
  refine (small_any n _ hn).mono ?_
  rintro e w1 ⟨rfl, b1⟩
  have b2 : Below w1.heap.size w1 (w1.alloc (.cells #[.string ⟨(Sm.small n).toArray⟩] 9)) := (Below.refl _ _).alloc (Nat.le_refl _) _
  have hc : (w1.alloc (.cells #[.string ⟨(Sm.small n).toArray⟩] 9)).cell? ⟨w1.heap.size, 0, none⟩ = some (.string ⟨(Sm.small n).toArray⟩) := by simp
  go_wp2_with fail
  refine (idxq_sl v l (Sm.small n) w1.heap.size _ (HS.out.on (onn b1 b2)) HZ.out hc).mono ?_
  rintro e w3 ⟨rfl, b3⟩
  go_wp2
  go_ret
  exact ⟨rfl, onn (onn b1 b2) b3⟩


theorem fcl_get (l : List Sm.F) : ∀ i (hi : i < l.length), (fcl l)[i * 2]? = some (.string ⟨l[i].1.toArray⟩) ∧ (fcl l)[i * 2 + 1]? = some (.string ⟨l[i].2.toArray⟩) := by
  induction l with
  | nil => intro i hi; simp at hi
  | cons f l ih =>
    intro i hi
    cases i with
    | zero => exact ⟨rfl, rfl⟩
    | succ i =>
      have := ih i (by simpa using hi)
      have e : fcl (f :: l) = [.string ⟨f.1.toArray⟩, .string ⟨f.2.toArray⟩] ++ fcl l := rfl
      rw [e]
      constructor
      · rw [List.getElem?_append_right (by simp; omega), show (i + 1) * 2 - [Value.string ⟨f.1.toArray⟩, .string ⟨f.2.toArray⟩].length = i * 2 from by simp; omega]; exact this.1
      · rw [List.getElem?_append_right (by simp; omega), show (i + 1) * 2 + 1 - [Value.string ⟨f.1.toArray⟩, .string ⟨f.2.toArray⟩].length = i * 2 + 1 from by simp; omega]; exact this.2
/-- Fields that are owned, as a list that is handed in. -/
theorem sl_owned {W : World} {C : Nat} {A : Value} {l : List Sm.F} (h : W.ownsRow C 52 2 A l.length (fcl l)) : Sl W A l := by
  rcases h.2 with ⟨rfl, h0⟩ | ⟨g, cap, c, rfl, h1, h2, h3, h4, h5, h6⟩
  · exact ⟨Or.inl ⟨List.length_eq_zero_iff.1 h0, _, _, rfl⟩⟩
  · exact ⟨Or.inr ⟨g, 0, cap, rfl, h3, (h.lt g rfl).2, fun i hi => by rw [Nat.zero_add, h.cellAt _ (by omega)]; exact (fcl_get l i hi).1, fun i hi => by rw [Nat.zero_add, h.cellAt _ (by omega)]; exact (fcl_get l i hi).2⟩⟩

section
variable {B C r : Nat} {S A V : Value} {out : List (List Sm.F)} {vs : List Value} {cur : List Sm.F} {val : List UInt8} {w0 W : World}
theorem Rd.bxA (h : Rd B C r S A V out vs cur val w0 W) {W' : World} (hg : W.grownBy W' A.ownBlock) : W'.heap[r]? = some (.cells #[S, A, V] 170 (0, 0)) := by
  rw [hg.block r h.lt (fun e => row_ne h.hA h.bx (by decide) e.symm)]; exact h.bx
theorem Rd.appAC (h : Rd B C r S A V out vs cur val w0 W) {W' : World} (hg : W.grownBy W' A.ownBlock) : W'.cell? ⟨r, 1, none⟩ = some A ∧ W'.frozen? ⟨r, 1, none⟩ = false :=
  ⟨by rw [Lib.cell_of_heap (h.bxA hg)]; rfl, Lib.frozen_of_heap (h.bxA hg) 1⟩
/-- Behind an append to the fields, their slice stored. -/
theorem Rd.appA (h : Rd B C r S A V out vs cur val w0 W) {W' : World} {A' : Value} {f : Sm.F} (hg : W.grownBy W' A.ownBlock) (hA' : W'.ownsRow C 52 2 A' (cur.length + 1) (fcl cur ++ [.string ⟨f.1.toArray⟩, .string ⟨f.2.toArray⟩])) :
    Rd B C r S A' V out vs (cur ++ [f]) val w0 (W'.setCell ⟨r, 1, none⟩ A') := by
  have bx := h.bxA hg
  have kp : ∀ {b e sz n : Nat} {v : Value} {xs : List Value}, e ≠ 170 → W'.ownsRow b e sz v n xs → (W'.setCell ⟨r, 1, none⟩ A').ownsRow b e sz v n xs := fun he h1 => ownsRow_setCell_other h1 (row_ne h1 bx (Ne.symm he)) _
  have ek : fcl cur ++ [.string ⟨f.1.toArray⟩, .string ⟨f.2.toArray⟩] = fcl (cur ++ [f]) := by rw [fcl_app]; rfl
  rw [ek] at hA'
  refine ⟨by simp [World.setCell, Array.getElem?_modify, bx], h.rB, kp (by decide) (h.hV.kept hg (rows_ne h.hV h.hA (by decide))), by simpa using kp (by decide) hA', kp (by decide) (h.hS.kept hg (rows_ne h.hS h.hA (by decide))), h.CB, by simpa [World.setCell] using Nat.le_trans h.Cs hg.size, (h.be.grown hg (Nat.le_trans h.CB h.Cs) (fun k e => Nat.le_trans h.CB (h.hA.lt k e).1)).setCell h.rB _, h.ol, fun i hi hj => ⟨kp (by decide) ((h.ov i hi hj).1.kept hg ?_), (h.ov i hi hj).2⟩⟩
  cases hv : vs[i].ownBlock with
  | none => exact Or.inl rfl
  | some g =>
    right
    intro e
    have h1 := (h.ov i hi hj).2 g hv
    have h2 := (h.hA.lt g e.symm).1
    omega
end
end Go.Proofs.YtmlmdncepgcimaaGreatDoor.Stz
namespace Go.Proofs.YtmlmdncepgcimaaGreatDoor.Stz
open Go.RowKit Go.Shelf Go.Sort

set_option maxHeartbeats 1600000 in
set_option maxRecDepth 100000 in
theorem bg_none {B C r : Nat} {S A V : Value} {out : List (List Sm.F)} {vs : List Value} {cur : List Sm.F} {val : List UInt8} {w0 W : World} (h : Rd B C r S A V out vs cur val w0 W) (l : List UInt8) (hi : Lib.indexByte l 58 = -1) :
    Calls Tryz.prog 195 #[.pointer (some ⟨r, 0, none⟩), .string ⟨l.toArray⟩] W fun e w' => e = .returned (.bool false) ∧ Rd B C r S A V out vs cur val w0 w' := by
  have HR := Lib.hid h
  have HI := Lib.hid hi
  clear h hi
  go_enter Tryz.func195, Tryz.ntmps195
  go_wp2_with fail
  refine (cut_none 58 l _ HI.out).mono ?_
  rintro e w1 ⟨rfl, b1⟩
  go_wp2_with fail
  refine (trim_any [] _ (by simp)).mono ?_
  rintro e w2 ⟨rfl, b2⟩
  go_wp2
  go_ret
  exact ⟨rfl, HR.out.on (onn b1 b2)⟩

theorem setL_length (l : List Sm.F) (v : List UInt8) : (setL l v).length = l.length := by
  rcases List.eq_nil_or_concat l with rfl | ⟨p, f, rfl⟩
  · rfl
  · rw [List.concat_eq_append, setL_app]; simp
theorem new_block0 (w : World) (o : Obj) : (w.alloc o).heap[w.heap.size]? = some o := by
  show (w.heap.push o)[w.heap.size]? = some o
  simp

set_option maxHeartbeats 3200000 in
set_option maxRecDepth 100000 in
theorem bg_some {B C r : Nat} {S A V : Value} {out : List (List Sm.F)} {vs : List Value} {cur : List Sm.F} {val : List UInt8} {w0 W : World} (h : Rd B C r S A V out vs cur val w0 W) (hp : Nm cur) (hv : val.length ≤ 1000000) (l : List UInt8) (hl : l.length ≤ 1000000) (k : Nat) (hk : k < l.length) (hi : Lib.indexByte l 58 = k)
    (nm vl : List UInt8) (hnm : nm = l.take k) (hvl : vl = Lib.trimS (l.drop (k + 1)) [32, 9]) (hn : nm.length ≤ 1000000) (hvn : vl.length ≤ 1000000) :
    Calls Tryz.prog 195 #[.pointer (some ⟨r, 0, none⟩), .string ⟨l.toArray⟩] W fun e w' => ∃ q, e = .returned (.bool q) ∧ q = (Sm.nok nm && Sm.lok vl && !(cur.length == 40) && (Sm.fnd cur nm).isNone) ∧
      (q = false → Rd B C r S A V out vs cur val w0 w') ∧ (q = true → ∃ A' V', Rd B C r S A' V' out vs (setL cur val ++ [(nm, [])]) vl w0 w') := by
  have cC : ∀ W, Calls Tryz.prog 110 #[.string ⟨l.toArray⟩, .string ⟨#[58]⟩] W fun e w' => e = .returned (.tuple #[.string ⟨nm.toArray⟩, .string ⟨(l.drop (k + 1)).toArray⟩, .bool true]) ∧ Below W.heap.size W w' := fun W => by rw [hnm]; exact cut_some 58 l k W hl hk hi
  have cT : ∀ W, Calls Tryz.prog 141 #[.string ⟨(l.drop (k + 1)).toArray⟩, .string ⟨#[32, 9]⟩] W fun e w' => e = .returned (.string ⟨vl.toArray⟩) ∧ Below W.heap.size W w' := fun W => by rw [hvl]; exact trim_any _ W (by simp; omega)
  have HC := Lib.hid cC
  have HT := Lib.hid cT
  have HR := Lib.hid h
  clear cC cT hnm hvl hi h
  generalize l.drop (k + 1) = v0 at HC HT
  cases q1 : Sm.nok nm with
  | false =>
    have cN : ∀ W, Calls Tryz.prog 166 #[.string ⟨nm.toArray⟩] W fun e w' => e = .returned (.bool false) ∧ w' = W := fun W => by rw [← q1]; exact rn_any nm W hn
    go_enter Tryz.func195, Tryz.ntmps195
    go_wp2_with fail
    refine (HC.out _).mono ?_
    rintro e w1 ⟨rfl, b1⟩
    go_wp2_with fail
    refine (HT.out _).mono ?_
    rintro e w2 ⟨rfl, b2⟩
    go_wp2_with (go_at_call 166; with_reducible refine (cN _).mono ?_; rintro x w' ⟨rfl, rfl⟩)
    go_ret
    exact ⟨false, rfl, by simp, fun _ => HR.out.on (onn b1 b2), (fun e => by cases e)⟩
  | true =>
    have cN : ∀ W, Calls Tryz.prog 166 #[.string ⟨nm.toArray⟩] W fun e w' => e = .returned (.bool true) ∧ w' = W := fun W => by rw [← q1]; exact rn_any nm W hn
    cases q2 : Sm.lok vl with
    | false =>
      have cL : ∀ W, Calls Tryz.prog 208 #[.string ⟨vl.toArray⟩] W fun e w' => e = .returned (.bool false) ∧ Below W.heap.size W w' := fun W => by rw [← q2]; exact line_any vl W hvn
      go_enter Tryz.func195, Tryz.ntmps195
      go_wp2_with fail
      refine (HC.out _).mono ?_
      rintro e w1 ⟨rfl, b1⟩
      go_wp2_with fail
      refine (HT.out _).mono ?_
      rintro e w2 ⟨rfl, b2⟩
      go_wp2_with (go_at_call 166; with_reducible refine (cN _).mono ?_; rintro x w' ⟨rfl, rfl⟩)
      refine (cL _).mono ?_
      rintro e w3 ⟨rfl, b3⟩
      go_wp2
      go_ret
      exact ⟨false, rfl, by simp, fun _ => HR.out.on (onn (onn b1 b2) b3), (fun e => by cases e)⟩
    | true =>
      have cL : ∀ W, Calls Tryz.prog 208 #[.string ⟨vl.toArray⟩] W fun e w' => e = .returned (.bool true) ∧ Below W.heap.size W w' := fun W => by rw [← q2]; exact line_any vl W hvn
      have hcl := hp.n
      by_cases q3 : cur.length = 40
      · have q3b : ((cur.length : Int) == 40) = true := by rw [beq_iff_eq]; omega
        have HQ : Hid (false = (true && true && !(cur.length == 40) && (Sm.fnd cur nm).isNone)) := by show _ = _; simp [q3]
        go_enter Tryz.func195, Tryz.ntmps195
        go_wp2_with fail
        refine (HC.out _).mono ?_
        rintro e w1 ⟨rfl, b1⟩
        go_wp2_with fail
        refine (HT.out _).mono ?_
        rintro e w2 ⟨rfl, b2⟩
        go_wp2_with (go_at_call 166; with_reducible refine (cN _).mono ?_; rintro x w' ⟨rfl, rfl⟩)
        refine (cL _).mono ?_
        rintro e w3 ⟨rfl, b3⟩
        have R3 := HR.out.on (onn (onn b1 b2) b3)
        have c1 := R3.c1
        obtain ⟨X, cA, rfl⟩ := isSlice R3.hA
        have HR3 := Lib.hid R3
        clear R3 HR
        go_wp2
        go_ret
        exact ⟨false, rfl, HQ.out, fun _ => HR3.out, (fun e => by cases e)⟩
      · have q3b : ((cur.length : Int) == 40) = false := by rw [beq_eq_false_iff_ne]; omega
        obtain ⟨q4, hq4⟩ : ∃ q, q = Sm.fnd cur nm := ⟨_, rfl⟩
        have HQ : Hid ((true && true && !(cur.length == 40) && (Sm.fnd cur nm).isNone) = q4.isNone) := by show _ = _; rw [hq4]; simp [q3]
        have cF := fun W (hA : Sl W A cur) => finq_any A cur nm W hA hp hn
        rw [← hq4] at cF
        have HF := Lib.hid cF
        clear cF hq4 q3
        cases q4 with
        | some i =>
          rw [show ix (some i) = (i : Int) from rfl] at HF
          go_enter Tryz.func195, Tryz.ntmps195
          go_wp2_with fail
          refine (HC.out _).mono ?_
          rintro e w1 ⟨rfl, b1⟩
          go_wp2_with fail
          refine (HT.out _).mono ?_
          rintro e w2 ⟨rfl, b2⟩
          go_wp2_with (go_at_call 166; with_reducible refine (cN _).mono ?_; rintro x w' ⟨rfl, rfl⟩)
          refine (cL _).mono ?_
          rintro e w3 ⟨rfl, b3⟩
          have R3 := HR.out.on (onn (onn b1 b2) b3)
          have c1 := R3.c1
          obtain ⟨X, cA, rfl⟩ := isSlice R3.hA
          have HR3 := Lib.hid R3
          clear R3 HR
          go_wp2_with fail
          refine (HF.out _ (sl_owned HR3.out.hA)).mono ?_
          rintro e w4 ⟨rfl, b4⟩
          go_wp2
          go_ret
          exact ⟨false, rfl, HQ.out.symm, fun _ => HR3.out.on b4, (fun e => by cases e)⟩
        | none =>
          rw [show ix none = -1 from rfl] at HF
          obtain ⟨i0, hi0, hz0, hz1, hz2⟩ := info_parts infoF
          obtain ⟨i5, hi5, hy0, hy1, hy2⟩ := info_parts infoByte
          go_enter Tryz.func195, Tryz.ntmps195
          go_wp2_with fail
          refine (HC.out _).mono ?_
          rintro e w1 ⟨rfl, b1⟩
          go_wp2_with fail
          refine (HT.out _).mono ?_
          rintro e w2 ⟨rfl, b2⟩
          go_wp2_with (go_at_call 166; with_reducible refine (cN _).mono ?_; rintro x w' ⟨rfl, rfl⟩)
          refine (cL _).mono ?_
          rintro e w3 ⟨rfl, b3⟩
          have R3 := HR.out.on (onn (onn b1 b2) b3)
          have c1 := R3.c1
          obtain ⟨X, cA, rfl⟩ := isSlice R3.hA
          have HR3 := Lib.hid R3
          clear R3 HR
          go_wp2_with fail
          refine (HF.out _ (sl_owned HR3.out.hA)).mono ?_
          rintro e w4 ⟨rfl, b4⟩
          have HR4 := Lib.hid (HR3.out.on b4)
          clear HR3 c1
          go_wp2_with fail
          refine (endF_any HR4.out (by omega) hv).mono ?_
          rintro e w5 ⟨rfl, V5, R5⟩
          have hcu : (setL cur val).length ≤ 60 := by rw [setL_length]; exact hcl
          obtain ⟨cu, hcu0⟩ : ∃ c, c = setL cur val := ⟨_, rfl⟩
          rw [← hcu0] at R5 hcu
          have HCU := Lib.hid hcu0
          clear hcu0
          have HD := Lib.hid R5.drew
          have d1 := R5.c1
          have df1 := R5.fz 1
          clear HR4
          go_wp2_with fail
          go_region_law (first
            | (go_simp; go_at_call 44; refine (clone_any nm _ hn).mono ?_; rintro e wc ⟨rfl, bc⟩; have Rc := HD.out.on bc; have k1 := Rc.c1; have kf := Rc.fz 1; have Ra := Rc.on ((Below.refl _ _).alloc (Nat.le_refl _) (.cells #[.string ⟨nm.toArray⟩, .string ⟨#[]⟩] 52)); have m1 := Ra.c1; have mf := Ra.fz 1; have HRa := Lib.hid Ra; clear Ra Rc)
            | (refine step_append_lies _ rfl _ _ 31 rfl C 52 i0 _ 2 32 Tryz.underlying31 hi0 hz0 hz1 hz2 rfl (by decide) _ _ _ rfl HRa.out.hA ⟨wc.heap.size, 0, none⟩ 1 1 [.string ⟨nm.toArray⟩, .string ⟨#[]⟩] rfl rfl (World.news_of_block (new_block0 wc _)) (by intro u hu; simp at hu; rcases hu with rfl | rfl <;> rfl) (by decide) (by unfold maxLen; omega) (by omega) (by have := HRa.out.Cs; simpa using this) _ rfl ?_; intro g cp w6 hown hgrow _ _; obtain ⟨q0, qf0⟩ := HRa.out.appAC hgrow))
          all_goals
            have HB := Lib.hid (HRa.out.appA (A' := .slice (some ⟨g, 0, none⟩) (cu.length + 1) cp) (f := (nm, [])) hgrow (by simpa using hown))
            clear hown hgrow HRa
            have p2 := HB.out.c2
            have pB : B ≤ (w6.setCell ⟨r, 1, none⟩ (.slice (some ⟨g, 0, none⟩) (cu.length + 1) cp)).heap.size := Nat.le_trans HB.out.CB HB.out.Cs
            have pown := HB.out.hV
            go_wp2_with (at_builtin; refine Lib.wpList_append_own_string _ rfl _ _ 120 9 rfl B 5 i5 Tryz.underlying120 Tryz.underlying9 hi5 hy0 hy1 hy2 _ _ _ rfl pown ⟨vl.toArray⟩ rfl ?b3 ?b4 ?b5 ?_)
            case b3 => have : (ByteArray.mk vl.toArray).size = vl.length := by simp [ByteArray.size]
                       unfold maxLen; simp at this ⊢; omega
            case b4 => have : (ByteArray.mk vl.toArray).size = vl.length := by simp [ByteArray.size]
                       simp at this ⊢; omega
            case b5 => exact pB
            intro v7 w7 hown7 hgrow7 _
            have hown7' : w7.ownsRow B 5 1 v7 vl.length (Lib.byteCells vl) := by simpa [Lib.byteCells, Lib.strCells] using hown7
            have HR7 := Lib.hid (HB.out.appV hgrow7 hown7')
            obtain ⟨g7, gf7⟩ := HB.out.appC hgrow7
            obtain ⟨X7, k7, rfl⟩ := isSlice hown7
            clear hown7 hown7' hgrow7 HB pown
            go_wp2
            go_ret
            exact ⟨true, rfl, HQ.out.symm, (fun e => by cases e), fun _ => ⟨_, _, by rw [← HCU.out]; exact HR7.out⟩⟩

end Go.Proofs.YtmlmdncepgcimaaGreatDoor.Stz
