/- Terms as they lie in memory: lists of them, lists of such lists; opened. -/
import Derived.Test.YtoojbpldhhbkbaaDoorProg
import Derived.WalkKit
import Derived.OwnWalk
import Derived.BigCall
import Derived.Deep.Slices
import Derived.ChangeSame
import Derived.Lib.Hide
import Derived.Lib.Slices
import Derived.Lib.QuietBelow
import Derived.WideShapes
namespace Go.Proofs.YtoojbpldhhbkbaaDoor
open Go.RowKit Go.Sort

/-- A term: its name, what it asks, its version. -/
structure Tm where
  n : List UInt8
  o : Int
  e : Int
  u : List UInt8
  r : List UInt8
  deriving Inhabited
def Tm.vs (t : Tm) : List Value := [.string ⟨t.n.toArray⟩, .int .i64 t.o, .int .i64 t.e, .string ⟨t.u.toArray⟩, .string ⟨t.r.toArray⟩]
/-- Numbers that a word holds. -/
structure I64 (e : Int) : Prop where
  h : (Lit.int .i64 e).wf = true

/-- Terms in a row. -/
structure Tl (W : World) (b o : Nat) (l : List Tm) : Prop where
  lt : b < W.heap.size
  c0 : ∀ i (hi : i < l.length), W.cell? ⟨b, o + i * 5, none⟩ = some (.string ⟨l[i].n.toArray⟩)
  c1 : ∀ i (hi : i < l.length), W.cell? ⟨b, o + i * 5 + 1, none⟩ = some (.int .i64 l[i].o)
  c2 : ∀ i (hi : i < l.length), W.cell? ⟨b, o + i * 5 + 2, none⟩ = some (.int .i64 l[i].e)
  c3 : ∀ i (hi : i < l.length), W.cell? ⟨b, o + i * 5 + 3, none⟩ = some (.string ⟨l[i].u.toArray⟩)
  c4 : ∀ i (hi : i < l.length), W.cell? ⟨b, o + i * 5 + 4, none⟩ = some (.string ⟨l[i].r.toArray⟩)
theorem Tl.on {W w' : World} {b o : Nat} {l : List Tm} (h : Tl W b o l) (k : Below W.heap.size W w') : Tl w' b o l :=
  ⟨Nat.lt_of_lt_of_le h.lt k.size, fun i hi => by rw [k.cell (p := ⟨b, _, none⟩) h.lt]; exact h.c0 i hi, fun i hi => by rw [k.cell (p := ⟨b, _, none⟩) h.lt]; exact h.c1 i hi,
    fun i hi => by rw [k.cell (p := ⟨b, _, none⟩) h.lt]; exact h.c2 i hi, fun i hi => by rw [k.cell (p := ⟨b, _, none⟩) h.lt]; exact h.c3 i hi, fun i hi => by rw [k.cell (p := ⟨b, _, none⟩) h.lt]; exact h.c4 i hi⟩
/-- A slice of terms. -/
structure Ts (W : World) (v : Value) (l : List Tm) : Prop where
  is : (l = [] ∧ ∃ A c, v = .slice A 0 c) ∨ ∃ b o c, v = .slice (some ⟨b, o, none⟩) l.length c ∧ l.length ≤ c ∧ Tl W b o l
theorem Ts.on {W w' : World} {v : Value} {l : List Tm} (h : Ts W v l) (k : Below W.heap.size W w') : Ts w' v l := by
  rcases h.is with h | ⟨b, o, c, h1, h2, h3⟩
  · exact ⟨Or.inl h⟩
  · exact ⟨Or.inr ⟨b, o, c, h1, h2, h3.on k⟩⟩
/-- Slices of terms in a row. -/
structure Al (W : World) (b o : Nat) (l : List (List Tm)) : Prop where
  lt : b < W.heap.size
  c : ∀ i (hi : i < l.length), ∃ v, W.cell? ⟨b, o + i, none⟩ = some v ∧ Ts W v l[i]
theorem Al.on {W w' : World} {b o : Nat} {l : List (List Tm)} (h : Al W b o l) (k : Below W.heap.size W w') : Al w' b o l :=
  ⟨Nat.lt_of_lt_of_le h.lt k.size, fun i hi => by
    obtain ⟨v, h1, h2⟩ := h.c i hi
    exact ⟨v, by rw [k.cell (p := ⟨b, _, none⟩) h.lt]; exact h1, h2.on k⟩⟩
/-- A slice of slices of terms. -/
structure As (W : World) (v : Value) (l : List (List Tm)) : Prop where
  is : (l = [] ∧ ∃ A c, v = .slice A 0 c) ∨ ∃ b o c, v = .slice (some ⟨b, o, none⟩) l.length c ∧ l.length ≤ c ∧ Al W b o l
theorem As.on {W w' : World} {v : Value} {l : List (List Tm)} (h : As W v l) (k : Below W.heap.size W w') : As w' v l := by
  rcases h.is with h | ⟨b, o, c, h1, h2, h3⟩
  · exact ⟨Or.inl h⟩
  · exact ⟨Or.inr ⟨b, o, c, h1, h2, h3.on k⟩⟩

theorem cells54 : Tryd.prog.cellsOf 32 = 3 := by kernel_rfl
theorem cells9' : Tryd.prog.cellsOf 9 = 1 := by kernel_rfl
theorem cells3' : Tryd.prog.cellsOf 3 = 1 := by kernel_rfl
theorem und54 : ∃ f0 f1 f2 : Field, Tryd.prog.underlying 32 = some (.struct #[f0, f1, f2]) ∧ f0.offset = 0 ∧ f1.offset = 1 ∧ f2.offset = 2 ∧ f0.type = 3 ∧ f1.type = 9 ∧ f2.type = 9 := ⟨_, _, _, Tryd.underlying32, rfl, rfl, rfl, rfl, rfl, rfl⟩
section
variable {H : Type} {enc : TypeId × Value → H} {W : World} {base : Nat} {spare : Nat → Bool} {held : Bool}

set_option maxRecDepth 100000 in
/-- A version's three cells. -/
theorem ver_of {n : Nat} {cs : List Value} {x : DataW H × List MemPlace} (h : DataW.trod enc Tryd.prog W base spare held n 32 cs = some x) :
    ∃ (e : Int) (u r : List UInt8), cs = [.int .i64 e, .string ⟨u.toArray⟩, .string ⟨r.toArray⟩] ∧ I64 e := by
  obtain ⟨f0, f1, f2, hu, o0, o1, o2, t0, t1, t2⟩ := und54
  obtain ⟨xs, k, _, _, hl, hxl, hf⟩ := DataW.trod_struct hu h
  rw [cells54] at hl
  match xs, hxl, cs, hl with
  | [y0, y1, y2], _, [v0, v1, v2], _ =>
    have g0 := hf 0 f0 rfl
    have g1 := hf 1 f1 rfl
    have g2 := hf 2 f2 rfl
    rw [o0, t0, cells3'] at g0
    rw [o1, t1, cells9'] at g1
    rw [o2, t2, cells9'] at g2
    obtain ⟨e, e0, _, we⟩ := DataW.trod_int Tryd.underlying3 (by simpa using g0)
    obtain ⟨u, e1, _, _⟩ := DataW.trod_string Tryd.underlying9 (by simpa using g1)
    obtain ⟨r, e2, _, _⟩ := DataW.trod_string Tryd.underlying9 (by simpa using g2)
    simp at e0 e1 e2
    exact ⟨e, u.data.toList, r.data.toList, by rw [e0, e1, e2], ⟨we⟩⟩
end
end Go.Proofs.YtoojbpldhhbkbaaDoor
