/- Terms as they lie in memory: lists of them, lists of such lists; opened. -/
import Derived.Test.YtlldfmnoidndmaaGreatDoorProg
import Derived.WalkKit
import Derived.OwnWalk
import Derived.BigCall
import Derived.Deep.Slices
import Derived.ChangeSame
import Derived.Lib.Hide
import Derived.Lib.Slices
import Derived.Lib.QuietBelow
import Derived.WideShapes
namespace Go.Proofs.YtlldfmnoidndmaaGreatDoor
open Go.RowKit Go.Sort

/-- A term: its name, what it asks, its version. -/
structure Tm where
  n : List UInt8
  o : Int
  e : Int
  u : List UInt8
  r : List UInt8
  deriving Inhabited
def Tm.vs (t : Tm) : List Value := [.string ⟨t.n.toArray⟩, .int .i64 t.o, .int .i64 t.e, .string ⟨t.u.toArray⟩, .string ⟨t.r.toArray⟩]
/-- Numbers that a word holds. -/
structure I64 (e : Int) : Prop where
  h : (Lit.int .i64 e).wf = true

/-- Terms in a row. -/
structure Tl (W : World) (b o : Nat) (l : List Tm) : Prop where
  lt : b < W.heap.size
  c0 : ∀ i (hi : i < l.length), W.cell? ⟨b, o + i * 5, none⟩ = some (.string ⟨l[i].n.toArray⟩)
  c1 : ∀ i (hi : i < l.length), W.cell? ⟨b, o + i * 5 + 1, none⟩ = some (.int .i64 l[i].o)
  c2 : ∀ i (hi : i < l.length), W.cell? ⟨b, o + i * 5 + 2, none⟩ = some (.int .i64 l[i].e)
  c3 : ∀ i (hi : i < l.length), W.cell? ⟨b, o + i * 5 + 3, none⟩ = some (.string ⟨l[i].u.toArray⟩)
  c4 : ∀ i (hi : i < l.length), W.cell? ⟨b, o + i * 5 + 4, none⟩ = some (.string ⟨l[i].r.toArray⟩)
theorem Tl.on {W w' : World} {b o : Nat} {l : List Tm} (h : Tl W b o l) (k : Below W.heap.size W w') : Tl w' b o l :=
  ⟨Nat.lt_of_lt_of_le h.lt k.size, fun i hi => by rw [k.cell (p := ⟨b, _, none⟩) h.lt]; exact h.c0 i hi, fun i hi => by rw [k.cell (p := ⟨b, _, none⟩) h.lt]; exact h.c1 i hi,
    fun i hi => by rw [k.cell (p := ⟨b, _, none⟩) h.lt]; exact h.c2 i hi, fun i hi => by rw [k.cell (p := ⟨b, _, none⟩) h.lt]; exact h.c3 i hi, fun i hi => by rw [k.cell (p := ⟨b, _, none⟩) h.lt]; exact h.c4 i hi⟩
/-- A slice of terms. -/
structure Ts (W : World) (v : Value) (l : List Tm) : Prop where
  is : (l = [] ∧ ∃ A c, v = .slice A 0 c) ∨ ∃ b o c, v = .slice (some ⟨b, o, none⟩) l.length c ∧ l.length ≤ c ∧ Tl W b o l
theorem Ts.on {W w' : World} {v : Value} {l : List Tm} (h : Ts W v l) (k : Below W.heap.size W w') : Ts w' v l := by
  rcases h.is with h | ⟨b, o, c, h1, h2, h3⟩
  · exact ⟨Or.inl h⟩
  · exact ⟨Or.inr ⟨b, o, c, h1, h2, h3.on k⟩⟩
/-- Slices of terms in a row. -/
structure Al (W : World) (b o : Nat) (l : List (List Tm)) : Prop where
  lt : b < W.heap.size
  c : ∀ i (hi : i < l.length), ∃ v, W.cell? ⟨b, o + i, none⟩ = some v ∧ Ts W v l[i]
theorem Al.on {W w' : World} {b o : Nat} {l : List (List Tm)} (h : Al W b o l) (k : Below W.heap.size W w') : Al w' b o l :=
  ⟨Nat.lt_of_lt_of_le h.lt k.size, fun i hi => by
    obtain ⟨v, h1, h2⟩ := h.c i hi
    exact ⟨v, by rw [k.cell (p := ⟨b, _, none⟩) h.lt]; exact h1, h2.on k⟩⟩
/-- A slice of slices of terms. -/
structure As (W : World) (v : Value) (l : List (List Tm)) : Prop where
  is : (l = [] ∧ ∃ A c, v = .slice A 0 c) ∨ ∃ b o c, v = .slice (some ⟨b, o, none⟩) l.length c ∧ l.length ≤ c ∧ Al W b o l
theorem As.on {W w' : World} {v : Value} {l : List (List Tm)} (h : As W v l) (k : Below W.heap.size W w') : As w' v l := by
  rcases h.is with h | ⟨b, o, c, h1, h2, h3⟩
  · exact ⟨Or.inl h⟩
  · exact ⟨Or.inr ⟨b, o, c, h1, h2, h3.on k⟩⟩

theorem cells54 : Tryz.prog.cellsOf 37 = 3 := by kernel_rfl
theorem cells68 : Tryz.prog.cellsOf 125 = 5 := by kernel_rfl
theorem cells40 : Tryz.prog.cellsOf 39 = 1 := by kernel_rfl
theorem cells9' : Tryz.prog.cellsOf 9 = 1 := by kernel_rfl
theorem cells3' : Tryz.prog.cellsOf 3 = 1 := by kernel_rfl
theorem und54 : ∃ f0 f1 f2 : Field, Tryz.prog.underlying 37 = some (.struct #[f0, f1, f2]) ∧ f0.offset = 0 ∧ f1.offset = 1 ∧ f2.offset = 2 ∧ f0.type = 3 ∧ f1.type = 9 ∧ f2.type = 9 := ⟨_, _, _, Tryz.underlying37, rfl, rfl, rfl, rfl, rfl, rfl⟩
theorem und68 : ∃ f0 f1 f2 : Field, Tryz.prog.underlying 125 = some (.struct #[f0, f1, f2]) ∧ f0.offset = 0 ∧ f1.offset = 1 ∧ f2.offset = 2 ∧ f0.type = 9 ∧ f1.type = 3 ∧ f2.type = 37 := ⟨_, _, _, Tryz.underlying125, rfl, rfl, rfl, rfl, rfl, rfl⟩

section
variable {H : Type} {enc : TypeId × Value → H} {W : World} {base : Nat} {spare : Nat → Bool} {held : Bool}

set_option maxRecDepth 100000 in
/-- A version's three cells. -/
theorem ver_of {n : Nat} {cs : List Value} {x : DataW H × List MemPlace} (h : DataW.trod enc Tryz.prog W base spare held n 37 cs = some x) :
    ∃ (e : Int) (u r : List UInt8), cs = [.int .i64 e, .string ⟨u.toArray⟩, .string ⟨r.toArray⟩] ∧ I64 e := by
  obtain ⟨f0, f1, f2, hu, o0, o1, o2, t0, t1, t2⟩ := und54
  obtain ⟨xs, k, _, _, hl, hxl, hf⟩ := DataW.trod_struct hu h
  rw [cells54] at hl
  match xs, hxl, cs, hl with
  | [y0, y1, y2], _, [v0, v1, v2], _ =>
    have g0 := hf 0 f0 rfl
    have g1 := hf 1 f1 rfl
    have g2 := hf 2 f2 rfl
    rw [o0, t0, cells3'] at g0
    rw [o1, t1, cells9'] at g1
    rw [o2, t2, cells9'] at g2
    obtain ⟨e, e0, _, we⟩ := DataW.trod_int Tryz.underlying3 (by simpa using g0)
    obtain ⟨u, e1, _, _⟩ := DataW.trod_string Tryz.underlying9 (by simpa using g1)
    obtain ⟨r, e2, _, _⟩ := DataW.trod_string Tryz.underlying9 (by simpa using g2)
    simp at e0 e1 e2
    exact ⟨e, u.data.toList, r.data.toList, by rw [e0, e1, e2], ⟨we⟩⟩
set_option maxRecDepth 100000 in
/-- A term's five cells. -/
theorem term_of {n : Nat} {cs : List Value} {x : DataW H × List MemPlace} (h : DataW.trod enc Tryz.prog W base spare held n 125 cs = some x) :
    ∃ t : Tm, cs = t.vs ∧ I64 t.o ∧ I64 t.e := by
  obtain ⟨f0, f1, f2, hu, o0, o1, o2, t0, t1, t2⟩ := und68
  obtain ⟨xs, k, _, _, hl, hxl, hf⟩ := DataW.trod_struct hu h
  rw [cells68] at hl
  match xs, hxl, cs, hl with
  | [y0, y1, y2], _, [v0, v1, v2, v3, v4], _ =>
    have g0 := hf 0 f0 rfl
    have g1 := hf 1 f1 rfl
    have g2 := hf 2 f2 rfl
    rw [o0, t0, cells9'] at g0
    rw [o1, t1, cells3'] at g1
    rw [o2, t2, cells54] at g2
    obtain ⟨s, e0, _, _⟩ := DataW.trod_string Tryz.underlying9 (by simpa using g0)
    obtain ⟨o, e1, _, wo⟩ := DataW.trod_int Tryz.underlying3 (by simpa using g1)
    obtain ⟨e, u, r, e2, we⟩ := ver_of (by simpa using g2)
    simp at e0 e1 e2
    exact ⟨⟨s.data.toList, o, e, u, r⟩, by rw [e0, e1, e2.1, e2.2.1, e2.2.2]; rfl, ⟨wo⟩, we⟩

/-- Terms that come in, opened. -/
theorem terms_of {n : Nat} {v : Value} {x : DataW H × List MemPlace} (h : DataW.trod enc Tryz.prog W base spare held n 39 [v] = some x) : ∃ l : List Tm, Ts W v l ∧ ∀ t ∈ l, I64 t.o ∧ I64 t.e := by
  rcases Go.Deep.open_slice Tryz.underlying39 h with ⟨hc, _⟩ | ⟨a, len, cap, m, k, D, Pl, hc, _, hl, _, hm, _, hall⟩
  · simp at hc; subst hc
    exact ⟨[], ⟨Or.inl ⟨rfl, _, _, rfl⟩⟩, by simp⟩
  · simp at hc; subst hc
    rw [cells68] at hall
    by_cases h0 : len = 0
    · subst h0; exact ⟨[], ⟨Or.inl ⟨rfl, _, _, rfl⟩⟩, by simp⟩
    · have hlm : len ≤ m := by rw [hm]; split <;> omega
      have get : ∀ i, i < len → ∃ t : Tm, (∀ j (hj : j < 5), W.cell? (a.add (i * 5 + j)) = some (t.vs[j]'(by simpa [Tm.vs] using hj))) ∧ I64 t.o ∧ I64 t.e := fun i hi => by
        obtain ⟨cs, h1, h2⟩ := hall i (by omega)
        obtain ⟨_, hlen, hcell⟩ := World.cells?_some h1
        obtain ⟨t, rfl, w1, w2⟩ := term_of h2
        refine ⟨t, fun j hj => ?_, w1, w2⟩
        have := hcell j hj
        rw [Go.Deep.add_add] at this
        rw [this, List.getElem?_eq_getElem]
      obtain ⟨g, hg⟩ := Go.Deep.choose_lt get
      obtain ⟨b, o, spot⟩ := a
      have hsp : spot = none := by simpa [Addr.add] using World.cell?_spot ((hg 0 (by omega)).1 0 (by omega))
      subst hsp
      have hlen : ((List.range len).map g).length = len := by simp
      have cell : ∀ i (hi : i < ((List.range len).map g).length) j (hj : j < 5), W.cell? ⟨b, o + i * 5 + j, none⟩ = some ((((List.range len).map g)[i]).vs[j]'(by simpa [Tm.vs] using hj)) := fun i hi j hj => by
        rw [hlen] at hi
        have := (hg i hi).1 j hj
        rw [Go.WideShapes.add_plain] at this
        simpa [Nat.add_assoc] using this
      refine ⟨(List.range len).map g, ⟨Or.inr ⟨b, o, cap, by rw [hlen], by rw [hlen]; exact hl, ⟨block_lt_of_cell ((hg 0 (by omega)).1 0 (by omega)), fun i hi => cell i hi 0 (by omega), fun i hi => cell i hi 1 (by omega), fun i hi => cell i hi 2 (by omega), fun i hi => cell i hi 3 (by omega), fun i hi => cell i hi 4 (by omega)⟩⟩⟩, ?_⟩
      intro t ht
      obtain ⟨i, hi, rfl⟩ := List.mem_map.1 ht
      exact (hg i (by simpa using hi)).2
/-- Lists of terms that come in, opened. -/
theorem asked_of {n : Nat} {v : Value} {x : DataW H × List MemPlace} (h : DataW.trod enc Tryz.prog W base spare held n 38 [v] = some x) : ∃ l : List (List Tm), As W v l ∧ ∀ y ∈ l, ∀ t ∈ y, I64 t.o ∧ I64 t.e := by
  rcases Go.Deep.open_slice1 Tryz.underlying38 cells40 h with ⟨hc, _⟩ | ⟨a, len, cap, m, k, V, D, Pl, hc, _, hl, _, hm, _, hall⟩
  · simp at hc; subst hc
    exact ⟨[], ⟨Or.inl ⟨rfl, _, _, rfl⟩⟩, by simp⟩
  · simp at hc; subst hc
    by_cases h0 : len = 0
    · subst h0; exact ⟨[], ⟨Or.inl ⟨rfl, _, _, rfl⟩⟩, by simp⟩
    · have hlm : len ≤ m := by rw [hm]; split <;> omega
      have get : ∀ i, i < len → ∃ y : List Tm, Ts W (V i) y ∧ ∀ t ∈ y, I64 t.o ∧ I64 t.e := fun i hi => terms_of (hall i (by omega)).2
      obtain ⟨g, hg⟩ := Go.Deep.choose_lt get
      obtain ⟨b, o, spot⟩ := a
      have hsp : spot = none := by simpa [Addr.add] using World.cell?_spot (hall 0 (by omega)).1
      subst hsp
      have hlen : ((List.range len).map g).length = len := by simp
      refine ⟨(List.range len).map g, ⟨Or.inr ⟨b, o, cap, by rw [hlen], by rw [hlen]; exact hl, ⟨block_lt_of_cell (hall 0 (by omega)).1, fun i hi => ?_⟩⟩⟩, ?_⟩
      · rw [hlen] at hi
        exact ⟨V i, by have := (hall i (by omega)).1; rwa [Go.WideShapes.add_plain] at this, by simpa using (hg i hi).1⟩
      · intro y hy
        obtain ⟨i, hi, rfl⟩ := List.mem_map.1 hy
        exact (hg i (by simpa using hi)).2
end
end Go.Proofs.YtlldfmnoidndmaaGreatDoor
