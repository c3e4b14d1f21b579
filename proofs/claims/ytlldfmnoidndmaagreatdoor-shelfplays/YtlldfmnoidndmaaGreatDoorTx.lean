/- Small things that walks share. -/
import Derived.Test.YtlldfmnoidndmaaGreatDoorPr
import Derived.Test.YtlldfmnoidndmaaGreatDoorTq
import Derived.Test.YtlldfmnoidndmaaGreatDoorTr
namespace Go.Proofs.YtlldfmnoidndmaaGreatDoor
open Go.RowKit Go.Shelf Go.Sort

theorem bt2 {w w1 w2 : World} (h : Below w.heap.size w w1) (k : Below w1.heap.size w1 w2) : Below w.heap.size w w2 := h.trans (k.mono h.size)
abbrev Tab (w : World) : Prop := Lib.TabIs Tryz.prog w "internal/strconv.uint64pow10" .u64 Lib.pow10Tab
theorem tab_on {w w' : World} (h : Tab w) (k : Below w.heap.size w w') : Tab w' := Lib.tabBelow_of_tabIs h w' k
theorem bA1 (w : World) (A : Obj) : Below w.heap.size w (w.alloc A) := (Below.refl _ _).alloc (Nat.le_refl _) _
/-- A block of a term's five cells. -/
structure K5 (W : World) (g : Nat) (x0 x1 x2 x3 x4 : Value) : Prop where
  c0 : W.cell? ⟨g, 0, none⟩ = some x0
  c1 : W.cell? ⟨g, 1, none⟩ = some x1
  c2 : W.cell? ⟨g, 2, none⟩ = some x2
  c3 : W.cell? ⟨g, 3, none⟩ = some x3
  c4 : W.cell? ⟨g, 4, none⟩ = some x4
  f : ∀ j, W.frozen? ⟨g, j, none⟩ = false
  lt : g < W.heap.size
theorem K5.new (w : World) (x0 x1 x2 x3 x4 : Value) (t : TypeId) : K5 (w.alloc (.cells #[x0, x1, x2, x3, x4] t)) w.heap.size x0 x1 x2 x3 x4 :=
  ⟨by simp, by simp, by simp, by simp, by simp, by simp, by simp⟩
theorem K5.on {W w' : World} {g : Nat} {x0 x1 x2 x3 x4 : Value} (h : K5 W g x0 x1 x2 x3 x4) (b : Below W.heap.size W w') : K5 w' g x0 x1 x2 x3 x4 :=
  ⟨by rw [b.cell h.lt, h.c0], by rw [b.cell h.lt, h.c1], by rw [b.cell h.lt, h.c2], by rw [b.cell h.lt, h.c3], by rw [b.cell h.lt, h.c4], fun j => by rw [b.frozen h.lt, h.f j], Nat.lt_of_lt_of_le h.lt b.size⟩
theorem K5.far {W W' : World} {row : Option Nat} {g : Nat} {x0 x1 x2 x3 x4 : Value} (h : K5 W g x0 x1 x2 x3 x4) (hg : W.grownBy W' row) (hne : some g ≠ row) : K5 W' g x0 x1 x2 x3 x4 :=
  ⟨(World.cell?_of_block (hg.block g h.lt hne)).trans h.c0, (World.cell?_of_block (hg.block g h.lt hne)).trans h.c1, (World.cell?_of_block (hg.block g h.lt hne)).trans h.c2, (World.cell?_of_block (hg.block g h.lt hne)).trans h.c3, (World.cell?_of_block (hg.block g h.lt hne)).trans h.c4, fun j => (World.frozen?_of_block (hg.block g h.lt hne)).trans (h.f j), Nat.lt_of_lt_of_le h.lt hg.size⟩
theorem K5.other {W : World} {g : Nat} {x0 x1 x2 x3 x4 : Value} (h : K5 W g x0 x1 x2 x3 x4) {B : Nat} (hne : g ≠ B) (v : Value) : K5 (W.setCell ⟨B, 0, none⟩ v) g x0 x1 x2 x3 x4 := h.far (grownBy_setCell' W B v) (fun e => hne (by cases e; rfl))
theorem ko_below {W W' : World} (b : Below W.heap.size W W') : KeepsOthers W W' := ⟨b.size, fun k _ hk _ => (b.block k (Array.getElem?_eq_some_iff.1 hk).1).trans hk⟩
theorem kc_box {W W' : World} {B : Nat} {t : TypeId} {v : Value} (h : Boxed W B t v) (k : Kc W W') : Boxed W' B t v := k.2 _ _ _ _ h
end Go.Proofs.YtlldfmnoidndmaaGreatDoor
