/- The walks of writeFile, Builder.Len. -/
import Derived.Test.YtnnacfnbmpalbaaGreatDoorAe
namespace Go.Proofs.YtnnacfnbmpalbaaGreatDoor
open Go.RowKit Go.Shelf Go.Sort

set_option maxHeartbeats 800000 in
theorem bd_len (B b : Nat) (l : List UInt8) (w : World) (h : Bd B b l w) : Calls Tryz.prog 99 #[.pointer (some ⟨b, 0, none⟩)] w fun e w' => e = .returned (.int .i64 l.length) ∧ w' = w := by
  have key : ∃ v : Value, w.cell? ⟨b, 1, none⟩ = some v ∧ ∃ A c, v = .slice A l.length c := by
    have at' : ∀ p, Lib.BuilderAt 122 5 B b p (Lib.byteCells l) w → ∃ v : Value, w.cell? ⟨b, 1, none⟩ = some v ∧ ∃ A c, v = .slice A l.length c := by
      rintro p ⟨hB, v, hb, hown, hne⟩
      refine ⟨v, by simp [World.cell?, hb], ?_⟩
      have hl : (Lib.byteCells l).length = l.length := by simp [Lib.byteCells]
      rcases Go.Joins.ownsRow_forms hown with ⟨h1, h2⟩ | ⟨g, cap, h1⟩
      · exact ⟨none, 0, by rw [h1, show l.length = 0 from by omega]⟩
      · exact ⟨_, cap, by rw [h1, hl]⟩
    rcases h.is with h | h
    · exact at' _ h
    · exact at' _ h
  obtain ⟨v, c1, A, c, rfl⟩ := key
  clear h
  go_enter Tryz.func99, Tryz.ntmps99
  go_wp2
  go_ret
  exact ⟨rfl, rfl⟩
theorem itoa_len (n : Nat) (hn : n ≤ 1000000) : (Lib.itoa n).length ≤ 21 := Lib.itoa_length_le n (by omega) (by omega)
theorem itoa_any (n : Nat) (hn : n ≤ 1000000) (w : World) (hT : Tab w) : Calls Tryz.prog 94 #[.int .i64 n] w fun e w' => e = .returned (.string ⟨(Lib.itoa n).toArray⟩) ∧ Below w.heap.size w w' := by
  refine (Tryz.strconv_Itoa n (by omega) (by omega) w hT).mono ?_
  rintro e w' ⟨rfl, k, os, rfl⟩
  exact ⟨rfl, Lib.below_grow _ _ (Nat.le_refl _) k os⟩
/-- A block of a file, and a builder beside it. -/
structure Wf (w0 : World) (B b tb : Nat) (p d : List UInt8) (l : List UInt8) (W : World) : Prop where
  bd : Bd B b l W
  t : W.heap[tb]? = some (.cells #[.string ⟨p.toArray⟩, .string ⟨d.toArray⟩] 61 (0, 0))
  b : Below w0.heap.size w0 W
theorem Wf.step {w0 : World} {B b tb : Nat} {p d l l' : List UInt8} {W W' : World} (h : Wf w0 B b tb p d l W) (hne : tb ≠ b) (hB : w0.heap.size ≤ B) (h1 : Bd B b l' W') (h2 : Below B W W') (h3 : Lib.OthersKept 5 (some b) W W') : Wf w0 B b tb p d l' W' :=
  ⟨h1, ok_cell h3 h.t hne (by decide), h.b.trans (h2.mono hB)⟩
theorem Wf.on {w0 : World} {B b tb : Nat} {p d l : List UInt8} {W W' : World} (h : Wf w0 B b tb p d l W) (k : Below W.heap.size W W') : Wf w0 B b tb p d l W' :=
  ⟨h.bd.on k, (k.block tb (Array.getElem?_eq_some_iff.1 h.t).1).trans h.t, bt2 h.b k⟩
theorem Wf.c {w0 : World} {B b tb : Nat} {p d l : List UInt8} {W : World} (h : Wf w0 B b tb p d l W) : W.cell? ⟨tb, 0, none⟩ = some (.string ⟨p.toArray⟩) ∧ W.cell? ⟨tb, 1, none⟩ = some (.string ⟨d.toArray⟩) :=
  ⟨by simp [World.cell?, h.t], by simp [World.cell?, h.t]⟩
set_option maxHeartbeats 3200000 in
set_option maxRecDepth 100000 in
theorem wfile_any (B b : Nat) (p d l : List UInt8) (w0 w : World) (h : Bd B b l w) (hb : b < w.heap.size) (h0 : Below w0.heap.size w0 w) (hB : w0.heap.size ≤ B) (hl : l.length ≤ 500000) (hp : p.length ≤ 1000) (hd : d.length ≤ 4000) (hT : Tab w0) :
    Calls Tryz.prog 98 #[.pointer (some ⟨b, 0, none⟩), .agg #[.string ⟨p.toArray⟩, .string ⟨d.toArray⟩]] w fun e w' => e = .returned (.tuple #[]) ∧ Bd B b (l ++ fln (p, d)) w' ∧ Below B w w' ∧ Lib.OthersKept 5 (some b) w w' := by
  have hw : Wf w0 B b w.heap.size p d l (w.alloc (.cells #[.string ⟨p.toArray⟩, .string ⟨d.toArray⟩] 61)) := ⟨h.on (bA1 _ _), World.alloc_heap_new w _, bt2 h0 (bA1 _ _)⟩
  have hle := h.le
  obtain ⟨li, hli⟩ : ∃ li : List UInt8, li = Lib.itoa (d.length : Int) := ⟨_, rfl⟩
  have HW : Hid (fln (p, d) = p ++ [32] ++ li ++ [10] ++ d ++ [10]) := by show fln (p, d) = _; unfold fln; rw [hli]
  have hll : li.length ≤ 21 := by rw [hli]; exact itoa_len d.length (by omega)
  have cI : ∀ W, Below w0.heap.size w0 W → Calls Tryz.prog 94 #[.int .i64 d.length] W fun x w' => x = .returned (.string ⟨li.toArray⟩) ∧ Below W.heap.size W w' := fun W hW => by rw [hli]; exact itoa_any d.length (by omega) W (tab_on hT hW)
  have c1 := fun W (h : Bd B b l W) => bd_str B b l p W h (by omega) (by omega)
  have c2 := fun W (h : Bd B b (l ++ p) W) => bd_byte B b (l ++ p) 32 W h (by simp; omega)
  have c3 := fun W (h : Bd B b (l ++ p ++ [32]) W) => bd_str B b (l ++ p ++ [32]) li W h (by simp; omega) (by omega)
  have c4 := fun W (h : Bd B b (l ++ p ++ [32] ++ li) W) => bd_byte B b (l ++ p ++ [32] ++ li) 10 W h (by simp; omega)
  have c5' := fun W (h : Bd B b (l ++ p ++ [32] ++ li ++ [10]) W) => bd_str B b (l ++ p ++ [32] ++ li ++ [10]) d W h (by simp; omega) (by omega)
  have c6 := fun W (h : Bd B b (l ++ p ++ [32] ++ li ++ [10] ++ d) W) => bd_byte B b (l ++ p ++ [32] ++ li ++ [10] ++ d) 10 W h (by simp; omega)
  have hne : w.heap.size ≠ b := by omega
  clear h hT hli
  go_enter Tryz.func98, Tryz.ntmps98
  go_wp2_with fail
  refine (c1 _ hw.bd).mono ?_
  rintro x w1 ⟨rfl, d1, b1, k1⟩
  have hw1 := hw.step hne hB d1 b1 k1
  go_wp2_with fail
  refine (c2 _ d1).mono ?_
  rintro x w2 ⟨rfl, d2, b2, k2⟩
  have hw2 := hw1.step hne hB d2 b2 k2
  obtain ⟨t0, t1⟩ := hw2.c
  go_wp2_with fail
  refine (cI _ hw2.b).mono ?_
  rintro x w3 ⟨rfl, b3⟩
  have hw3 := hw2.on b3
  clear t0 t1
  go_wp2_with fail
  refine (c3 _ hw3.bd).mono ?_
  rintro x w4 ⟨rfl, d4, b4, k4⟩
  have hw4 := hw3.step hne hB d4 b4 k4
  go_wp2_with fail
  refine (c4 _ d4).mono ?_
  rintro x w5 ⟨rfl, d5, b5, k5⟩
  have hw5 := hw4.step hne hB d5 b5 k5
  obtain ⟨t0, t1⟩ := hw5.c
  go_wp2_with fail
  refine (c5' _ d5).mono ?_
  rintro x w6 ⟨rfl, d6, b6, k6⟩
  have hw6 := hw5.step hne hB d6 b6 k6
  clear t0 t1
  go_wp2_with fail
  refine (c6 _ d6).mono ?_
  rintro x w7 ⟨rfl, d7, b7, k7⟩
  have e1 : Below B w w7 := (((((((Below.refl _ w).alloc hle _).trans b1).trans b2).trans (b3.mono hw2.bd.le)).trans b4).trans b5).trans (b6.trans b7)
  have e2 : Lib.OthersKept 5 (some b) w w7 := ok_trans (ok_trans (ok_trans (ok_trans (ok_trans (ok_trans (ok_trans (ok_below (bA1 _ _)) k1) k2) (ok_below b3)) k4) k5) k6) k7
  go_wp2
  go_end0
  exact ⟨rfl, by rw [HW.out]; simpa [List.append_assoc] using d7, e1, e2⟩
end Go.Proofs.YtnnacfnbmpalbaaGreatDoor
