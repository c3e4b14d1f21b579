/- The walk of depend's writeTerm. -/
import Derived.Test.YtglfdipepofcjabDoorUc
import Derived.Test.YtglfdipepofcjabDoorBu
namespace Go.Proofs.YtglfdipepofcjabDoor
open Go.RowKit Go.Shelf Go.Sort

/-- How a term is written. -/
def wrT (t : Tm) : List UInt8 := if t.o = 0 then t.n else t.n ++ [32, 40] ++ sgt t.o.toNat ++ [32] ++ Vm.pt t.e t.u t.r ++ [41]
/-- A block of a term, and a builder beside it. -/
structure Wt (w0 : World) (B b tb : Nat) (t : Tm) (l : List UInt8) (W : World) : Prop where
  bd : Bd B b l W
  t : W.heap[tb]? = some (.cells #[.string ⟨t.n.toArray⟩, .int .i64 t.o, .int .i64 t.e, .string ⟨t.u.toArray⟩, .string ⟨t.r.toArray⟩] 68 (0, 0))
  b : Below w0.heap.size w0 W
theorem Wt.step {w0 : World} {B b tb : Nat} {t : Tm} {l l' : List UInt8} {W W' : World} (h : Wt w0 B b tb t l W) (hne : tb ≠ b) (hB : w0.heap.size ≤ B) (h1 : Bd B b l' W') (h2 : Below B W W') (h3 : Lib.OthersKept 5 (some b) W W') : Wt w0 B b tb t l' W' :=
  ⟨h1, ok_cell h3 h.t hne (by decide), h.b.trans (h2.mono hB)⟩
theorem Wt.on {w0 : World} {B b tb : Nat} {t : Tm} {l : List UInt8} {W W' : World} (h : Wt w0 B b tb t l W) (k : Below W.heap.size W W') : Wt w0 B b tb t l W' :=
  ⟨h.bd.on k, (k.block tb (Array.getElem?_eq_some_iff.1 h.t).1).trans h.t, bt2 h.b k⟩
theorem ok_trans {a : Nat} {b : Option Nat} {A B C : World} (h : Lib.OthersKept a b A B) (k : Lib.OthersKept a b B C) : Lib.OthersKept a b A C := fun x o hx h1 h2 => k x o (h x o hx h1 h2) h1 h2
theorem ok_below {a : Nat} {b : Option Nat} {A B : World} (h : Below A.heap.size A B) : Lib.OthersKept a b A B := fun x _ hx _ _ => (h.block x (Array.getElem?_eq_some_iff.1 hx).1).trans hx

set_option maxHeartbeats 1600000 in
set_option maxRecDepth 100000 in
theorem wterm_bare (B b : Nat) (t : Tm) (l : List UInt8) (w0 w : World) (h : Bd B b l w) (hb : b < w.heap.size) (h0 : Below w0.heap.size w0 w) (hB : w0.heap.size ≤ B) (hl : l.length ≤ 500000) (hn : t.n.length ≤ 1000) (ho : t.o = 0) :
    Calls Tryd.prog 50 #[.pointer (some ⟨b, 0, none⟩), tmv t] w fun e w' => e = .returned (.tuple #[]) ∧ Bd B b (l ++ wrT t) w' ∧ Below B w w' ∧ Lib.OthersKept 5 (some b) w w' := by
  have hw : Wt w0 B b w.heap.size t l (w.alloc (.cells #[.string ⟨t.n.toArray⟩, .int .i64 t.o, .int .i64 t.e, .string ⟨t.u.toArray⟩, .string ⟨t.r.toArray⟩] 68)) := ⟨h.on (bA1 _ _), World.alloc_heap_new w _, bt2 h0 (bA1 _ _)⟩
  have hle := h.le
  have HW : Hid (wrT t = t.n) := by show wrT t = t.n; unfold wrT; rw [if_pos ho]
  have c1 := fun W (h : Bd B b l W) => bd_str B b l t.n W h (by omega) (by omega)
  have hne : w.heap.size ≠ b := by omega
  clear h
  unfold tmv
  rw [ho] at hw ⊢
  go_enter Tryd.func50, Tryd.ntmps50
  go_wp2_with fail
  refine (c1 _ hw.bd).mono ?_
  rintro x w1 ⟨rfl, d1, b1, k1⟩
  have hw1 := hw.step hne hB d1 b1 k1
  obtain ⟨t0, t1, t2, t3, t4, tf, tl⟩ := K5.of hw1.t
  go_wp2
  refine bodyPost_ret (results_none rfl _ _ _) rfl ⟨rfl, by rw [HW.out]; exact d1, ((Below.refl _ w).alloc hle _).trans b1, ok_trans (ok_below (bA1 _ _)) k1⟩

set_option maxHeartbeats 3200000 in
set_option maxRecDepth 100000 in
theorem wterm_op (B b : Nat) (t : Tm) (l : List UInt8) (w0 w : World) (h : Bd B b l w) (hb : b < w.heap.size) (h0 : Below w0.heap.size w0 w) (hB : w0.heap.size ≤ B) (hl : l.length ≤ 500000) (hn : t.n.length ≤ 1000) (k : Nat) (ho : t.o = (k : Int)) (hk0 : 1 ≤ k) (hk6 : k < 6) (hS : Shn t) (hp : (Vm.pt t.e t.u t.r).length ≤ 1000) (hG : Sg w0) (hT : Tab w0) :
    Calls Tryd.prog 50 #[.pointer (some ⟨b, 0, none⟩), tmv t] w fun e w' => e = .returned (.tuple #[]) ∧ Bd B b (l ++ wrT t) w' ∧ Below B w w' ∧ Lib.OthersKept 5 (some b) w w' := by
  have hw : Wt w0 B b w.heap.size t l (w.alloc (.cells #[.string ⟨t.n.toArray⟩, .int .i64 t.o, .int .i64 t.e, .string ⟨t.u.toArray⟩, .string ⟨t.r.toArray⟩] 68)) := ⟨h.on (bA1 _ _), World.alloc_heap_new w _, bt2 h0 (bA1 _ _)⟩
  have hle := h.le
  obtain ⟨pt, hpt⟩ : ∃ pt, pt = Vm.pt t.e t.u t.r := ⟨_, rfl⟩
  obtain ⟨sg, hsg⟩ : ∃ sg, sg = sgt k := ⟨_, rfl⟩
  have hsl : sg.length ≤ 2 := by
    subst hsg
    match k, hk0, hk6 with
    | 1, _, _ => decide
    | 2, _, _ => decide
    | 3, _, _ => decide
    | 4, _, _ => decide
    | 5, _, _ => decide
  have HW : Hid (wrT t = t.n ++ [32, 40] ++ sg ++ [32] ++ pt ++ [41]) := by show wrT t = _; unfold wrT; rw [if_neg (by omega), ho, hpt, hsg]; rfl
  have hg : ∀ W, Below w0.heap.size w0 W → W.cell? ⟨0, k, none⟩ = some (.string ⟨sg.toArray⟩) := fun W hW => by rw [hsg]; exact (hG.on hW).c k hk6
  have cP : ∀ W, Below w0.heap.size w0 W → Calls Tryd.prog 93 #[.agg #[.int .i64 t.e, .string ⟨t.u.toArray⟩, .string ⟨t.r.toArray⟩]] W fun x w' => x = .returned (.string ⟨pt.toArray⟩) ∧ Below W.heap.size W w' := fun W hW => by rw [hpt]; exact print_any t.e t.u t.r W hS.e0 hS.e1 hS.u hS.r (tab_on hT hW)
  rw [← hpt] at hp
  have c1 := fun W (h : Bd B b l W) => bd_str B b l t.n W h (by omega) (by omega)
  have c2 := fun W (h : Bd B b (l ++ t.n) W) => bd_str B b (l ++ t.n) [32, 40] W h (by simp; omega) (by simp)
  have c3 := fun W (h : Bd B b (l ++ t.n ++ [32, 40]) W) => bd_str B b (l ++ t.n ++ [32, 40]) sg W h (by simp; omega) (by omega)
  have c4 := fun W (h : Bd B b (l ++ t.n ++ [32, 40] ++ sg) W) => bd_byte B b (l ++ t.n ++ [32, 40] ++ sg) 32 W h (by simp; omega)
  have c5' := fun W (h : Bd B b (l ++ t.n ++ [32, 40] ++ sg ++ [32]) W) => bd_str B b (l ++ t.n ++ [32, 40] ++ sg ++ [32]) pt W h (by simp; omega) (by omega)
  have c6 := fun W (h : Bd B b (l ++ t.n ++ [32, 40] ++ sg ++ [32] ++ pt) W) => bd_byte B b (l ++ t.n ++ [32, 40] ++ sg ++ [32] ++ pt) 41 W h (by simp; omega)
  have hne : w.heap.size ≠ b := by omega
  have hk0' : ¬ (k : Int) = 0 := by omega
  have hk1' : (0 : Int) ≤ (k : Int) := by omega
  have hk6' : (k : Int) < 6 := by omega
  clear h hG hT hpt hsg hS
  unfold tmv
  rw [ho]
  have ht := hw.t
  go_enter Tryd.func50, Tryd.ntmps50
  go_wp2_with fail
  rw [← ho]
  refine (c1 _ hw.bd).mono ?_
  rintro x w1 ⟨rfl, d1, b1, k1⟩
  have hw1 := hw.step hne hB d1 b1 k1
  have K1 := K5.of hw1.t
  rw [ho] at K1
  obtain ⟨t0, t1, t2, t3, t4, tf, tl⟩ := K1
  go_wp2_with fail
  refine (c2 _ d1).mono ?_
  rintro x w2 ⟨rfl, d2, b2, k2⟩
  have hw2 := hw1.step hne hB d2 b2 k2
  have K2 := K5.of hw2.t
  rw [ho] at K2
  clear t0 t1 t2 t3 t4 tf tl
  obtain ⟨t0, t1, t2, t3, t4, tf, tl⟩ := K2
  have g2 := hg w2 hw2.b
  go_wp2_with fail
  refine (c3 _ d2).mono ?_
  rintro x w3 ⟨rfl, d3, b3, k3⟩
  have hw3 := hw2.step hne hB d3 b3 k3
  clear t0 t1 t2 t3 t4 tf tl g2
  go_wp2_with fail
  refine (c4 _ d3).mono ?_
  rintro x w4 ⟨rfl, d4, b4, k4⟩
  have hw4 := hw3.step hne hB d4 b4 k4
  have K4 := K5.of hw4.t
  rw [ho] at K4
  obtain ⟨t0, t1, t2, t3, t4, tf, tl⟩ := K4
  go_wp2_with fail
  refine (cP _ hw4.b).mono ?_
  rintro x w5 ⟨rfl, b5⟩
  have hw5 := hw4.on b5
  clear t0 t1 t2 t3 t4 tf tl
  go_wp2_with fail
  refine (c5' _ hw5.bd).mono ?_
  rintro x w6 ⟨rfl, d6, b6, k6⟩
  have hw6 := hw5.step hne hB d6 b6 k6
  go_wp2_with fail
  refine (c6 _ d6).mono ?_
  rintro x w7 ⟨rfl, d7, b7, k7⟩
  have e1 : Below B w w7 := (((((((Below.refl _ w).alloc hle _).trans b1).trans b2).trans b3).trans b4).trans (b5.mono hw4.bd.le)).trans (b6.trans b7)
  have e2 : Lib.OthersKept 5 (some b) w w7 := ok_trans (ok_trans (ok_trans (ok_trans (ok_trans (ok_trans (ok_trans (ok_below (bA1 _ _)) k1) k2) k3) k4) (ok_below b5)) k6) k7
  go_wp2
  go_end0
  exact ⟨rfl, by rw [HW.out]; simpa [List.append_assoc] using d7, e1, e2⟩

/-- A term that may be is written. -/
theorem wterm_any (B b : Nat) (t : Tm) (l : List UInt8) (w0 w : World) (h : Bd B b l w) (hb : b < w.heap.size) (h0 : Below w0.heap.size w0 w) (hB : w0.heap.size ≤ B) (hl : l.length ≤ 500000) (hk : tok t = true) (hS : Shn t) (hG : Sg w0) (hT : Tab w0) :
    Calls Tryd.prog 50 #[.pointer (some ⟨b, 0, none⟩), tmv t] w fun e w' => e = .returned (.tuple #[]) ∧ Bd B b (l ++ wrT t) w' ∧ Below B w w' ∧ Lib.OthersKept 5 (some b) w w' := by
  unfold tok at hk
  rw [Bool.and_eq_true] at hk
  have hn : t.n.length ≤ 1000 := by
    have := hk.1
    unfold nmo at this
    simp only [Bool.and_eq_true, decide_eq_true_eq] at this
    omega
  by_cases ho : t.o = 0
  · exact wterm_bare B b t l w0 w h hb h0 hB hl hn ho
  · have h2 := hk.2
    rw [if_neg ho] at h2
    simp only [Bool.and_eq_true, decide_eq_true_eq] at h2
    have hp := (Vm.rt_parts h2.2.2).2.2.2.2.1
    exact wterm_op B b t l w0 w h hb h0 hB hl hn t.o.toNat (by omega) (by omega) (by omega) hS (by omega) hG hT

end Go.Proofs.YtglfdipepofcjabDoor
