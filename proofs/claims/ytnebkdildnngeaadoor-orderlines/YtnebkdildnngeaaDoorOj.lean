/- Rings and Line. -/
import Derived.Test.YtnebkdildnngeaaDoorOi
namespace Go.Proofs.YtnebkdildnngeaaDoor
open Go.RowKit Go.Sort

theorem nb1 {w : World} {vs : List Value} (j : Nat) (v : Value) (h : vs[j]? = some v) (t : Nat) : (w.alloc (.cells vs.toArray t)).cell? ⟨w.heap.size, j, none⟩ = some v := by
  have e := nb0 w (.cells vs.toArray t)
  unfold World.cell?
  rw [e]
  simpa using h
theorem el_one {w : World} {A : Option Addr} {c : Nat} {l : List E} (h : Es w (.slice A l.length c) l) (t : Nat) : El (w.alloc (.cells #[.slice A l.length c] t)) w.heap.size [l] := by
  refine ⟨by simp, fun i hi => ?_⟩
  obtain rfl : i = 0 := by simpa using hi
  exact ⟨A, c, nb1 (vs := [.slice A l.length c]) 0 _ rfl t, h.on (bA1 w _)⟩
theorem el_two {w : World} {A A' : Option Addr} {c c' : Nat} {l l' : List E} (h : Es w (.slice A l.length c) l) (h' : Es w (.slice A' l'.length c') l') (t : Nat) : El (w.alloc (.cells #[.slice A l.length c, .slice A' l'.length c'] t)) w.heap.size [l, l'] := by
  refine ⟨by simp, fun i hi => ?_⟩
  have hi2 : i = 0 ∨ i = 1 := by simp at hi; omega
  rcases hi2 with rfl | rfl
  · exact ⟨A, c, nb1 (vs := [.slice A l.length c, .slice A' l'.length c']) 0 _ rfl t, h.on (bA1 w _)⟩
  · exact ⟨A', c', nb1 (vs := [.slice A l.length c, .slice A' l'.length c']) 1 _ rfl t, h'.on (bA1 w _)⟩
theorem rn40 {n : Nat} {l : List E} (h : Rn n l) (hn : n ≤ 40) : Rn 40 l := fun e he => by have := h e he; omega
theorem roL_ok {n : Nat} {l : List E} (h : roL n l = .ok) : Rn n l := by
  unfold roL at h
  cases e : l.findIdx? (bade n) with
  | none => exact rn_of e
  | some i => rw [e] at h; cases h
theorem ev_ok {W : World} {r : Ro} {v : Value} (h : Ev W r v) (hr : r = .ok) : v = .nilIface := by subst hr; exact h
theorem ev_no {W : World} {r : Ro} {v : Value} (h : Ev W r v) (hr : r ≠ .ok) : ∃ t u, v = .iface t u := by
  cases r with
  | ok => exact absurd rfl hr
  | lim => exact ⟨_, _, h⟩
  | «at» i => obtain ⟨q, h1, _⟩ := h; exact ⟨_, _, h1⟩
set_option maxHeartbeats 1600000 in
set_option maxRecDepth 100000 in
theorem Rings_ok (n : Nat) (A : Option Addr) (c : Nat) (l : List E) (w : World) (hn : n ≤ 40) (hl : l.length ≤ 1000000) (h : Es w (.slice A l.length c) l) (hr : roL n l = .ok) : Calls Tryd.prog 6 #[.int .i64 n, .slice A l.length c] w fun e w' => ∃ v, e = .returned (.tuple #[v, .nilIface]) ∧ Rl w' w.heap.size v (rgs (Om.cl n (et l)) n) ∧ Below w.heap.size w w' := by
  have cR := right_in n A c l w hn hl h
  have HE := Lib.hid h
  have HR := Lib.hid hr
  clear h hr
  go_enter Tryd.func6, Tryd.ntmps6
  go_wp2_with fail
  refine cR.mono ?_
  rintro e w1 ⟨v, rfl, hE, b1⟩
  obtain rfl := ev_ok hE HR.out
  have hEs := HE.out.on b1
  have cG := rings_any n w1.heap.size 1 [l] (w1.alloc (.cells #[.slice A l.length c] 33)) hn (el_one hEs 33) (by simp; exact rn40 (roL_ok HR.out) hn) (by simpa using hl) (by simp)
  rw [show ([l] : List (List E)).flatten = l by simp] at cG
  clear cR hE HE hEs
  go_wp2_with fail
  refine cG.mono ?_
  rintro e w2 ⟨v, rfl, hR, b2⟩
  have hR' := hR.low (show w.heap.size ≤ _ by rw [World.size_alloc]; have := b1.size; omega)
  have k2 := bon (bon b1 (bA1 w1 _)) b2
  obtain ⟨A2, c2, rfl⟩ := rl_sl hR
  clear cG hR b2 b1
  go_wp2
  go_ret2
  exact ⟨_, rfl, hR', k2⟩
set_option maxHeartbeats 1600000 in
set_option maxRecDepth 100000 in
theorem Rings_no (n : Int) (A : Option Addr) (c : Nat) (l : List E) (w : World) (hl : l.length ≤ 1000000) (h : Es w (.slice A l.length c) l) (hr : ro n l ≠ .ok) : Calls Tryd.prog 6 #[.int .i64 n, .slice A l.length c] w fun e w' => ∃ v, e = .returned (.tuple #[.slice none 0 0, v]) ∧ Ev w' (ro n l) v ∧ Below w.heap.size w w' := by
  have cR : Calls Tryd.prog 13 #[.int .i64 n, .slice A l.length c] w fun e w' => ∃ v, e = .returned v ∧ Ev w' (ro n l) v ∧ Below w.heap.size w w' := by
    by_cases hn : n < 0 ∨ 40 < n
    · refine (right_lim n _ w hn).mono ?_
      rintro e w' ⟨rfl, rfl⟩
      exact ⟨_, rfl, by unfold ro; rw [if_pos hn]; rfl, Below.refl _ _⟩
    · obtain ⟨k, rfl, hk⟩ := nat_of (z := n) (n := 41) (by omega) (by omega)
      have := right_in k A c l w (by omega) hl h
      rw [show roL k l = ro k l by unfold ro; rw [if_neg hn]] at this
      exact this
  generalize ro n l = r at cR hr ⊢
  clear h
  go_enter Tryd.func6, Tryd.ntmps6
  go_wp2_with fail
  refine cR.mono ?_
  rintro e w1 ⟨v, rfl, hE, b1⟩
  have HE := Lib.hid hE
  obtain ⟨t, u, rfl⟩ := ev_no hE hr
  clear cR hE
  go_wp2
  go_ret2
  exact ⟨_, rfl, HE.out, b1⟩
end Go.Proofs.YtnebkdildnngeaaDoor
