/- The walks of status.Next, status.May, and of the reference's Next. -/
import Derived.Test.YtoijkbhgajghdaaGreatDoorProg
import Derived.Test.YtoijkbhgajghdaaGreatDoorSq
namespace Go.Proofs.YtoijkbhgajghdaaGreatDoor
open Go.RowKit Go.Sort

/-- What comes of an event (the row) and a state (the column): -1 of none. -/
def otab : List Int := [0,0,0,0,0,0,0,0, 2,2,2,2,2,2,2,2, -1,-1,3,-1,-1,-1,-1,-1, -1,-1,-1,4,4,-1,-1,-1, -1,-1,-1,-1,7,-1,-1,-1, -1,-1,2,-1,4,-1,4,-1, -1,-1,2,2,2,2,2,2, -1,-1,1,-1,-1,-1,-1,-1, -1,0,0,-1,-1,-1,-1,-1, -1,-1,-1,-1,-1,5,6,6, -1,-1,-1,-1,-1,-1,7,-1]
def oc (k j : Nat) : Int := otab.getD (k * 8 + j) 0
/-- The table of outcomes, as it lies in memory. -/
structure Oc (W : World) : Prop where
  lt : 1 < W.heap.size
  c : ∀ i, i < 88 → W.cell? ⟨1, i, none⟩ = some (.int .i64 (otab.getD i 0))
theorem Oc.on {W w' : World} (h : Oc W) (k : Below W.heap.size W w') : Oc w' :=
  ⟨Nat.lt_of_lt_of_le h.lt k.size, fun i hi => by rw [k.cell (p := ⟨1, i, none⟩) h.lt]; exact h.c i hi⟩
/-- A state and an event that there are. -/
def inr (s e : Int) : Bool := decide (0 ≤ s) && decide (s ≤ 7) && decide (1 ≤ e) && decide (e ≤ 10)
/-- What comes of a state and an event: the state, and the error's number. -/
def nx (s e : Int) : Int × Int := if inr s e then (if oc e.toNat s.toNat = -1 then (0, 6) else (oc e.toNat s.toNat, 0)) else (0, 1)
def erv (c : Int) : Value := if c = 0 then .nilIface else .iface 40 (.int .i64 c)

theorem ret_nx {p q : Int × Int} (h : p = q) : Ending.returned (.tuple #[.int .i64 p.1, erv p.2]) = .returned (.tuple #[.int .i64 q.1, erv q.2]) := by rw [h]
theorem isst_any (n : Int) (w : World) : Calls Tryz.prog 87 #[.int .i64 n] w fun x w' => x = .returned (.bool (decide (0 ≤ n) && decide (n ≤ 7))) ∧ w' = w := by
  go_enter Tryz.func87, Tryz.ntmps87
  go_wp2
  all_goals go_ret
  all_goals exact ⟨ret_bool (by rw [Bool.eq_iff_iff]; simp; omega), rfl⟩
theorem in_any (n lo hi : Int) (w : World) : Calls Tryz.prog 42 #[.int .i64 n, .int .i64 lo, .int .i64 hi] w fun x w' => x = .returned (.bool (decide (lo ≤ n) && decide (n ≤ hi))) ∧ w' = w := by
  go_enter Tryz.func42, Tryz.ntmps42
  go_wp2
  all_goals go_ret
  all_goals exact ⟨ret_bool (by rw [Bool.eq_iff_iff]; simp; omega), rfl⟩
theorem inr_of {j k : Nat} (hk1 : 1 ≤ k) (hk : k ≤ 10) (hj : j ≤ 7) : inr j k = true := by unfold inr; simp; omega
theorem nx_no {j k : Nat} (hk1 : 1 ≤ k) (hk : k ≤ 10) (hj : j ≤ 7) (h : (oc k j == -1) = true) : ((0 : Int), (6 : Int)) = nx j k := by
  unfold nx; rw [if_pos (inr_of hk1 hk hj)]; rw [beq_iff_eq] at h; simp [h]
theorem nx_yes {j k : Nat} (hk1 : 1 ≤ k) (hk : k ≤ 10) (hj : j ≤ 7) (h : (oc k j == -1) = false) : (oc k j, (0 : Int)) = nx j k := by
  unfold nx; rw [if_pos (inr_of hk1 hk hj)]; simp at h; simp [h]

theorem next_in (k j : Nat) (hk1 : 1 ≤ k) (hk : k ≤ 10) (hj : j ≤ 7) (w : World) (h : Oc w) : Calls Tryz.prog 62 #[.int .i64 j, .int .i64 k] w fun x w' => x = .returned (.tuple #[.int .i64 (nx j k).1, erv (nx j k).2]) ∧ w' = w := by
  have hc := h.c (k * 8 + j) (by omega)
  have cS := fun W => isst_any (j : Int) W
  rw [show (decide (0 ≤ (j : Int)) && decide ((j : Int) ≤ 7)) = true by simp; omega] at cS
  obtain ⟨v, hv⟩ : ∃ v, oc k j = v := ⟨_, rfl⟩
  have hw : otab.getD (k * 8 + j) 0 = v := hv
  rw [hw] at hc
  clear hw
  cases hb : v == -1 with
  | true =>
    have HR := Lib.hid (nx_no hk1 hk hj (by rw [hv]; exact hb))
    clear hv h
    go_enter Tryz.func62, Tryz.ntmps62
    go_wp2_with (go_at_call 87; refine (cS _).mono ?_; rintro e w' ⟨rfl, rfl⟩)
    go_ret2
    exact ⟨ret_nx HR.out, rfl⟩
  | false =>
    have HR := Lib.hid ((congrArg (fun z => (z, (0 : Int))) hv).symm.trans (nx_yes hk1 hk hj (by rw [hv]; exact hb)))
    clear hv h
    go_enter Tryz.func62, Tryz.ntmps62
    go_wp2_with (go_at_call 87; refine (cS _).mono ?_; rintro e w' ⟨rfl, rfl⟩)
    go_ret2
    exact ⟨ret_nx HR.out, rfl⟩
theorem nx_out {s e : Int} (h : inr s e = false) : ((0 : Int), (1 : Int)) = nx s e := by unfold nx; rw [h]; rfl
theorem next_out (s e : Int) (h : inr s e = false) (w : World) : Calls Tryz.prog 62 #[.int .i64 s, .int .i64 e] w fun x w' => x = .returned (.tuple #[.int .i64 (nx s e).1, erv (nx s e).2]) ∧ w' = w := by
  have cS := fun W => isst_any s W
  have HR := Lib.hid (nx_out h)
  cases hs : (decide (0 ≤ s) && decide (s ≤ 7)) with
  | true =>
    rw [hs] at cS
    have he : e < 1 ∨ 10 < e := by unfold inr at h; rw [hs] at h; simp at h; omega
    clear h hs
    go_enter Tryz.func62, Tryz.ntmps62
    go_wp2_with (go_at_call 87; refine (cS _).mono ?_; rintro e w' ⟨rfl, rfl⟩)
    all_goals go_ret2
    all_goals exact ⟨ret_nx HR.out, rfl⟩
  | false =>
    rw [hs] at cS
    clear h hs
    go_enter Tryz.func62, Tryz.ntmps62
    go_wp2_with (go_at_call 87; refine (cS _).mono ?_; rintro e w' ⟨rfl, rfl⟩)
    go_ret2
    exact ⟨ret_nx HR.out, rfl⟩
theorem inr_true {s e : Int} (h : inr s e = true) : ∃ j k : Nat, s = j ∧ e = k ∧ 1 ≤ k ∧ k ≤ 10 ∧ j ≤ 7 := by
  unfold inr at h; simp at h; exact ⟨s.toNat, e.toNat, by omega, by omega, by omega, by omega, by omega⟩
theorem next_any (s e : Int) (w : World) (h : Oc w) : Calls Tryz.prog 62 #[.int .i64 s, .int .i64 e] w fun x w' => x = .returned (.tuple #[.int .i64 (nx s e).1, erv (nx s e).2]) ∧ w' = w := by
  cases hr : inr s e with
  | true => obtain ⟨j, k, rfl, rfl, h1, h2, h3⟩ := inr_true hr; exact next_in k j h1 h2 h3 w h
  | false => exact next_out s e hr w
/-- Whether it may be. -/
def mayB (s e : Int) : Bool := (nx s e).2 == 0
theorem may_any (s e : Int) (w : World) (h : Oc w) : Calls Tryz.prog 20 #[.int .i64 s, .int .i64 e] w fun x w' => x = .returned (.bool (mayB s e)) ∧ w' = w := by
  have cN := next_any s e w h
  unfold mayB
  obtain ⟨p, hp⟩ : ∃ p, nx s e = p := ⟨_, rfl⟩
  rw [hp] at cN ⊢
  clear hp
  by_cases h0 : p.2 = 0
  · rw [h0, show erv 0 = .nilIface from rfl] at cN
    rw [show (p.2 == 0) = true by rw [h0]; rfl]
    clear h0 h
    go_enter Tryz.func20, Tryz.ntmps20
    go_wp2_with (go_at_call 62; refine cN.mono ?_; rintro e w' ⟨rfl, rfl⟩)
    go_ret
    exact ⟨rfl, rfl⟩
  · rw [show erv p.2 = .iface 40 (.int .i64 p.2) from if_neg h0] at cN
    rw [show (p.2 == 0) = false from beq_eq_false_iff_ne.2 h0]
    clear h0 h
    go_enter Tryz.func20, Tryz.ntmps20
    go_wp2_with (go_at_call 62; refine cN.mono ?_; rintro e w' ⟨rfl, rfl⟩)
    go_ret
    exact ⟨rfl, rfl⟩

/-- The reference's table. -/
def rrow : Nat → List UInt8
  | 0 => [50, 50, 50, 50, 50, 50, 50, 50]
  | 1 => [45, 45, 51, 45, 45, 45, 45, 45]
  | 2 => [45, 45, 45, 52, 52, 45, 45, 45]
  | 3 => [45, 45, 45, 45, 55, 45, 45, 45]
  | 4 => [45, 45, 50, 45, 52, 45, 52, 45]
  | 5 => [45, 45, 50, 50, 50, 50, 50, 50]
  | 6 => [45, 45, 49, 45, 45, 45, 45, 45]
  | 7 => [45, 48, 48, 45, 45, 45, 45, 45]
  | 8 => [45, 45, 45, 45, 45, 53, 54, 54]
  | _ => [45, 45, 45, 45, 45, 45, 55, 45]
structure Rr (W : World) : Prop where
  lt : 2 < W.heap.size
  c : ∀ i, i < 10 → W.cell? ⟨2, i, none⟩ = some (.string ⟨(rrow i).toArray⟩)
theorem Rr.on {W w' : World} (h : Rr W) (k : Below W.heap.size W w') : Rr w' :=
  ⟨Nat.lt_of_lt_of_le h.lt k.size, fun i hi => by rw [k.cell (p := ⟨2, i, none⟩) h.lt]; exact h.c i hi⟩
theorem rrow_len (k : Nat) : (rrow k).length = 8 := by
  match k with
  | 0 | 1 | 2 | 3 | 4 | 5 | 6 | 7 | 8 | _ + 9 => rfl
theorem rrow_is : ∀ k, k < 10 → ∀ j, j < 8 → (((rrow k).getD j 0).toNat = 45 ∧ oc (k + 1) j = -1) ∨ (((rrow k).getD j 0).toNat ≠ 45 ∧ oc (k + 1) j ≠ -1 ∧ 48 ≤ ((rrow k).getD j 0).toNat ∧ oc (k + 1) j = ((((rrow k).getD j 0).toNat - 48 : Nat) : Int)) := by decide

theorem ret_nx2 {p q : Int × Int} (h : p = q) : Ending.returned (.tuple #[.int .i64 p.1, .int .i64 p.2]) = .returned (.tuple #[.int .i64 q.1, .int .i64 q.2]) := by rw [h]
theorem xnx_no {k j : Nat} {l : List UInt8} (hk : k < 10) (hj : j < 8) (hs : j < (ByteArray.mk l.toArray).size) (hI : ((l.getD j 0).toNat = 45 ∧ oc (k + 1) j = -1) ∨ ((l.getD j 0).toNat ≠ 45 ∧ oc (k + 1) j ≠ -1 ∧ 48 ≤ (l.getD j 0).toNat ∧ oc (k + 1) j = (((l.getD j 0).toNat - 48 : Nat) : Int))) (h : ((((ByteArray.mk l.toArray)[j]'hs).toNat : Int) == 45) = true) : ((0 : Int), (6 : Int)) = nx j ((k : Int) + 1) := by
  have e : l.getD j 0 = (ByteArray.mk l.toArray)[j]'hs := by rw [List.getD_eq_getElem?_getD, List.getElem?_eq_getElem (show j < l.length by simpa [ByteArray.size] using hs)]; rfl
  have h' : (l.getD j 0).toNat = 45 := by rw [e]; simp at h; omega
  exact nx_no (k := k + 1) (by omega) (by omega) (by omega) (by rcases hI with ⟨_, h2⟩ | ⟨h1, _⟩; · rw [h2]; rfl
                                                                · exact absurd h' h1)
theorem xnx_yes {k j : Nat} {l : List UInt8} (hk : k < 10) (hj : j < 8) (hs : j < (ByteArray.mk l.toArray).size) (hI : ((l.getD j 0).toNat = 45 ∧ oc (k + 1) j = -1) ∨ ((l.getD j 0).toNat ≠ 45 ∧ oc (k + 1) j ≠ -1 ∧ 48 ≤ (l.getD j 0).toNat ∧ oc (k + 1) j = (((l.getD j 0).toNat - 48 : Nat) : Int))) (h : ((((ByteArray.mk l.toArray)[j]'hs).toNat : Int) == 45) = false) : (((((ByteArray.mk l.toArray)[j]'hs).toNat : Int) - 48) % 256, (0 : Int)) = nx j ((k : Int) + 1) := by
  have e : l.getD j 0 = (ByteArray.mk l.toArray)[j]'hs := by rw [List.getD_eq_getElem?_getD, List.getElem?_eq_getElem (show j < l.length by simpa [ByteArray.size] using hs)]; rfl
  have hb := ((ByteArray.mk l.toArray)[j]'hs).toNat_lt
  rw [e] at hI
  generalize ((ByteArray.mk l.toArray)[j]'hs).toNat = n at h hI hb ⊢
  have h' : n ≠ 45 := by intro e; subst e; simp at h
  rcases hI with ⟨h1, _⟩ | ⟨_, h2, h3, h4⟩
  · exact absurd h1 h'
  · have := nx_yes (k := k + 1) (j := j) (by omega) (by omega) (by omega) (beq_eq_false_iff_ne.2 h2)
    rw [show ((n : Int) - 48) % 256 = oc (k + 1) j by rw [h4]; omega]
    exact this
theorem xnext_in (k j : Nat) (hk : k < 10) (hj : j < 8) (w : World) (h : Rr w) : Calls Tryz.prog 70 #[.int .i64 j, .int .i64 ((k : Int) + 1)] w fun x w' => x = .returned (.tuple #[.int .i64 (nx j ((k : Int) + 1)).1, .int .i64 (nx j ((k : Int) + 1)).2]) ∧ w' = w := by
  have hc := h.c k hk
  have cS := fun W => in_any (j : Int) 0 7 W
  rw [show (decide (0 ≤ (j : Int)) && decide ((j : Int) ≤ 7)) = true by simp; omega] at cS
  have cE := fun W => in_any ((k : Int) + 1) 1 10 W
  rw [show (decide (1 ≤ (k : Int) + 1) && decide ((k : Int) + 1 ≤ 10)) = true by simp; omega] at cE
  obtain ⟨l, hl⟩ : ∃ l, rrow k = l := ⟨_, rfl⟩
  have h8 := rrow_len k
  have hI := rrow_is k hk j hj
  rw [hl] at h8 hc hI
  have hs : j < (ByteArray.mk l.toArray).size := by show j < l.toArray.size; simp; omega
  have hjl : j < l.length := by omega
  go_enter Tryz.func70, Tryz.ntmps70
  go_wp2_with (go_at_call 42; (first | (with_reducible refine (cS _).mono ?_) | (with_reducible refine (cE _).mono ?_)); rintro e w' ⟨rfl, rfl⟩)
  · rename_i hb
    have HR := Lib.hid (xnx_no hk hj hs hI hb)
    go_ret2
    exact ⟨ret_nx2 HR.out, rfl⟩
  · rename_i hb
    have HR := Lib.hid (xnx_yes hk hj hs hI hb)
    go_ret2
    exact ⟨ret_nx2 HR.out, rfl⟩
theorem xnext_out (s e : Int) (h : inr s e = false) (w : World) : Calls Tryz.prog 70 #[.int .i64 s, .int .i64 e] w fun x w' => x = .returned (.tuple #[.int .i64 (nx s e).1, .int .i64 (nx s e).2]) ∧ w' = w := by
  have cS := fun W => in_any s 0 7 W
  have cE := fun W => in_any e 1 10 W
  have HR := Lib.hid (nx_out h)
  cases hs : (decide (0 ≤ s) && decide (s ≤ 7)) with
  | true =>
    rw [hs] at cS
    rw [show (decide (1 ≤ e) && decide (e ≤ 10)) = false by unfold inr at h; rw [hs] at h; simp at h ⊢; omega] at cE
    clear h hs
    go_enter Tryz.func70, Tryz.ntmps70
    go_wp2_with (go_at_call 42; (first | (with_reducible refine (cS _).mono ?_) | (with_reducible refine (cE _).mono ?_)); rintro e w' ⟨rfl, rfl⟩)
    go_ret2
    exact ⟨ret_nx2 HR.out, rfl⟩
  | false =>
    rw [hs] at cS
    clear h hs
    go_enter Tryz.func70, Tryz.ntmps70
    go_wp2_with (go_at_call 42; refine (cS _).mono ?_; rintro e w' ⟨rfl, rfl⟩)
    go_ret2
    exact ⟨ret_nx2 HR.out, rfl⟩
theorem xnext_any (s e : Int) (w : World) (h : Rr w) : Calls Tryz.prog 70 #[.int .i64 s, .int .i64 e] w fun x w' => x = .returned (.tuple #[.int .i64 (nx s e).1, .int .i64 (nx s e).2]) ∧ w' = w := by
  cases hr : inr s e with
  | true =>
    obtain ⟨j, k, rfl, rfl, h1, h2, h3⟩ := inr_true hr
    obtain ⟨k, rfl⟩ : ∃ k', k = k' + 1 := ⟨k - 1, by omega⟩
    exact xnext_in k j (by omega) (by omega) w h
  | false => exact xnext_out s e hr w
theorem xmay_any (s e : Int) (w : World) (h : Rr w) : Calls Tryz.prog 43 #[.int .i64 s, .int .i64 e] w fun x w' => x = .returned (.bool (mayB s e)) ∧ w' = w := by
  have cN := xnext_any s e w h
  unfold mayB
  obtain ⟨p, hp⟩ : ∃ p, nx s e = p := ⟨_, rfl⟩
  rw [hp] at cN ⊢
  clear hp h
  go_enter Tryz.func43, Tryz.ntmps43
  go_wp2_with (go_at_call 70; refine cN.mono ?_; rintro e w' ⟨rfl, rfl⟩)
  go_ret
  exact ⟨rfl, rfl⟩
end Go.Proofs.YtoijkbhgajghdaaGreatDoor
