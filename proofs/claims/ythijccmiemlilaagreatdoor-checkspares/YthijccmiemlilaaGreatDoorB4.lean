/- The reference's word on edges. -/
import Derived.Test.YthijccmiemlilaaGreatDoorB3
import Derived.Test.YthijccmiemlilaaGreatDoorA5
import Derived.Deep.OwnRows
namespace Go.Proofs.YthijccmiemlilaaGreatDoor.Ord
open Go.RowKit Go.Sort

/-- The variable Fine. -/
structure Fi (W : World) : Prop where
  c0 : W.cell? ⟨0, 0, none⟩ = some (.int .i64 0)
  c1 : W.cell? ⟨0, 1, none⟩ = some (.int .i64 (-1))
theorem Fi.on {W W' : World} (h : Fi W) (k : Below W.heap.size W W') : Fi W' := ⟨(k.cell (block_lt_of_cell h.c0)).trans h.c0, (k.cell (block_lt_of_cell h.c1)).trans h.c1⟩
def fau : Ro → Int × Int
  | .ok => (0, -1)
  | .lim => (4, -1)
  | .at i => (2, i)
abbrev fv (r : Ro) : Value := .agg #[.int .i64 (fau r).1, .int .i64 (fau r).2]
theorem in_any (n lo hi : Int) (w : World) : Calls Tryz.prog 42 #[.int .i64 n, .int .i64 lo, .int .i64 hi] w fun x w' => x = .returned (.bool (decide (lo ≤ n) && decide (n ≤ hi))) ∧ w' = w := by
  go_enter Tryz.func42, Tryz.ntmps42
  go_wp2
  all_goals go_ret
  all_goals exact ⟨retb (by rw [Bool.eq_iff_iff]; simp; omega), rfl⟩
/-- Two cells that are written whole. -/
structure K2 (W : World) (g : Nat) : Prop where
  lt : g < W.heap.size
  c0 : W.cell? ⟨g, 0, none⟩ = some (.int .i64 0)
  c1 : W.cell? ⟨g, 1, none⟩ = some (.int .i64 0)
  f0 : W.frozen? ⟨g, 0, none⟩ = false
  f1 : W.frozen? ⟨g, 1, none⟩ = false
theorem K2.on {W w' : World} {g : Nat} (h : K2 W g) (k : Below W.heap.size W w') : K2 w' g :=
  ⟨Nat.lt_of_lt_of_le h.lt k.size, by rw [k.cell h.lt]; exact h.c0, by rw [k.cell h.lt]; exact h.c1, by rw [k.frozen h.lt]; exact h.f0, by rw [k.frozen h.lt]; exact h.f1⟩
theorem k2_new (w : World) : K2 (w.alloc (.cells #[.int .i64 0, .int .i64 0] 42)) w.heap.size := ⟨by simp, by simp, by simp, by simp, by simp⟩
set_option maxHeartbeats 1600000 in
set_option maxRecDepth 100000 in
theorem redges_lim (n : Int) (A : Option Addr) (m c : Nat) (w : World) (hn : n < 0 ∨ 40 < n) : Calls Tryz.prog 80 #[.int .i64 n, .slice A m c] w fun e w' => e = .returned (fv .lim) ∧ Below w.heap.size w w' := by
  have b0 := bA1 w (.cells #[.int .i64 0, .int .i64 0] 42)
  have K0 := Lib.hid (k2_new w)
  have cI := fun W => in_any n 0 40 W
  rw [show (decide (0 ≤ n) && decide (n ≤ 40)) = false by rcases hn with h | h <;> simp <;> omega] at cI
  have cB := fun W => bareF_any 4 W
  clear hn
  go_enter Tryz.func80, Tryz.ntmps80
  go_wp2_with fail
  refine (cI _).mono ?_
  rintro e w1 ⟨rfl, rfl⟩
  go_wp2_with fail
  refine (cB _).mono ?_
  rintro e w2 ⟨rfl, b2⟩
  obtain ⟨kl, q0, q1, f0, f1⟩ := K0.out.on b2
  have k2 := bon b0 b2
  clear cI cB K0
  go_wp2_with fail
  exact bodyPost_ret (v := fv .lim) (by simp [results, Tryz.results80, go_sem, q0, q1, fau]) rfl ⟨rfl, (k2.setCell (Nat.le_refl _) _).setCell (Nat.le_refl _) _⟩
set_option maxHeartbeats 1600000 in
set_option maxRecDepth 100000 in
theorem redges_in (n : Nat) (A : Option Addr) (c : Nat) (l : List E) (w : World) (hn : n ≤ 40) (hl : l.length ≤ 1000000) (h : Es w (.slice A l.length c) l) (hF : Fi w) : Calls Tryz.prog 80 #[.int .i64 n, .slice A l.length c] w fun e w' => e = .returned (fv (roL n l)) ∧ Below w.heap.size w w' := by
  obtain ⟨r, hr⟩ : ∃ r, r = roL n l := ⟨_, rfl⟩
  have HR := Lib.hid hr
  rw [← hr]
  have b0 := bA1 w (.cells #[.int .i64 0, .int .i64 0] 42)
  have K0 := Lib.hid (k2_new w)
  have HE := Lib.hid h
  have HFi := Lib.hid hF
  have HB0 := Lib.hid b0
  have cI := fun W => in_any n 0 40 W
  rw [show (decide (0 ≤ (n : Int)) && decide ((n : Int) ≤ 40)) = true by simp; omega] at cI
  clear hr h hF b0
  go_enter Tryz.func80, Tryz.ntmps80
  go_wp2_with fail
  refine (cI _).mono ?_
  rintro e w1 ⟨rfl, rfl⟩
  clear cI
  go_wp2
  go_loopw [13] (fun i W => ∃ k : Nat, k ≤ l.length ∧ i = .int .i64 k ∧ Hid (Below w.heap.size w W) ∧ Hid (K2 W w.heap.size) ∧ Hid (∀ j (hj : j < l.length), j < k → bade n l[j] = false)) (fun i _ => l.length - (intOf i).toNat)
  case atStart => exact ⟨0, Nat.zero_le _, rfl, HB0, K0, fun j _ h => absurd h (Nat.not_lt_zero _)⟩
  case round =>
    obtain ⟨k, hk, rfl, HW, HK, HP⟩ := hrel
    by_cases hlt : k < l.length
    · obtain ⟨b, o, rfl, hEr⟩ := es_row (HE.out.on HW.out) (by omega)
      have c0 := hEr.c0 k hlt
      have c1 := hEr.c1 k hlt
      have HB : Hid (bade n l[k] = true → r = .at k) := fun h => by rw [HR.out]; unfold roL; rw [fi_yes k hlt h (fun j hj hjk => HP.out j hj hjk)]
      have HN : Hid (bade n l[k] = false → ∀ j (hj : j < l.length), j < k + 1 → bade n l[j] = false) := fun h j hj hjk => by
        by_cases e : j = k
        · subst e; exact h
        · exact HP.out j hj (by omega)
      generalize l[k] = e at c0 c1 HB HN
      obtain ⟨x, y⟩ := e
      dsimp only at c0 c1
      have b1 := bA1 wr (.cells #[.int .i64 x, .int .i64 y] 107)
      have HW1 := Lib.hid (bon HW.out b1)
      have HK1 := Lib.hid (HK.out.on b1)
      have cX := fun W => in_any x 0 ((n : Int) - 1) W
      have cY := fun W => in_any y 0 ((n : Int) - 1) W
      clear hEr HW HK b1
      cases hx : (decide (0 ≤ x) && decide (x ≤ (n : Int) - 1)) with
      | false =>
        rw [hx] at cX
        have hr2 : r = .at k := HB.out (by unfold bade; simp at hx ⊢; omega)
        obtain ⟨kl, q0, q1, f0, f1⟩ := HK1.out
        subst hr2
        clear HB HN hx cY
        go_wp2_with fail
        refine (cX _).mono ?_
        rintro e w2 ⟨rfl, rfl⟩
        go_wp2_with fail
        exact bodyPost_ret (v := fv (.at k)) (by simp [results, Tryz.results80, go_sem, q0, q1, fau]) rfl ⟨rfl, (HW1.out.setCell (Nat.le_refl _) _).setCell (Nat.le_refl _) _⟩
      | true =>
        rw [hx] at cX
        cases hy : (decide (0 ≤ y) && decide (y ≤ (n : Int) - 1)) with
        | false =>
          rw [hy] at cY
          have hr2 : r = .at k := HB.out (by unfold bade; simp at hy ⊢; omega)
          obtain ⟨kl, q0, q1, f0, f1⟩ := HK1.out
          subst hr2
          clear HB HN hx hy
          go_wp2_with fail
          refine (cX _).mono ?_
          rintro e w2 ⟨rfl, rfl⟩
          go_wp2_with fail
          refine (cY _).mono ?_
          rintro e w2 ⟨rfl, rfl⟩
          go_wp2_with fail
          exact bodyPost_ret (v := fv (.at k)) (by simp [results, Tryz.results80, go_sem, q0, q1, fau]) rfl ⟨rfl, (HW1.out.setCell (Nat.le_refl _) _).setCell (Nat.le_refl _) _⟩
        | true =>
          rw [hy] at cY
          have HN2 := Lib.hid (HN.out (by unfold bade; simp at hx hy ⊢; omega))
          clear HB HN hx hy
          go_wp2_with fail
          refine (cX _).mono ?_
          rintro e w2 ⟨rfl, rfl⟩
          go_wp2_with fail
          refine (cY _).mono ?_
          rintro e w2 ⟨rfl, rfl⟩
          go_wp2_with fail
          exact ⟨⟨k + 1, hlt, by go_num, HW1, HK1, HN2.out⟩, by simp [intOf]; omega⟩
    · have hr2 : r = .ok := by rw [HR.out]; unfold roL; rw [fi_no (fun j hj => HP.out j hj (by omega))]
      subst hr2
      obtain ⟨kl, q0, q1, f0, f1⟩ := HK.out
      have g0 := (HFi.out.on HW.out).c0
      have g1 := (HFi.out.on HW.out).c1
      go_wp2_with fail
      exact bodyPost_ret (v := fv .ok) (by simp [results, Tryz.results80, go_sem, q0, q1, fau]) rfl ⟨rfl, (HW.out.setCell (Nat.le_refl _) _).setCell (Nat.le_refl _) _⟩
end Go.Proofs.YthijccmiemlilaaGreatDoor.Ord
namespace Go.Proofs.YthijccmiemlilaaGreatDoor.Ord
open Go.RowKit Go.Sort

theorem info46 : (Tryz.prog.info? 92).map (fun i => (i.zero, i.size, i.bytes)) = some (some (.slice none 0 0), 1, 24) := by kernel_rfl
theorem info4 : (Tryz.prog.info? 4).map (fun i => (i.zero, i.size, i.bytes)) = some (some (.bool false), 1, 1) := by kernel_rfl
theorem mk45 (n : Nat) (hn : n ≤ 40) (W : World) : (Instr.makeSlice 178 (.int .i64 (n : Int)) (.int .i64 (n : Int))).run Tryz.prog W = .ok (.slice (some ⟨W.heap.size, 0, none⟩) n n) (W.alloc (.cells (madeCells #[.slice none 0 0] n) 92)) :=
  run_make_row' 178 92 (.slice none 0 0) 24 Tryz.underlying178 info46 rfl .i64 .i64 n (by omega) (by omega) W
theorem mk46 (n : Nat) (hn : n ≤ 40) (W : World) : (Instr.makeSlice 92 (.int .i64 (n : Int)) (.int .i64 (n : Int))).run Tryz.prog W = .ok (.slice (some ⟨W.heap.size, 0, none⟩) n n) (W.alloc (.cells (madeCells #[.bool false] n) 4)) :=
  run_make_row' 92 4 (.bool false) 1 Tryz.underlying92 info4 rfl .i64 .i64 n (by omega) (by omega) W
theorem row_on {W W' : World} {b t n : Nat} {f : Nat → Value} (h : W.rowIs b t n f) (k : Below W.heap.size W W') : W'.rowIs b t n f := h.of_block (k.block b h.lt)
theorem row_kp {W W' : World} {b t n : Nat} {f : Nat → Value} {S : Nat → Prop} (h : W.rowIs b t n f) (k : Kp S W W') (hs : ¬ S b) : W'.rowIs b t n f := h.of_block (k.block b h.lt hs)
/-- The first k rows of a square. -/
structure Mo (W : World) (B ob n k : Nat) (rb : Nat → Nat) (M : Om.T) : Prop where
  o : ∃ f, W.rowIs ob 92 n f ∧ ∀ i, i < k → f i = .slice (some ⟨rb i, 0, none⟩) n n
  r : ∀ i, i < k → W.rowIs (rb i) 4 n (fun j => .bool (M i j))
  bo : B ≤ ob
  br : ∀ i, i < k → B ≤ rb i ∧ rb i ≠ ob
  inj : ∀ i j, i < k → j < k → rb i = rb j → i = j
section
variable {W W' : World} {B ob n k : Nat} {rb : Nat → Nat} {M N : Om.T}
theorem Mo.on (h : Mo W B ob n k rb M) (b : Below W.heap.size W W') : Mo W' B ob n k rb M := by
  obtain ⟨f, h1, h2⟩ := h.o
  exact ⟨⟨f, row_on h1 b, h2⟩, fun i hi => row_on (h.r i hi) b, h.bo, h.br, h.inj⟩
theorem Mo.kp {S : Nat → Prop} (h : Mo W B ob n k rb M) (b : Kp S W W') (hs : ∀ j, S j → j ≠ ob ∧ ∀ i, i < k → j ≠ rb i) : Mo W' B ob n k rb M := by
  obtain ⟨f, h1, h2⟩ := h.o
  exact ⟨⟨f, row_kp h1 b (fun e => (hs ob e).1 rfl), h2⟩, fun i hi => row_kp (h.r i hi) b (fun e => (hs _ e).2 i hi rfl), h.bo, h.br, h.inj⟩
theorem Mo.drew (h : Mo W B ob n k rb M) : Mo W.drew B ob n k rb M := h.on (Below.refl _ _).drew
theorem Mo.co (h : Mo W B ob n k rb M) (i : Nat) (hi : i < k) (hk : k ≤ n) : W.cell? ⟨ob, i, none⟩ = some (.slice (some ⟨rb i, 0, none⟩) n n) := by
  obtain ⟨f, h1, h2⟩ := h.o
  rw [h1.cell (by omega), h2 i hi]
theorem Mo.c (h : Mo W B ob n k rb M) (i j : Nat) (hi : i < k) (hj : j < n) : W.cell? ⟨rb i, j, none⟩ = some (.bool (M i j)) := (h.r i hi).cell hj
theorem Mo.f (h : Mo W B ob n k rb M) (i j : Nat) (hi : i < k) : W.frozen? ⟨rb i, j, none⟩ = false := (h.r i hi).frozen j
theorem Mo.set (h : Mo W B ob n k rb M) (i j : Nat) (hi : i < k) (v : Bool) : Mo (W.setCell ⟨rb i, j, none⟩ (.bool v)) B ob n k rb (fun x y => if x = i ∧ y = j then v else M x y) := by
  obtain ⟨f, h1, h2⟩ := h.o
  refine ⟨⟨f, h1.setOther (fun e => (h.br i hi).2 e.symm) _, h2⟩, fun x hx => ?_, h.bo, h.br, h.inj⟩
  by_cases e : x = i
  · subst e
    refine ((h.r x hx).set j _).congr fun y _ => ?_
    by_cases e2 : y = j
    · simp [e2]
    · simp [e2]
  · refine ((h.r x hx).setOther (fun e2 => e (h.inj x i hx hi e2)) _).congr fun y _ => ?_
    simp [e]
theorem Mo.congr (h : Mo W B ob n k rb M) (e : ∀ a b, a < k → b < n → M a b = N a b) : Mo W B ob n k rb N :=
  ⟨h.o, fun i hi => (h.r i hi).congr fun j hj => by rw [e i j hi hj], h.bo, h.br, h.inj⟩
/-- One more row. -/
theorem Mo.add (h : Mo W B ob n k rb M) (hk : k < n) : Mo ((W.alloc (.cells (madeCells #[.bool false] n) 4)).setCell ⟨ob, k, none⟩ (.slice (some ⟨W.heap.size, 0, none⟩) n n)) B ob n (k + 1) (fun i => if i = k then W.heap.size else rb i) (fun a b => if a = k then false else M a b) := by
  obtain ⟨f, h1, h2⟩ := h.o
  have hob := h1.lt
  have hlt : ∀ i, i < k → rb i < W.heap.size := fun i hi => (h.r i hi).lt
  refine ⟨⟨_, (h1.alloc _).set k _, fun i hi => ?_⟩, fun i hi => ?_, h.bo, fun i hi => ?_, fun i j hi hj e => ?_⟩
  · by_cases e : i = k
    · simp [e]
    · simp only [if_neg e]; exact h2 i (by omega)
  · by_cases e : i = k
    · subst e
      simp only [if_true]
      exact ((World.rowIs_made W (.bool false) n 4).setOther (a := ⟨ob, i, none⟩) (by show W.heap.size ≠ ob; omega) _)
    · simp only [if_neg e]
      exact ((h.r i (by omega)).alloc _).setOther (a := ⟨ob, k, none⟩) (h.br i (by omega)).2 _
  · by_cases e : i = k
    · simp only [e, if_true]
      exact ⟨by have := h.bo; omega, by omega⟩
    · simp only [if_neg e]; exact h.br i (by omega)
  · by_cases e1 : i = k
    · by_cases e2 : j = k
      · omega
      · simp only [e1, if_true, if_neg e2] at e
        have := hlt j (by omega); omega
    · by_cases e2 : j = k
      · simp only [e2, if_true, if_neg e1] at e
        have := hlt i (by omega); omega
      · simp only [if_neg e1, if_neg e2] at e
        exact h.inj i j (by omega) (by omega) e
theorem mo_new (W : World) (n : Nat) : Mo (W.alloc (.cells (madeCells #[.slice none 0 0] n) 92)) W.heap.size W.heap.size n 0 (fun _ => 0) (fun _ _ => false) :=
  ⟨⟨_, World.rowIs_made W (.slice none 0 0) n 92, fun _ hi => absurd hi (Nat.not_lt_zero _)⟩, fun _ hi => absurd hi (Nat.not_lt_zero _), Nat.le_refl _, fun _ hi => absurd hi (Nat.not_lt_zero _), fun _ _ hi => absurd hi (Nat.not_lt_zero _)⟩
end
/-- Ways of tables that are the same below n are the same below n. -/
theorem fw_congr {n : Nat} {M N : Om.T} (h : ∀ a b, a < n → b < n → M a b = N a b) : ∀ k, k ≤ n → ∀ a b, a < n → b < n → Om.fw M k a b = Om.fw N k a b
  | 0, _, a, b, ha, hb => h a b ha hb
  | k + 1, hk, a, b, ha, hb => by
    have ih := fw_congr h k (by omega)
    show (_ || (_ && _)) = (_ || (_ && _))
    rw [ih a b ha hb, ih a k ha (by omega), ih k b (by omega) hb]
end Go.Proofs.YthijccmiemlilaaGreatDoor.Ord
