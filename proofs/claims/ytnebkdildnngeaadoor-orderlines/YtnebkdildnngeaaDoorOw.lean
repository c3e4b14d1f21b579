/- The reference's squares in memory. -/
import Derived.Test.YtnebkdildnngeaaDoorOv
import Derived.Deep.OwnRows
namespace Go.Proofs.YtnebkdildnngeaaDoor
open Go.RowKit Go.Sort

theorem info46 : (Tryd.prog.info? 46).map (fun i => (i.zero, i.size, i.bytes)) = some (some (.slice none 0 0), 1, 24) := by kernel_rfl
theorem info4 : (Tryd.prog.info? 4).map (fun i => (i.zero, i.size, i.bytes)) = some (some (.bool false), 1, 1) := by kernel_rfl
theorem mk45 (n : Nat) (hn : n ≤ 40) (W : World) : (Instr.makeSlice 45 (.int .i64 (n : Int)) (.int .i64 (n : Int))).run Tryd.prog W = .ok (.slice (some ⟨W.heap.size, 0, none⟩) n n) (W.alloc (.cells (madeCells #[.slice none 0 0] n) 46)) :=
  run_make_row' 45 46 (.slice none 0 0) 24 Tryd.underlying45 info46 rfl .i64 .i64 n (by omega) (by omega) W
theorem mk46 (n : Nat) (hn : n ≤ 40) (W : World) : (Instr.makeSlice 46 (.int .i64 (n : Int)) (.int .i64 (n : Int))).run Tryd.prog W = .ok (.slice (some ⟨W.heap.size, 0, none⟩) n n) (W.alloc (.cells (madeCells #[.bool false] n) 4)) :=
  run_make_row' 46 4 (.bool false) 1 Tryd.underlying46 info4 rfl .i64 .i64 n (by omega) (by omega) W
theorem row_on {W W' : World} {b t n : Nat} {f : Nat → Value} (h : W.rowIs b t n f) (k : Below W.heap.size W W') : W'.rowIs b t n f := h.of_block (k.block b h.lt)
theorem row_kp {W W' : World} {b t n : Nat} {f : Nat → Value} {S : Nat → Prop} (h : W.rowIs b t n f) (k : Kp S W W') (hs : ¬ S b) : W'.rowIs b t n f := h.of_block (k.block b h.lt hs)
/-- The first k rows of a square. -/
structure Mo (W : World) (B ob n k : Nat) (rb : Nat → Nat) (M : Om.T) : Prop where
  o : ∃ f, W.rowIs ob 46 n f ∧ ∀ i, i < k → f i = .slice (some ⟨rb i, 0, none⟩) n n
  r : ∀ i, i < k → W.rowIs (rb i) 4 n (fun j => .bool (M i j))
  bo : B ≤ ob
  br : ∀ i, i < k → B ≤ rb i ∧ rb i ≠ ob
  inj : ∀ i j, i < k → j < k → rb i = rb j → i = j
section
variable {W W' : World} {B ob n k : Nat} {rb : Nat → Nat} {M N : Om.T}
theorem Mo.on (h : Mo W B ob n k rb M) (b : Below W.heap.size W W') : Mo W' B ob n k rb M := by
  obtain ⟨f, h1, h2⟩ := h.o
  exact ⟨⟨f, row_on h1 b, h2⟩, fun i hi => row_on (h.r i hi) b, h.bo, h.br, h.inj⟩
theorem Mo.kp {S : Nat → Prop} (h : Mo W B ob n k rb M) (b : Kp S W W') (hs : ∀ j, S j → j ≠ ob ∧ ∀ i, i < k → j ≠ rb i) : Mo W' B ob n k rb M := by
  obtain ⟨f, h1, h2⟩ := h.o
  exact ⟨⟨f, row_kp h1 b (fun e => (hs ob e).1 rfl), h2⟩, fun i hi => row_kp (h.r i hi) b (fun e => (hs _ e).2 i hi rfl), h.bo, h.br, h.inj⟩
theorem Mo.drew (h : Mo W B ob n k rb M) : Mo W.drew B ob n k rb M := h.on (Below.refl _ _).drew
theorem Mo.co (h : Mo W B ob n k rb M) (i : Nat) (hi : i < k) (hk : k ≤ n) : W.cell? ⟨ob, i, none⟩ = some (.slice (some ⟨rb i, 0, none⟩) n n) := by
  obtain ⟨f, h1, h2⟩ := h.o
  rw [h1.cell (by omega), h2 i hi]
theorem Mo.c (h : Mo W B ob n k rb M) (i j : Nat) (hi : i < k) (hj : j < n) : W.cell? ⟨rb i, j, none⟩ = some (.bool (M i j)) := (h.r i hi).cell hj
theorem Mo.f (h : Mo W B ob n k rb M) (i j : Nat) (hi : i < k) : W.frozen? ⟨rb i, j, none⟩ = false := (h.r i hi).frozen j
theorem Mo.set (h : Mo W B ob n k rb M) (i j : Nat) (hi : i < k) (v : Bool) : Mo (W.setCell ⟨rb i, j, none⟩ (.bool v)) B ob n k rb (fun x y => if x = i ∧ y = j then v else M x y) := by
  obtain ⟨f, h1, h2⟩ := h.o
  refine ⟨⟨f, h1.setOther (fun e => (h.br i hi).2 e.symm) _, h2⟩, fun x hx => ?_, h.bo, h.br, h.inj⟩
  by_cases e : x = i
  · subst e
    refine ((h.r x hx).set j _).congr fun y _ => ?_
    by_cases e2 : y = j
    · simp [e2]
    · simp [e2]
  · refine ((h.r x hx).setOther (fun e2 => e (h.inj x i hx hi e2)) _).congr fun y _ => ?_
    simp [e]
theorem Mo.congr (h : Mo W B ob n k rb M) (e : ∀ a b, a < k → b < n → M a b = N a b) : Mo W B ob n k rb N :=
  ⟨h.o, fun i hi => (h.r i hi).congr fun j hj => by rw [e i j hi hj], h.bo, h.br, h.inj⟩
/-- One more row. -/
theorem Mo.add (h : Mo W B ob n k rb M) (hk : k < n) : Mo ((W.alloc (.cells (madeCells #[.bool false] n) 4)).setCell ⟨ob, k, none⟩ (.slice (some ⟨W.heap.size, 0, none⟩) n n)) B ob n (k + 1) (fun i => if i = k then W.heap.size else rb i) (fun a b => if a = k then false else M a b) := by
  obtain ⟨f, h1, h2⟩ := h.o
  have hob := h1.lt
  have hlt : ∀ i, i < k → rb i < W.heap.size := fun i hi => (h.r i hi).lt
  refine ⟨⟨_, (h1.alloc _).set k _, fun i hi => ?_⟩, fun i hi => ?_, h.bo, fun i hi => ?_, fun i j hi hj e => ?_⟩
  · by_cases e : i = k
    · simp [e]
    · simp only [if_neg e]; exact h2 i (by omega)
  · by_cases e : i = k
    · subst e
      simp only [if_true]
      exact ((World.rowIs_made W (.bool false) n 4).setOther (a := ⟨ob, i, none⟩) (by show W.heap.size ≠ ob; omega) _)
    · simp only [if_neg e]
      exact ((h.r i (by omega)).alloc _).setOther (a := ⟨ob, k, none⟩) (h.br i (by omega)).2 _
  · by_cases e : i = k
    · simp only [e, if_true]
      exact ⟨by have := h.bo; omega, by omega⟩
    · simp only [if_neg e]; exact h.br i (by omega)
  · by_cases e1 : i = k
    · by_cases e2 : j = k
      · omega
      · simp only [e1, if_true, if_neg e2] at e
        have := hlt j (by omega); omega
    · by_cases e2 : j = k
      · simp only [e2, if_true, if_neg e1] at e
        have := hlt i (by omega); omega
      · simp only [if_neg e1, if_neg e2] at e
        exact h.inj i j (by omega) (by omega) e
theorem mo_new (W : World) (n : Nat) : Mo (W.alloc (.cells (madeCells #[.slice none 0 0] n) 46)) W.heap.size W.heap.size n 0 (fun _ => 0) (fun _ _ => false) :=
  ⟨⟨_, World.rowIs_made W (.slice none 0 0) n 46, fun _ hi => absurd hi (Nat.not_lt_zero _)⟩, fun _ hi => absurd hi (Nat.not_lt_zero _), Nat.le_refl _, fun _ hi => absurd hi (Nat.not_lt_zero _), fun _ _ hi => absurd hi (Nat.not_lt_zero _)⟩
end
/-- Ways of tables that are the same below n are the same below n. -/
theorem fw_congr {n : Nat} {M N : Om.T} (h : ∀ a b, a < n → b < n → M a b = N a b) : ∀ k, k ≤ n → ∀ a b, a < n → b < n → Om.fw M k a b = Om.fw N k a b
  | 0, _, a, b, ha, hb => h a b ha hb
  | k + 1, hk, a, b, ha, hb => by
    have ih := fw_congr h k (by omega)
    show (_ || (_ && _)) = (_ || (_ && _))
    rw [ih a b ha hb, ih a k ha (by omega), ih k b (by omega) hb]
end Go.Proofs.YtnebkdildnngeaaDoor
