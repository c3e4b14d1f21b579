/- Mathematics of an archive's text: its head is cut off at the first empty line; its lines. -/
import Derived.Lib.IndexMore
import Derived.Lib.IndexBytes
import Derived.Lib.CutLaws
namespace Go.Proofs.YtmlmdncepgcimaaGreatDoor
namespace Arc

/-- Lines, each with its line feed. -/
def lay (ls : List (List UInt8)) : List UInt8 := ls.flatMap fun x => x ++ [10]
theorem lay_cons (x : List UInt8) (ls : List (List UInt8)) : lay (x :: ls) = x ++ 10 :: lay ls := by simp [lay]
theorem idx_skip (c : UInt8) (t : List UInt8) (sub : List UInt8) (h : sub.isPrefixOf (c :: t) = false) (k : Nat) (hk : Lib.index t sub = k) : Lib.index (c :: t) sub = (k + 1 : Nat) := by
  rw [Lib.index, h]
  simp only [Bool.false_eq_true, if_false]
  rw [hk, if_neg (by simp)]
  omega
theorem idx_line (x t : List UInt8) (hx : ∀ c ∈ x, c ≠ 10) (k : Nat) (hk : Lib.index t [10, 10] = k) : Lib.index (x ++ t) [10, 10] = (x.length + k : Nat) := by
  induction x with
  | nil => simpa using hk
  | cons c x ih =>
    have hc : c ≠ 10 := hx c (by simp)
    have h2 := ih fun y hy => hx y (List.mem_cons_of_mem _ hy)
    rw [List.cons_append, idx_skip c (x ++ t) [10, 10] (by simp [List.isPrefixOf]; intro h; exact absurd h.symm hc) _ h2]
    simp
    omega
theorem idx_lay : ∀ (ls : List (List UInt8)) (r : List UInt8), ls ≠ [] → (∀ x ∈ ls, ∀ c ∈ x, c ≠ 10) → (∀ x ∈ ls, x ≠ []) → Lib.index (lay ls ++ 10 :: r) [10, 10] = ((lay ls).length - 1 : Nat)
  | [], _, h, _, _ => absurd rfl h
  | [x], r, _, h, _ => by
    rw [lay_cons, List.append_assoc]
    have e : Lib.index (10 :: lay [] ++ 10 :: r) [10, 10] = (0 : Nat) := by
      show Lib.index (10 :: 10 :: r) [10, 10] = _
      rw [Lib.index]; simp [List.isPrefixOf]
    rw [idx_line x _ (h x (by simp)) 0 e]
    simp [lay]
  | x :: y :: ls, r, _, h, h0 => by
    have ih := idx_lay (y :: ls) r (by simp) (fun z hz => h z (List.mem_cons_of_mem _ hz)) (fun z hz => h0 z (List.mem_cons_of_mem _ hz))
    have hl : 1 ≤ (lay (y :: ls)).length := by rw [lay_cons]; simp; omega
    obtain ⟨c, t, hy⟩ : ∃ c t, y = c :: t := by
      cases y with
      | nil => exact absurd rfl (h0 [] (by simp))
      | cons c t => exact ⟨c, t, rfl⟩
    have hc : c ≠ 10 := h y (by simp) c (by rw [hy]; simp)
    have e : Lib.index (10 :: (lay (y :: ls) ++ 10 :: r)) [10, 10] = ((lay (y :: ls)).length - 1 + 1 : Nat) := by
      refine idx_skip 10 _ [10, 10] ?_ _ ih
      rw [lay_cons, hy]
      simp [List.isPrefixOf]
      intro h; exact absurd h.symm hc
    rw [lay_cons, List.append_assoc, List.cons_append, idx_line x _ (h x (by simp)) _ e]
    simp
    omega
/-- The head of a text whose lines are not empty, and what stands behind the first empty line. -/
theorem cut_lay (ls : List (List UInt8)) (r : List UInt8) (h1 : ls ≠ []) (h : ∀ x ∈ ls, ∀ c ∈ x, c ≠ 10) (h0 : ∀ x ∈ ls, x ≠ []) : Lib.cut (lay ls ++ 10 :: r) [10, 10] = ((lay ls).dropLast, r, true) := by
  have hl : 1 ≤ (lay ls).length := by
    cases ls with
    | nil => exact absurd rfl h1
    | cons x ls => rw [lay_cons]; simp; omega
  unfold Lib.cut
  rw [idx_lay ls r h1 h h0, if_pos (by omega)]
  simp only [Int.toNat_natCast, List.length_cons, List.length_nil]
  rw [show (lay ls).length - 1 + (0 + 1 + 1) = (lay ls).length + 1 by omega]
  simp [List.take_append_of_le_length (show (lay ls).length - 1 ≤ (lay ls).length by omega), List.dropLast_eq_take]
/-- The head is its lines with line feeds between. -/
theorem lay_last (ls : List (List UInt8)) (x : List UInt8) : (lay (ls ++ [x])).dropLast = lay ls ++ x := by
  simp [lay]
end Arc
end Go.Proofs.YtmlmdncepgcimaaGreatDoor
