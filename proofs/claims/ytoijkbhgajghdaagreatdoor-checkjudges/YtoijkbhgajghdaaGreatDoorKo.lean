/- A region that draws its order, by one condition that holds whatever has come up: an operation is walked once, whatever came ahead of it. -/
import Derived.OrdersHeld
import Derived.WalkKit
namespace Go.Proofs.YtoijkbhgajghdaaGreatDoor
open Go.RowKit

section
variable {P : Program} {ops : Array Oper} {Q : Exit → Act → World → Prop} {md : Region.Mode} {S : World → Prop}
theorem count_down {l : Array Bool} {i n : Nat} (h : l.getD i true = false) (hn : l.toList.count false ≤ n + 1) : (l.setIfInBounds i true).toList.count false ≤ n := by
  rcases Nat.lt_or_ge i l.size with hi | hi
  · have e : l[i] = false := by simpa [Array.getD, hi] using h
    rw [Array.toList_setIfInBounds, List.count_set (by simpa using hi)]
    have h0 : 0 < l.toList.count false := List.count_pos_iff.2 (by rw [← e]; simp)
    simp only [Array.count_toList] at h0 hn ⊢
    simp [e]
    omega
  · simp [Array.getD, Nat.not_lt.2 hi] at h
theorem ready_none {l : Array Bool} (h : l.toList.count false = 0) : Region.ready md ops l = [] := by
  rcases hr : Region.ready md ops l with _ | ⟨j, t⟩
  · rfl
  · exfalso
    have hj : j ∈ Region.ready md ops l := by rw [hr]; simp
    have h1 := (mem_ready.1 hj).1
    rcases Nat.lt_or_ge j l.size with hi | hi
    · have e : l[j] = false := by simpa [Array.getD, hi] using h1
      rw [List.count_eq_zero] at h
      exact h (by rw [← e]; simp)
    · simp [Array.getD, Nat.not_lt.2 hi] at h1
/-- THE LAW. -/
theorem wpAnyH_inv {I : Array Bool → Act → World → Prop} (hd : ∀ l a w, I l a w → Region.ready md ops l = [] → Q .normal a w)
    (hs : ∀ l a w, I l a w → ∀ i ∈ Region.ready md ops l, wpOp P ops Q i (fun a' w' => S w' ∧ I (l.setIfInBounds i true) a' w') a w) :
    ∀ (fuel : Nat) (l : Array Bool) (a : Act) (w : World), I l a w → l.toList.count false ≤ fuel → wpAnyH P md ops Q S fuel l a w
  | 0, l, a, w, h, hc => ⟨ready_none (by omega), hd l a w h (ready_none (by omega))⟩
  | fuel + 1, l, a, w, h, hc => ⟨hd l a w h, fun i hi => wpOp_mono (fun a' w' h' => ⟨h'.1, wpAnyH_inv hd hs fuel _ a' w' h'.2 (count_down (mem_ready.1 hi).1 hc)⟩) (hs l a w h i hi)⟩
/-- A state with some of its temporaries laid anew. -/
def lays (a : Act) : List (Nat × Value) → Act
  | [] => a
  | (d, v) :: t => lays (a.put (some d) v) t
theorem wpOp_want {i : Nat} {o : Oper} {K : Act → World → Prop} {a : Act} {w : World} (hi : ops[i]? = some o) (hg : Region.wanted o (yielded ops a.tmps) = true) (h : o.wp P a w K Q) : wpOp P ops Q i K a w := by
  unfold wpOp
  simp only [hi]
  rw [if_pos hg]
  exact .inl h
theorem take_d {i : Nat} {oi : Oper} {v : Value} {fuel : Nat} {listed : Array Bool} {a : Act} {w : World} (d : Option Nat) (hi : ops[i]? = some oi) (hd : oi.dst = d)
    (hs : Region.noSelect ops = true) (hf : Region.free md ops listed i = true) (hr : (Region.ready md ops listed).contains i = true)
    (hQ : ∀ c a w, Q (.panic c) (a.put d v) w → Q (.panic c) a w) (hy : YieldsIf P ops S oi v a) (hS : S w)
    (h : wpAnyH P md ops Q S fuel (listed.setIfInBounds i true) (a.put d v) w) : wpAnyH P md ops Q S (fuel + 1) listed a w := by
  subst hd
  exact wpAnyH_take hi hs hf hr hQ hy hS h
theorem wpAnyH_cast {f : Nat} {l1 l2 : Array Bool} {a : Act} {w : World} (h : l1 = l2) (k : wpAnyH P md ops Q S f l2 a w) : wpAnyH P md ops Q S f l1 a w := h ▸ k
end
end Go.Proofs.YtoijkbhgajghdaaGreatDoor
