/- Plain mathematics: a tilde stands ahead of the end, noughts ahead of numbers make no difference. -/
import Derived.Test.YtkefdlcionkbdaaDoorVq
namespace Go.Proofs.YtkefdlcionkbdaaDoor
namespace Vm

theorem key_pre (u : List UInt8) : ∀ st, ∃ pre st', ∀ x, key st (u ++ x) = pre ++ key st' x := by
  induction u with
  | nil => intro st; exact ⟨[], st, fun x => rfl⟩
  | cons c u ih =>
    intro st
    cases st with
    | none =>
      by_cases h : dg c = true
      · obtain ⟨pre, st', hp⟩ := ih (some (c.toNat - 48))
        exact ⟨0 :: pre, st', fun x => by rw [List.cons_append, key, if_pos h, hp]; rfl⟩
      · obtain ⟨pre, st', hp⟩ := ih none
        exact ⟨rk c :: pre, st', fun x => by rw [List.cons_append, key, if_neg h, hp]; rfl⟩
    | some n =>
      by_cases h : dg c = true
      · obtain ⟨pre, st', hp⟩ := ih (some (10 * n + (c.toNat - 48)))
        exact ⟨pre, st', fun x => by rw [List.cons_append, key, if_pos h, hp]⟩
      · obtain ⟨pre, st', hp⟩ := ih none
        exact ⟨(n : Int) :: rk c :: pre, st', fun x => by rw [List.cons_append, key, if_neg h, hp]; rfl⟩

theorem ck_cons (x : Int) (a b : List Int) : ck (x :: a) (x :: b) = ck a b := by simp [ck]

theorem key_sign {c : UInt8} (hc : dg c = false) (st : Option Nat) (m : List UInt8) : (st = none ∧ key st (c :: m) = rk c :: key none m ∧ key st [] = []) ∨ ∃ n, st = some n ∧ key st (c :: m) = (n : Int) :: rk c :: key none m ∧ key st [] = [(n : Int)] := by
  have h : ¬ dg c = true := by simp [hc]
  cases st with
  | none => left; exact ⟨rfl, by rw [key, if_neg h], rfl⟩
  | some n => right; exact ⟨n, rfl, by rw [key, if_neg h], rfl⟩

theorem pc_end {c : UInt8} (hc : dg c = false) (u m : List UInt8) : pc (u ++ c :: m) u = zk [rk c] := by
  obtain ⟨pre, st, hp⟩ := key_pre u none
  have h2 := hp []
  rw [List.append_nil] at h2
  have hz : ∀ x, ck (rk c :: x) [] = zk [rk c] := fun x => by
    have := rk_ne c
    rw [ck_nil_right]; unfold zk
    by_cases h1 : rk c < 0
    · rw [if_pos h1, if_pos h1]
    · rw [if_neg h1, if_neg h1, if_pos (by omega), if_pos (by omega)]
  unfold pc
  rw [hp, h2, ck_append_left]
  rcases key_sign hc st m with ⟨_, h3, h4⟩ | ⟨n, _, h3, h4⟩
  · rw [h3, h4]; exact hz _
  · rw [h3, h4, ck_cons]; exact hz _
theorem pc_two {c d : UInt8} (hc : dg c = false) (hd : dg d = false) (u m m' : List UInt8) (h : rk c < rk d) : pc (u ++ c :: m) (u ++ d :: m') = -1 := by
  obtain ⟨pre, st, hp⟩ := key_pre u none
  unfold pc
  rw [hp, hp, ck_append_left]
  rcases key_sign hc st m with ⟨e, h3, _⟩ | ⟨n, e, h3, _⟩
  · rcases key_sign hd st m' with ⟨_, h4, _⟩ | ⟨n', e', _, _⟩
    · rw [h3, h4]; simp [ck, h]
    · rw [e] at e'; cases e'
  · rcases key_sign hd st m' with ⟨e', _, _⟩ | ⟨n', e', h4, _⟩
    · rw [e] at e'; cases e'
    · rw [e] at e'; cases e'
      rw [h3, h4, ck_cons]; simp [ck, h]

theorem cv_up {x : Int} (e : Int) (u u' r r' : List UInt8) (hx : x ≠ 0) (h : pc u u' = x) : cv e u r e u' r' = x := by
  unfold cv; rw [if_neg (by omega), if_neg (by omega), h, if_neg hx]

theorem cv_tilde (e : Int) (u m r : List UInt8) : cv e (u ++ 126 :: m) r e u r = -1 := cv_up e _ _ _ _ (by decide) (pc_end (by decide) u m)
theorem cv_plus (e : Int) (u m r : List UInt8) : cv e (u ++ 43 :: m) r e u r = 1 := cv_up e _ _ _ _ (by decide) (pc_end (by decide) u m)
theorem cv_tp (e : Int) (u m r : List UInt8) : cv e (u ++ 126 :: m) r e (u ++ 43 :: m) r = -1 := cv_up e _ _ _ _ (by decide) (pc_two (by decide) (by decide) u m m (by decide))

theorem all_tw {l : List UInt8} (h : ∀ c ∈ l, dg c = true) : l.takeWhile dg = l ∧ l.dropWhile dg = [] := by
  induction l with
  | nil => exact ⟨rfl, rfl⟩
  | cons c l ih =>
    have h1 := h c (List.mem_cons_self ..)
    have h2 := ih (fun x hx => h x (List.mem_cons_of_mem _ hx))
    simp [h1, h2]

theorem vl_noughts (z : Nat) (d : List UInt8) : vl 0 (List.replicate z 48 ++ d) = vl 0 d := by
  induction z with
  | zero => rfl
  | succ z ih => rw [List.replicate_succ, List.cons_append, vl_cons]; exact ih

theorem key_digits {d : List UInt8} (h : ∀ c ∈ d, dg c = true) : ck (key none d) [0, (vl 0 d : Int)] = 0 := by
  have h1 := key_num d (by
    cases d with
    | nil => right; rfl
    | cons c d => left; simpa using h c (List.mem_cons_self ..))
  rw [(all_tw h).1, (all_tw h).2] at h1
  exact h1

theorem cv_noughts (z : Nat) (d : List UInt8) (h : ∀ c ∈ d, dg c = true) : cv 0 (49 :: 46 :: (List.replicate z 48 ++ d)) [] 0 (49 :: 46 :: d) [] = 0 := by
  have hz : ∀ c ∈ List.replicate z 48 ++ d, dg c = true := fun c hc => by
    rcases List.mem_append.1 hc with hc | hc
    · rw [(List.mem_replicate.1 hc).2]; decide
    · exact h c hc
  have hp : pc (49 :: 46 :: (List.replicate z 48 ++ d)) (49 :: 46 :: d) = 0 := by
    obtain ⟨pre, st, hk⟩ := key_pre [49, 46] none
    have e : st = none := by
      have h1 := hk []
      have h2 := hk [46]
      have k1 : key none ([49, 46] ++ []) = [0, 1, rk 46] := rfl
      have k2 : key none ([49, 46] ++ [46]) = [0, 1, rk 46, rk 46] := rfl
      cases st with
      | none => rfl
      | some n =>
        exfalso
        rw [k1] at h1
        rw [k2] at h2
        have l1 := congrArg List.length h1
        have l2 := congrArg List.length h2
        have e2 : key (some n) [46] = [(n : Int), rk 46] := rfl
        have e1 : key (some n) [] = [(n : Int)] := rfl
        rw [e1] at h1
        rw [e2] at h2
        have p1 : pre = [0, 1] := by
          have := congrArg List.dropLast h1
          simpa using this.symm
        rw [p1] at h2
        have r46 : rk 46 = 302 := rfl
        have r' : (302 : Int) = n := by
          rw [r46] at h2; simpa using h2
        rw [p1, r46] at h1
        simp at h1
        have key' := hk [48]
        have k3 : key none ([49, 46] ++ [48]) = [0, 1, rk 46, 0, 0] := rfl
        rw [k3, p1] at key'
        have e3 : key (some n) [48] = [((10 * n + ((48 : UInt8).toNat - 48) : Nat) : Int)] := rfl
        rw [e3] at key'
        simp at key'
    subst e
    have q1 : key none (49 :: 46 :: (List.replicate z 48 ++ d)) = pre ++ key none (List.replicate z 48 ++ d) := hk _
    have q2 : key none (49 :: 46 :: d) = pre ++ key none d := hk _
    unfold pc
    rw [q1, q2, ck_append_left, ck_same (key_digits hz) (key_digits h), vl_noughts]
    exact ck_refl _
  unfold cv
  rw [if_neg (by omega), if_neg (by omega), hp, if_pos rfl]
  rfl

end Vm
end Go.Proofs.YtkefdlcionkbdaaDoor
