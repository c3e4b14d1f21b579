/- Plain mathematics: versions stand in a row. -/
import Derived.Test.YtongmngjmblooaaDoorVm
namespace Go.Proofs.YtongmngjmblooaaDoor
namespace Vm

theorem pc_anti (a b : List UInt8) : pc b a = - pc a b := ck_anti _ _
theorem cv_anti (e1 : Int) (u1 r1 : List UInt8) (e2 : Int) (u2 r2 : List UInt8) : cv e2 u2 r2 e1 u1 r1 = - cv e1 u1 r1 e2 u2 r2 := by
  unfold cv
  have h1 := pc_anti u1 u2
  have h2 := pc_anti r1 r2
  rw [h1, h2]
  by_cases a : e1 < e2
  · rw [if_neg (by omega), if_pos a, if_pos a]
    rfl
  · by_cases b : e2 < e1
    · rw [if_pos b, if_neg a, if_pos b]
    · rw [if_neg b, if_neg a, if_neg a, if_neg b]
      by_cases c : pc u1 u2 = 0
      · rw [if_pos (by omega), if_pos c]
      · rw [if_neg (by omega), if_neg c]
theorem cv_refl (e : Int) (u r : List UInt8) : cv e u r e u r = 0 := by
  unfold cv; rw [if_neg (by omega), if_neg (by omega), if_pos (pc_refl u), pc_refl]
theorem cv_trans (e1 : Int) (u1 r1 : List UInt8) (e2 : Int) (u2 r2 : List UInt8) (e3 : Int) (u3 r3 : List UInt8) :
    (cv e1 u1 r1 e2 u2 r2 = cv e2 u2 r2 e3 u3 r3 → cv e1 u1 r1 e3 u3 r3 = cv e1 u1 r1 e2 u2 r2) ∧ (cv e1 u1 r1 e2 u2 r2 = 0 → cv e1 u1 r1 e3 u3 r3 = cv e2 u2 r2 e3 u3 r3) ∧ (cv e2 u2 r2 e3 u3 r3 = 0 → cv e1 u1 r1 e3 u3 r3 = cv e1 u1 r1 e2 u2 r2) := by
  unfold cv
  have h1 := ck_trans (key none u1) (key none u2) (key none u3)
  have h2 := ck_trans (key none r1) (key none r2) (key none r3)
  have a1 := pc_range u1 u2
  have a2 := pc_range u2 u3
  have a3 := pc_range u1 u3
  have b1 := pc_range r1 r2
  have b2 := pc_range r2 r3
  have b3 := pc_range r1 r3
  change (pc u1 u2 = pc u2 u3 → pc u1 u3 = pc u1 u2) ∧ (pc u1 u2 = 0 → pc u1 u3 = pc u2 u3) ∧ (pc u2 u3 = 0 → pc u1 u3 = pc u1 u2) at h1
  change (pc r1 r2 = pc r2 r3 → pc r1 r3 = pc r1 r2) ∧ (pc r1 r2 = 0 → pc r1 r3 = pc r2 r3) ∧ (pc r2 r3 = 0 → pc r1 r3 = pc r1 r2) at h2
  generalize pc u1 u2 = x1 at *
  generalize pc u2 u3 = x2 at *
  generalize pc u1 u3 = x3 at *
  generalize pc r1 r2 = y1 at *
  generalize pc r2 r3 = y2 at *
  generalize pc r1 r3 = y3 at *
  have k1 : ∀ p q a b : Int, (if p < q then (-1 : Int) else if q < p then 1 else if a = 0 then b else a) = -1 ∧ p < q ∨ (if p < q then (-1 : Int) else if q < p then 1 else if a = 0 then b else a) = 1 ∧ q < p ∨ (if p < q then (-1 : Int) else if q < p then 1 else if a = 0 then b else a) = b ∧ p = q ∧ a = 0 ∨ (if p < q then (-1 : Int) else if q < p then 1 else if a = 0 then b else a) = a ∧ p = q ∧ a ≠ 0 := by
    intro p q a b
    by_cases h1 : p < q
    · simp [h1]
    · by_cases h2 : q < p
      · simp [h1, h2]
      · have : p = q := by omega
        by_cases h3 : a = 0
        · right; right; left; simp [this, h3]
        · right; right; right; simp [this, h3]
  have k12 := k1 e1 e2 x1 y1
  have k23 := k1 e2 e3 x2 y2
  have k13 := k1 e1 e3 x3 y3
  generalize (if e1 < e2 then (-1 : Int) else if e2 < e1 then 1 else if x1 = 0 then y1 else x1) = p12 at *
  generalize (if e2 < e3 then (-1 : Int) else if e3 < e2 then 1 else if x2 = 0 then y2 else x2) = p23 at *
  generalize (if e1 < e3 then (-1 : Int) else if e3 < e1 then 1 else if x3 = 0 then y3 else x3) = p13 at *
  clear k1
  rcases k12 with k12 | k12 | k12 | k12 <;> rcases k23 with k23 | k23 | k23 | k23 <;> rcases k13 with k13 | k13 | k13 | k13 <;> omega

theorem iv_turn (m op : Int) (h : m = -1 ∨ m = 0 ∨ m = 1) (ho : op = 1 ∨ op = 2 ∨ op = 3 ∨ op = 4 ∨ op = 5) : iv (-m) (6 - op) = iv m op := by
  rcases h with rfl | rfl | rfl <;> rcases ho with rfl | rfl | rfl | rfl | rfl <;> rfl
theorem iv_not1 (m : Int) : iv m 4 = !iv m 1 := by
  unfold iv; by_cases h : m < 0
  · have : ¬ 0 ≤ m := by omega
    simp [h, this]
  · have : 0 ≤ m := by omega
    simp [h, this]
theorem iv_not5 (m : Int) : iv m 2 = !iv m 5 := by
  unfold iv; by_cases h : 0 < m
  · have : ¬ m ≤ 0 := by omega
    simp [h, this]
  · have : m ≤ 0 := by omega
    simp [h, this]

end Vm
end Go.Proofs.YtongmngjmblooaaDoor
