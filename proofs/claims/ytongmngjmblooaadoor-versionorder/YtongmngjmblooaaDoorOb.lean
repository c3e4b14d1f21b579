/- The walk of the law VersionOrder, what its calls come to. -/
import Derived.Test.YtongmngjmblooaaDoorOa
import Derived.Test.YtongmngjmblooaaDoorEq
import Derived.Test.YtongmngjmblooaaDoorVo
namespace Go.Proofs.YtongmngjmblooaaDoor
open Go.RowKit Go.Shelf Go.Sort

def Facts (m n k : Int) : Prop := (m = -1 ∨ m = 0 ∨ m = 1) ∧ (n = -1 ∨ n = 0 ∨ n = 1) ∧ (k = -1 ∨ k = 0 ∨ k = 1) ∧ (m = n → k = m) ∧ (m = 0 → k = n) ∧ (n = 0 → k = m)

theorem is_below (e1 : Int) (u1 r1 : List UInt8) (op : Int) (e2 : Int) (u2 r2 : List UInt8) (w : World) (h1 : u1.length ≤ 200) (h2 : r1.length ≤ 200) (h3 : u2.length ≤ 200) (h4 : r2.length ≤ 200) (hop : 1 ≤ op ∧ op ≤ 5) :
    Calls Tryd.prog 18 #[.agg #[.int .i64 e1, .string ⟨u1.toArray⟩, .string ⟨r1.toArray⟩], .int .i64 op, .agg #[.int .i64 e2, .string ⟨u2.toArray⟩, .string ⟨r2.toArray⟩]] w fun x w' => x = .returned (.bool (Vm.iv (Vm.cv e1 u1 r1 e2 u2 r2) op)) ∧ Below w.heap.size w w' :=
  (is_any e1 u1 r1 op e2 u2 r2 w h1 h2 h3 h4 hop).mono fun _ _ ⟨he, c1, c2, c3, c4, n, hw⟩ => ⟨he, by rw [hw]; exact below_drewN (((((Below.refl _ _).alloc (Nat.le_refl _) _).alloc (by simp) _).alloc (by simp; omega) _).alloc (by simp; omega) _) n⟩
theorem is_below0 (e1 : Int) (u1 r1 : List UInt8) (e2 : Int) (u2 r2 : List UInt8) (w : World) :
    Calls Tryd.prog 18 #[.agg #[.int .i64 e1, .string ⟨u1.toArray⟩, .string ⟨r1.toArray⟩], .int .i64 0, .agg #[.int .i64 e2, .string ⟨u2.toArray⟩, .string ⟨r2.toArray⟩]] w fun x w' => x = .returned (.bool true) ∧ Below w.heap.size w w' :=
  (is_none e1 u1 r1 0 e2 u2 r2 w (by decide)).mono fun _ _ ⟨he, c1, c2, hw⟩ => ⟨he, by rw [hw]; exact ((Below.refl _ _).alloc (Nat.le_refl _) _).alloc (by simp) _⟩

structure Orders (e1 : Int) (u1 r1 : List UInt8) (e2 : Int) (u2 r2 : List UInt8) (e3 : Int) (u3 r3 : List UInt8) (m n k : Int) : Prop where
  facts : Facts m n k
  c12 : ∀ W, Calls Tryd.prog 16 #[.agg #[.int .i64 e1, .string ⟨u1.toArray⟩, .string ⟨r1.toArray⟩], .agg #[.int .i64 e2, .string ⟨u2.toArray⟩, .string ⟨r2.toArray⟩]] W fun x w' => x = .returned (.int .i64 m) ∧ Below W.heap.size W w'
  c21 : ∀ W, Calls Tryd.prog 16 #[.agg #[.int .i64 e2, .string ⟨u2.toArray⟩, .string ⟨r2.toArray⟩], .agg #[.int .i64 e1, .string ⟨u1.toArray⟩, .string ⟨r1.toArray⟩]] W fun x w' => x = .returned (.int .i64 (-m)) ∧ Below W.heap.size W w'
  c23 : ∀ W, Calls Tryd.prog 16 #[.agg #[.int .i64 e2, .string ⟨u2.toArray⟩, .string ⟨r2.toArray⟩], .agg #[.int .i64 e3, .string ⟨u3.toArray⟩, .string ⟨r3.toArray⟩]] W fun x w' => x = .returned (.int .i64 n) ∧ Below W.heap.size W w'
  c13 : ∀ W, Calls Tryd.prog 16 #[.agg #[.int .i64 e1, .string ⟨u1.toArray⟩, .string ⟨r1.toArray⟩], .agg #[.int .i64 e3, .string ⟨u3.toArray⟩, .string ⟨r3.toArray⟩]] W fun x w' => x = .returned (.int .i64 k) ∧ Below W.heap.size W w'
  c11 : ∀ W, Calls Tryd.prog 16 #[.agg #[.int .i64 e1, .string ⟨u1.toArray⟩, .string ⟨r1.toArray⟩], .agg #[.int .i64 e1, .string ⟨u1.toArray⟩, .string ⟨r1.toArray⟩]] W fun x w' => x = .returned (.int .i64 0) ∧ Below W.heap.size W w'
  cIs : ∀ op, (op = 1 ∨ op = 2 ∨ op = 3 ∨ op = 4 ∨ op = 5) → ∀ W, Calls Tryd.prog 18 #[.agg #[.int .i64 e1, .string ⟨u1.toArray⟩, .string ⟨r1.toArray⟩], .int .i64 op, .agg #[.int .i64 e2, .string ⟨u2.toArray⟩, .string ⟨r2.toArray⟩]] W fun x w' => x = .returned (.bool (Vm.iv m op)) ∧ Below W.heap.size W w'
  cIt : ∀ op, (op = 1 ∨ op = 2 ∨ op = 3 ∨ op = 4 ∨ op = 5) → ∀ W, Calls Tryd.prog 18 #[.agg #[.int .i64 e2, .string ⟨u2.toArray⟩, .string ⟨r2.toArray⟩], .int .i64 (6 - op), .agg #[.int .i64 e1, .string ⟨u1.toArray⟩, .string ⟨r1.toArray⟩]] W fun x w' => x = .returned (.bool (Vm.iv m op)) ∧ Below W.heap.size W w'
  cI0 : ∀ W, Calls Tryd.prog 18 #[.agg #[.int .i64 e1, .string ⟨u1.toArray⟩, .string ⟨r1.toArray⟩], .int .i64 0, .agg #[.int .i64 e2, .string ⟨u2.toArray⟩, .string ⟨r2.toArray⟩]] W fun x w' => x = .returned (.bool true) ∧ Below W.heap.size W w'

theorem orders_of (e1 : Int) (u1 r1 : List UInt8) (e2 : Int) (u2 r2 : List UInt8) (e3 : Int) (u3 r3 : List UInt8) (s1 : Sh u1 r1 true) (s2 : Sh u2 r2 true) (s3 : Sh u3 r3 true) : ∃ m n k : Int, Orders e1 u1 r1 e2 u2 r2 e3 u3 r3 m n k := by
  obtain ⟨p1, q1⟩ := sh_le s1
  obtain ⟨p2, q2⟩ := sh_le s2
  obtain ⟨p3, q3⟩ := sh_le s3
  refine ⟨Vm.cv e1 u1 r1 e2 u2 r2, Vm.cv e2 u2 r2 e3 u3 r3, Vm.cv e1 u1 r1 e3 u3 r3, ?_⟩
  refine ⟨⟨Vm.cv_range .., Vm.cv_range .., Vm.cv_range .., Vm.cv_trans ..⟩, fun W => compare_below _ _ _ _ _ _ W p1 q1 p2 q2, fun W => ?_, fun W => compare_below _ _ _ _ _ _ W p2 q2 p3 q3, fun W => compare_below _ _ _ _ _ _ W p1 q1 p3 q3, fun W => ?_, fun op ho W => is_below _ _ _ op _ _ _ W p1 q1 p2 q2 (by omega), fun op ho W => ?_, fun W => is_below0 _ _ _ _ _ _ W⟩
  · rw [← Vm.cv_anti]; exact compare_below _ _ _ _ _ _ W p2 q2 p1 q1
  · have := compare_below e1 u1 r1 e1 u1 r1 W p1 q1 p1 q1
    rw [Vm.cv_refl] at this; exact this
  · rw [← Vm.iv_turn _ op (Vm.cv_range ..) ho, ← Vm.cv_anti]; exact is_below _ _ _ _ _ _ _ W p2 q2 p1 q1 (by omega)

theorem combos (m n k : Int) (F : Facts m n k) : ((m == n) = true ∧ (k != m) = false ∧ (m == 0) = true ∧ (k != n) = false ∧ (n == 0) = true) ∨ ((m == n) = true ∧ (k != m) = false ∧ (m == 0) = false ∧ (k != n) = false ∧ (n == 0) = false) ∨ ((m == n) = false ∧ (k != m) = (k != m) ∧ (m == 0) = true ∧ (k != n) = false ∧ (n == 0) = false) ∨ ((m == n) = false ∧ (k != m) = false ∧ (m == 0) = false ∧ (k != n) = (k != n) ∧ (n == 0) = true) ∨ ((m == n) = false ∧ (k != m) = (k != m) ∧ (m == 0) = false ∧ (k != n) = (k != n) ∧ (n == 0) = false) := by
  obtain ⟨f1, f2, f3, f4, f5, f6⟩ := F
  by_cases x1 : m = n
  · have := f4 x1
    by_cases x2 : m = 0
    · have := f5 x2
      left; simp [*]; omega
    · right; left
      have : n ≠ 0 := by omega
      simp [*]
  · by_cases x2 : m = 0
    · have h3 := f5 x2
      have : n ≠ 0 := by omega
      right; right; left
      have e1 : (m == n) = false := by simpa using x1
      have e2 : (n == 0) = false := by simpa using this
      exact ⟨e1, rfl, by simpa using x2, by simpa using h3, e2⟩
    · have e1 : (m == n) = false := by simpa using x1
      have e2 : (m == 0) = false := by simpa using x2
      by_cases x3 : n = 0
      · have h3 := f6 x3
        right; right; right; left
        exact ⟨e1, by simpa using h3, e2, rfl, by simpa using x3⟩
      · right; right; right; right
        exact ⟨e1, rfl, e2, rfl, by simpa using x3⟩

end Go.Proofs.YtongmngjmblooaaDoor
