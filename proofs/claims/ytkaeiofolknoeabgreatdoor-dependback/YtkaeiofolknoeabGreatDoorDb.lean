/- Versions held against each other; terms that are short enough. -/
import Derived.Test.YtkaeiofolknoeabGreatDoorDa
import Derived.Test.YtkaeiofolknoeabGreatDoorCe
namespace Go.Proofs.YtkaeiofolknoeabGreatDoor
open Go.RowKit Go.Sort

theorem bon {w w1 w2 : World} (h : Below w.heap.size w w1) (k : Below w1.heap.size w1 w2) : Below w.heap.size w w2 := h.trans (k.mono h.size)
theorem bdn {B : Nat} {a w : World} (h : Below B a w) (n : Nat) : Below B a (w.drewN n) := h.trans ⟨rfl, rfl, rfl, Nat.le_refl _, fun _ _ => rfl⟩
theorem b1c (w : World) (A : Obj) : Below w.heap.size w (w.alloc A) := (Below.refl _ _).alloc (Nat.le_refl _) _
theorem b2c (w : World) (A B : Obj) : Below w.heap.size w ((w.alloc A).alloc B) := bon (b1c w A) (b1c _ B)
theorem b4c (w : World) (A B C D : Obj) : Below w.heap.size w ((((w.alloc A).alloc B).alloc C).alloc D) := bon (bon (b2c w A B) (b1c _ C)) (b1c _ D)

/-- A version as a value. -/
abbrev vv (e : Int) (u r : List UInt8) : Value := .agg #[.int .i64 e, .string ⟨u.toArray⟩, .string ⟨r.toArray⟩]
/-- A term as a value. -/
abbrev tv (t : Tm) : Value := .agg #[.string ⟨t.n.toArray⟩, .int .i64 t.o, .int .i64 t.e, .string ⟨t.u.toArray⟩, .string ⟨t.r.toArray⟩]
theorem retb {a b : Bool} (h : a = b) : Ending.returned (.bool a) = .returned (.bool b) := by rw [h]

theorem is_b (e1 : Int) (u1 r1 : List UInt8) (op : Int) (e2 : Int) (u2 r2 : List UInt8) (w : World) (h1 : u1.length ≤ 200) (h2 : r1.length ≤ 200) (h3 : u2.length ≤ 200) (h4 : r2.length ≤ 200) :
    Calls Tryz.prog 63 #[vv e1 u1 r1, .int .i64 op, vv e2 u2 r2] w fun x w' => x = .returned (.bool (Vm.iv (Vm.cv e1 u1 r1 e2 u2 r2) op)) ∧ Below w.heap.size w w' := by
  by_cases hop : 1 ≤ op ∧ op ≤ 5
  · refine (is_any e1 u1 r1 op e2 u2 r2 w h1 h2 h3 h4 hop).mono ?_
    rintro x w' ⟨rfl, _, _, _, _, n, rfl⟩
    exact ⟨rfl, bdn (b4c _ _ _ _ _) n⟩
  · refine (is_none e1 u1 r1 op e2 u2 r2 w (by omega)).mono ?_
    rintro x w' ⟨rfl, _, _, rfl⟩
    refine ⟨retb ?_, b2c _ _ _⟩
    have k1 : (op == 1) = false := by rw [beq_eq_false_iff_ne]; omega
    have k2 : (op == 2) = false := by rw [beq_eq_false_iff_ne]; omega
    have k3 : (op == 3) = false := by rw [beq_eq_false_iff_ne]; omega
    have k4 : (op == 4) = false := by rw [beq_eq_false_iff_ne]; omega
    have k5 : (op == 5) = false := by rw [beq_eq_false_iff_ne]; omega
    simp [Vm.iv, k1, k2, k3, k4, k5]
/-- A term short enough; terms; lists of terms. -/
def t1 (t : Tm) : Bool := decide (t.n.length ≤ 60) && (decide (t.u.length ≤ 100) && decide (t.r.length ≤ 100))
def fla (l : List Tm) : Bool := decide (l.length ≤ 40) && l.all t1
def tla (l : List (List Tm)) : Bool := decide (l.length ≤ 40) && l.all fla

end Go.Proofs.YtkaeiofolknoeabGreatDoor
