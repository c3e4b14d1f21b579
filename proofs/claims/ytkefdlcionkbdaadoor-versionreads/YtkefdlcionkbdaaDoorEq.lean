/- Versions held against each other by the language's own ==. -/
import Derived.Test.YtkefdlcionkbdaaDoorPg
import Derived.Laws.StructEq
namespace Go.Proofs.YtkefdlcionkbdaaDoor
open Go.RowKit

theorem stood23 : Tryd.prog.stoodInHeld 23 = false := by kernel_rfl
theorem fields23 : Tryd.prog.underlying 23 = some (.struct (Tryd.prog.fieldsOf 23)) := by kernel_rfl
theorem guard23 : Tryd.prog.eqGuardType Tryd.prog.depth 23 = false := by kernel_rfl

set_option maxRecDepth 100000 in
theorem eq23 (e : Int) (a b : ByteArray) (w : World) : (Op.equalIn 10000 23 (.agg #[.int .i64 e, .string a, .string b]) (.agg #[.int .i64 e, .string a, .string b])).run Tryd.prog w = .ok true w := by
  have u3 := Tryd.underlying3
  have a3 := Tryd.isAgg3
  have z3 := Tryd.sizeOf3
  have u9 := Tryd.underlying9
  have a9 := Tryd.isAgg9
  have z9 := Tryd.sizeOf9
  rw [show (10000 : Nat) = 9999 + 1 from rfl, run_equalIn_agg _ _ _ _ _ fields23 stood23]
  simp only [Program.fieldsOf, Tryd.underlying23]
  go_simp

end Go.Proofs.YtkefdlcionkbdaaDoor
