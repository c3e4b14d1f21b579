/- The walks of api.Tell, plain.Place, and of the law's is, bare: at no error, and at an Errno. -/
import Derived.Test.YtoijkbhgajghdaaGreatDoorEr
import Derived.Test.YtoijkbhgajghdaaGreatDoorDb
namespace Go.Proofs.YtoijkbhgajghdaaGreatDoor
open Go.RowKit Go.Shelf Go.Sort

/-- What errors.errorType holds. -/
structure ErrT (w : World) : Prop where
  out : w.cell? ⟨3, 0, none⟩ = some (.iface 207 (.agg #[.pointer (some ⟨10, 38, none⟩)]))
theorem ErrT.on {w w' : World} (h : ErrT w) (b : Below w.heap.size w w') : ErrT w' := ⟨by rw [b.cell (block_lt_of_cell h.out)]; exact h.out⟩

theorem tell_nil (w : World) : Calls Tryz.prog 61 #[.nilIface] w fun e w' => e = .returned (.int .i64 0) ∧ w' = w := by
  go_enter Tryz.func61, Tryz.ntmps61
  go_wp2
  go_ret
  exact ⟨rfl, rfl⟩

theorem b5 (w : World) (A B C D E : Obj) : Below w.heap.size w (((((w.alloc A).alloc B).alloc C).alloc D).alloc E) :=
  ((((((Below.refl _ _).alloc (Nat.le_refl _) _).alloc (by simp) _).alloc (by simp; omega) _).alloc (by simp; omega) _).alloc (by simp; omega) _)

set_option maxHeartbeats 1600000 in
set_option maxRecDepth 100000 in
theorem tell_errno (e : Int) (w : World) (hg : ErrT w) : Calls Tryz.prog 61 #[.iface 40 (.int .i64 e)] w fun x w' => x = .returned (.int .i64 e) ∧ Below w.heap.size w w' := by
  have bA : Below w.heap.size w (w.alloc (.cells #[.int .i64 0] 40)) := (Below.refl _ _).alloc (Nat.le_refl _) _
  have hA := (hg.on bA).out
  have cA := as_hit e ⟨w.heap.size, 0, none⟩ (.int .i64 0) (w.alloc (.cells #[.int .i64 0] 40)) hA (by simp) (by simp)
  have HA := Lib.hid cA
  clear cA hA
  go_enter Tryz.func61, Tryz.ntmps61
  go_wp2_with (go_at_call 86; refine HA.out.mono ?_; rintro x w' ⟨rfl, rfl⟩)
  go_ret
  exact ⟨rfl, b5 _ _ _ _ _ _⟩

set_option maxHeartbeats 1600000 in
set_option maxRecDepth 100000 in
theorem place_nil (w : World) : Calls Tryz.prog 28 #[.nilIface] w fun x w' => x = .returned (.tuple #[.int .i64 0, .int .i64 (-1)]) ∧ w' = w := by
  go_enter Tryz.func28, Tryz.ntmps28
  go_wp2_with (go_at_call 61; refine (tell_nil _).mono ?_; rintro x w' ⟨rfl, rfl⟩)
  refine wp_loop_rounds 1 ?_
  rw [rounds_succ]
  go_wp2
  go_ret2
  exact ⟨rfl, rfl⟩

theorem as_at (e : Int) (w : World) : (Instr.typeAssert (.iface 40 (.int .i64 e)) 38 84 true).run Tryz.prog w = .ok (.tuple #[.pointer none, .bool false]) w := by kernel_rfl
theorem as_un (e : Int) (w : World) : (Instr.typeAssert (.iface 40 (.int .i64 e)) 38 123 true).run Tryz.prog w = .ok (.tuple #[.nilIface, .bool false]) w := run_typeAssert_lacksB Tryz.underlying123 (by kernel_rfl) (by kernel_rfl) _ _ w

set_option maxHeartbeats 1600000 in
set_option maxRecDepth 100000 in
theorem place_errno (e : Int) (w : World) (hg : ErrT w) : Calls Tryz.prog 28 #[.iface 40 (.int .i64 e)] w fun x w' => x = .returned (.tuple #[.int .i64 e, .int .i64 (-1)]) ∧ Below w.heap.size w w' := by
  have hA := as_at e
  have hU := as_un e
  go_enter Tryz.func28, Tryz.ntmps28
  go_wp2_with (go_at_call 61; refine (tell_errno e _ hg).mono ?_; rintro x w1 ⟨rfl, b1⟩)
  refine wp_loop_rounds 1 ?_
  rw [rounds_succ]
  go_wp2
  go_ret2
  exact ⟨rfl, b1⟩

theorem bareF_any (e : Int) (w : World) : Calls Tryz.prog 35 #[.int .i64 e] w fun x w' => x = .returned (.agg #[.int .i64 e, .int .i64 (-1)]) ∧ Below w.heap.size w w' := by
  go_enter Tryz.func35, Tryz.ntmps35
  go_wp2
  exact bodyPost_ret (v := .agg #[.int .i64 e, .int .i64 (-1)]) (by simp [results, Tryz.results35, go_sem]) rfl ⟨rfl, (Below.refl _ _).alloc (Nat.le_refl _) _⟩

set_option maxHeartbeats 1600000 in
set_option maxRecDepth 100000 in
theorem is_nil (w : World) : Calls Tryz.prog 8 #[.nilIface, .agg #[.int .i64 0, .int .i64 (-1)]] w fun x w' => x = .returned (.bool true) ∧ Below w.heap.size w w' := by
  go_enter Tryz.func8, Tryz.ntmps8
  go_wp2_with (go_at_call 28; refine (place_nil _).mono ?_; rintro x w' ⟨rfl, rfl⟩)
  go_ret
  exact ⟨rfl, (Below.refl _ _).alloc (Nat.le_refl _) _⟩

set_option maxHeartbeats 1600000 in
set_option maxRecDepth 100000 in
theorem is_errno (c : Int) (w : World) (hg : ErrT w) : Calls Tryz.prog 8 #[.iface 40 (.int .i64 c), .agg #[.int .i64 c, .int .i64 (-1)]] w fun x w' => x = .returned (.bool true) ∧ Below w.heap.size w w' := by
  have bA : Below w.heap.size w (w.alloc (.cells #[.int .i64 c, .int .i64 (-1)] 42)) := (Below.refl _ _).alloc (Nat.le_refl _) _
  have hgA := hg.on bA
  go_enter Tryz.func8, Tryz.ntmps8
  go_wp2_with fail
  refine (place_errno c _ hgA).mono ?_
  rintro x w1 ⟨rfl, b1⟩
  have c0 : w1.cell? ⟨w.heap.size, 0, none⟩ = some (.int .i64 c) := by rw [b1.cell (by simp)]; simp
  have c1 : w1.cell? ⟨w.heap.size, 1, none⟩ = some (.int .i64 (-1)) := by rw [b1.cell (by simp)]; simp
  go_wp2
  go_ret
  exact ⟨rfl, bon bA b1⟩

end Go.Proofs.YtoijkbhgajghdaaGreatDoor
