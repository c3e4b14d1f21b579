/- The walk of version.Right, whole. -/
import Derived.Test.YtoojbpldhhbkbaaDoorPb
namespace Go.Proofs.YtoojbpldhhbkbaaDoor
open Go.RowKit Go.Shelf Go.Sort
attribute [local go_sem] pb_head

set_option maxHeartbeats 1600000 in
set_option maxRecDepth 100000 in
theorem right_r (e : Int) (c : UInt8) (t r : List UInt8) (w : World) (g0 : 0 ≤ e) (g1 : e < 1000000000) (g2 : Vm.ft e (c :: t) r = true) (g3 : Vm.dg c = true) (g4 : (c :: t).all (Vm.ok1 (Vm.us e r)) = true) (b : Bool) (g5 : r.all (Vm.ok1 Vm.sgn) = b) (h0 : -9223372036854775808 ≤ e) (h1 : e ≤ 9223372036854775807) (hu : (c :: t).length ≤ 200) (hr : r.length ≤ 200) (htab : Lib.TabIs Tryd.prog w "internal/strconv.uint64pow10" .u64 Lib.pow10Tab) :
    Calls Tryd.prog 30 #[.agg #[.int .i64 e, .string ⟨(c :: t).toArray⟩, .string ⟨r.toArray⟩]] w fun x w' => x = .returned (.bool (Vm.rt e (c :: t) r)) ∧ Below w.heap.size w w' := by
  have hb : Below w.heap.size w (w.alloc (.cells #[.int .i64 e, .string ⟨(c :: t).toArray⟩, .string ⟨r.toArray⟩] 32)) := (Below.refl _ _).alloc (Nat.le_refl _) _
  have hT := (Lib.tabBelow_of_tabIs htab).on hb
  clear htab
  have c0 : (w.alloc (.cells #[.int .i64 e, .string ⟨(c :: t).toArray⟩, .string ⟨r.toArray⟩] 32)).cell? ⟨w.heap.size, 0, none⟩ = some (.int .i64 e) := by simp
  have c1 : (w.alloc (.cells #[.int .i64 e, .string ⟨(c :: t).toArray⟩, .string ⟨r.toArray⟩] 32)).cell? ⟨w.heap.size, 1, none⟩ = some (.string ⟨(c :: t).toArray⟩) := by simp
  have c2 : (w.alloc (.cells #[.int .i64 e, .string ⟨(c :: t).toArray⟩, .string ⟨r.toArray⟩] 32)).cell? ⟨w.heap.size, 2, none⟩ = some (.string ⟨r.toArray⟩) := by simp
  have k0 := cell_regrown c0
  have k1 := cell_regrown c1
  have k2 := cell_regrown c2
  clear c0 c1 c2
  have HZ := Lib.hid (rt_rev (u := c :: t) g0 g1 g2 g3 g4 g5)
  have cF : ∀ d os, Calls Tryd.prog 43 #[.agg #[.int .i64 e, .string ⟨(c :: t).toArray⟩, .string ⟨r.toArray⟩]] (grow (redrawn (w.alloc (.cells #[.int .i64 e, .string ⟨(c :: t).toArray⟩, .string ⟨r.toArray⟩] 32)) d) os) fun x w'' => x = .returned (.bool true) ∧ ∃ p : Regrown, w'' = grow (redrawn (w.alloc (.cells #[.int .i64 e, .string ⟨(c :: t).toArray⟩, .string ⟨r.toArray⟩] 32)) p.d) p.os := fun d os => by rw [← g2]; exact Calls.regrown_of (fits_any e (c :: t) r _ h0 h1 (tab_regrown hT hb.size d os))
  have cD : ∀ d os, Calls Tryd.prog 44 #[.int .u8 c.toNat] (grow (redrawn (w.alloc (.cells #[.int .i64 e, .string ⟨(c :: t).toArray⟩, .string ⟨r.toArray⟩] 32)) d) os) fun x w'' => x = .returned (.bool true) ∧ ∃ p : Regrown, w'' = grow (redrawn (w.alloc (.cells #[.int .i64 e, .string ⟨(c :: t).toArray⟩, .string ⟨r.toArray⟩] 32)) p.d) p.os := by rw [← g3]; exact regrown_same (fun W => digit_any c W)
  have cU : ∀ d os, Calls Tryd.prog 46 #[.agg #[.int .i64 e, .string ⟨(c :: t).toArray⟩, .string ⟨r.toArray⟩]] (grow (redrawn (w.alloc (.cells #[.int .i64 e, .string ⟨(c :: t).toArray⟩, .string ⟨r.toArray⟩] 32)) d) os) fun x w'' => x = .returned (.string ⟨(Vm.us e r).toArray⟩) ∧ ∃ p : Regrown, w'' = grow (redrawn (w.alloc (.cells #[.int .i64 e, .string ⟨(c :: t).toArray⟩, .string ⟨r.toArray⟩] 32)) p.d) p.os := fun d os => Calls.regrown_of (us_any e (c :: t) r _)
  have cM : ∀ d os, Calls Tryd.prog 45 #[.string ⟨(c :: t).toArray⟩, .string ⟨(Vm.us e r).toArray⟩] (grow (redrawn (w.alloc (.cells #[.int .i64 e, .string ⟨(c :: t).toArray⟩, .string ⟨r.toArray⟩] 32)) d) os) fun x w'' => x = .returned (.bool true) ∧ ∃ p : Regrown, w'' = grow (redrawn (w.alloc (.cells #[.int .i64 e, .string ⟨(c :: t).toArray⟩, .string ⟨r.toArray⟩] 32)) p.d) p.os := by rw [← g4]; exact regrown_same (fun W => made_any _ _ W hu)
  have cR : ∀ d os, Calls Tryd.prog 45 #[.string ⟨r.toArray⟩, .string ⟨#[46, 43, 126]⟩] (grow (redrawn (w.alloc (.cells #[.int .i64 e, .string ⟨(c :: t).toArray⟩, .string ⟨r.toArray⟩] 32)) d) os) fun x w'' => x = .returned (.bool b) ∧ ∃ p : Regrown, w'' = grow (redrawn (w.alloc (.cells #[.int .i64 e, .string ⟨(c :: t).toArray⟩, .string ⟨r.toArray⟩] 32)) p.d) p.os := by rw [← g5]; exact regrown_same (fun W => made_any r Vm.sgn W hr)
  clear g4 g5
  go_enter Tryd.func30, Tryd.ntmps30
  go_wp2
  refine wp_region_quiet_below (by kernel_rfl) (by kernel_rfl) ?_
  repeat (any_goals (first | go_big_quiet_step ((first | with_reducible exact cF _ _ | with_reducible exact cD _ _ | with_reducible exact cU _ _ | with_reducible exact cM _ _ | with_reducible exact cR _ _)) | quiet_step ((first | with_reducible exact cF _ _ | with_reducible exact cD _ _ | with_reducible exact cU _ _ | with_reducible exact cM _ _ | with_reducible exact cR _ _))))
  refine wpQuiet_nil ?_
  intro _ hw'
  obtain ⟨⟨dq, osq⟩, hw''⟩ := hw'
  subst hw''
  go_wp2
  go_ret
  exact ⟨ret_bool HZ.out.symm, rg hb ⟨⟨dq, osq⟩, rfl⟩⟩

theorem right_any (e : Int) (u r : List UInt8) (w : World) (h0 : -9223372036854775808 ≤ e) (h1 : e ≤ 9223372036854775807) (hu : u.length ≤ 200) (hr : r.length ≤ 200) (htab : Lib.TabIs Tryd.prog w "internal/strconv.uint64pow10" .u64 Lib.pow10Tab) :
    Calls Tryd.prog 30 #[.agg #[.int .i64 e, .string ⟨u.toArray⟩, .string ⟨r.toArray⟩]] w fun x w' => x = .returned (.bool (Vm.rt e u r)) ∧ Below w.heap.size w w' := by
  by_cases g : 0 ≤ e ∧ e < 1000000000
  · obtain ⟨g0, g1⟩ := g
    cases g2 : Vm.ft e u r with
    | false => exact right_f e u r w g0 g1 g2 h0 h1 hu hr htab
    | true =>
      cases u with
      | nil => exact right_0 e r w g0 g1 g2 h0 h1 hr htab
      | cons c t =>
        cases g3 : Vm.dg c with
        | false => exact right_d e c t r w g0 g1 g2 g3 h0 h1 hu hr htab
        | true =>
          cases g4 : (c :: t).all (Vm.ok1 (Vm.us e r)) with
          | false => exact right_u e c t r w g0 g1 g2 g3 g4 h0 h1 hu hr htab
          | true => exact right_r e c t r w g0 g1 g2 g3 g4 _ rfl h0 h1 hu hr htab
  · exact right_e e u r w g h0 h1 hu hr htab

end Go.Proofs.YtoojbpldhhbkbaaDoor
