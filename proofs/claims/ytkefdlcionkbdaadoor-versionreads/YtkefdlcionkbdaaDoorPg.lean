/- The walks of the keeper's short, sign, read, held. -/
import Derived.Test.YtkefdlcionkbdaaDoorPf
import Derived.Test.YtkefdlcionkbdaaDoorCc
namespace Go.Proofs.YtkefdlcionkbdaaDoor
open Go.RowKit Go.Shelf Go.Sort

theorem ksign_any (n : Int) (w : World) (h : n = -1 ∨ n = 0 ∨ n = 1) : Calls Tryd.prog 22 #[.int .i64 n] w fun e w' => e = .returned (.int .i64 n) ∧ w' = w := by
  rcases h with rfl | rfl | rfl
  all_goals
    go_enter Tryd.func22, Tryd.ntmps22
    go_wp2
    go_ret
    exact ⟨rfl, rfl⟩

theorem kshort_any (e : Int) (u r : List UInt8) (w : World) : Calls Tryd.prog 20 #[.agg #[.int .i64 e, .string ⟨u.toArray⟩, .string ⟨r.toArray⟩]] w fun x w' =>
    x = .returned (.bool (decide (u.length ≤ 100) && decide (r.length ≤ 100))) ∧ Below w.heap.size w w' := by
  have hb : ∀ o, Below w.heap.size w (w.alloc o) := fun o => (Below.refl _ _).alloc (Nat.le_refl _) _
  by_cases h1 : u.length ≤ 100
  all_goals by_cases h2 : r.length ≤ 100
  all_goals
    go_enter Tryd.func20, Tryd.ntmps20
    go_wp2
    go_ret
    exact ⟨ret_bool (by apply Bool.eq_iff_iff.2; constructor <;> intro hh <;> simp at hh ⊢ <;> omega), hb _⟩

theorem compare_below (e1 : Int) (u1 r1 : List UInt8) (e2 : Int) (u2 r2 : List UInt8) (w : World) (h1 : u1.length ≤ 200) (h2 : r1.length ≤ 200) (h3 : u2.length ≤ 200) (h4 : r2.length ≤ 200) :
    Calls Tryd.prog 16 #[.agg #[.int .i64 e1, .string ⟨u1.toArray⟩, .string ⟨r1.toArray⟩], .agg #[.int .i64 e2, .string ⟨u2.toArray⟩, .string ⟨r2.toArray⟩]] w fun x w' =>
    x = .returned (.int .i64 (Vm.cv e1 u1 r1 e2 u2 r2)) ∧ Below w.heap.size w w' :=
  (compare_any e1 u1 r1 e2 u2 r2 w h1 h2 h3 h4).mono fun _ _ ⟨he, n, hw⟩ => ⟨he, by rw [hw]; exact below_drewN (((Below.refl _ _).alloc (Nat.le_refl _) _).alloc (by simp) _) n⟩

theorem read_some (s : List UInt8) (e : Int) (u r : List UInt8) (hp : Vm.pv s = some (e, u, r)) (w : World) (htab : Lib.TabIs Tryd.prog w "internal/strconv.uint64pow10" .u64 Lib.pow10Tab) :
    Calls Tryd.prog 24 #[.string ⟨s.toArray⟩] w fun x w' => x = .returned (.agg #[.int .i64 e, .string ⟨u.toArray⟩, .string ⟨r.toArray⟩]) ∧ Below w.heap.size w w' := by
  have hR : Below w.heap.size w (w.alloc (.cells #[.int .i64 0, .string ⟨#[]⟩, .string ⟨#[]⟩] 23)) := (Below.refl _ _).alloc (Nat.le_refl _) _
  have hT := (Lib.tabBelow_of_tabIs htab).on hR
  have hc := fun W h => parse_any s W h
  rw [hp] at hc
  have HC := Lib.hid hc
  clear hc htab hp
  go_enter Tryd.func24, Tryd.ntmps24
  go_wp2_with fail
  refine (HC.out _ hT.here).mono ?_
  rintro x w1 ⟨rfl, hb1⟩
  obtain ⟨k0, k1, k2, kf, kg⟩ := kept3 (g := w.heap.size) (x0 := .int .i64 0) (x1 := .string ⟨#[]⟩) (x2 := .string ⟨#[]⟩) (by simp) (by simp) (by simp) (by simp) (by simp) hb1
  have hW1 : Below w.heap.size w w1 := hR.trans (hb1.mono (by simp))
  unfold pvVal
  go_wp2
  exact bodyPost_ret (v := .agg #[.int .i64 e, .string ⟨u.toArray⟩, .string ⟨r.toArray⟩]) (by simp [results, Tryd.results24, go_sem, k0, k1, k2, kg]) rfl ⟨rfl, (((hW1.setCell (Nat.le_refl _) _).setCell (Nat.le_refl _) _).setCell (Nat.le_refl _) _).alloc (by have := hW1.size; simpa using this) _⟩

theorem itoa_one : Lib.itoa 1 = [49] := by
  unfold Lib.itoa; rw [if_neg (by decide), Vm.dd_unfold]; rfl
theorem pt_one : Vm.pt 1 [50, 46, 48, 126, 114, 99, 49] [51] = [49, 58, 50, 46, 48, 126, 114, 99, 49, 45, 51] := by
  unfold Vm.pt Vm.pe; rw [itoa_one]; rfl
theorem rt_one : Vm.rt 1 [50, 46, 48, 126, 114, 99, 49] [51] = true := by
  unfold Vm.rt Vm.ft; rw [pt_one]; decide +kernel
theorem pv_one : Vm.pv [49, 58, 50, 46, 48, 126, 114, 99, 49, 45, 51] = some (1, [50, 46, 48, 126, 114, 99, 49], [51]) := by
  rw [← pt_one]; exact Vm.pv_pt rt_one
theorem pv_nought {u r : List UInt8} (h : Vm.rt 0 u r = true) : Vm.pv (u ++ Vm.pr r) = some (0, u, r) := by
  have := Vm.pv_pt h
  unfold Vm.pt Vm.pe at this; simpa using this
theorem rt_nought {u r : List UInt8} (h1 : (u ++ Vm.pr r).length ≤ 40) (h2 : Vm.hd u = true) (h3 : u.all (Vm.ok1 (Vm.us 0 r)) = true) (h4 : r.all (Vm.ok1 Vm.sgn) = true) : Vm.rt 0 u r = true := by
  have e : Vm.pt 0 u r = u ++ Vm.pr r := by simp [Vm.pt, Vm.pe]
  have hr : r.length ≤ (Vm.pr r).length := by unfold Vm.pr; split <;> simp_all
  have : Vm.ft 0 u r = true := by
    unfold Vm.ft; rw [e]
    simp at h1 ⊢; omega
  unfold Vm.rt; rw [this, h2, h3, h4]; rfl
theorem pv_a : Vm.pv [49, 46, 48, 126, 97] = some (0, [49, 46, 48, 126, 97], []) := pv_nought (u := [49, 46, 48, 126, 97]) (r := []) (rt_nought (by decide) rfl (by decide +kernel) rfl)
theorem pv_b : Vm.pv [49, 46, 48] = some (0, [49, 46, 48], []) := pv_nought (u := [49, 46, 48]) (r := []) (rt_nought (by decide) rfl (by decide +kernel) rfl)
theorem pv_c : Vm.pv [49, 46, 57] = some (0, [49, 46, 57], []) := pv_nought (u := [49, 46, 57]) (r := []) (rt_nought (by decide) rfl (by decide +kernel) rfl)
theorem pv_d : Vm.pv [49, 46, 49, 48] = some (0, [49, 46, 49, 48], []) := pv_nought (u := [49, 46, 49, 48]) (r := []) (rt_nought (by decide) rfl (by decide +kernel) rfl)
theorem pv_e : Vm.pv [49, 46, 48, 45, 50] = some (0, [49, 46, 48], [50]) := pv_nought (u := [49, 46, 48]) (r := [50]) (rt_nought (by decide) rfl (by decide +kernel) (by decide +kernel))
theorem cv_ab : Vm.cv 0 [49, 46, 48, 126, 97] [] 0 [49, 46, 48] [] = -1 := by decide +kernel
theorem cv_cd : Vm.cv 0 [49, 46, 57] [] 0 [49, 46, 49, 48] [] = -1 := by decide +kernel
theorem cv_eb : Vm.cv 0 [49, 46, 48] [50] 0 [49, 46, 48] [] = 1 := by decide +kernel

theorem on {w w1 w2 : World} (h : Below w.heap.size w w1) (k : Below w1.heap.size w1 w2) : Below w.heap.size w w2 := h.trans (k.mono h.size)

set_option maxHeartbeats 1600000 in
set_option maxRecDepth 100000 in
/-- The fact that the keeper leans on. -/
theorem held_any (w : World) (htab : Lib.TabIs Tryd.prog w "internal/strconv.uint64pow10" .u64 Lib.pow10Tab) : Calls Tryd.prog 21 #[] w fun x w' => x = .returned (.bool true) ∧ Below w.heap.size w w' := by
  have hT := Lib.tabBelow_of_tabIs htab
  clear htab
  go_enter Tryd.func21, Tryd.ntmps21
  go_wp2_with fail
  refine (read_some [49, 58, 50, 46, 48, 126, 114, 99, 49, 45, 51] _ _ _ pv_one _ hT.here).mono ?_
  rintro x w1 ⟨rfl, b1⟩
  go_wp2_with fail
  refine (print_any 1 [50, 46, 48, 126, 114, 99, 49] [51] _ (by decide) (by decide) (by decide) (by decide) (hT _ b1)).mono ?_
  rintro x w2 ⟨rfl, b2'⟩
  have b2 := on b1 b2'
  rw [pt_one]
  go_wp2_with fail
  refine (read_some [49, 46, 48, 126, 97] _ _ _ pv_a _ (hT _ b2)).mono ?_
  rintro x w3 ⟨rfl, b3'⟩
  have b3 := on b2 b3'
  go_wp2_with fail
  refine (read_some [49, 46, 48] _ _ _ pv_b _ (hT _ b3)).mono ?_
  rintro x w4 ⟨rfl, b4'⟩
  have b4 := on b3 b4'
  go_wp2_with fail
  refine (compare_below 0 [49, 46, 48, 126, 97] [] 0 [49, 46, 48] [] _ (by decide) (by decide) (by decide) (by decide)).mono ?_
  rintro x w5 ⟨rfl, b5'⟩
  have b5 := on b4 b5'
  rw [cv_ab]
  go_wp2_with fail
  refine (read_some [49, 46, 57] _ _ _ pv_c _ (hT _ b5)).mono ?_
  rintro x w6 ⟨rfl, b6'⟩
  have b6 := on b5 b6'
  go_wp2_with fail
  refine (read_some [49, 46, 49, 48] _ _ _ pv_d _ (hT _ b6)).mono ?_
  rintro x w7 ⟨rfl, b7'⟩
  have b7 := on b6 b7'
  go_wp2_with fail
  refine (compare_below 0 [49, 46, 57] [] 0 [49, 46, 49, 48] [] _ (by decide) (by decide) (by decide) (by decide)).mono ?_
  rintro x w8 ⟨rfl, b8'⟩
  have b8 := on b7 b8'
  rw [cv_cd]
  go_wp2_with fail
  refine (read_some [49, 46, 48, 45, 50] _ _ _ pv_e _ (hT _ b8)).mono ?_
  rintro x w9 ⟨rfl, b9'⟩
  have b9 := on b8 b9'
  go_wp2_with fail
  refine (read_some [49, 46, 48] _ _ _ pv_b _ (hT _ b9)).mono ?_
  rintro x w10 ⟨rfl, b10'⟩
  have b10 := on b9 b10'
  go_wp2_with fail
  refine (compare_below 0 [49, 46, 48] [50] 0 [49, 46, 48] [] _ (by decide) (by decide) (by decide) (by decide)).mono ?_
  rintro x w11 ⟨rfl, b11'⟩
  have b11 := on b10 b11'
  rw [cv_eb]
  go_wp2
  go_ret
  exact ⟨rfl, b11⟩

end Go.Proofs.YtkefdlcionkbdaaDoor
