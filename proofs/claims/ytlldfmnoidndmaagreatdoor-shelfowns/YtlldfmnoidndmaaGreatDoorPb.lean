/- The walks of version.madeOf, upstreamSigns, fits, Right. -/
import Derived.Test.YtlldfmnoidndmaaGreatDoorPa
import Derived.Test.YtlldfmnoidndmaaGreatDoorSh
import Derived.Lib.QuietBelow
import Derived.BigQuiet
namespace Go.Proofs.YtlldfmnoidndmaaGreatDoor
open Go.RowKit Go.Shelf Go.Sort

theorem idx_any (m : List UInt8) (c : UInt8) (w : World) : Calls Tryz.prog 192 #[.string ⟨m.toArray⟩, .int .u8 c.toNat] w fun e w' => e = .returned (.int .i64 (Lib.indexByte m c)) ∧ w' = w := by
  have h := Tryz.strings_IndexByte ⟨m.toArray⟩ c.toNat w
  have e1 : ((c.toNat : Int).toNat).toUInt8 = c := by simp
  rw [e1] at h; exact h

theorem ok_dig {m : List UInt8} {c : UInt8} (h : Vm.dg c = true) : Vm.ok1 m c = true := by simp [Vm.ok1, h]
theorem ok_let {m : List UInt8} {c : UInt8} (h : Vm.lr c = true) : Vm.ok1 m c = true := by simp [Vm.ok1, h]
theorem ok_in {m : List UInt8} {c : UInt8} (h : ¬ Lib.indexByte m c < 0) : Vm.ok1 m c = true := by
  have := Vm.idx_neg m c
  rw [decide_eq_false h] at this
  simp [Vm.ok1]; right; simpa using this
theorem ok_no {m : List UInt8} {c : UInt8} (h1 : Vm.dg c = false) (h2 : Vm.lr c = false) (h : Lib.indexByte m c < 0) : Vm.ok1 m c = false := by
  have := Vm.idx_neg m c
  rw [decide_eq_true h] at this
  simp [Vm.ok1, h1, h2]; simpa using this

theorem all_to {p : UInt8 → Bool} {l : List UInt8} (h : ∀ j (hj : j < l.length), p l[j] = true) : true = l.all p := by
  symm; rw [List.all_eq_true]
  intro x hx
  obtain ⟨j, hj, rfl⟩ := List.getElem_of_mem hx
  exact h j hj
theorem all_no {p : UInt8 → Bool} {l : List UInt8} (k : Nat) (hk : k < l.length) (h : p l[k] = false) : false = l.all p := by
  symm; rw [List.all_eq_false]
  exact ⟨l[k], List.getElem_mem hk, by simp [h]⟩

set_option maxHeartbeats 400000 in
theorem made_any (l m : List UInt8) (w : World) (hl : l.length ≤ 200) : Calls Tryz.prog 158 #[.string ⟨l.toArray⟩, .string ⟨m.toArray⟩] w fun e w' => e = .returned (.bool (l.all (Vm.ok1 m))) ∧ w' = w := by
  go_enter Tryz.func158, Tryz.ntmps158
  go_wp2
  go_loop [9] (fun i => ∃ k : Nat, k ≤ l.length ∧ i = .int .i64 k ∧ ∀ j (hj : j < l.length), j < k → Vm.ok1 m l[j] = true) (fun i => l.length - (intOf i).toNat)
  case atStart => exact ⟨0, Nat.zero_le _, rfl, fun j _ h => absurd h (Nat.not_lt_zero _)⟩
  case round =>
    obtain ⟨k, hk, rfl, hpre0⟩ := hrel
    have hpre : Hid (∀ j (hj : j < l.length), j < k → Vm.ok1 m l[j] = true) := hpre0
    clear hpre0
    by_cases hlt : k < l.length
    · have more : Vm.ok1 m l[k] = true → ∀ j (hj : j < l.length), j < k + 1 → Vm.ok1 m l[j] = true := fun hc j hj h => by
        by_cases e : j = k
        · subst e; exact hc
        · exact hpre.out j hj (by omega)
      have HM := Lib.hid more
      clear more
      go_wp2_with (first | (go_at_call 155; refine (digit_any _ _).mono ?_; rintro e w' ⟨rfl, rfl⟩) | (go_at_call 191; refine (letter_any _ _).mono ?_; rintro e w' ⟨rfl, rfl⟩) | (go_at_call 192; refine (idx_any _ _ _).mono ?_; rintro e w' ⟨rfl, rfl⟩))
      · exact ⟨⟨k + 1, hlt, by go_num, HM.out (ok_dig ‹_›)⟩, by simp [intOf]; omega⟩
      · exact ⟨⟨k + 1, hlt, by go_num, HM.out (ok_let ‹_›)⟩, by simp [intOf]; omega⟩
      · go_ret
        have h1 : ¬ Vm.dg l[k] = true := ‹_›
        have h2 : ¬ Vm.lr l[k] = true := ‹_›
        exact ⟨ret_bool (all_no k hlt (ok_no (by simpa using h1) (by simpa using h2) ‹_›)), rfl⟩
      · have h3 : 0 ≤ Lib.indexByte m l[k] := ‹_›
        exact ⟨⟨k + 1, hlt, by go_num, HM.out (ok_in (by omega))⟩, by simp [intOf]; omega⟩
    · go_wp2
      go_ret
      exact ⟨ret_bool (all_to (fun j hj => hpre.out j hj (by omega))), rfl⟩

theorem ret_str {a b : List UInt8} (h : a = b) : Ending.returned (.string ⟨a.toArray⟩) = .returned (.string ⟨b.toArray⟩) := by rw [h]
theorem ret_sv {a : ByteArray} {b : List UInt8} (h : a = ⟨b.toArray⟩) : Ending.returned (.string a) = .returned (.string ⟨b.toArray⟩) := by rw [h]

theorem us_any (e : Int) (u r : List UInt8) (w : World) : Calls Tryz.prog 159 #[.agg #[.int .i64 e, .string ⟨u.toArray⟩, .string ⟨r.toArray⟩]] w fun x w' => x = .returned (.string ⟨(Vm.us e r).toArray⟩) ∧ Below w.heap.size w w' := by
  have hb : ∀ o, Below w.heap.size w (w.alloc o) := fun o => (Below.refl _ _).alloc (Nat.le_refl _) _
  by_cases he : 0 < e
  all_goals
    by_cases hr : r = []
    · subst hr
      have HU := Lib.hid (show Vm.us e [] = _ from by simp only [Vm.us, he, Vm.sgn, if_true, if_false]; rfl)
      go_enter Tryz.func159, Tryz.ntmps159
      go_wp2
      go_ret
      exact ⟨ret_sv (by rw [HU.out]; rfl), hb _⟩
    · have hre : r.isEmpty = false := by cases r with
        | nil => exact absurd rfl hr
        | cons c r => rfl
      have HU := Lib.hid (show Vm.us e r = _ from by simp only [Vm.us, he, hr, Vm.sgn, if_true, if_false]; rfl)
      go_enter Tryz.func159, Tryz.ntmps159
      go_wp2
      go_ret
      exact ⟨ret_sv (by rw [HU.out]; rfl), hb _⟩

set_option maxHeartbeats 800000 in
theorem fits_any (e : Int) (u r : List UInt8) (w : World) (h0 : -9223372036854775808 ≤ e) (h1 : e ≤ 9223372036854775807) (htab : Lib.TabIs Tryz.prog w "internal/strconv.uint64pow10" .u64 Lib.pow10Tab) :
    Calls Tryz.prog 157 #[.agg #[.int .i64 e, .string ⟨u.toArray⟩, .string ⟨r.toArray⟩]] w fun x w' => x = .returned (.bool (Vm.ft e u r)) ∧ Below w.heap.size w w' := by
  have hb : ∀ o, Below w.heap.size w (w.alloc o) := fun o => (Below.refl _ _).alloc (Nat.le_refl _) _
  have htab' := fun o => (Lib.tabBelow_of_tabIs htab).on (hb o)
  clear htab
  by_cases hu : u.length ≤ 40
  · by_cases hr : r.length ≤ 40
    · have HF : Hid (Vm.ft e u r = decide ((Vm.pt e u r).length ≤ 40)) := by show Vm.ft e u r = _; simp [Vm.ft, hu, hr]
      go_enter Tryz.func157, Tryz.ntmps157
      go_wp2_with fail
      refine (print_any e u r _ h0 h1 (by omega) (by omega) (htab' _).here).mono ?_
      rintro x w1 ⟨rfl, hb1⟩
      go_wp2
      go_ret
      exact ⟨ret_bool (by rw [HF.out]; simp; try omega), (hb _).trans (hb1.mono (by simp))⟩
    · have HF : Hid (Vm.ft e u r = false) := by show Vm.ft e u r = _; simp [Vm.ft, hr]
      go_enter Tryz.func157, Tryz.ntmps157
      go_wp2
      go_ret
      exact ⟨ret_bool (by rw [HF.out]), hb _⟩
  · have HF : Hid (Vm.ft e u r = false) := by show Vm.ft e u r = _; simp [Vm.ft, hu]
    go_enter Tryz.func157, Tryz.ntmps157
    go_wp2
    go_ret
    exact ⟨ret_bool (by rw [HF.out]), hb _⟩

theorem rt_neg {e : Int} (u r : List UInt8) (h : ¬ 0 ≤ e) : Vm.rt e u r = false := by simp [Vm.rt, h]
theorem rt_big {e : Int} (u r : List UInt8) (h : ¬ e < 1000000000) : Vm.rt e u r = false := by simp [Vm.rt, h]
theorem rt_ft {e : Int} {u r : List UInt8} (h : Vm.ft e u r = false) : Vm.rt e u r = false := by simp [Vm.rt, h]
theorem rt_hd {e : Int} {u r : List UInt8} (h : Vm.hd u = false) : Vm.rt e u r = false := by simp [Vm.rt, h]
theorem rt_up {e : Int} {u r : List UInt8} (h : u.all (Vm.ok1 (Vm.us e r)) = false) : Vm.rt e u r = false := by
  unfold Vm.rt; rw [h]; simp
theorem rt_rev {e : Int} {u r : List UInt8} {b : Bool} (g0 : 0 ≤ e) (g1 : e < 1000000000) (g2 : Vm.ft e u r = true) (g3 : Vm.hd u = true) (g4 : u.all (Vm.ok1 (Vm.us e r)) = true) (h : r.all (Vm.ok1 Vm.sgn) = b) : Vm.rt e u r = b := by
  unfold Vm.rt; rw [g2, g3, g4, h]; simp [g0, g1]

theorem rg {w W w' : World} (h : Below w.heap.size w W) (h' : ∃ p : Regrown, w' = grow (redrawn W p.d) p.os) : Below w.heap.size w w' := by
  obtain ⟨p, rfl⟩ := h'
  exact h.trans ((below_regrown W p.d p.os).mono h.size)
theorem regrown_same {f : FuncId} {args : Array Value} {w : World} {v : Value} (h : ∀ W, Calls Tryz.prog f args W fun e w' => e = .returned v ∧ w' = W) (d : Nat) (os : Array Obj) :
    Calls Tryz.prog f args (grow (redrawn w d) os) fun e w'' => e = .returned v ∧ ∃ p : Regrown, w'' = grow (redrawn w p.d) p.os :=
  (h _).mono fun _ _ ⟨he, hw⟩ => ⟨he, ⟨d, os⟩, hw⟩
theorem tab_regrown {w W : World} (hT : Lib.TabBelow Tryz.prog w.heap.size W "internal/strconv.uint64pow10" .u64 Lib.pow10Tab) (hs : w.heap.size ≤ W.heap.size) (d : Nat) (os : Array Obj) : Lib.TabIs Tryz.prog (grow (redrawn W d) os) "internal/strconv.uint64pow10" .u64 Lib.pow10Tab :=
  hT _ ((below_regrown W d os).mono hs)
theorem pb_head (c : UInt8) (l : List UInt8) (h : 0 < (ByteArray.mk (c :: l).toArray).size) : (ByteArray.mk (c :: l).toArray)[0]'h = c := rfl
attribute [local go_sem] pb_head

set_option maxHeartbeats 1600000 in
set_option maxRecDepth 100000 in
theorem right_e (e : Int) (u r : List UInt8) (w : World) (g : ¬ (0 ≤ e ∧ e < 1000000000)) (_h0 : -9223372036854775808 ≤ e) (_h1 : e ≤ 9223372036854775807) (_hu : u.length ≤ 200) (_hr : r.length ≤ 200) (htab : Lib.TabIs Tryz.prog w "internal/strconv.uint64pow10" .u64 Lib.pow10Tab) :
    Calls Tryz.prog 120 #[.agg #[.int .i64 e, .string ⟨u.toArray⟩, .string ⟨r.toArray⟩]] w fun x w' => x = .returned (.bool (Vm.rt e u r)) ∧ Below w.heap.size w w' := by
  have hb : Below w.heap.size w (w.alloc (.cells #[.int .i64 e, .string ⟨u.toArray⟩, .string ⟨r.toArray⟩] 37)) := (Below.refl _ _).alloc (Nat.le_refl _) _
  have hT := (Lib.tabBelow_of_tabIs htab).on hb
  clear htab
  have c0 : (w.alloc (.cells #[.int .i64 e, .string ⟨u.toArray⟩, .string ⟨r.toArray⟩] 37)).cell? ⟨w.heap.size, 0, none⟩ = some (.int .i64 e) := by simp
  have c1 : (w.alloc (.cells #[.int .i64 e, .string ⟨u.toArray⟩, .string ⟨r.toArray⟩] 37)).cell? ⟨w.heap.size, 1, none⟩ = some (.string ⟨u.toArray⟩) := by simp
  have c2 : (w.alloc (.cells #[.int .i64 e, .string ⟨u.toArray⟩, .string ⟨r.toArray⟩] 37)).cell? ⟨w.heap.size, 2, none⟩ = some (.string ⟨r.toArray⟩) := by simp
  have k0 := cell_regrown c0
  have k1 := cell_regrown c1
  have k2 := cell_regrown c2
  clear c0 c1 c2
  by_cases g0 : 0 ≤ e
  · have g1 : ¬ e < 1000000000 := fun h => g ⟨g0, h⟩
    clear g
    have HZ := Lib.hid (rt_big u r g1)
    have d1 : decide (e < 1000000000) = false := by simpa using g1
    go_enter Tryz.func120, Tryz.ntmps120
    go_wp2
    refine wp_region_quiet_below (by kernel_rfl) (by kernel_rfl) ?_
    repeat (any_goals (first | go_big_quiet_step ((fail)) | quiet_step ((fail))))
    refine wpQuiet_nil ?_
    intro _ hw'
    obtain ⟨⟨dq, osq⟩, hw''⟩ := hw'
    subst hw''
    go_wp2
    go_ret
    exact ⟨ret_bool HZ.out.symm, rg hb ⟨⟨dq, osq⟩, rfl⟩⟩
  · clear g
    have HZ := Lib.hid (rt_neg u r g0)
    have d0 : decide (0 ≤ e) = false := by simpa using g0
    go_enter Tryz.func120, Tryz.ntmps120
    go_wp2
    refine wp_region_quiet_below (by kernel_rfl) (by kernel_rfl) ?_
    repeat (any_goals (first | go_big_quiet_step ((fail)) | quiet_step ((fail))))
    refine wpQuiet_nil ?_
    intro _ hw'
    obtain ⟨⟨dq, osq⟩, hw''⟩ := hw'
    subst hw''
    go_wp2
    go_ret
    exact ⟨ret_bool HZ.out.symm, rg hb ⟨⟨dq, osq⟩, rfl⟩⟩

set_option maxHeartbeats 1600000 in
set_option maxRecDepth 100000 in
theorem right_f (e : Int) (u r : List UInt8) (w : World) (g0 : 0 ≤ e) (g1 : e < 1000000000) (g2 : Vm.ft e u r = false) (h0 : -9223372036854775808 ≤ e) (h1 : e ≤ 9223372036854775807) (_hu : u.length ≤ 200) (_hr : r.length ≤ 200) (htab : Lib.TabIs Tryz.prog w "internal/strconv.uint64pow10" .u64 Lib.pow10Tab) :
    Calls Tryz.prog 120 #[.agg #[.int .i64 e, .string ⟨u.toArray⟩, .string ⟨r.toArray⟩]] w fun x w' => x = .returned (.bool (Vm.rt e u r)) ∧ Below w.heap.size w w' := by
  have hb : Below w.heap.size w (w.alloc (.cells #[.int .i64 e, .string ⟨u.toArray⟩, .string ⟨r.toArray⟩] 37)) := (Below.refl _ _).alloc (Nat.le_refl _) _
  have hT := (Lib.tabBelow_of_tabIs htab).on hb
  clear htab
  have c0 : (w.alloc (.cells #[.int .i64 e, .string ⟨u.toArray⟩, .string ⟨r.toArray⟩] 37)).cell? ⟨w.heap.size, 0, none⟩ = some (.int .i64 e) := by simp
  have c1 : (w.alloc (.cells #[.int .i64 e, .string ⟨u.toArray⟩, .string ⟨r.toArray⟩] 37)).cell? ⟨w.heap.size, 1, none⟩ = some (.string ⟨u.toArray⟩) := by simp
  have c2 : (w.alloc (.cells #[.int .i64 e, .string ⟨u.toArray⟩, .string ⟨r.toArray⟩] 37)).cell? ⟨w.heap.size, 2, none⟩ = some (.string ⟨r.toArray⟩) := by simp
  have k0 := cell_regrown c0
  have k1 := cell_regrown c1
  have k2 := cell_regrown c2
  clear c0 c1 c2
  have HZ := Lib.hid (rt_ft g2)
  have cF : ∀ d os, Calls Tryz.prog 157 #[.agg #[.int .i64 e, .string ⟨u.toArray⟩, .string ⟨r.toArray⟩]] (grow (redrawn (w.alloc (.cells #[.int .i64 e, .string ⟨u.toArray⟩, .string ⟨r.toArray⟩] 37)) d) os) fun x w'' => x = .returned (.bool false) ∧ ∃ p : Regrown, w'' = grow (redrawn (w.alloc (.cells #[.int .i64 e, .string ⟨u.toArray⟩, .string ⟨r.toArray⟩] 37)) p.d) p.os := fun d os => by rw [← g2]; exact Calls.regrown_of (fits_any e u r _ h0 h1 (tab_regrown hT hb.size d os))
  go_enter Tryz.func120, Tryz.ntmps120
  go_wp2
  refine wp_region_quiet_below (by kernel_rfl) (by kernel_rfl) ?_
  repeat (any_goals (first | go_big_quiet_step ((with_reducible exact cF _ _)) | quiet_step ((with_reducible exact cF _ _))))
  refine wpQuiet_nil ?_
  intro _ hw'
  obtain ⟨⟨dq, osq⟩, hw''⟩ := hw'
  subst hw''
  go_wp2
  go_ret
  exact ⟨ret_bool HZ.out.symm, rg hb ⟨⟨dq, osq⟩, rfl⟩⟩

set_option maxHeartbeats 1600000 in
set_option maxRecDepth 100000 in
theorem right_0 (e : Int) (r : List UInt8) (w : World) (g0 : 0 ≤ e) (g1 : e < 1000000000) (g2 : Vm.ft e [] r = true) (h0 : -9223372036854775808 ≤ e) (h1 : e ≤ 9223372036854775807) (_hr : r.length ≤ 200) (htab : Lib.TabIs Tryz.prog w "internal/strconv.uint64pow10" .u64 Lib.pow10Tab) :
    Calls Tryz.prog 120 #[.agg #[.int .i64 e, .string ⟨([] : List UInt8).toArray⟩, .string ⟨r.toArray⟩]] w fun x w' => x = .returned (.bool (Vm.rt e [] r)) ∧ Below w.heap.size w w' := by
  have hb : Below w.heap.size w (w.alloc (.cells #[.int .i64 e, .string ⟨([] : List UInt8).toArray⟩, .string ⟨r.toArray⟩] 37)) := (Below.refl _ _).alloc (Nat.le_refl _) _
  have hT := (Lib.tabBelow_of_tabIs htab).on hb
  clear htab
  have c0 : (w.alloc (.cells #[.int .i64 e, .string ⟨([] : List UInt8).toArray⟩, .string ⟨r.toArray⟩] 37)).cell? ⟨w.heap.size, 0, none⟩ = some (.int .i64 e) := by simp
  have c1 : (w.alloc (.cells #[.int .i64 e, .string ⟨([] : List UInt8).toArray⟩, .string ⟨r.toArray⟩] 37)).cell? ⟨w.heap.size, 1, none⟩ = some (.string ⟨([] : List UInt8).toArray⟩) := by simp
  have c2 : (w.alloc (.cells #[.int .i64 e, .string ⟨([] : List UInt8).toArray⟩, .string ⟨r.toArray⟩] 37)).cell? ⟨w.heap.size, 2, none⟩ = some (.string ⟨r.toArray⟩) := by simp
  have k0 := cell_regrown c0
  have k1 := cell_regrown c1
  have k2 := cell_regrown c2
  clear c0 c1 c2
  have HZ := Lib.hid (rt_hd (e := e) (u := []) (r := r) rfl)
  have cF : ∀ d os, Calls Tryz.prog 157 #[.agg #[.int .i64 e, .string ⟨([] : List UInt8).toArray⟩, .string ⟨r.toArray⟩]] (grow (redrawn (w.alloc (.cells #[.int .i64 e, .string ⟨([] : List UInt8).toArray⟩, .string ⟨r.toArray⟩] 37)) d) os) fun x w'' => x = .returned (.bool true) ∧ ∃ p : Regrown, w'' = grow (redrawn (w.alloc (.cells #[.int .i64 e, .string ⟨([] : List UInt8).toArray⟩, .string ⟨r.toArray⟩] 37)) p.d) p.os := fun d os => by rw [← g2]; exact Calls.regrown_of (fits_any e ([] : List UInt8) r _ h0 h1 (tab_regrown hT hb.size d os))
  go_enter Tryz.func120, Tryz.ntmps120
  go_wp2
  refine wp_region_quiet_below (by kernel_rfl) (by kernel_rfl) ?_
  repeat (any_goals (first | go_big_quiet_step ((with_reducible exact cF _ _)) | quiet_step ((with_reducible exact cF _ _))))
  refine wpQuiet_nil ?_
  intro _ hw'
  obtain ⟨⟨dq, osq⟩, hw''⟩ := hw'
  subst hw''
  go_wp2
  go_ret
  exact ⟨ret_bool HZ.out.symm, rg hb ⟨⟨dq, osq⟩, rfl⟩⟩

set_option maxHeartbeats 1600000 in
set_option maxRecDepth 100000 in
theorem right_d (e : Int) (c : UInt8) (t r : List UInt8) (w : World) (g0 : 0 ≤ e) (g1 : e < 1000000000) (g2 : Vm.ft e (c :: t) r = true) (g3 : Vm.dg c = false) (h0 : -9223372036854775808 ≤ e) (h1 : e ≤ 9223372036854775807) (_hu : (c :: t).length ≤ 200) (_hr : r.length ≤ 200) (htab : Lib.TabIs Tryz.prog w "internal/strconv.uint64pow10" .u64 Lib.pow10Tab) :
    Calls Tryz.prog 120 #[.agg #[.int .i64 e, .string ⟨(c :: t).toArray⟩, .string ⟨r.toArray⟩]] w fun x w' => x = .returned (.bool (Vm.rt e (c :: t) r)) ∧ Below w.heap.size w w' := by
  have hb : Below w.heap.size w (w.alloc (.cells #[.int .i64 e, .string ⟨(c :: t).toArray⟩, .string ⟨r.toArray⟩] 37)) := (Below.refl _ _).alloc (Nat.le_refl _) _
  have hT := (Lib.tabBelow_of_tabIs htab).on hb
  clear htab
  have c0 : (w.alloc (.cells #[.int .i64 e, .string ⟨(c :: t).toArray⟩, .string ⟨r.toArray⟩] 37)).cell? ⟨w.heap.size, 0, none⟩ = some (.int .i64 e) := by simp
  have c1 : (w.alloc (.cells #[.int .i64 e, .string ⟨(c :: t).toArray⟩, .string ⟨r.toArray⟩] 37)).cell? ⟨w.heap.size, 1, none⟩ = some (.string ⟨(c :: t).toArray⟩) := by simp
  have c2 : (w.alloc (.cells #[.int .i64 e, .string ⟨(c :: t).toArray⟩, .string ⟨r.toArray⟩] 37)).cell? ⟨w.heap.size, 2, none⟩ = some (.string ⟨r.toArray⟩) := by simp
  have k0 := cell_regrown c0
  have k1 := cell_regrown c1
  have k2 := cell_regrown c2
  clear c0 c1 c2
  have HZ := Lib.hid (rt_hd (e := e) (u := c :: t) (r := r) g3)
  have cF : ∀ d os, Calls Tryz.prog 157 #[.agg #[.int .i64 e, .string ⟨(c :: t).toArray⟩, .string ⟨r.toArray⟩]] (grow (redrawn (w.alloc (.cells #[.int .i64 e, .string ⟨(c :: t).toArray⟩, .string ⟨r.toArray⟩] 37)) d) os) fun x w'' => x = .returned (.bool true) ∧ ∃ p : Regrown, w'' = grow (redrawn (w.alloc (.cells #[.int .i64 e, .string ⟨(c :: t).toArray⟩, .string ⟨r.toArray⟩] 37)) p.d) p.os := fun d os => by rw [← g2]; exact Calls.regrown_of (fits_any e (c :: t) r _ h0 h1 (tab_regrown hT hb.size d os))
  have cD : ∀ d os, Calls Tryz.prog 155 #[.int .u8 c.toNat] (grow (redrawn (w.alloc (.cells #[.int .i64 e, .string ⟨(c :: t).toArray⟩, .string ⟨r.toArray⟩] 37)) d) os) fun x w'' => x = .returned (.bool false) ∧ ∃ p : Regrown, w'' = grow (redrawn (w.alloc (.cells #[.int .i64 e, .string ⟨(c :: t).toArray⟩, .string ⟨r.toArray⟩] 37)) p.d) p.os := by rw [← g3]; exact regrown_same (fun W => digit_any c W)
  go_enter Tryz.func120, Tryz.ntmps120
  go_wp2
  refine wp_region_quiet_below (by kernel_rfl) (by kernel_rfl) ?_
  repeat (any_goals (first | go_big_quiet_step ((first | with_reducible exact cF _ _ | with_reducible exact cD _ _)) | quiet_step ((first | with_reducible exact cF _ _ | with_reducible exact cD _ _))))
  refine wpQuiet_nil ?_
  intro _ hw'
  obtain ⟨⟨dq, osq⟩, hw''⟩ := hw'
  subst hw''
  go_wp2
  go_ret
  exact ⟨ret_bool HZ.out.symm, rg hb ⟨⟨dq, osq⟩, rfl⟩⟩

set_option maxHeartbeats 1600000 in
set_option maxRecDepth 100000 in
theorem right_u (e : Int) (c : UInt8) (t r : List UInt8) (w : World) (g0 : 0 ≤ e) (g1 : e < 1000000000) (g2 : Vm.ft e (c :: t) r = true) (g3 : Vm.dg c = true) (g4 : (c :: t).all (Vm.ok1 (Vm.us e r)) = false) (h0 : -9223372036854775808 ≤ e) (h1 : e ≤ 9223372036854775807) (hu : (c :: t).length ≤ 200) (_hr : r.length ≤ 200) (htab : Lib.TabIs Tryz.prog w "internal/strconv.uint64pow10" .u64 Lib.pow10Tab) :
    Calls Tryz.prog 120 #[.agg #[.int .i64 e, .string ⟨(c :: t).toArray⟩, .string ⟨r.toArray⟩]] w fun x w' => x = .returned (.bool (Vm.rt e (c :: t) r)) ∧ Below w.heap.size w w' := by
  have hb : Below w.heap.size w (w.alloc (.cells #[.int .i64 e, .string ⟨(c :: t).toArray⟩, .string ⟨r.toArray⟩] 37)) := (Below.refl _ _).alloc (Nat.le_refl _) _
  have hT := (Lib.tabBelow_of_tabIs htab).on hb
  clear htab
  have c0 : (w.alloc (.cells #[.int .i64 e, .string ⟨(c :: t).toArray⟩, .string ⟨r.toArray⟩] 37)).cell? ⟨w.heap.size, 0, none⟩ = some (.int .i64 e) := by simp
  have c1 : (w.alloc (.cells #[.int .i64 e, .string ⟨(c :: t).toArray⟩, .string ⟨r.toArray⟩] 37)).cell? ⟨w.heap.size, 1, none⟩ = some (.string ⟨(c :: t).toArray⟩) := by simp
  have c2 : (w.alloc (.cells #[.int .i64 e, .string ⟨(c :: t).toArray⟩, .string ⟨r.toArray⟩] 37)).cell? ⟨w.heap.size, 2, none⟩ = some (.string ⟨r.toArray⟩) := by simp
  have k0 := cell_regrown c0
  have k1 := cell_regrown c1
  have k2 := cell_regrown c2
  clear c0 c1 c2
  have HZ := Lib.hid (rt_up g4)
  have cF : ∀ d os, Calls Tryz.prog 157 #[.agg #[.int .i64 e, .string ⟨(c :: t).toArray⟩, .string ⟨r.toArray⟩]] (grow (redrawn (w.alloc (.cells #[.int .i64 e, .string ⟨(c :: t).toArray⟩, .string ⟨r.toArray⟩] 37)) d) os) fun x w'' => x = .returned (.bool true) ∧ ∃ p : Regrown, w'' = grow (redrawn (w.alloc (.cells #[.int .i64 e, .string ⟨(c :: t).toArray⟩, .string ⟨r.toArray⟩] 37)) p.d) p.os := fun d os => by rw [← g2]; exact Calls.regrown_of (fits_any e (c :: t) r _ h0 h1 (tab_regrown hT hb.size d os))
  have cD : ∀ d os, Calls Tryz.prog 155 #[.int .u8 c.toNat] (grow (redrawn (w.alloc (.cells #[.int .i64 e, .string ⟨(c :: t).toArray⟩, .string ⟨r.toArray⟩] 37)) d) os) fun x w'' => x = .returned (.bool true) ∧ ∃ p : Regrown, w'' = grow (redrawn (w.alloc (.cells #[.int .i64 e, .string ⟨(c :: t).toArray⟩, .string ⟨r.toArray⟩] 37)) p.d) p.os := by rw [← g3]; exact regrown_same (fun W => digit_any c W)
  have cU : ∀ d os, Calls Tryz.prog 159 #[.agg #[.int .i64 e, .string ⟨(c :: t).toArray⟩, .string ⟨r.toArray⟩]] (grow (redrawn (w.alloc (.cells #[.int .i64 e, .string ⟨(c :: t).toArray⟩, .string ⟨r.toArray⟩] 37)) d) os) fun x w'' => x = .returned (.string ⟨(Vm.us e r).toArray⟩) ∧ ∃ p : Regrown, w'' = grow (redrawn (w.alloc (.cells #[.int .i64 e, .string ⟨(c :: t).toArray⟩, .string ⟨r.toArray⟩] 37)) p.d) p.os := fun d os => Calls.regrown_of (us_any e (c :: t) r _)
  have cM : ∀ d os, Calls Tryz.prog 158 #[.string ⟨(c :: t).toArray⟩, .string ⟨(Vm.us e r).toArray⟩] (grow (redrawn (w.alloc (.cells #[.int .i64 e, .string ⟨(c :: t).toArray⟩, .string ⟨r.toArray⟩] 37)) d) os) fun x w'' => x = .returned (.bool false) ∧ ∃ p : Regrown, w'' = grow (redrawn (w.alloc (.cells #[.int .i64 e, .string ⟨(c :: t).toArray⟩, .string ⟨r.toArray⟩] 37)) p.d) p.os := by rw [← g4]; exact regrown_same (fun W => made_any _ _ W hu)
  clear g4
  go_enter Tryz.func120, Tryz.ntmps120
  go_wp2
  refine wp_region_quiet_below (by kernel_rfl) (by kernel_rfl) ?_
  repeat (any_goals (first | go_big_quiet_step ((first | with_reducible exact cF _ _ | with_reducible exact cD _ _ | with_reducible exact cU _ _ | with_reducible exact cM _ _)) | quiet_step ((first | with_reducible exact cF _ _ | with_reducible exact cD _ _ | with_reducible exact cU _ _ | with_reducible exact cM _ _))))
  refine wpQuiet_nil ?_
  intro _ hw'
  obtain ⟨⟨dq, osq⟩, hw''⟩ := hw'
  subst hw''
  go_wp2
  go_ret
  exact ⟨ret_bool HZ.out.symm, rg hb ⟨⟨dq, osq⟩, rfl⟩⟩

end Go.Proofs.YtlldfmnoidndmaaGreatDoor
