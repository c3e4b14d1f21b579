/- The walk of the law DependPrints. -/
import Derived.Test.YtglfdipepofcjabDoorXd
import Derived.Test.YtglfdipepofcjabDoorUs
import Derived.Test.YtglfdipepofcjabDoorSq
import Derived.Test.YtglfdipepofcjabDoorDc
namespace Go.Proofs.YtglfdipepofcjabDoor
open Go.RowKit Go.Shelf Go.Sort

theorem i64_b {e : Int} (h : I64 e) : -9223372036854775808 ≤ e ∧ e ≤ 9223372036854775807 := by
  have := bounds_i64 h.h
  exact ⟨by omega, by omega⟩
theorem asx_of {l : List (List Tm)} (h : tla l = true) (hI : ∀ x ∈ l, ∀ t ∈ x, I64 t.o ∧ I64 t.e) : Asx l := by
  unfold tla at h
  simp only [Bool.and_eq_true, decide_eq_true_eq, List.all_eq_true] at h
  have g : ∀ x ∈ l, x.length ≤ 40 ∧ ∀ t ∈ x, t.n.length ≤ 60 ∧ t.u.length ≤ 100 ∧ t.r.length ≤ 100 := fun x hx => by
    have h1 := h.2 x hx
    unfold fla at h1
    simp only [Bool.and_eq_true, decide_eq_true_eq, List.all_eq_true] at h1
    refine ⟨h1.1, fun t ht => ?_⟩
    have h2 := h1.2 t ht
    unfold t1 at h2
    simp only [Bool.and_eq_true, decide_eq_true_eq] at h2
    exact h2
  refine ⟨h.1, fun x hx => (g x hx).1, fun x hx t ht => ?_, fun x hx t ht => by have := ((g x hx).2 t ht).1; omega⟩
  obtain ⟨a, b⟩ := i64_b (hI x hx t ht).1
  obtain ⟨a', b'⟩ := i64_b (hI x hx t ht).2
  have g2 := (g x hx).2 t ht
  exact ⟨a, b, a', b', by omega, by omega⟩
theorem fla_le {m : List Tm} (h : fla m = true) : m.length ≤ 40 := by
  unfold fla at h
  simp only [Bool.and_eq_true, decide_eq_true_eq] at h
  exact h.1
theorem sing_len (m : List Tm) : (sing m).length = m.length := by simp [sing]
theorem sing_x (m : List Tm) : ∀ x ∈ sing m, x.length ≤ 1000 := fun x hx => by
  obtain ⟨t, _, rfl⟩ := List.mem_map.1 hx; simp

set_option maxHeartbeats 1600000 in
set_option maxRecDepth 100000 in
theorem prints_no (v vm : Value) (l : List (List Tm)) (w : World) (h : As w v l) (ht : tla l = false) : Calls Tryd.prog 4 #[v, vm] w fun x w' => x = .returned (.bool true) ∧ Below w.heap.size w w' := by
  have cT := terms_any v l w h
  rw [ht] at cT
  go_enter Tryd.func4, Tryd.ntmps4
  go_wp2_with (go_at_call 14; refine cT.mono ?_; rintro x w1 ⟨rfl, b1⟩)
  go_ret
  exact ⟨rfl, b1⟩
set_option maxHeartbeats 1600000 in
set_option maxRecDepth 100000 in
theorem prints_no2 (v vm : Value) (l : List (List Tm)) (m : List Tm) (w : World) (h : As w v l) (hm : Ts w vm m) (ht : tla l = true) (hf : fla m = false) : Calls Tryd.prog 4 #[v, vm] w fun x w' => x = .returned (.bool true) ∧ Below w.heap.size w w' := by
  have cT := terms_any v l w h
  rw [ht] at cT
  have cF := fun W (hW : Below w.heap.size w W) => flat_any vm m W (hm.on hW)
  rw [hf] at cF
  clear hm h ht hf
  go_enter Tryd.func4, Tryd.ntmps4
  go_wp2_with (go_at_call 14; refine cT.mono ?_; rintro x w1 ⟨rfl, b1⟩)
  refine (cF _ b1).mono ?_
  rintro x w2 ⟨rfl, b2⟩
  go_wp2
  go_ret
  exact ⟨rfl, bt2 b1 b2⟩
set_option maxHeartbeats 3200000 in
set_option maxRecDepth 100000 in
theorem prints_main (v vm : Value) (l : List (List Tm)) (m : List Tm) (w : World) (h : As w v l) (hm : Ts w vm m) (ht : tla l = true) (hf : fla m = true) (hI : ∀ x ∈ l, ∀ t ∈ x, I64 t.o ∧ I64 t.e) (hE : ErrT w) (hG : Sg w) (hT : Tab w) :
    Calls Tryd.prog 4 #[v, vm] w fun x w' => x = .returned (.bool true) ∧ Below w.heap.size w w' := by
  have hX := asx_of ht hI
  have hn : l.length ≤ 1000 := by have := hX.n; omega
  have hx : ∀ x ∈ l, x.length ≤ 1000 := fun x hx => by have := hX.x x hx; omega
  have hS : ∀ t ∈ l.flatten, Shn t := fun t ht => by obtain ⟨x, hx, ht⟩ := List.mem_flatten.1 ht; exact hX.s x hx t ht
  have hml := fla_le hf
  have cT := terms_any v l w h
  rw [ht] at cT
  have cF := fun W (hW : Below w.heap.size w W) => flat_any vm m W (hm.on hW)
  rw [hf] at cF
  have c16 := fun W (hW : Below w.heap.size w W) => xpterms_any v l W (h.on hW) hX (tab_on hT hW)
  have c17 := fun W (hW : Below w.heap.size w W) => aprint_any v l W (h.on hW) hn hx hS (hG.on hW) (tab_on hT hW)
  have c19 := fun W (hW : Below w.heap.size w W) => askr_any v l W (h.on hW) hn hx hS (tab_on hT hW)
  have c20 := fun W (hW : Below w.heap.size w W) => xasked_any v l W (h.on hW) hX (tab_on hT hW)
  have c22 := fun W (hW : Below w.heap.size w W) => dsing_any vm m W (hm.on hW) (by omega)
  have c23 := fun W (hW : Below w.heap.size w W) => xsing_any vm m W (hm.on hW) (by omega)
  have c21 := fun W v1 v2 (h1 : As W v1 (sing m)) (h2 : As W v2 (sing m)) => lsa_any v1 v2 (sing m) W h1 h2 (by rw [sing_len]; omega) (sing_x m)
  have HE := Lib.hid hE
  obtain ⟨A, c, rfl⟩ := as_sl h
  obtain ⟨A', c', rfl⟩ := ts_sl hm
  clear h hm ht hf hI hG hT hX hn hx hS hE
  generalize wrA l = T at c16 c17
  cases hk : ask l
  all_goals
    rw [hk] at c16 c17 c19 c20
    simp only [if_pos, Bool.false_eq_true, if_false] at c16 c17
    clear hk
    go_enter Tryd.func4, Tryd.ntmps4
    go_wp2_with (go_at_call 14; refine cT.mono ?_; rintro x w1 ⟨rfl, b1⟩)
    refine (cF _ b1).mono ?_
    rintro x w2 ⟨rfl, b2⟩
    have k2 := bt2 b1 b2
    clear b1 b2 cT cF
    go_wp2_with fail
    refine (c16 _ k2).mono ?_
    rintro x w3 ⟨rfl, b3⟩
    have k3 := bt2 k2 b3
    clear k2 b3 c16
    go_wp2_with fail
    refine (c17 _ k3).mono ?_
    rintro x w4 ⟨rfl, b4⟩
    have k4 := bt2 k3 b4
    have e4 := HE.out.on k4
    clear k3 b4 c17
    go_wp2_with fail
  · refine (bare_errno 1 _ e4).mono ?_
    rintro x w5 ⟨rfl, b5⟩
    have k5 := bt2 k4 b5
    clear k4 b5 e4
    go_wp2_with fail
    refine (c19 _ k5).mono ?_
    rintro x w6 ⟨rfl, b6⟩
    have k6 := bt2 k5 b6
    clear k5 b6 c19
    go_wp2_with fail
    refine (c20 _ k6).mono ?_
    rintro x w7 ⟨rfl, b7⟩
    have k7 := bt2 k6 b7
    clear k6 b7 c20
    go_wp2_with fail
    refine (c22 _ k7).mono ?_
    rintro x w8 ⟨S1, rfl, h1, b8⟩
    have k8 := bt2 k7 b8
    clear k7 b8 c22
    obtain ⟨A1, c1, rfl⟩ := as_sl h1
    have H1 := Lib.hid h1
    clear h1
    go_wp2_with fail
    refine (c23 _ k8).mono ?_
    rintro x w9 ⟨S2, rfl, h2, b9⟩
    have k9 := bt2 k8 b9
    have h1' := H1.out.on b9
    obtain ⟨A2, c2, rfl⟩ := as_sl h2
    have c21' := c21 _ _ _ h1' h2
    clear k8 b9 c23 H1 h1' h2 c21
    go_wp2_with fail
    refine c21'.mono ?_
    rintro x w10 ⟨rfl, b10⟩
    have k10 := bt2 k9 b10
    clear k9 b10 c21'
    go_wp2
    go_ret
    exact ⟨rfl, k10⟩
  · refine (bare_nil _).mono ?_
    rintro x w5 ⟨rfl, b5⟩
    have k5 := bt2 k4 b5
    clear k4 b5 e4
    go_wp2_with fail
    refine (c19 _ k5).mono ?_
    rintro x w6 ⟨rfl, b6⟩
    have k6 := bt2 k5 b6
    clear k5 b6 c19
    go_wp2_with fail
    refine (c20 _ k6).mono ?_
    rintro x w7 ⟨rfl, b7⟩
    have k7 := bt2 k6 b7
    clear k6 b7 c20
    go_wp2_with fail
    refine (c22 _ k7).mono ?_
    rintro x w8 ⟨S1, rfl, h1, b8⟩
    have k8 := bt2 k7 b8
    clear k7 b8 c22
    obtain ⟨A1, c1, rfl⟩ := as_sl h1
    have H1 := Lib.hid h1
    clear h1
    go_wp2_with fail
    refine (c23 _ k8).mono ?_
    rintro x w9 ⟨S2, rfl, h2, b9⟩
    have k9 := bt2 k8 b9
    have h1' := H1.out.on b9
    obtain ⟨A2, c2, rfl⟩ := as_sl h2
    have c21' := c21 _ _ _ h1' h2
    clear k8 b9 c23 H1 h1' h2 c21
    go_wp2_with fail
    refine c21'.mono ?_
    rintro x w10 ⟨rfl, b10⟩
    have k10 := bt2 k9 b10
    clear k9 b10 c21'
    go_wp2
    go_ret
    exact ⟨rfl, k10⟩
/-- The law. -/
theorem prints_any (v vm : Value) (l : List (List Tm)) (m : List Tm) (w : World) (h : As w v l) (hm : Ts w vm m) (hI : ∀ x ∈ l, ∀ t ∈ x, I64 t.o ∧ I64 t.e) (hE : ErrT w) (hG : Sg w) (hT : Tab w) :
    Calls Tryd.prog 4 #[v, vm] w fun x w' => x = .returned (.bool true) ∧ Below w.heap.size w w' := by
  cases ht : tla l with
  | false => exact prints_no v vm l w h ht
  | true =>
    cases hf : fla m with
    | false => exact prints_no2 v vm l m w h hm ht hf
    | true => exact prints_main v vm l m w h hm ht hf hI hE hG hT
end Go.Proofs.YtglfdipepofcjabDoor
