/- The walk of the law DependBack. -/
import Derived.Test.YtkaeiofolknoeabGreatDoorUh
import Derived.Test.YtkaeiofolknoeabGreatDoorUi
import Derived.Test.YtkaeiofolknoeabGreatDoorTk
import Derived.Test.YtkaeiofolknoeabGreatDoorGa
import Derived.OpenShut
namespace Go.Proofs.YtkaeiofolknoeabGreatDoor
open Go.RowKit Go.Shelf Go.Sort

theorem fm_len (s : List UInt8) : ∀ l : List (List UInt8), (l.flatMap fun y => s ++ y).length = (l.map List.length).sum + l.length * s.length
  | [] => by simp
  | x :: l => by
    have := fm_len s l
    simp only [List.flatMap_cons, List.length_append, List.map_cons, List.sum_cons, List.length_cons, Nat.add_mul, Nat.one_mul] at *
    omega
theorem jn_len (s : List UInt8) : ∀ l : List (List UInt8), (jn s l).length ≤ (l.map List.length).sum + l.length * s.length
  | [] => by simp [jn]
  | x :: l => by
    have := fm_len s l
    simp only [jn, List.length_append, List.map_cons, List.sum_cons, List.length_cons, Nat.add_mul, Nat.one_mul] at *
    omega
theorem wrS_len (x : List Tm) (h : ∀ t ∈ x, tok t = true) : (wrS x).length ≤ x.length * 103 := by
  have h1 := jn_len [32, 124, 32] (x.map wrT)
  have h2 : ∀ x : List Tm, (∀ t ∈ x, tok t = true) → ((x.map wrT).map List.length).sum ≤ x.length * 100 := by
    intro x
    induction x with
    | nil => intro _; simp
    | cons t x ih =>
      intro h
      have := ih (fun t ht => h t (List.mem_cons_of_mem _ ht))
      have := wrT_le (h t (List.mem_cons_self ..))
      simp only [List.map_cons, List.sum_cons, List.length_cons, Nat.add_mul, Nat.one_mul] at *
      omega
  have h3 := h2 x h
  unfold wrS
  simp only [List.length_map, List.length_cons, List.length_nil] at h1
  omega
theorem wrA_len {l : List (List Tm)} (h : ask l = true) : (wrA l).length ≤ 10000 := by
  have h1 := jn_len [44, 32] (l.map wrS)
  unfold ask at h
  simp only [Bool.and_eq_true, List.all_eq_true, decide_eq_true_eq] at h
  have h2 : ∀ l : List (List Tm), (∀ t ∈ l.flatten, tok t = true) → ((l.map wrS).map List.length).sum ≤ l.flatten.length * 103 := by
    intro l
    induction l with
    | nil => intro _; simp
    | cons x l ih =>
      intro h
      have := ih (fun t ht => h t (by simp only [List.flatten_cons, List.mem_append]; exact .inr ht))
      have := wrS_len x (fun t ht => h t (by simp only [List.flatten_cons, List.mem_append]; exact .inl ht))
      simp only [List.map_cons, List.sum_cons, List.flatten_cons, List.length_append, Nat.add_mul] at *
      omega
  have h3 := h2 l h.2.2
  have h4 := flat_len l h.1
  unfold wrA
  simp only [List.length_map, List.length_cons, List.length_nil] at h1
  omega
theorem i64_b {e : Int} (h : I64 e) : -9223372036854775808 ≤ e ∧ e ≤ 9223372036854775807 := by
  have := bounds_i64 h.h
  exact ⟨by omega, by omega⟩
theorem shn_of {l : List (List Tm)} (h : tla l = true) (hI : ∀ x ∈ l, ∀ t ∈ x, I64 t.o ∧ I64 t.e) : l.length ≤ 1000 ∧ (∀ x ∈ l, x.length ≤ 1000) ∧ ∀ t ∈ l.flatten, Shn t := by
  unfold tla at h
  simp only [Bool.and_eq_true, decide_eq_true_eq, List.all_eq_true] at h
  refine ⟨by omega, fun x hx => ?_, fun t ht => ?_⟩
  · have := h.2 x hx
    unfold fla at this
    simp only [Bool.and_eq_true, decide_eq_true_eq] at this
    omega
  · obtain ⟨x, hx, ht⟩ := List.mem_flatten.1 ht
    have h1 := h.2 x hx
    unfold fla at h1
    simp only [Bool.and_eq_true, decide_eq_true_eq, List.all_eq_true] at h1
    have h2 := h1.2 t ht
    unfold t1 at h2
    simp only [Bool.and_eq_true, decide_eq_true_eq] at h2
    obtain ⟨a, b⟩ := i64_b (hI x hx t ht).1
    obtain ⟨c, d⟩ := i64_b (hI x hx t ht).2
    exact ⟨a, b, c, d, by omega, by omega⟩

set_option maxHeartbeats 1600000 in
set_option maxRecDepth 100000 in
theorem back_no (v : Value) (l : List (List Tm)) (s : List UInt8) (w : World) (h : As w v l) (ht : tla l = false) : Calls Tryz.prog 4 #[v, .string ⟨s.toArray⟩] w fun e w' => e = .returned (.bool true) ∧ Below w.heap.size w w' := by
  have cT := kterms_any v l w h
  rw [ht] at cT
  obtain ⟨A, c, rfl⟩ := as_sl h
  clear h ht
  go_enter Tryz.func4, Tryz.ntmps4
  go_wp2_with fail
  refine cT.mono ?_
  rintro e w1 ⟨rfl, b1⟩
  go_wp2
  go_ret
  exact ⟨rfl, b1⟩
set_option maxHeartbeats 1600000 in
set_option maxRecDepth 100000 in
theorem back_long (v : Value) (l : List (List Tm)) (s : List UInt8) (w : World) (h : As w v l) (ht : tla l = true) (hs : 500 < s.length) : Calls Tryz.prog 4 #[v, .string ⟨s.toArray⟩] w fun e w' => e = .returned (.bool true) ∧ Below w.heap.size w w' := by
  have cT := kterms_any v l w h
  rw [ht] at cT
  obtain ⟨A, c, rfl⟩ := as_sl h
  clear h ht
  go_enter Tryz.func4, Tryz.ntmps4
  go_wp2_with fail
  refine cT.mono ?_
  rintro e w1 ⟨rfl, b1⟩
  go_wp2
  go_ret
  exact ⟨rfl, b1⟩

set_option maxHeartbeats 3200000 in
set_option maxRecDepth 100000 in
theorem back_main (v : Value) (l : List (List Tm)) (s : List UInt8) (w : World) (h : As w v l) (ht : tla l = true) (hs : s.length ≤ 500) (hI : ∀ x ∈ l, ∀ t ∈ x, I64 t.o ∧ I64 t.e) (hG : Sg w) (hT : Tab w) : Calls Tryz.prog 4 #[v, .string ⟨s.toArray⟩] w fun e w' => e = .returned (.bool true) ∧ Below w.heap.size w w' := by
  have cT := kterms_any v l w h
  rw [ht] at cT
  obtain ⟨n1, n2, n3⟩ := shn_of ht hI
  have HA := Lib.hid h
  have cA := fun W (hW : Below w.heap.size w W) => asked_any W (hG.on hW) (tab_on hT hW)
  have cP := fun W (hW : Below w.heap.size w W) => aprint_any v l W (HA.out.on hW) n1 n2 n3 (hG.on hW) (tab_on hT hW)
  have cR := fun (s : List UInt8) (hs : s.length ≤ 10000) W (hW : Below w.heap.size w W) => rterms_any s W (by omega) (hG.on hW) (tab_on hT hW)
  have cQ := fun (v : Value) (m : List (List Tm)) (hm : ask m = true) W (hW : Below w.heap.size w W) (h : As W v m) => by
    have hk : ∀ t ∈ m.flatten, Shn t := fun t ht => by
      have := hm
      unfold ask at this
      simp only [Bool.and_eq_true, List.all_eq_true, decide_eq_true_eq] at this
      exact tok_shn (this.2.2 t ht)
    have hp := pok_of hm hk
    have := aprint_any v m W h (by have := hp.n; omega) (fun x hx => by have := hp.m x hx; omega) hk (hG.on hW) (tab_on hT hW)
    rw [if_pos hm] at this
    exact this
  have cS := fun (v v' : Value) (m : List (List Tm)) (hm : ask m = true) W (h : As W v m) (h' : As W v' m) => by
    have hk : ∀ t ∈ m.flatten, Shn t := fun t ht => by
      have := hm
      unfold ask at this
      simp only [Bool.and_eq_true, List.all_eq_true, decide_eq_true_eq] at this
      exact tok_shn (this.2.2 t ht)
    have hp := pok_of hm hk
    exact same_any v v' m W h h' (by have := hp.n; omega) (fun x hx => by have := hp.m x hx; omega)
  obtain ⟨A, c, rfl⟩ := as_sl h
  clear h ht hI hG hT n1 n2 n3
  go_enter Tryz.func4, Tryz.ntmps4
  go_wp2_with fail
  refine cT.mono ?_
  rintro e w1 ⟨rfl, b1⟩
  go_wp2_with fail
  refine (cA _ b1).mono ?_
  rintro e w2 ⟨rfl, b2⟩
  have hb2 := bt2 b1 b2
  go_wp2_with fail
  refine (cP _ hb2).mono ?_
  rintro e w3 ⟨rfl, b3⟩
  have hb3 := bt2 hb2 b3
  cases hk : ask l with
  | false =>
    rw [if_neg (by simp)]
    clear hk
    have hB := hb3
    go_wp2_with fail
    refine (cR s (by omega) _ hB).mono ?_
    rintro e wA ⟨hTB, bA⟩
    have hbA := bt2 hB bA
    cases hr : rdA s with
    | error c =>
      rw [hr] at hTB
      have he : e = .returned (.tuple #[.slice none 0 0, .iface 23 (.int .i64 c)]) := hTB
      subst he
      clear hTB hr
      go_wp2
      go_ret
      exact ⟨rfl, hbA⟩
    | ok m =>
      rw [hr] at hTB
      obtain ⟨vm, rfl, hM⟩ := hTB
      have hm := rdA_ask hr
      have c6 := cQ _ m hm _ hbA hM
      have HM := Lib.hid hM
      obtain ⟨A6, c6', rfl⟩ := as_sl hM
      have c7 := fun W hW => cR (wrA m) (wrA_len hm) W hW
      rw [rdA_wrA hm] at c7
      have c8 := fun v v' W h1 h2 => cS v v' m hm W h1 h2
      clear hr hM hm
      go_wp2_with fail
      refine c6.mono ?_
      rintro e wB ⟨rfl, bB⟩
      have hbB := bt2 hbA bB
      go_wp2_with fail
      refine (c7 _ hbB).mono ?_
      rintro e wC ⟨⟨vk, rfl, hK⟩, bC⟩
      have hbC := bt2 hbB bC
      have c9 := c8 _ _ _ hK (HM.out.on (bt2 bB bC))
      obtain ⟨A9, c9', rfl⟩ := as_sl hK
      go_wp2_with fail
      refine c9.mono ?_
      rintro e wD ⟨rfl, bD⟩
      go_wp2
      go_ret
      exact ⟨rfl, bt2 hbC bD⟩
  | true =>
    rw [if_pos rfl]
    have c4 := cR (wrA l) (wrA_len hk) _ hb3
    rw [rdA_wrA hk] at c4
    go_wp2_with fail
    refine c4.mono ?_
    rintro e w4 ⟨⟨v4, rfl, hM⟩, b4⟩
    have hb4 := bt2 hb3 b4
    have c5 := cS _ _ l hk _ hM (HA.out.on hb4)
    obtain ⟨A4, c4', rfl⟩ := as_sl hM
    clear hk c4
    go_wp2_with fail
    refine c5.mono ?_
    rintro e w5 ⟨rfl, b5⟩
    have hB := bt2 hb4 b5
    go_wp2_with fail
    refine (cR s (by omega) _ hB).mono ?_
    rintro e wA ⟨hTB, bA⟩
    have hbA := bt2 hB bA
    cases hr : rdA s with
    | error c =>
      rw [hr] at hTB
      have he : e = .returned (.tuple #[.slice none 0 0, .iface 23 (.int .i64 c)]) := hTB
      subst he
      clear hTB hr
      go_wp2
      go_ret
      exact ⟨rfl, hbA⟩
    | ok m =>
      rw [hr] at hTB
      obtain ⟨vm, rfl, hM⟩ := hTB
      have hm := rdA_ask hr
      have c6 := cQ _ m hm _ hbA hM
      have HM := Lib.hid hM
      obtain ⟨A6, d6', rfl⟩ := as_sl hM
      have c7 := fun W hW => cR (wrA m) (wrA_len hm) W hW
      rw [rdA_wrA hm] at c7
      have c8 := fun v v' W h1 h2 => cS v v' m hm W h1 h2
      clear hr hM hm
      go_wp2_with fail
      refine c6.mono ?_
      rintro e wB ⟨rfl, bB⟩
      have hbB := bt2 hbA bB
      go_wp2_with fail
      refine (c7 _ hbB).mono ?_
      rintro e wC ⟨⟨vk, rfl, hK⟩, bC⟩
      have hbC := bt2 hbB bC
      have c9 := c8 _ _ _ hK (HM.out.on (bt2 bB bC))
      obtain ⟨A9, d9', rfl⟩ := as_sl hK
      go_wp2_with fail
      refine c9.mono ?_
      rintro e wD ⟨rfl, bD⟩
      go_wp2
      go_ret
      exact ⟨rfl, bt2 hbC bD⟩

end Go.Proofs.YtkaeiofolknoeabGreatDoor
