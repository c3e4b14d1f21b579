/- The walk of the law CheckLines. -/
import Derived.Test.YthijccmiemlilaaGreatDoorGj
import Derived.Test.YthijccmiemlilaaGreatDoorGr
import Derived.Test.YthijccmiemlilaaGreatDoorKr
namespace Go.Proofs.YthijccmiemlilaaGreatDoor
open Go.RowKit Go.Sort

theorem known_any (v : Value) (l : List Kn) (w : World) (h : Ks w v l) : Calls Tryz.prog 6 #[v] w fun e w' => KnT w l e w' := by
  by_cases hn : l.length ≤ 20
  · rcases h.is with ⟨rfl, A, c, rfl⟩ | ⟨b, o, c, rfl, hf⟩
    · exact known_nil A c w
    · exact known_row b o c l w hf hn
  · obtain ⟨A, c, rfl⟩ := h.sl
    exact known_long A c l w (by omega)
theorem ndr_same {n : Nat} {w : Nat → Bool} {A : Nat → List (Nat → Bool)} {s : Nat} {R R' : List Nat} (h : Nds.NdR n w A s R) (h' : Nds.NdR n w A s R') : R = R' := by
  obtain ⟨g, h1, h2, h3⟩ := h.is
  obtain ⟨g', h1', h2', h3'⟩ := h'.is
  refine rising_same h.up h'.up (fun i => ?_)
  rw [h3 i, h3' i, Nds.same n w A h1 h2 h1' h2' i]
theorem lnR_len (l : List Kn) : (lnR l).length ≤ l.length := by
  unfold lnR
  rw [List.length_map, (lnO_all l).1]
  exact sts_le l l.length
set_option maxHeartbeats 6400000 in
set_option maxRecDepth 100000 in
theorem lines_any (v : Value) (l : List Kn) (m : Int) (w : World) (hl : Ks w v l) (hO : Oc w) (hR : Rr w) (hFi : Fi w) : Calls Tryz.prog 4 #[v, .int .i64 m] w fun x w' => x = .returned (.bool true) ∧ Below w.heap.size w w' := by
  obtain ⟨A, c, rfl⟩ := hl.sl
  have HL := Lib.hid hl
  have HO := Lib.hid hO
  have HR := Lib.hid hR
  have HFi : Hid (Ord.Fi w) := ⟨hFi.c0, hFi.c1⟩
  have cK := known_any (.slice A l.length c) l w hl
  clear hl hO hR hFi
  go_enter Tryz.func4, Tryz.ntmps4
  go_wp2_with fail
  with_reducible refine cK.mono ?_
  rintro x wA ⟨S, y, rfl, hWA, hS⟩
  have HS := Lib.hid hS
  clear cK hS
  cases y with
  | false =>
    go_wp2_with fail
    go_ret
    exact ⟨rfl, hWA⟩
  | true =>
  obtain ⟨hKs, hn, hSo⟩ : Ks wA S l ∧ l.length ≤ 20 ∧ ∀ k ∈ l, Sok k.p := by first | exact HS.out rfl | exact HS.out trivial
  obtain ⟨S1, S2, rfl⟩ := hKs.sl
  have HKs := Lib.hid hKs
  have HSo := Lib.hid hSo
  clear HS hKs hSo
  have M16 : Hid (∀ W, Below wA.heap.size wA W → Calls Tryz.prog 16 #[.slice S1 l.length S2] W fun e w' => ∃ S, e = .returned S ∧ Ord.Is w' S (lnR l) ∧ Below W.heap.size W w') := fun W h => line_any S1 S2 l W (HKs.out.on h) (by omega) HSo.out (HO.out.on (bon hWA h))
  have M17 : Hid (∀ W, Below wA.heap.size wA W → Calls Tryz.prog 17 #[.slice A l.length c] W fun e w' => ∃ S, e = .returned S ∧ Ord.Is w' S (lnR l) ∧ Below W.heap.size W w') := fun W h => xline_any A c l W (HL.out.on (bon hWA h)) hn HSo.out (HR.out.on (bon hWA h)) (HFi.out.on (bon hWA h))
  have hll : (lnR l).length ≤ 100000 := by have := lnR_len l; omega
  have HLL := Lib.hid hll
  clear hll
  by_cases hm : 0 ≤ m ∧ m < (l.length : Int)
  · obtain ⟨j, rfl⟩ : ∃ j : Nat, m = j := ⟨m.toNat, by omega⟩
    have hj : j < l.length := by omega
    obtain ⟨b1, o1, rfl, hK1⟩ : ∃ b o, S1 = some ⟨b, o, none⟩ ∧ Kl wA b o l := by
      rcases HKs.out.is with ⟨rfl, _⟩ | ⟨b, o, c', e, hf⟩
      · simp at hj
      · rw [Value.slice.injEq] at e; exact ⟨b, o, e.1, hf⟩
    obtain ⟨b2, o2, rfl, hK2⟩ : ∃ b o, A = some ⟨b, o, none⟩ ∧ Kl w b o l := by
      rcases HL.out.is with ⟨rfl, _⟩ | ⟨b, o, c', e, hf⟩
      · simp at hj
      · rw [Value.slice.injEq] at e; exact ⟨b, o, e.1, hf⟩
    have c14 := needs_in b1 o1 S2 l j wA hK1 (by omega) hj HSo.out
    have HK2 := Lib.hid hK2
    have h0 : (0 : Int) ≤ (j : Int) := by omega
    have h1 : (j : Int) < (l.length : Int) := by omega
    clear hm hK1 hK2
    go_wp2_with fail
    with_reducible refine c14.mono ?_
    rintro x wB ⟨S3, R3, rfl, hI3, hN3, hl3, k3⟩
    obtain ⟨A3, d3, rfl⟩ := Ord.is_len hI3
    have c15 := xneeds_in b2 o2 c l j wB (HK2.out.on (bon hWA k3)) (by omega) hj HSo.out
    have HN3 := Lib.hid hN3
    have HI3 := Lib.hid hI3
    clear c14 hN3 hI3
    go_wp2_with fail
    with_reducible refine c15.mono ?_
    rintro x wC ⟨S4, R4, rfl, hI4, hN4, k4⟩
    obtain rfl := ndr_same HN3.out hN4
    obtain ⟨A4, d4, rfl⟩ := Ord.is_len hI4
    have cS := Ord.same_any (.slice A3 R3.length d3) (.slice A4 R3.length d4) R3 wC (by omega) (HI3.out.on k4) hI4
    have k5 := bon k3 k4
    clear c15 hN4 hI4 HN3 HI3 k3 k4 HK2 hl3
    go_wp2_with fail
    with_reducible refine cS.mono ?_
    rintro x wD ⟨rfl, k6'⟩
    have k6 := bon k5 k6'
    clear cS k5 k6'
    go_wp2_with fail
    with_reducible refine (M16.out wD k6).mono ?_
    rintro x wE ⟨S5, rfl, hI5, k7'⟩
    obtain ⟨A5, d5, rfl⟩ := Ord.is_len hI5
    have k7 := bon k6 k7'
    have HI5 := Lib.hid hI5
    clear hI5 k7' k6
    generalize hLR : lnR l = LR at *
    clear hLR
    go_wp2_with fail
    with_reducible refine (M17.out wE k7).mono ?_
    rintro x wF ⟨S6, rfl, hI6, k8'⟩
    obtain ⟨A6, d6, rfl⟩ := Ord.is_len hI6
    have k8 := bon k7 k8'
    have cT := Ord.same_any (.slice A5 LR.length d5) (.slice A6 LR.length d6) LR wF HLL.out (HI5.out.on k8') hI6
    clear hI6 k8' k7 HI5 M16 M17
    go_wp2_with fail
    with_reducible refine cT.mono ?_
    rintro x wG ⟨rfl, k9⟩
    go_wp2_with fail
    go_ret
    exact ⟨rfl, bon hWA (bon k8 k9)⟩
  · have tail : Hid (m < 0 ∨ (0 ≤ m ∧ ¬ m < (l.length : Int))) := by show _ ∨ _; omega
    rcases tail.out with h0 | ⟨h0, h1⟩
    case' inl => have h0' : ¬ ((0 : Int) ≤ m) := by omega
    case' inl => clear hm tail h0
    case' inr => clear hm tail
    all_goals
      go_wp2_with fail
      with_reducible refine (M16.out wA (Below.refl _ _)).mono ?_
      rintro x wE ⟨S5, rfl, hI5, k7⟩
      obtain ⟨A5, d5, rfl⟩ := Ord.is_len hI5
      have HI5 := Lib.hid hI5
      clear hI5
      generalize hLR : lnR l = LR at *
      clear hLR
      go_wp2_with fail
      with_reducible refine (M17.out wE k7).mono ?_
      rintro x wF ⟨S6, rfl, hI6, k8'⟩
      obtain ⟨A6, d6, rfl⟩ := Ord.is_len hI6
      have k8 := bon k7 k8'
      have cT := Ord.same_any (.slice A5 LR.length d5) (.slice A6 LR.length d6) LR wF HLL.out (HI5.out.on k8') hI6
      clear hI6 k8' k7 HI5 M16 M17
      go_wp2_with fail
      with_reducible refine cT.mono ?_
      rintro x wG ⟨rfl, k9⟩
      go_wp2_with fail
      go_ret
      exact ⟨rfl, bon hWA (bon k8 k9)⟩
end Go.Proofs.YthijccmiemlilaaGreatDoor
