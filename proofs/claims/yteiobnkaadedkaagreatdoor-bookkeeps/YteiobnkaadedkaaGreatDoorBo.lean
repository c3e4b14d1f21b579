/- A book: keep walked. -/
import Derived.Test.YteiobnkaadedkaaGreatDoorBm
namespace Go.Proofs.YteiobnkaadedkaaGreatDoor
open Go.RowKit Go.Sort Go.Maps

theorem fallj {w : World} {b d pm : Nat} {ns : Nat → Nat} {dn : Bool} {P : Bk} {N : Nat → Bk} {mb : Option Nat} {L : Kv Ent} {e : Bool} {c : Int} (v : Value) (h : BJ w b d pm ns dn P N mb L e c) : Calls Tryz.prog 37 #[.pointer (some ⟨b, 0, none⟩), v] w fun x w' => x = .returned v ∧ BJ w' b d pm ns true P N mb L e c ∧ Kp (BD b d mb) w w' :=
  (fall_any b (some d) (some pm) _ dn v w h.bk.blk).mono fun _ _ ⟨h1, h2, h3⟩ => ⟨h1, h.fall h2 h3, h3.mono fun _ hk => .inl hk⟩
theorem pw3_1 {e : Bool} {c : Int} (h : pwr e c = false) : pw3 e c = false ∧ ch3 e c = c := by
  unfold pw3 ch3; rw [h, chg_no h, chg_no h, chg_no h]; exact ⟨rfl, rfl⟩
theorem pw3_2 {e : Bool} {c : Int} (h1 : pwr e c = true) (h : pwr e (chg e c) = false) : pw3 e c = false ∧ ch3 e c = chg e c := by
  unfold pw3 ch3; rw [h1, h, chg_no h, chg_no h]; exact ⟨rfl, rfl⟩
theorem pw3_3 {e : Bool} {c : Int} (h1 : pwr e c = true) (h2 : pwr e (chg e c) = true) (h : pwr e (chg e (chg e c)) = false) : pw3 e c = false ∧ ch3 e c = chg e (chg e c) := by
  unfold pw3 ch3; rw [h1, h2, h, chg_no h]; exact ⟨rfl, rfl⟩
set_option maxRecDepth 100000 in
set_option maxHeartbeats 4000000 in
theorem keep_any (b d pm : Nat) (ns : Nat → Nat) (dn : Bool) (P : Bk) (N : Nat → Bk) (mb : Option Nat) (L : Kv Ent) (e : Bool) (c : Int) (f : List UInt8) (m : Nat) (M : Bk) (w : World) (h : BJ w b d pm ns dn P N mb L e c) (hM : Lm w m M) (hG : Gd M) (hl : M.length ≤ 1000) (hf : nok f = true) (hc : c ≤ 9223372036854775807) (hT : tot nl L + (prt M).length ≤ 1000000) (hn : L.length + 1 < 5000) :
    Calls Tryz.prog 32 #[.pointer (some ⟨b, 0, none⟩), .string ⟨f.toArray⟩, .map (some m)] w fun x w' => x = .returned (evv (kcd e c)) ∧ Kx w b d pm ns (dn || !pw3 e c) P N mb (kL L e c f (prt M)) e (ch3 e c) w' := by
  have hS := h.pd.srt
  have ht := k_tot hS (prt M)
  have hf80 : f.length ≤ 80 := by unfold nok at hf; simp at hf; omega
  have bdr := (Below.refl w.heap.size w).drew
  have cP := print_any m M w.drew (lm_on hM rfl) hG hl
  have hB := bc_of h.bk.blk
  have c0 := hB.c0
  have hbl := hB.lt
  have h1 := h.up bdr
  have HJ := Lib.hid h
  have HM := Lib.hid hM
  obtain ⟨s, hs⟩ : ∃ s, s = prt M := ⟨_, rfl⟩
  rw [← hs] at ht cP hT ⊢
  have HS := Lib.hid hS
  have hc1 : chg e c ≤ 9223372036854775807 := by unfold chg; split <;> omega
  have hc2 : chg e (chg e c) ≤ 9223372036854775807 := by unfold chg; split <;> omega
  clear h hM hG hs hS hB
  go_enter Tryz.func32, Tryz.ntmps32
  go_wp2_with fail
  refine wp_region_held (S := fun W => W.cell? ⟨b, 0, none⟩ = some (.pointer (some ⟨d, 0, none⟩))) (by kernel_rfl) ?_
  refine wpAnyH_take (i := 0) (v := .pointer (some ⟨b, 0, none⟩)) rfl (by kernel_rfl) (by kernel_rfl) (by kernel_rfl) (fun _ _ _ h => h) (.inl ⟨rfl, fun w' _ => by simp [go_sem]⟩) c0 ?_
  refine wpAnyH_take (i := 1) (v := .pointer (some ⟨b, 0, none⟩)) rfl (by kernel_rfl) (by kernel_rfl) (by kernel_rfl) (fun _ _ _ h => h) (.inl ⟨rfl, fun w' _ => by simp [go_sem]⟩) c0 ?_
  refine wpAnyH_take (i := 2) (v := .pointer (some ⟨b, 0, none⟩)) rfl (by kernel_rfl) (by kernel_rfl) (by kernel_rfl) (fun _ _ _ h => h) (.inl ⟨rfl, fun w' _ => by simp [go_sem]⟩) c0 ?_
  refine wpAnyH_take (i := 3) (v := .pointer (some ⟨d, 0, none⟩)) rfl (by kernel_rfl) (by kernel_rfl) (by kernel_rfl) (fun _ _ _ h => h) (.inl ⟨rfl, fun w' hw => by simp [go_sem, hw]⟩) c0 ?_
  refine wpAnyH_take (i := 4) (v := .map (some m)) rfl (by kernel_rfl) (by kernel_rfl) (by kernel_rfl) (fun _ _ _ h => h) (.inl ⟨rfl, fun w' _ => by simp [go_sem]⟩) c0 ?_
  refine wpAnyH_all (rs := [5]) (by kernel_rfl) (by simp) fun j hj => ?_
  obtain rfl : j = 5 := by simpa using hj
  refine wpOp_go rfl rfl ?_
  unfold Oper.wp
  simp [go_sem]
  refine cP.mono ?_
  rintro z w2 ⟨rfl, b2⟩
  have bA : Below w.heap.size w w2 := bdr.trans b2
  have hJ2 := HJ.out.up bA
  have hc02 := (bc_of hJ2.bk.blk).c0
  refine ⟨hc02, ?_⟩
  have cW := write_any d mb L e c false 0 frF s w2 hJ2.pd hc (by decide) (by omega) (by omega) (by omega)
  refine wpAnyH_all (rs := [6]) (by kernel_rfl) (by simp) fun j hj => ?_
  obtain rfl : j = 6 := by simpa using hj
  refine wpOp_go rfl rfl ?_
  unfold Oper.wp
  simp [go_sem]
  refine cW.mono ?_
  rintro z w3 ⟨rfl, hp3⟩
  obtain ⟨mb3, hJ3, hf3, hk3⟩ := hJ2.po hp3
  have hc03 := (bc_of hJ3.bk.blk).c0
  refine ⟨hc03, ?_⟩
  refine wpAnyH_take (i := 7) (v := evv (wcd L e c false 0 frF s)) rfl (by kernel_rfl) (by kernel_rfl) (by kernel_rfl) (fun _ _ _ h => h) (.inl ⟨rfl, fun w' _ => by simp [go_sem]⟩) hc03 ?_
  refine wpAnyH_done (by kernel_rfl) ?_ _
  have kA : Kp (BD b d mb) w w3 := (Kp.of (X := BD b d mb) bA).t hk3
  have fA : Fr w mb mb3 := fun x hx => by
    rcases hf3 x hx with h4 | h4
    · exact .inl h4
    · exact .inr (Nat.le_trans bA.size h4)
  have HK := Lib.hid kA
  have HF := Lib.hid fA
  clear hp3 hf3 hk3 hc03 cW hc02 hJ2 bA b2 cP c0 h1 bdr HJ HM hj kA fA hl
  cases p1 : pwr e c with
  | false =>
    obtain ⟨q1, q2, q3⟩ := w_false (L := L) (s := s) p1
    rw [q2, q3] at hJ3
    rw [q1, show evv 14 = .iface 33 (.int .i64 14) from rfl]
    have cF := fallj (.iface 33 (.int .i64 14)) hJ3
    have HR : Hid (kcd e c = 14 ∧ (dn || !pw3 e c) = true ∧ kL L e c f s = L ∧ ch3 e c = c) := by
      obtain ⟨r1, r2⟩ := pw3_1 p1
      exact ⟨by unfold kcd; rw [r1]; rfl, by rw [r1]; simp, by unfold kL; rw [p1]; rfl, r2⟩
    clear q1 q2 q3 p1 ht
    go_wp2_with fail
    refine cF.mono ?_
    rintro z w4 ⟨rfl, hJ4, hk4⟩
    have hX := Kx.trans HK.out HF.out (Kx.same hJ4 hk4)
    clear cF hJ4 hk4 hJ3
    go_wp2
    go_ret
    obtain ⟨r1, r2, r3, r4⟩ := HR.out
    rw [r1, r2, r3, r4]
    exact ⟨rfl, hX⟩
  | true =>
    obtain ⟨q1, q2, q3⟩ := w_true (L := L) (s := s) p1
    rw [q2, q3] at hJ3
    rw [q1, show evv 0 = .nilIface from rfl]
    have c03 := (bc_of hJ3.bk.blk).c0
    have cS := sync_any d mb3 (k1L L s) e (chg e c) false 0 frF w3 hJ3.pd hc1 (by decide) (by omega) (by omega)
    have H3 := Lib.hid hJ3
    have hlt3 := (bc_of hJ3.bk.blk).lt
    clear q1 q2 q3 hJ3
    go_wp2_with fail
    refine cS.mono ?_
    rintro z w4 ⟨rfl, hp4⟩
    obtain ⟨mb4, hJ4, hf4, hk4⟩ := H3.out.po hp4
    have hX4 := Kx.trans HK.out HF.out (Kx.of H3.out hp4)
    clear cS hp4 H3 c03 hlt3
    cases p2 : pwr e (chg e c) with
    | false =>
      obtain ⟨q1, q2, q3⟩ := s_false HS.out (s := s) p2
      rw [q2, q3] at hJ4
      rw [q1, show evv 14 = .iface 33 (.int .i64 14) from rfl]
      have cF := fallj (.iface 33 (.int .i64 14)) hJ4
      have HR : Hid (kcd e c = 14 ∧ (dn || !pw3 e c) = true ∧ kL L e c f s = k1L L s ∧ ch3 e c = chg e c) := by
        obtain ⟨r1, r2⟩ := pw3_2 p1 p2
        exact ⟨by unfold kcd; rw [r1]; rfl, by rw [r1]; simp, by unfold kL; rw [p1, p2]; rfl, r2⟩
      have kB : Kp (BD b d mb) w w4 := hX4.kp
      have fB : Fr w mb mb4 := HF.out.trans hf4 HK.out.size
      have HKB := Lib.hid kB
      have HFB := Lib.hid fB
      clear q1 q2 q3 p1 p2 ht hX4 kB fB hf4 hk4
      go_wp2_with fail
      refine cF.mono ?_
      rintro z w5 ⟨rfl, hJ5, hk5⟩
      have hX := Kx.trans HKB.out HFB.out (Kx.same hJ5 hk5)
      clear cF hJ5 hk5 hJ4
      go_wp2
      go_ret
      obtain ⟨r1, r2, r3, r4⟩ := HR.out
      rw [r1, r2, r3, r4]
      exact ⟨rfl, hX⟩
    | true =>
      obtain ⟨q1, q2, q3⟩ := s_true HS.out (s := s) p2
      rw [q2, q3] at hJ4
      rw [q1, show evv 0 = .nilIface from rfl]
      have c04 := (bc_of hJ4.bk.blk).c0
      have cM := move_any d mb4 (k2L L s) e (chg e (chg e c)) false 0 frF f w4 hJ4.pd hc2 (by decide) (by omega) (by omega) (by omega)
      have H4 := Lib.hid hJ4
      have hlt4 := (bc_of hJ4.bk.blk).lt
      have kB : Kp (BD b d mb) w w4 := hX4.kp
      have fB : Fr w mb mb4 := HF.out.trans hf4 HK.out.size
      have HKB := Lib.hid kB
      have HFB := Lib.hid fB
      clear q1 q2 q3 hJ4 hX4 kB fB hf4 hk4
      go_wp2_with fail
      refine cM.mono ?_
      rintro z w5 ⟨rfl, hp5⟩
      obtain ⟨mb5, hJ5, hf5, hk5⟩ := H4.out.po hp5
      have hX5 := Kx.trans HKB.out HFB.out (Kx.of H4.out hp5)
      clear cM hp5 H4 c04 hlt4
      cases p3 : pwr e (chg e (chg e c)) with
      | false =>
        obtain ⟨q1, q2, q3⟩ := m_false HS.out (s := s) hf p3
        rw [q2, q3] at hJ5
        rw [q1, show evv 14 = .iface 33 (.int .i64 14) from rfl]
        have cF := fallj (.iface 33 (.int .i64 14)) hJ5
        have HR : Hid (kcd e c = 14 ∧ (dn || !pw3 e c) = true ∧ kL L e c f s = k2L L s ∧ ch3 e c = chg e (chg e c)) := by
          obtain ⟨r1, r2⟩ := pw3_3 p1 p2 p3
          exact ⟨by unfold kcd; rw [r1]; rfl, by rw [r1]; simp, by unfold kL; rw [p1, p2, p3]; rfl, r2⟩
        have kC : Kp (BD b d mb) w w5 := hX5.kp
        have fC : Fr w mb mb5 := HFB.out.trans hf5 HKB.out.size
        have HKC := Lib.hid kC
        have HFC := Lib.hid fC
        clear q1 q2 q3 p1 p2 p3 ht hX5 kC fC hf5 hk5
        go_wp2_with fail
        refine cF.mono ?_
        rintro z w6 ⟨rfl, hJ6, hk6⟩
        have hX := Kx.trans HKC.out HFC.out (Kx.same hJ6 hk6)
        clear cF hJ6 hk6 hJ5
        go_wp2
        go_ret
        obtain ⟨r1, r2, r3, r4⟩ := HR.out
        rw [r1, r2, r3, r4]
        exact ⟨rfl, hX⟩
      | true =>
        obtain ⟨q1, q2, q3⟩ := m_true HS.out (s := s) hf p3
        rw [q2, q3] at hX5
        rw [q1, show evv 0 = .nilIface from rfl]
        have HR : Hid (kcd e c = 0 ∧ (dn || !pw3 e c) = dn ∧ kL L e c f s = k3L L f s ∧ ch3 e c = chg e (chg e (chg e c))) := by
          have r1 : pw3 e c = true := by unfold pw3; rw [p1, p2, p3]; rfl
          exact ⟨by unfold kcd; rw [r1]; rfl, by rw [r1]; simp, by unfold kL; rw [p1, p2, p3]; rfl, rfl⟩
        have HX5 := Lib.hid hX5
        clear q1 q2 q3 p1 p2 p3 ht hX5 hJ5 hf5 hk5
        go_wp2
        go_ret
        obtain ⟨r1, r2, r3, r4⟩ := HR.out
        rw [r1, r2, r3, r4]
        exact ⟨rfl, HX5.out⟩
end Go.Proofs.YteiobnkaadedkaaGreatDoor
