/- The walk of the reference's WriteArchive. -/
import Derived.Test.YtnnacfnbmpalbaaGreatDoorAg
namespace Go.Proofs.YtnnacfnbmpalbaaGreatDoor
open Go.RowKit Go.Shelf Go.Sort

theorem maxL_of {w : World} (h : MaxN w) : Stz.MaxL w := ⟨h.out⟩
set_option maxHeartbeats 3200000 in
set_option maxRecDepth 100000 in
theorem xwrite_no (p : Pck) (vD vA vG vB vR vP vS vL vF : Value) (w : World) (hz : Pz w p vD vA vG vB vR vP vS vL vF) (hp : Pg p) (hk : aok p = false) (hT : Tab w) : Calls Tryz.prog 26 #[pkv p.o.n p.o.e p.o.u p.o.r vD vA vG vB vR vP vS vL vF] w fun x w' => x = .returned (.tuple #[.string ⟨#[]⟩, .int .i64 1]) ∧ Below w.heap.size w w' := by
  have c0 := b1c w (pko p.o.n p.o.e p.o.u p.o.r vD vA vG vB vR vP vS vL vF)
  have cR := xarch_any p vD vA vG vB vR vP vS vL vF _ (hz.on c0) hp (tab_on hT c0)
  rw [hk] at cR
  obtain ⟨F1, F2, hvF⟩ := fs_sl hz.F
  obtain ⟨S1, S2, hvS⟩ := ss_sl hz.S
  obtain ⟨D1, D2, hvD⟩ := as_sl hz.D
  obtain ⟨A1, A2, hvA⟩ := as_sl hz.A
  obtain ⟨G1, G2, hvG⟩ := ts_sl hz.G
  obtain ⟨Q1, Q2, hvB⟩ := ts_sl hz.B
  obtain ⟨R1, R2, hvR⟩ := ts_sl hz.R
  obtain ⟨P1, P2, hvP⟩ := ts_sl hz.P
  obtain ⟨L1, L2, hvL⟩ := ss_sl hz.L
  subst hvF hvS hvD hvA hvG hvB hvR hvP hvL
  clear hz hp hT hk
  go_enter Tryz.func26, Tryz.ntmps26
  go_wp2_with fail
  refine cR.mono ?_
  rintro x w1 ⟨rfl, b1⟩
  go_wp2
  go_ret2
  exact ⟨rfl, bon c0 b1⟩

set_option maxHeartbeats 6400000 in
set_option maxRecDepth 100000 in
theorem xwrite_yes (p : Pck) (vD vA vG vB vR vP vS vL vF : Value) (w : World) (hz : Pz w p vD vA vG vB vR vP vS vL vF) (hp : Pg p) (hk : aok p = true) (hT : Tab w) (hM : MaxN w) : Calls Tryz.prog 26 #[pkv p.o.n p.o.e p.o.u p.o.r vD vA vG vB vR vP vS vL vF] w fun x w' => x = .returned (.tuple #[.string ⟨(wx p).toArray⟩, .int .i64 (wc p)]) ∧ Below w.heap.size w w' := by
  have c0 := b1c w (pko p.o.n p.o.e p.o.u p.o.r vD vA vG vB vR vP vS vL vF)
  have B0 := Lib.hid (pb_new w p vD vA vG vB vR vP vS vL vF)
  have cR := xarch_any p vD vA vG vB vR vP vS vL vF _ (hz.on c0) hp (tab_on hT c0)
  rw [hk] at cR
  have HZ := Lib.hid hz
  have HP := Lib.hid hp
  have HM := Lib.hid hM
  have HT := Lib.hid hT
  have hfl := fls_p hp.F
  have hF30 := hfl.1
  have HFL := Lib.hid hfl.2
  have hro := aok_rok hk
  obtain ⟨F1, F2, hvF⟩ := fs_sl hz.F
  obtain ⟨S1, S2, hvS⟩ := ss_sl hz.S
  obtain ⟨D1, D2, hvD⟩ := as_sl hz.D
  obtain ⟨A1, A2, hvA⟩ := as_sl hz.A
  obtain ⟨G1, G2, hvG⟩ := ts_sl hz.G
  obtain ⟨Q1, Q2, hvB⟩ := ts_sl hz.B
  obtain ⟨R1, R2, hvR⟩ := ts_sl hz.R
  obtain ⟨P1, P2, hvP⟩ := ts_sl hz.P
  obtain ⟨L1, L2, hvL⟩ := ss_sl hz.L
  subst hvF hvS hvD hvA hvG hvB hvR hvP hvL
  clear hz hp hT hM hfl
  go_enter Tryz.func26, Tryz.ntmps26
  go_wp2_with fail
  refine cR.mono ?_
  rintro x w1 ⟨rfl, b1⟩
  have k1 := bon c0 b1
  have B1 := Lib.hid (B0.out.on b1)
  have q0 := B1.out.c0
  have q1 := B1.out.c1
  have q2 := B1.out.c2
  have q3 := B1.out.c3
  have q4 := B1.out.c4
  have q5 := B1.out.c5
  have q6 := B1.out.c6
  have q7 := B1.out.c7
  have q8 := B1.out.c8
  have q9 := B1.out.c9
  have q10 := B1.out.c10
  have q11 := B1.out.c11
  have q12 := B1.out.c12
  have hlt1 : w.heap.size < w1.heap.size := block_lt_of_cell q12
  have cF := xf_any p _ _ _ _ _ _ _ _ _ w1 (HZ.out.on k1) HP.out (tab_on HT.out k1) (HM.out.on k1)
  clear cR B0 b1 c0
  go_wp2_with fail
  refine cF.mono ?_
  rintro x w2 ⟨⟨A, c, rfl, hS2⟩, b2⟩
  have k2 := bon k1 b2
  have B2 := Lib.hid (B1.out.on b2)
  clear q0 q1 q2 q3 q4 q5 q6 q7 q8 q9 q10 q11 q12 cF B1 b2 k1 hlt1
  have HX : Hid (wc p = if Stz.Sm.rgt (flds p) = true then (if (atx p).length ≤ 4000 then 0 else 4) else 4) := by show _ = _; unfold wc; rw [hk]; rfl
  have hel : el p = if Stz.Sm.rgt (flds p) = true then flds p else [] := by unfold el; rw [hro]; rfl
  have hec : ec p = if Stz.Sm.rgt (flds p) = true then 0 else 4 := by unfold ec; rw [hro]; rfl
  have HSZ := Lib.hid (sz_flds (rk_of hro) HP.out)
  have hlt2 : w.heap.size < w2.heap.size := block_lt_of_cell B2.out.c12
  cases hrg : Stz.Sm.rgt (flds p) with
  | false =>
    rw [hrg] at hel hec HX
    have hec4 : ec p = 4 := hec
    have hwc : wc p = 4 := HX.out
    have hwx : wx p = [] := by unfold wx; rw [hwc]; rfl
    rw [hec4]
    clear HX hel hec hec4 hS2 HSZ hk hro hrg
    go_wp2_with fail
    go_ret2
    exact ⟨by rw [hwx, hwc]; rfl, k2⟩
  | true =>
    rw [hrg] at hel hec HX
    have hel2 : el p = flds p := hel
    have hec0 : ec p = 0 := hec
    have hwc : wc p = if (atx p).length ≤ 4000 then 0 else 4 := HX.out
    rw [hel2] at hS2 ⊢
    rw [hec0]
    have htl : (Stz.Sm.txt (flds p)).length ≤ 4000 := by
      have := hrg
      rw [Stz.rgt_eq, Bool.and_eq_true, decide_eq_true_eq] at this
      exact this.2
    have cP := Stz.xt_any _ (flds p) w2 hS2 HSZ.out (by omega) (maxL_of (HM.out.on k2))
    have HAT : Hid (atx p = Stz.Sm.txt (flds p) ++ [10] ++ p.F.flatMap fln) := by show _ = _; rfl
    have HWC := Lib.hid hwc
    clear HX hel hec hel2 hec0 hk hro hrg HSZ hwc hS2
    generalize hfl : (flds p).length = nfl
    generalize Stz.Sm.txt (flds p) = tx at cP htl HAT
    rw [hfl] at cP
    clear hfl
    go_wp2_with fail
    refine cP.mono ?_
    rintro x w3 ⟨rfl, b3⟩
    have k3 := bon k2 b3
    have B3 := Lib.hid (B2.out.on b3)
    have q12 := B3.out.c12
    have hlt3 : w.heap.size < w3.heap.size := Nat.lt_of_lt_of_le hlt2 b3.size
    have HFs := Lib.hid (HZ.out.F.on k3)
    have hfn : ∀ i, ((p.F.take i).flatMap fln).length ≤ 21000 := flns_small p.F hF30 HFL.out
    have HFN := Lib.hid hfn
    clear cP B2 b3 k2 hlt2 hfn
    go_wp2_with fail
    go_loopw [6, 26] (fun sv v W => ∃ i : Nat, i ≤ p.F.length ∧ v = .int .i64 i ∧ sv = .string ⟨(tx ++ [10] ++ (p.F.take i).flatMap fln).toArray⟩ ∧ Below w3.heap.size w3 W) (fun _ v _ => p.F.length - (intOf v).toNat)
    case atStart => exact ⟨0, Nat.zero_le _, rfl, by simp; apply ByteArray.ext; simp, Below.refl _ _⟩
    case round =>
      clear q12
      obtain ⟨i, hi, rfl, rfl, hb⟩ := hrel
      by_cases hlt : i < p.F.length
      · obtain ⟨bb, o, c', hv, _, hFr⟩ : ∃ bb o c', Value.slice F1 p.F.length F2 = .slice (some ⟨bb, o, none⟩) p.F.length c' ∧ p.F.length ≤ c' ∧ Fr w3 bb o p.F := by
          rcases HFs.out.is with ⟨h0, _⟩ | h
          · rw [h0] at hlt; exact absurd hlt (Nat.not_lt_zero _)
          · exact h
        cases hv
        have hT := hFr.on hb
        have c0 := hT.c0 i hlt
        have c1 := hT.c1 i hlt
        have hfs := HFL.out p.F[i] (List.getElem_mem hlt)
        have HNx := Lib.hid (flns_succ p.F i hlt)
        have hsm := HFN.out i
        obtain ⟨U, hU⟩ : ∃ U, U = tx ++ [10] ++ (p.F.take i).flatMap fln := ⟨_, rfl⟩
        have hUl : U.length ≤ 30000 := by rw [hU, List.length_append, List.length_append, List.length_singleton]; omega
        have HN2 : Hid (tx ++ [10] ++ (p.F.take (i + 1)).flatMap fln = U ++ fln p.F[i]) := by show _ = _; rw [HNx.out, hU]; simp [List.append_assoc]
        rw [← hU]
        generalize p.F[i] = f at c0 c1 hfs HN2
        obtain ⟨fp, fd⟩ := f
        dsimp only at c0 c1 hfs
        have hb1 := bA1 wr (flo (fp, fd))
        have hbN := hb.trans (hb1.mono hb.size)
        have hkN := k3.trans (hbN.mono k3.size)
        have x0 : (wr.alloc (flo (fp, fd))).cell? ⟨wr.heap.size, 0, none⟩ = some (.string ⟨fp.toArray⟩) := by simp
        have x1 : (wr.alloc (flo (fp, fd))).cell? ⟨wr.heap.size, 1, none⟩ = some (.string ⟨fd.toArray⟩) := by simp
        have hll := itoa_len fd.length (by omega)
        have dI : ∀ d os, Calls Tryz.prog 94 #[.int .i64 fd.length] (grow (redrawn (wr.alloc (flo (fp, fd))) d) os) fun z w'' => z = .returned (.string ⟨(Lib.itoa fd.length).toArray⟩) ∧ ∃ q : Regrown, w'' = grow (redrawn (wr.alloc (flo (fp, fd))) q.d) q.os := fun d os => Calls.regrown_of (itoa_any fd.length (by omega) _ (tab_on HT.out (bon hkN (below_regrown _ d os))))
        have g0 := cell_regrown x0
        have g1 := cell_regrown x1
        have HN3 : Hid (tx ++ [10] ++ (p.F.take (i + 1)).flatMap fln = U ++ (fp ++ [32] ++ Lib.itoa fd.length ++ [10] ++ fd ++ [10])) := HN2
        generalize Lib.itoa (fd.length : Int) = li at dI hll HN3
        clear hT hFr HNx hsm hU hb1 HN2 hkN
        go_wp2_with fail
        refine wp_region_quiet_below (by kernel_rfl) (by kernel_rfl) ?_
        repeat (any_goals (first | go_big_quiet_step (first | with_reducible exact dI _ _) | quiet_step (first | with_reducible exact dI _ _)))
        refine wpQuiet_nil ?_
        intro _ hw'
        obtain ⟨⟨dq, osq⟩, hw''⟩ := hw'
        subst hw''
        have k4 := rg (Below.refl (wr.alloc (flo (fp, fd))).heap.size _) ⟨⟨dq, osq⟩, rfl⟩
        have hb4 := hbN.trans (k4.mono hbN.size)
        go_wp2_with fail
        exact ⟨⟨i + 1, hlt, by go_num, by rw [HN3.out]; congr 1, hb4⟩, by simp [intOf]; omega⟩
      · obtain rfl : i = p.F.length := by omega
        rw [List.take_of_length_le (Nat.le_refl _), ← HAT.out]
        have hal : (atx p).length ≤ 30000 := by
          have := HFN.out p.F.length
          rw [List.take_of_length_le (Nat.le_refl _)] at this
          rw [HAT.out, List.length_append, List.length_append, List.length_singleton]; omega
        have hkE := k3.trans (hb.mono k3.size)
        by_cases h4 : (atx p).length ≤ 4000
        · have hwc : wc p = 0 := by rw [HWC.out, if_pos h4]
          have hwx : wx p = atx p := by unfold wx; rw [if_pos hwc]
          have h4' : ¬ (4000 : Int) < ((atx p).length : Int) := by omega
          clear HAT HWC
          generalize atx p = at0 at *
          go_wp2
          go_ret2
          exact ⟨by first | rfl | (rw [hwx, hwc]; rfl), hkE⟩
        · have hwc : wc p = 4 := by rw [HWC.out, if_neg h4]
          have hwx : wx p = [] := by unfold wx; rw [hwc]; rfl
          have h4' : (4000 : Int) < ((atx p).length : Int) := by omega
          clear HAT HWC
          generalize atx p = at0 at *
          go_wp2
          go_ret2
          exact ⟨by first | rfl | (rw [hwx, hwc]; rfl), hkE⟩
/-- What the reference's WriteArchive answers. -/
theorem xwrite_any (p : Pck) (vD vA vG vB vR vP vS vL vF : Value) (w : World) (hz : Pz w p vD vA vG vB vR vP vS vL vF) (hp : Pg p) (hT : Tab w) (hM : MaxN w) : Calls Tryz.prog 26 #[pkv p.o.n p.o.e p.o.u p.o.r vD vA vG vB vR vP vS vL vF] w fun x w' => x = .returned (.tuple #[.string ⟨(wx p).toArray⟩, .int .i64 (wc p)]) ∧ Below w.heap.size w w' := by
  cases hk : aok p with
  | false =>
    have hwc : wc p = 1 := by unfold wc; rw [hk]; rfl
    rw [show wx p = [] from by unfold wx; rw [hwc]; rfl, hwc]
    exact xwrite_no p vD vA vG vB vR vP vS vL vF w hz hp hk hT
  | true => exact xwrite_yes p vD vA vG vB vR vP vS vL vF w hz hp hk hT hM
end Go.Proofs.YtnnacfnbmpalbaaGreatDoor
