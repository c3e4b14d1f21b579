/- The walk of archive's Write. -/
import Derived.Test.YtnnacfnbmpalbaaGreatDoorAf
namespace Go.Proofs.YtnnacfnbmpalbaaGreatDoor
open Go.RowKit Go.Shelf Go.Sort

/-- A package's bytes. -/
def atx (p : Pck) : List UInt8 := Stz.Sm.txt (flds p) ++ [10] ++ p.F.flatMap fln
def wc (p : Pck) : Int := if aok p = true then (if Stz.Sm.rgt (flds p) = true then (if (atx p).length ≤ 4000 then 0 else 4) else 4) else 1
def wx (p : Pck) : List UInt8 := if wc p = 0 then atx p else []
def we (p : Pck) : Value := if wc p = 0 then .nilIface else .iface 32 (.int .i64 (wc p))
theorem aok_rok {p : Pck} (h : aok p = true) : rok p = true := by unfold aok at h; rw [Bool.and_eq_true] at h; exact h.1
theorem fln_le (f : Fl2) (h : f.1.length ≤ 100 ∧ f.2.length ≤ 500) : (fln f).length ≤ 700 := by
  have h1 := itoa_len f.2.length (by omega)
  unfold fln
  simp only [List.length_append, List.length_cons, List.length_nil]
  omega
theorem flns_le : ∀ (l : List Fl2), (∀ f ∈ l, f.1.length ≤ 100 ∧ f.2.length ≤ 500) → (l.flatMap fln).length ≤ l.length * 700
  | [], _ => by simp
  | f :: l, h => by
    have h1 := fln_le f (h f (List.mem_cons_self ..))
    have h2 := flns_le l fun g hg => h g (List.mem_cons_of_mem _ hg)
    rw [List.flatMap_cons, List.length_append, List.length_cons]
    omega
theorem flns_succ (l : List Fl2) (i : Nat) (h : i < l.length) : (l.take (i + 1)).flatMap fln = (l.take i).flatMap fln ++ fln l[i] := by
  rw [List.take_succ_eq_append_getElem h, List.flatMap_append]; simp only [List.flatMap_cons, List.flatMap_nil, List.append_nil]
theorem flns_small (l : List Fl2) (h : l.length ≤ 30) (hs : ∀ f ∈ l, f.1.length ≤ 100 ∧ f.2.length ≤ 500) (i : Nat) : ((l.take i).flatMap fln).length ≤ 21000 := by
  have h1 := flns_le (l.take i) fun f hf => hs f (List.mem_of_mem_take hf)
  have h2 : (l.take i).length ≤ 30 := by simp; omega
  omega

set_option maxHeartbeats 3200000 in
set_option maxRecDepth 100000 in
theorem awrite_no (p : Pck) (vD vA vG vB vR vP vS vL vF : Value) (w : World) (hz : Pz w p vD vA vG vB vR vP vS vL vF) (hp : Pg p) (hk : aok p = false) (hT : Tab w) (hM : MaxN w) : Calls Tryz.prog 27 #[pkv p.o.n p.o.e p.o.u p.o.r vD vA vG vB vR vP vS vL vF] w fun x w' => x = .returned (.tuple #[.string ⟨#[]⟩, .iface 32 (.int .i64 1)]) ∧ Below w.heap.size w w' := by
  have c0 := b1c w (pko p.o.n p.o.e p.o.u p.o.r vD vA vG vB vR vP vS vL vF)
  have cR := aright_any p vD vA vG vB vR vP vS vL vF _ (hz.on c0) hp (tab_on hT c0) (hM.on c0)
  rw [hk] at cR
  obtain ⟨F1, F2, hvF⟩ := fs_sl hz.F
  obtain ⟨S1, S2, hvS⟩ := ss_sl hz.S
  obtain ⟨D1, D2, hvD⟩ := as_sl hz.D
  obtain ⟨A1, A2, hvA⟩ := as_sl hz.A
  obtain ⟨G1, G2, hvG⟩ := ts_sl hz.G
  obtain ⟨Q1, Q2, hvB⟩ := ts_sl hz.B
  obtain ⟨R1, R2, hvR⟩ := ts_sl hz.R
  obtain ⟨P1, P2, hvP⟩ := ts_sl hz.P
  obtain ⟨L1, L2, hvL⟩ := ss_sl hz.L
  subst hvF hvS hvD hvA hvG hvB hvR hvP hvL
  clear hz hp hT hM hk
  go_enter Tryz.func27, Tryz.ntmps27
  go_wp2_with fail
  refine cR.mono ?_
  rintro x w1 ⟨rfl, b1⟩
  go_wp2
  go_ret2
  exact ⟨rfl, bon c0 b1⟩

set_option maxHeartbeats 6400000 in
set_option maxRecDepth 100000 in
theorem awrite_yes (p : Pck) (vD vA vG vB vR vP vS vL vF : Value) (w : World) (hz : Pz w p vD vA vG vB vR vP vS vL vF) (hp : Pg p) (hk : aok p = true) (hG : Sg w) (hT : Tab w) (hM : MaxN w) : Calls Tryz.prog 27 #[pkv p.o.n p.o.e p.o.u p.o.r vD vA vG vB vR vP vS vL vF] w fun x w' => x = .returned (.tuple #[.string ⟨(wx p).toArray⟩, we p]) ∧ Below w.heap.size w w' := by
  have c0 := b1c w (pko p.o.n p.o.e p.o.u p.o.r vD vA vG vB vR vP vS vL vF)
  have B0 := Lib.hid (pb_new w p vD vA vG vB vR vP vS vL vF)
  have cR := aright_any p vD vA vG vB vR vP vS vL vF _ (hz.on c0) hp (tab_on hT c0) (hM.on c0)
  rw [hk] at cR
  have HZ := Lib.hid hz
  have HP := Lib.hid hp
  have HM := Lib.hid hM
  have HT := Lib.hid hT
  have HG := Lib.hid hG
  have hfl := fls_p hp.F
  have hF30 := hfl.1
  have HFL := Lib.hid hfl.2
  have hro := aok_rok hk
  obtain ⟨F1, F2, hvF⟩ := fs_sl hz.F
  obtain ⟨S1, S2, hvS⟩ := ss_sl hz.S
  obtain ⟨D1, D2, hvD⟩ := as_sl hz.D
  obtain ⟨A1, A2, hvA⟩ := as_sl hz.A
  obtain ⟨G1, G2, hvG⟩ := ts_sl hz.G
  obtain ⟨Q1, Q2, hvB⟩ := ts_sl hz.B
  obtain ⟨R1, R2, hvR⟩ := ts_sl hz.R
  obtain ⟨P1, P2, hvP⟩ := ts_sl hz.P
  obtain ⟨L1, L2, hvL⟩ := ss_sl hz.L
  subst hvF hvS hvD hvA hvG hvB hvR hvP hvL
  clear hz hp hT hM hG hfl
  go_enter Tryz.func27, Tryz.ntmps27
  go_wp2_with fail
  refine cR.mono ?_
  rintro x w1 ⟨rfl, b1⟩
  have k1 := bon c0 b1
  have B1 := Lib.hid (B0.out.on b1)
  have q0 := B1.out.c0
  have q1 := B1.out.c1
  have q2 := B1.out.c2
  have q3 := B1.out.c3
  have q4 := B1.out.c4
  have q5 := B1.out.c5
  have q6 := B1.out.c6
  have q7 := B1.out.c7
  have q8 := B1.out.c8
  have q9 := B1.out.c9
  have q10 := B1.out.c10
  have q11 := B1.out.c11
  have q12 := B1.out.c12
  have hlt1 : w.heap.size < w1.heap.size := block_lt_of_cell q12
  have cF := rf_any p _ _ _ _ _ _ _ _ _ w1 (HZ.out.on k1) HP.out (HG.out.on k1) (tab_on HT.out k1) (HM.out.on k1)
  clear cR B0 b1 c0
  go_wp2_with fail
  refine cF.mono ?_
  rintro x w2 ⟨⟨A, c, rfl, hS2⟩, b2⟩
  have k2 := bon k1 b2
  have B2 := Lib.hid (B1.out.on b2)
  clear q0 q1 q2 q3 q4 q5 q6 q7 q8 q9 q10 q11 q12 cF B1 b2 k1 hlt1
  have HX : Hid (wc p = if Stz.Sm.rgt (flds p) = true then (if (atx p).length ≤ 4000 then 0 else 4) else 4) := by show _ = _; unfold wc; rw [hk]; rfl
  have hel : el p = if Stz.Sm.rgt (flds p) = true then flds p else [] := by unfold el; rw [hro]; rfl
  have hec : ec p = if Stz.Sm.rgt (flds p) = true then 0 else 4 := by unfold ec; rw [hro]; rfl
  have HSZ := Lib.hid (sz_flds (rk_of hro) HP.out)
  have hlt2 : w.heap.size < w2.heap.size := block_lt_of_cell B2.out.c12
  cases hrg : Stz.Sm.rgt (flds p) with
  | false =>
    rw [hrg] at hel hec HX
    have her : er p = .iface 32 (.int .i64 4) := by unfold er; rw [hec]; rfl
    have hwc : wc p = 4 := HX.out
    have hwx : wx p = [] := by unfold wx; rw [hwc]; rfl
    have hwe : we p = .iface 32 (.int .i64 4) := by unfold we; rw [hwc]; rfl
    rw [her]
    clear HX hel hec her hwc hS2 HSZ hk hro hrg
    go_wp2_with fail
    go_ret2
    exact ⟨by rw [hwx, hwe]; rfl, k2⟩
  | true =>
    rw [hrg] at hel hec HX
    have hel2 : el p = flds p := hel
    have her : er p = .nilIface := by unfold er; rw [hec]; rfl
    have hwc : wc p = if (atx p).length ≤ 4000 then 0 else 4 := HX.out
    rw [hel2] at hS2 ⊢
    rw [her]
    have cP := Stz.print_any _ (flds p) w2 hS2 HSZ.out
    rw [show Stz.prVal (flds p) (.iface 32 (.int .i64 1)) .nilIface = .tuple #[.string ⟨(Stz.Sm.txt (flds p)).toArray⟩, .nilIface] from by unfold Stz.prVal; rw [hrg]; rfl] at cP
    have htl : (Stz.Sm.txt (flds p)).length ≤ 4000 := by
      have := hrg
      rw [Stz.rgt_eq, Bool.and_eq_true, decide_eq_true_eq] at this
      exact this.2
    have HAT : Hid (atx p = Stz.Sm.txt (flds p) ++ [10] ++ p.F.flatMap fln) := by show _ = _; rfl
    have HWC := Lib.hid hwc
    clear HX hel hec hel2 her hk hro hrg HSZ hwc hS2
    generalize hfl : (flds p).length = nfl
    generalize Stz.Sm.txt (flds p) = tx at cP htl HAT
    rw [hfl] at cP
    clear hfl
    go_wp2_with fail
    refine cP.mono ?_
    rintro x w3 ⟨rfl, b3⟩
    have k3 := bon k2 b3
    have B3 := Lib.hid (B2.out.on b3)
    have d0 : Bd w3.heap.size w3.heap.size [] (w3.alloc (.cells #[.pointer none, .slice none 0 0] 122)) := ⟨Lib.fresh_isBuilder 122 5 w3, by simp⟩
    have bw0 := bA1 w3 (.cells #[.pointer none, .slice none 0 0] 122)
    have hlt3 : w.heap.size < w3.heap.size := Nat.lt_of_lt_of_le hlt2 b3.size
    have cH := bd_str w3.heap.size w3.heap.size [] tx _ d0 (by simp) (by omega)
    clear cP B2 b3 k2 hlt2
    go_wp2_with fail
    refine cH.mono ?_
    rintro x w4 ⟨rfl, d4, b4, _⟩
    rw [List.nil_append] at d4
    have hb4 := bw0.trans b4
    have hz4 : w3.heap.size < w4.heap.size := Nat.lt_of_lt_of_le (by simp) b4.size
    have cN := bd_byte w3.heap.size w3.heap.size tx 10 w4 d4 (by omega)
    clear cH b4 bw0 d0
    go_wp2_with fail
    refine cN.mono ?_
    rintro x w5 ⟨rfl, d5, b5, _⟩
    have hb5 := hb4.trans b5
    have hz5 : w3.heap.size < w5.heap.size := Nat.lt_of_lt_of_le hz4 b5.size
    have q12 := (B3.out.on hb5).c12
    have hlt5 : w.heap.size < w5.heap.size := block_lt_of_cell q12
    have htn : (tx ++ [10]).length ≤ 4001 := by simp; omega
    obtain ⟨T, hTT⟩ : ∃ T, T = tx ++ [10] := ⟨_, rfl⟩
    rw [← hTT] at d5 htn HAT
    clear hTT cN b5 hb4 hz4 d4
    have HFs := Lib.hid (HZ.out.F.on k3)
    have HBs := Lib.hid hb5
    have hfn : ∀ i, ((p.F.take i).flatMap fln).length ≤ 21000 := flns_small p.F hF30 HFL.out
    have HFN := Lib.hid hfn
    clear hfn
    go_wp2_with fail
    go_loopw [34] (fun v W => ∃ i : Nat, i ≤ p.F.length ∧ v = .int .i64 i ∧ Below w3.heap.size w3 W ∧ Bd w3.heap.size w3.heap.size (T ++ (p.F.take i).flatMap fln) W ∧ w3.heap.size < W.heap.size) (fun v _ => p.F.length - (intOf v).toNat)
    case atStart => exact ⟨0, Nat.zero_le _, rfl, HBs.out, by simpa using d5, hz5⟩
    case round =>
      clear d5 q12
      obtain ⟨i, hi, rfl, hb, hd, hz⟩ := hrel
      by_cases hlt : i < p.F.length
      · obtain ⟨bb, o, c', hv, _, hFr⟩ : ∃ bb o c', Value.slice F1 p.F.length F2 = .slice (some ⟨bb, o, none⟩) p.F.length c' ∧ p.F.length ≤ c' ∧ Fr w3 bb o p.F := by
          rcases HFs.out.is with ⟨h0, _⟩ | h
          · rw [h0] at hlt; exact absurd hlt (Nat.not_lt_zero _)
          · exact h
        cases hv
        have hT := hFr.on hb
        have c0 := hT.c0 i hlt
        have c1 := hT.c1 i hlt
        have hfs := HFL.out p.F[i] (List.getElem_mem hlt)
        have HNx := Lib.hid (flns_succ p.F i hlt)
        have hsm := HFN.out i
        obtain ⟨U, hU⟩ : ∃ U, U = T ++ (p.F.take i).flatMap fln := ⟨_, rfl⟩
        have hUl : U.length ≤ 30000 := by rw [hU, List.length_append]; omega
        have HN2 : Hid (T ++ (p.F.take (i + 1)).flatMap fln = U ++ fln p.F[i]) := by show _ = _; rw [HNx.out, hU]; simp [List.append_assoc]
        rw [← hU] at hd
        generalize p.F[i] = f at c0 c1 hfs HN2
        obtain ⟨fp, fd⟩ := f
        dsimp only at c0 c1 hfs
        have hb1 := bA1 wr (flo (fp, fd))
        have hd1 := hd.on hb1
        have hbN := hb.trans (hb1.mono hb.size)
        have hzN : w3.heap.size < (wr.alloc (flo (fp, fd))).heap.size := by simp; omega
        have cW := wfile_any w3.heap.size w3.heap.size fp fd U w3 _ hd1 hzN hbN (Nat.le_refl _) (by omega) (by omega) (by omega) (tab_on HT.out k3)
        have hfd : ¬ 4000 < fd.length := by omega
        clear hT hFr HNx hsm hU hd hb1 hd1
        go_wp2_with fail
        refine cW.mono ?_
        rintro x w6 ⟨rfl, hd6, b6, _⟩
        rw [← HN2.out] at hd6
        go_wp2_with fail
        exact ⟨⟨i + 1, hlt, by go_num, hbN.trans b6, hd6, Nat.lt_of_lt_of_le hzN b6.size⟩, by simp [intOf]; omega⟩
      · obtain rfl : i = p.F.length := by omega
        rw [List.take_of_length_le (Nat.le_refl _), ← HAT.out] at hd
        have hal : (atx p).length ≤ 30000 := by
          have := HFN.out p.F.length
          rw [List.take_of_length_le (Nat.le_refl _)] at this
          rw [HAT.out, List.length_append]; omega
        have cL := bd_len w3.heap.size w3.heap.size (atx p) wr hd
        have cG := Tryz.Builder_String_any w3.heap.size w3.heap.size _ _ hd.is hd.le
        have hkE := k3.trans (hb.mono k3.size)
        by_cases h4 : (atx p).length ≤ 4000
        · have hwc : wc p = 0 := by rw [HWC.out, if_pos h4]
          have hwx : wx p = atx p := by unfold wx; rw [if_pos hwc]
          have hwe : we p = .nilIface := by unfold we; rw [if_pos hwc]
          have h4' : ¬ (4000 : Int) < ((atx p).length : Int) := by omega
          clear HAT HWC hd hwc
          generalize atx p = at0 at *
          go_wp2_with fail
          refine cL.mono ?_
          rintro x w6 ⟨rfl, rfl⟩
          go_wp2_with fail
          refine cG.mono ?_
          rintro x w7 ⟨rfl, b7⟩
          go_wp2
          go_ret2
          exact ⟨by rw [hwx, hwe]; rfl, hkE.trans (b7.mono k3.size)⟩
        · have hwc : wc p = 4 := by rw [HWC.out, if_neg h4]
          have hwx : wx p = [] := by unfold wx; rw [hwc]; rfl
          have hwe : we p = .iface 32 (.int .i64 4) := by unfold we; rw [hwc]; rfl
          have h4' : (4000 : Int) < ((atx p).length : Int) := by omega
          clear HAT HWC hd hwc cG
          generalize atx p = at0 at *
          go_wp2_with fail
          refine cL.mono ?_
          rintro x w6 ⟨rfl, rfl⟩
          go_wp2
          go_ret2
          exact ⟨by rw [hwx, hwe]; rfl, hkE⟩
/-- What archive's Write answers. -/
theorem awrite_any (p : Pck) (vD vA vG vB vR vP vS vL vF : Value) (w : World) (hz : Pz w p vD vA vG vB vR vP vS vL vF) (hp : Pg p) (hG : Sg w) (hT : Tab w) (hM : MaxN w) : Calls Tryz.prog 27 #[pkv p.o.n p.o.e p.o.u p.o.r vD vA vG vB vR vP vS vL vF] w fun x w' => x = .returned (.tuple #[.string ⟨(wx p).toArray⟩, we p]) ∧ Below w.heap.size w w' := by
  cases hk : aok p with
  | false =>
    have hwc : wc p = 1 := by unfold wc; rw [hk]; rfl
    rw [show wx p = [] from by unfold wx; rw [hwc]; rfl, show we p = .iface 32 (.int .i64 1) from by unfold we; rw [hwc]; rfl]
    exact awrite_no p vD vA vG vB vR vP vS vL vF w hz hp hk hT hM
  | true => exact awrite_yes p vD vA vG vB vR vP vS vL vF w hz hp hk hG hT hM
end Go.Proofs.YtnnacfnbmpalbaaGreatDoor
