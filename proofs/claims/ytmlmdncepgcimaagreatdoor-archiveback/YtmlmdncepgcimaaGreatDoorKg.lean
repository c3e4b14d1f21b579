/- The law ArchiveBack. -/
import Derived.Test.YtmlmdncepgcimaaGreatDoorKf
import Derived.Test.YtmlmdncepgcimaaGreatDoorBg
namespace Go.Proofs.YtmlmdncepgcimaaGreatDoor
open Go.RowKit Go.Shelf Go.Sort

/-- What is cut off within the last file. -/
theorem atx_cut {p : Pck} {F0 : List Fl2} {fp fd : List UInt8} (hF : p.F = F0 ++ [(fp, fd)]) (j : Nat) (hj : j ≤ fd.length) : (atx p).take ((atx p).length - 1 - j) = ath p (F0.flatMap fln ++ (fp ++ 32 :: (Lib.itoa fd.length ++ 10 :: fd.take (fd.length - j)))) := by
  have e : atx p = ath p (F0.flatMap fln ++ (fp ++ 32 :: (Lib.itoa fd.length ++ [10]))) ++ (fd ++ [10]) := by
    unfold atx ath
    rw [hF, List.flatMap_append]
    simp [fln]
  have e2 : ath p (F0.flatMap fln ++ (fp ++ 32 :: (Lib.itoa fd.length ++ 10 :: fd.take (fd.length - j)))) = ath p (F0.flatMap fln ++ (fp ++ 32 :: (Lib.itoa fd.length ++ [10]))) ++ fd.take (fd.length - j) := by
    unfold ath; simp
  rw [e, e2]
  generalize ath p (F0.flatMap fln ++ (fp ++ 32 :: (Lib.itoa fd.length ++ [10]))) = X
  have hl : (X ++ (fd ++ [10])).length - 1 - j = X.length + (fd.length - j) := by simp; omega
  rw [hl, List.take_append, List.take_of_length_le (by omega), show X.length + (fd.length - j) - X.length = fd.length - j by omega, List.take_append_of_le_length (by omega)]
theorem pb_last {F : List Fl2} (h : 0 < F.length) : ∃ F0 fp fd, F = F0 ++ [(fp, fd)] ∧ F[F.length - 1] = (fp, fd) := by
  have hne : F ≠ [] := List.ne_nil_of_length_pos h
  refine ⟨F.dropLast, (F.getLast hne).1, (F.getLast hne).2, (List.dropLast_concat_getLast hne).symm, ?_⟩
  rw [← List.getLast_eq_getElem hne]
set_option maxHeartbeats 6400000 in
set_option maxRecDepth 100000 in
theorem aback_any (p : Pck) (vD vA vG vB vR vP vS vL vF : Value) (cut : Int) (w : World) (hz : Pz w p vD vA vG vB vR vP vS vL vF) (hw : Pw p) (hE : ErrT w) (hG : Sg w) (hT : Tab w) (hM : MaxN w) :
    Calls Tryz.prog 8 #[pkv p.o.n p.o.e p.o.u p.o.r vD vA vG vB vR vP vS vL vF, .int .i64 cut] w fun e w' => e = .returned (.bool true) ∧ Below w.heap.size w w' := by
  have c0 := b1c w (pko p.o.n p.o.e p.o.u p.o.r vD vA vG vB vR vP vS vL vF)
  have B0 := Lib.hid (pb_new w p vD vA vG vB vR vP vS vL vF)
  have c9 := Kee.says_any p vD vA vG vB vR vP vS vL vF _ (hz.on c0)
  have HZ := Lib.hid hz
  have HW := Lib.hid hw
  have HE := Lib.hid hE
  have HG := Lib.hid hG
  have HT := Lib.hid hT
  have HM := Lib.hid hM
  obtain ⟨F1, F2, hvF⟩ := fs_sl hz.F
  obtain ⟨S1, S2, hvS⟩ := ss_sl hz.S
  obtain ⟨D1, D2, hvD⟩ := as_sl hz.D
  obtain ⟨A1, A2, hvA⟩ := as_sl hz.A
  obtain ⟨G1, G2, hvG⟩ := ts_sl hz.G
  obtain ⟨Q1, Q2, hvB⟩ := ts_sl hz.B
  obtain ⟨R1, R2, hvR⟩ := ts_sl hz.R
  obtain ⟨P1, P2, hvP⟩ := ts_sl hz.P
  obtain ⟨L1, L2, hvL⟩ := ss_sl hz.L
  subst hvF hvS hvD hvA hvG hvB hvR hvP hvL
  clear hz hw hE hG hT hM
  go_enter Tryz.func8, Tryz.ntmps8
  go_wp2_with fail
  refine c9.mono ?_
  rintro x w1 ⟨⟨y, rfl, hy⟩, b1⟩
  have k1 := bon c0 b1
  have B1 := Lib.hid (B0.out.on b1)
  have HY := Lib.hid hy
  clear c9 B0 b1 c0 hy
  cases y with
  | false =>
    go_wp2_with fail
    go_ret
    exact ⟨rfl, k1⟩
  | true =>
    have hp := pg_of (HY.out rfl) HW.out
    have HP := Lib.hid hp
    have cT := wrapped_any w1 (HG.out.on k1) (tab_on HT.out k1) (HM.out.on k1)
    clear hp HY
    go_wp2_with fail
    refine cT.mono ?_
    rintro x w2 ⟨rfl, b2⟩
    have k2 := bon k1 b2
    have B2 := Lib.hid (B1.out.on b2)
    clear cT b2 k1 B1
    have q0 := B2.out.c0
    have q1 := B2.out.c1
    have q2 := B2.out.c2
    have q3 := B2.out.c3
    have q4 := B2.out.c4
    have q5 := B2.out.c5
    have q6 := B2.out.c6
    have q7 := B2.out.c7
    have q8 := B2.out.c8
    have q9 := B2.out.c9
    have q10 := B2.out.c10
    have q11 := B2.out.c11
    have q12 := B2.out.c12
    have cW := awrite_any p _ _ _ _ _ _ _ _ _ w2 (HZ.out.on k2) HP.out (HG.out.on k2) (tab_on HT.out k2) (HM.out.on k2)
    go_wp2_with fail
    refine cW.mono ?_
    rintro x w3 ⟨rfl, b3⟩
    have k3 := bon k2 b3
    have B3 := Lib.hid (B2.out.on b3)
    clear cW b3 k2 B2 q0 q1 q2 q3 q4 q5 q6 q7 q8 q9 q10 q11 q12
    have hwc : wc p = 0 ∨ wc p = 1 ∨ wc p = 4 := by
      unfold wc
      split
      · split
        · split <;> simp
        · simp
      · simp
    rcases hwc with hwc | hwc | hwc
    case inr.inl =>
      have hwe : we p = .iface 32 (.int .i64 1) := by unfold we; rw [hwc]; rfl
      rw [hwe]
      have cTl := tell_errno 1 w3 (HE.out.on k3)
      clear hwe hwc
      go_wp2_with fail
      with_reducible refine cTl.mono ?_
      rintro x w4 ⟨rfl, b4⟩
      have k4 := bon k3 b4
      clear cTl
      go_wp2_with fail
      go_ret
      exact ⟨rfl, k4⟩
    case inr.inr =>
      have hwe : we p = .iface 32 (.int .i64 4) := by unfold we; rw [hwc]; rfl
      rw [hwe]
      have cTl := fun W (h : Below w3.heap.size w3 W) => tell_errno 4 W ((HE.out.on k3).on h)
      clear hwe hwc
      go_wp2_with fail
      with_reducible refine (cTl w3 (Below.refl _ _)).mono ?_
      rintro x w4 ⟨rfl, b4⟩
      have c4 := cTl w4 b4
      clear cTl
      go_wp2_with fail
      with_reducible refine c4.mono ?_
      rintro x w5 ⟨rfl, b5⟩
      have k5 := bon (bon k3 b4) b5
      clear c4
      go_wp2_with fail
      go_ret
      exact ⟨rfl, k5⟩
    case inl =>
      have hwe : we p = .nilIface := by unfold we; rw [if_pos hwc]
      have hwx : wx p = atx p := by unfold wx; rw [if_pos hwc]
      have hparts : aok p = true ∧ Stz.Sm.rgt (flds p) = true ∧ (atx p).length ≤ 4000 := by
        unfold wc at hwc
        split at hwc
        · rename_i h1
          split at hwc
          · rename_i h2
            split at hwc
            · rename_i h3; exact ⟨h1, h2, h3⟩
            · cases hwc
          · cases hwc
        · cases hwc
      rw [hwe, hwx]
      have HPt := Lib.hid hparts
      have HWc := Lib.hid hwc
      have cR := aread_good p w3 hparts.1 hparts.2.1 hparts.2.2 HP.out (HG.out.on k3) (tab_on HT.out k3) (HM.out.on k3)
      clear hwe hwx hparts hwc
      go_wp2_with fail
      with_reducible refine cR.mono ?_
      rintro x w4 ⟨uD, uA, uG, uB, uR, uP, uS, uL, uF, rfl, hz4, b4⟩
      obtain ⟨AD, cD, rfl⟩ := as_len hz4.D
      obtain ⟨AA, cA, rfl⟩ := as_len hz4.A
      obtain ⟨AG, cG, rfl⟩ := ts_len hz4.G
      obtain ⟨AB, cB, rfl⟩ := ts_len hz4.B
      obtain ⟨AR, cR', rfl⟩ := ts_len hz4.R
      obtain ⟨AP, cP, rfl⟩ := ts_len hz4.P
      obtain ⟨AS, cS, rfl⟩ := ss_len hz4.S
      obtain ⟨AL, cL, rfl⟩ := ss_len hz4.L
      obtain ⟨AF, cF, hAF⟩ := fs_sl hz4.F
      subst hAF
      have k4 := bon k3 b4
      have b5 := b1c w4 (pko p.o.n p.o.e p.o.u p.o.r (.slice AD p.D.length cD) (.slice AA p.A.length cA) (.slice AG p.G.length cG) (.slice AB p.B.length cB) (.slice AR p.R.length cR') (.slice AP p.o.P.length cP) (.slice AS p.S.length cS) (.slice AL p.L.length cL) (.slice AF p.F.length cF))
      have PB5 := Lib.hid (Ob.mk (World.alloc_heap_new w4 (pko p.o.n p.o.e p.o.u p.o.r (.slice AD p.D.length cD) (.slice AA p.A.length cA) (.slice AG p.G.length cG) (.slice AB p.B.length cB) (.slice AR p.R.length cR') (.slice AP p.o.P.length cP) (.slice AS p.S.length cS) (.slice AL p.L.length cL) (.slice AF p.F.length cF))))
      have k5 := bon k4 b5
      have B5 := Lib.hid ((B3.out.on b4).on b5)
      have hz5 := hz4.on b5
      have cX := text_any p _ _ _ _ _ _ _ _ _ _ hz5 HP.out (HG.out.on k5) (tab_on HT.out k5) (HM.out.on k5) HWc.out
      have HF5 := Lib.hid hz5.F
      have HK5 := Lib.hid k5
      have q12 := B5.out.c12
      clear cR hz4 hz5 b4 b5 k3 k4 k5 B3
      go_wp2_with fail
      refine cX.mono ?_
      rintro x w6 ⟨rfl, b6⟩
      have PB6 := Lib.hid (PB5.out.on b6)
      have B6 := Lib.hid (B5.out.on b6)
      have HF6 := Lib.hid (HF5.out.on b6)
      have HK6 := Lib.hid (bon HK5.out b6)
      clear cX PB5 B5 HF5 HK5 b6 q12
      have q12 := B6.out.c12
      have a12 := PB6.out.pk.2.2.2.2.2.2.2.2.2.2.2.2.2.1
      have hF30 := (fls_p HP.out.F).1
      go_wp2_with fail
      go_loopw [8] (fun i W => ∃ k : Nat, k ≤ p.F.length ∧ i = .int .i64 k ∧ Hid (Below w6.heap.size w6 W)) (fun i _ => p.F.length - (intOf i).toNat)
      case atStart => exact ⟨0, Nat.zero_le _, rfl, Below.refl _ _⟩
      case round =>
        obtain ⟨k, hk, rfl, HB⟩ := hrel
        have B7 := Lib.hid (B6.out.on HB.out)
        have r12 := B7.out.c12
        have s12 := (HB.out.cell (p := ⟨w4.heap.size, 12, none⟩) (block_lt_of_cell a12)).trans a12
        by_cases hlt : k < p.F.length
        · obtain ⟨fb, fo, fc, hv1, _, hFr1⟩ : ∃ bb o c', Value.slice F1 p.F.length F2 = .slice (some ⟨bb, o, none⟩) p.F.length c' ∧ p.F.length ≤ c' ∧ Fr wr bb o p.F := by
            rcases ((HZ.out.F.on HK6.out).on HB.out).is with ⟨h0, _⟩ | h
            · rw [h0] at hlt; exact absurd hlt (Nat.not_lt_zero _)
            · exact h
          obtain ⟨gb, go, gc, hv2, _, hFr2⟩ : ∃ bb o c', Value.slice AF p.F.length cF = .slice (some ⟨bb, o, none⟩) p.F.length c' ∧ p.F.length ≤ c' ∧ Fr wr bb o p.F := by
            rcases (HF6.out.on HB.out).is with ⟨h0, _⟩ | h
            · rw [h0] at hlt; exact absurd hlt (Nat.not_lt_zero _)
            · exact h
          cases hv1
          cases hv2
          have e0 : wr.drew.cell? ⟨fb, fo + k * 2, none⟩ = some (.string ⟨p.F[k].1.toArray⟩) := hFr1.c0 k hlt
          have e1 : wr.drew.cell? ⟨fb, fo + k * 2 + 1, none⟩ = some (.string ⟨p.F[k].2.toArray⟩) := hFr1.c1 k hlt
          have e2 : wr.drew.cell? ⟨gb, go + k * 2, none⟩ = some (.string ⟨p.F[k].1.toArray⟩) := hFr2.c0 k hlt
          have e3 : wr.drew.cell? ⟨gb, go + k * 2 + 1, none⟩ = some (.string ⟨p.F[k].2.toArray⟩) := hFr2.c1 k hlt
          have e4 : wr.drew.cell? ⟨w.heap.size, 12, none⟩ = some (.slice (some ⟨fb, fo, none⟩) p.F.length F2) := r12
          have e5 : wr.drew.cell? ⟨w4.heap.size, 12, none⟩ = some (.slice (some ⟨gb, go, none⟩) p.F.length cF) := s12
          generalize p.F[k].1 = fp at e0 e2
          generalize p.F[k].2 = fd at e1 e3
          have HB' := Lib.hid HB.out.drew
          clear hFr1 hFr2
          go_wp2_with fail
          go_region
          go_wp2_with fail
          exact ⟨⟨k + 1, hlt, by go_num, HB'⟩, by simp [intOf]; omega⟩
        · obtain rfl : k = p.F.length := by omega
          have k7 := HK6.out.trans (HB.out.mono HK6.out.size)
          by_cases h0 : p.F.length = 0
          · have h0' : (p.F.length : Int) = 0 := by omega
            go_wp2_with fail
            go_ret
            exact ⟨rfl, k7⟩
          · obtain ⟨F0, fp, fd, hFe, hFl⟩ := pb_last (F := p.F) (by omega)
            obtain ⟨fb, fo, fc, hv1, _, hFr1⟩ : ∃ bb o c', Value.slice F1 p.F.length F2 = .slice (some ⟨bb, o, none⟩) p.F.length c' ∧ p.F.length ≤ c' ∧ Fr wr bb o p.F := by
              rcases ((HZ.out.F.on HK6.out).on HB.out).is with ⟨h1, _⟩ | h
              · rw [h1] at h0; exact absurd rfl h0
              · exact h
            cases hv1
            have e0 := hFr1.c0 (p.F.length - 1) (by omega)
            have e1 := hFr1.c1 (p.F.length - 1) (by omega)
            rw [hFl] at e0 e1
            dsimp only at e0 e1
            have h0' : ¬ (p.F.length : Int) = 0 := by omega
            obtain ⟨m, hm⟩ : ∃ m, m = p.F.length - 1 := ⟨_, rfl⟩
            have hsub : (p.F.length : Int) - 1 = (m : Int) := by omega
            have hmlt : m < p.F.length := by omega
            rw [← hm] at e0 e1
            have hfd : fd.length ≤ 500 := (((fls_p HP.out.F).2 (fp, fd) (by rw [hFe]; simp)).2)
            have cPk := fun W => pick_any cut ((fd.length : Int) + 1) (by omega) (by omega) W
            have hpk := pk_lt cut ((fd.length : Int) + 1) (by omega)
            have hcut := atx_cut hFe (pk cut ((fd.length : Int) + 1)) (by omega)
            have hal := HPt.out.2.2
            have hal2 : fd.length + 1 ≤ (atx p).length := by
              have e : (atx p).length = (Stz.Sm.txt (flds p) ++ [10]).length + ((F0.flatMap fln).length + (fln (fp, fd)).length) := by unfold atx; rw [hFe]; simp [List.flatMap_append]; omega
              have e2 : fd.length + 1 ≤ (fln (fp, fd)).length := by unfold fln; simp; omega
              omega
            have cC := fun W (hW : Below w.heap.size w W) => aread_cut p F0 fp fd (fd.take (fd.length - pk cut ((fd.length : Int) + 1))) hFe (by simp) W HPt.out.1 HPt.out.2.1 (by rw [← hcut]; simp; omega) HP.out (HG.out.on hW) (tab_on HT.out hW) (HM.out.on hW)
            rw [← hcut] at cC
            obtain ⟨kk, hkk⟩ : ∃ kk, kk = (atx p).length - 1 - pk cut ((fd.length : Int) + 1) := ⟨_, rfl⟩
            have hk2 : ((atx p).length : Int) - 1 - ((pk cut ((fd.length : Int) + 1) : Nat) : Int) = (kk : Int) := by omega
            have hkl : kk ≤ (atx p).length := by omega
            rw [← hkk] at cC
            have hex := Arc.ba_take' (atx p) kk
            have HCC := Lib.hid cC
            generalize pk cut ((fd.length : Int) + 1) = j at cPk hk2 hpk
            have b8 := bA1 wr (flo (fp, fd))
            have k8 := bon k7 b8
            have cC8 := HCC.out _ k8
            have HK8 := Lib.hid k8
            generalize atx p = tx at *
            clear hFr1 hm hcut cC HCC hkk hal2 k7 k8 b8 hFl hFe
            go_wp2_with (first | (go_at_call 34; refine (cPk _).mono ?_; rintro e w' ⟨rfl, rfl⟩) | fail)
            refine cC8.mono ?_
            rintro x w9 ⟨v9, rfl, b9⟩
            have k9 := bon HK8.out b9
            clear cC8 b9
            go_wp2_with fail
            go_ret
            exact ⟨rfl, k9⟩
end Go.Proofs.YtmlmdncepgcimaaGreatDoor
