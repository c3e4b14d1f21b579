/- The law DiskKeeps. What was, and what is, by names. -/
import Derived.Test.YtjllnhdampjieaaDoorKt3
import Derived.Deep.CutRange
import Derived.Deep.CutBlock
namespace Go.Proofs.YtjllnhdampjieaaDoor
open Go.RowKit Go.Sort Go.Maps Go.Shelf

noncomputable def tl2 : Code := (Tryd.f4.body.bind (afterR 27)).getD .skip
set_option maxHeartbeats 8000000 in
set_option maxRecDepth 1000000 in
theorem keeps_t2 (w0 W : World) (b : Nat) (mb : Option Nat) (M L : Kv Ent) (keeps : Int) (was : List UInt8) (mn mo : Nat) (hd : KD w0 W b mb L false (-1)) (hM : Kok M) (hS : Stl M) (hW : Wr M L) (hwas : was = altx M) (hmn : MP w0 W b mb mn []) (hmo : MP w0 W b mb mo []) (hne : mn ≠ mo) (mm : Int) (hmm : w0.cell? ⟨0, 0, none⟩ = some (.int .i64 mm)) (s0 s1 s3 s4 s5 s6 s8 s9 s12 s14 s15 s16 s17 s18 s19 s20 s21 s22 s23 s24 s25 s26 s27 s28 s29 s30 s31 s32 s33 s34 s35 s36 s37 s38 s39 s40 s41 s42 s43 s44 s45 s46 s47 s48 s49 s50 s51 s52 s53 s54 s55 s56 s57 s58 s59 s60 s61 s62 s63 s64 s65 s66 s67 s68 s69 s70 s71 s72 s73 s74 s75 s76 s77 s78 s79 s80 s81 s82 s83 s84 s85 s86 s87 s88 s89 s90 s91 s92 s93 s94 s95 s96 s97 s98 s99 s100 s101 s102 s103 s104 s105 s106 s107 s108 s109 s110 s111 s112 s113 s114 s115 s116 s117 s118 s119 s120 s121 s122 s123 s124 s125 s126 s127 s128 s129 s130 s131 s132 s133 s134 s135 s136 s137 s138 s139 s140 s141 s142 s143 s144 s145 s146 s147 s148 s149 s150 s151 s152 s153 s154 s155 s156 s157 s158 s159 s160 s161 s162 s163 s164 s165 s166 s167 s168 s169 s170 s171 s172 s173 s174 s175 s176 s177 s178 s179 s180 s181 s182 s183 s184 s185 s186 s187 s188 s189 s190 s191 s192 s193 s194 s195 s196 : Value) :
    Code.wp Tryd.prog tl2 (bodyPost Tryd.prog Tryd.f4 fun x w' => x = .returned (.bool true) ∧ Below w0.heap.size w0 w') ⟨#[s0, s1, .int .i64 keeps, s3, s4, s5, s6, .pointer (some ⟨b, 0, none⟩), s8, s9, .string ⟨was.toArray⟩, .map (some mn), s12, .map (some mo), s14, s15, s16, s17, s18, s19, s20, s21, s22, s23, s24, s25, s26, s27, s28, s29, s30, s31, s32, s33, s34, s35, s36, s37, s38, s39, s40, s41, s42, s43, s44, s45, s46, s47, s48, s49, s50, s51, s52, s53, s54, s55, s56, s57, s58, s59, s60, s61, s62, s63, s64, s65, s66, s67, s68, s69, s70, s71, s72, s73, s74, s75, s76, s77, s78, s79, s80, s81, s82, s83, s84, s85, s86, s87, s88, s89, s90, s91, s92, s93, s94, s95, s96, s97, s98, s99, s100, s101, s102, s103, s104, s105, s106, s107, s108, s109, s110, s111, s112, s113, s114, s115, s116, s117, s118, s119, s120, s121, s122, s123, s124, s125, s126, s127, s128, s129, s130, s131, s132, s133, s134, s135, s136, s137, s138, s139, s140, s141, s142, s143, s144, s145, s146, s147, s148, s149, s150, s151, s152, s153, s154, s155, s156, s157, s158, s159, s160, s161, s162, s163, s164, s165, s166, s167, s168, s169, s170, s171, s172, s173, s174, s175, s176, s177, s178, s179, s180, s181, s182, s183, s184, s185, s186, s187, s188, s189, s190, s191, s192, s193, s194, s195, s196], []⟩ W := by
  have HD := Lib.hid hd
  have HM := Lib.hid hM
  have HS := Lib.hid hS
  have HW := Lib.hid hW
  have HWAS := Lib.hid hwas
  have HMN := Lib.hid hmn
  have HMO := Lib.hid hmo
  have HNE := Lib.hid hne
  have HMM := Lib.hid hmm
  clear hd hM hS hW hwas hmn hmo hne hmm
  conv => arg 2; whnf
  have hcm := (HD.out.bl.cell (p := ⟨0, 0, none⟩) (block_lt_of_cell HMM.out)).trans HMM.out
  have hw2 := HWAS.out.trans (altx_semi M)
  have cP := split_any (opc M) (opc_ok HM.out) mm W (by have := opc_len HM.out; omega) hcm
  rw [← hw2] at cP
  clear hcm hw2
  go_wp2_with fail
  refine cP.mono ?_
  rintro x W1 ⟨nb, rfl, hge, hnb, hcell, hb1⟩
  have hlo : (opc M ++ [[]]).length = (nms M).length + 1 := by simp [opc]
  obtain ⟨ps, hps⟩ : ∃ ps, ps = opc M ++ [[]] := ⟨_, rfl⟩
  rw [← hps] at hcell hlo ⊢
  have HPS := Lib.hid hps
  have hn6 : (nms M).length ≤ 6 := by rw [nms_len]; exact HM.out.len
  have hd1 := HD.out.up hb1
  have hmn1 := HMN.out.up hb1
  have hmo1 := HMO.out.up hb1
  have hnbo : nb ≠ mo := fun e1 => by have := HMO.out.own.lt; omega
  have HC := Lib.hid hcell
  have HLO := Lib.hid hlo
  have HQ := Lib.hid (And.intro hd1 (And.intro hmn1 hmo1))
  have hlo' : ps.length ≤ 7 := by omega
  have HNO := Lib.hid (And.intro hnb hnbo)
  clear cP hd1 hmn1 hmo1 hb1 hcell hnb hnbo hlo hge hps
  go_wp2_with fail
  go_loopw [93] (fun iv W' => ∃ k : Nat, k ≤ ps.length ∧ iv = .int .i64 k ∧ ∃ O, KD w0 W' b mb L false (-1) ∧ MP w0 W' b mb mn [] ∧ MP w0 W' b mb mo O ∧ Od M ((nms M).take k) O ∧ Kp (fun i => i = mo) W1 W') (fun iv _ => ps.length - (intOf iv).toNat)
  case atStart => exact ⟨0, Nat.zero_le _, rfl, [], HQ.out.1, HQ.out.2.1, HQ.out.2.2, Od.start M, Kp.refl _ _⟩
  case round =>
    obtain ⟨k, hk, rfl, O, hd, hmn, hmo, hO, hkp⟩ := hrel
    by_cases hlt : k < ps.length
    · have hblk : wr.heap[nb]? = W1.heap[nb]? := hkp.block nb HNO.out.1 HNO.out.2
      have q0 := (World.cell?_of_block (w := W1) (a := ⟨nb, k, none⟩) hblk).trans (HC.out k hlt)
      by_cases hln : k < (nms M).length
      · have hpe : ps[k] = (nms M)[k] ++ [61] ++ (ent (nms M)[k] M).now := by
          have e1 := HPS.out
          subst e1
          rw [List.getElem_append_left (by simp [opc]; omega)]; simp [opc]
        rw [hpe] at q0
        obtain ⟨x, hx1, hx2, hx3⟩ := opc_at HM.out (List.getElem_mem hln)
        have HTK := Lib.hid (List.take_succ_eq_append_getElem hln)
        obtain ⟨a, ha⟩ := nms_mem.1 (List.getElem_mem hln)
        have ha := (lk_iff HM.out.srt).2 ha
        have hO2 := hO.step ha
        have hea : (ent (nms M)[k] M).now = a.now := by unfold ent; rw [ha]; rfl
        rw [hea] at q0 hx3
        have hkk : (61 : UInt8) ∉ (nms M)[k] := by
          rw [hx1]; have := no_u8 (c := 61) (x := x) (by decide) hx2.1; simpa using this
        have hkl : (nms M)[k].length = 1 := by rw [hx1]; rfl
        clear hpe hea hx1 hx2 ha
        generalize (nms M)[k] = nm at q0 HTK hO2 hkk hkl
        generalize a.now = now at q0 hO2 hx3
        have hnl := hx3.len
        have cC := fun W' => cut_some nm now W' hkk (by simp; omega)
        have hol := hO.len HM.out
        have HR := Lib.hid (And.intro hd (And.intro hmn (And.intro hmo hkp)))
        have HO2 := Lib.hid hO2
        clear hd hmn hmo hkp hO hO2 hkk hx3 hblk
        obtain ⟨pc, hpc⟩ : ∃ pc, pc = nm ++ [61] ++ now := ⟨_, rfl⟩
        rw [← hpc] at q0 cC
        clear hpc
        go_wp2_with fail
        refine (cC _).mono ?_
        rintro y W2 ⟨rfl, hb2⟩
        have hmo2 := HR.out.2.2.1.up hb2
        obtain ⟨W3, hrun, hmo3, hk3⟩ := hmo2.store nm now (by omega) (by omega)
        have hmn3 := (HR.out.2.1.up hb2).oth hk3 HNE.out
        have hd3 := (HR.out.1.up hb2).oth hk3 hmo2.ne hmo2.nm hmo2.ge
        have hkp3 := (HR.out.2.2.2.t (Kp.of (X := fun i => i = mo) hb2)).t hk3
        have HR3 := Lib.hid (And.intro hd3 (And.intro hmn3 (And.intro hmo3 hkp3)))
        clear hmo2 hmo3 hk3 hmn3 hd3 hkp3 HR cC hb2
        go_wp2_with fail
        exact ⟨⟨k + 1, hlt, by go_num, _, HR3.out.1, HR3.out.2.1, HR3.out.2.2.1, by rw [HTK.out]; exact HO2.out, HR3.out.2.2.2⟩, by simp [intOf]; omega⟩
      · have hkn : k = (nms M).length := by have := HLO.out; omega
        have hpe : ps[k] = [] := by
          have e1 := HPS.out
          subst e1
          rw [List.getElem_append_right (by simp [opc]; omega)]; simp
        rw [hpe] at q0
        have hO' : Od M ((nms M).take (k + 1)) O := by rw [List.take_of_length_le (by omega)]; rwa [List.take_of_length_le (by omega)] at hO
        have HR := Lib.hid (And.intro hd (And.intro hmn (And.intro hmo (And.intro hkp hO'))))
        clear hd hmn hmo hkp hO hO' hpe hblk hkn
        go_wp2_with fail
        refine (cut_nil _).mono ?_
        rintro y W2 ⟨rfl, hb2⟩
        have HR3 := Lib.hid (And.intro (HR.out.1.up hb2) (And.intro (HR.out.2.1.up hb2) (And.intro (HR.out.2.2.1.up hb2) (HR.out.2.2.2.1.t (Kp.of (X := fun i => i = mo) hb2)))))
        have HO3 := Lib.hid HR.out.2.2.2.2
        clear HR hb2
        go_wp2_with fail
        exact ⟨⟨k + 1, hlt, by go_num, _, HR3.out.1, HR3.out.2.1, HR3.out.2.2.1, HO3.out, HR3.out.2.2.2⟩, by simp [intOf]; omega⟩
    · obtain rfl : k = ps.length := by omega
      rw [List.take_of_length_le (by have := HLO.out; omega)] at hO
      have hOe := hO.done HM.out.srt
      subst hOe
      have hl6 := HW.out.kok.len
      have cL := list_any b mb L false (-1) false 0 wr hd.pd (by omega)
      have HR := Lib.hid (And.intro hd (And.intro hmn hmo))
      clear hd hmn hmo hO hkp HQ HC HPS HLO HNO HD HMN HMO
      go_wp2_with fail
      refine cL.mono ?_
      rintro x W2 ⟨v, rfl, hT, hb2⟩
      obtain ⟨A, cp, rfl⟩ := tx_sl hT
      have hd2 := HR.out.1.up hb2
      have hmn2 := HR.out.2.1.up hb2
      have hmo2 := HR.out.2.2.up hb2
      have hnn := nms_len L
      have hn7 : (nms L).length ≤ 6 := by omega
      have hlm := HR.out.2.1.own.lt
      have HLM := Lib.hid hlm
      have HQ := Lib.hid (And.intro hd2 (And.intro hmn2 hmo2))
      have HT := Lib.hid hT
      have HNN := Lib.hid hnn
      clear cL hd2 hmn2 hmo2 hT hnn hb2 HR hlm
      go_wp2_with fail
      go_loopw [110] (fun iv W' => ∃ k : Nat, k ≤ (nms L).length ∧ iv = .int .i64 k ∧ ∃ O, KD w0 W' b mb L false (-1) ∧ MP w0 W' b mb mn O ∧ MP w0 W' b mb mo (nowL M) ∧ Od L ((nms L).take k) O ∧ Kp (fun i => i = mn) W2 W') (fun iv _ => (nms L).length - (intOf iv).toNat)
      case atStart => exact ⟨0, Nat.zero_le _, rfl, [], HQ.out.1, HQ.out.2.1, HQ.out.2.2, Od.start L, Kp.refl _ _⟩
      case round =>
        rename_i wp' _
        obtain ⟨k, hk, rfl, O, hd, hmn, hmo, hO, hkp⟩ := hrel
        by_cases hlt : k < (nms L).length
        · obtain ⟨nb, rfl, hnb, hge, hcell⟩ := tx_at' HT.out k hlt
          have hblk : wr.heap[nb]? = W2.heap[nb]? := hkp.block nb hnb (fun e1 => by have := HLM.out; omega)
          have q0 := (World.cell?_of_block (w := W2) (a := ⟨nb, k, none⟩) hblk).trans hcell
          have hkl := HW.out.kok.nml _ (List.getElem_mem hlt)
          have HTK := Lib.hid (List.take_succ_eq_append_getElem hlt)
          obtain ⟨a, ha⟩ := nms_mem.1 (List.getElem_mem hlt)
          have ha := (lk_iff HW.out.kok.srt).2 ha
          have hO2 := hO.step ha
          have hea : (ent (nms L)[k] L).now = a.now := by unfold ent; rw [ha]; rfl
          have hrd : rdc (nms L)[k] L = 0 := by unfold rdc; rw [ha]; rfl
          have cR := read_any b mb L false (-1) false 0 (nms L)[k] wr hd.pd (by omega)
          rw [hrd, hea, show evv 0 = .nilIface from rfl] at cR
          clear hea hrd ha hcell hblk
          generalize (nms L)[k] = nm at q0 HTK hO2 hkl cR
          generalize a.now = now at hO2 cR
          have hol := hO.len HW.out.kok
          have HR := Lib.hid (And.intro hd (And.intro hmn (And.intro hmo hkp)))
          have HO2 := Lib.hid hO2
          clear hd hmn hmo hkp hO hO2
          go_wp2_with fail
          refine cR.mono ?_
          rintro y W3 ⟨rfl, hb3⟩
          have hmn3 := HR.out.2.1.up hb3
          obtain ⟨W4, hrun, hmn4, hk4⟩ := hmn3.store nm now (by omega) (by omega)
          have hmo4 := (HR.out.2.2.1.up hb3).oth hk4 (Ne.symm HNE.out)
          have hd4 := (HR.out.1.up hb3).oth hk4 hmn3.ne hmn3.nm hmn3.ge
          have hkp4 := (HR.out.2.2.2.t (Kp.of (X := fun i => i = mn) hb3)).t hk4
          have HR4 := Lib.hid (And.intro hd4 (And.intro hmn4 (And.intro hmo4 hkp4)))
          clear hmn3 hmn4 hk4 hmo4 hd4 hkp4 HR cR hb3
          go_wp2_with fail
          exact ⟨⟨k + 1, hlt, by go_num, _, HR4.out.1, HR4.out.2.1, HR4.out.2.2.1, by rw [HTK.out]; exact HO2.out, HR4.out.2.2.2⟩, by simp [intOf]; omega⟩
        · obtain rfl : k = (nms L).length := by omega
          rw [List.take_length] at hO
          have hOe := hO.done HW.out.kok.srt
          subst hOe
          have cS := start_any b mb L false (-1) false 0 0 wr hd.pd HW.out.kok.bn1000 (by have := HW.out.kok.len; omega) HW.out.kok.nml (by omega)
          rw [HW.out.back HM.out.srt HS.out] at cS
          have HR := Lib.hid (And.intro hd (And.intro hmn hmo))
          clear hd hmn hmo hO hkp HQ HT HNN HLM
          go_upto_region 40 with fail
          go_cut [] from 14 to 196 (fun W' => ∃ mb', KD w0 W' b mb' M false (-1) ∧ MP w0 W' b mb' mn (nowL L) ∧ MP w0 W' b mb' mo (nowL M))
          case first =>
            go_wp2_with fail
            refine cS.mono ?_
            rintro y W5 ⟨rfl, hp5⟩
            obtain ⟨mb5, hd5, hm5, hk5⟩ := HR.out.1.next hp5
            have HR5 := Lib.hid (And.intro hd5 (And.intro (HR.out.2.1.next hm5 hk5) (HR.out.2.2.next hm5 hk5)))
            clear cS hp5 hd5 hm5 hk5 HR
            go_wp2_with fail
            go_meet
            case rel => exact ⟨mb5, HR5.out.1, HR5.out.2.1, HR5.out.2.2⟩
          case rest =>
            obtain ⟨mb5, hd5, hmn5, hmo5⟩ := hcut
            apply_assumption
            exact keeps_t3 w0 _ b mb5 M L keeps was mn mo hd5 HM.out HS.out HW.out HWAS.out hmn5 hmo5 HNE.out _ _ _ _ _ _ _ _ _ _ _ _ _ _ _ _ _ _ _ _ _ _ _ _ _ _ _ _ _ _ _ _ _ _ _ _ _ _ _ _ _ _ _ _ _ _ _ _ _ _ _ _ _ _ _ _ _ _ _ _ _ _ _ _ _ _ _ _ _ _ _ _ _ _ _ _ _ _ _ _ _ _ _ _ _ _ _ _ _ _ _ _ _ _ _ _ _ _ _ _ _ _ _ _ _ _ _ _ _ _ _ _ _ _ _ _ _ _ _ _ _ _ _ _ _ _ _ _ _ _ _ _ _ _ _ _ _ _ _ _ _ _ _ _ _ _ _ _ _ _ _ _ _ _ _ _ _ _ _ _ _ _ _ _ _ _ _ _ _ _ _ _ _ _ _ _ _ _ _ _ _ _ _ _ _ _ _ _ _ _ _ _
end Go.Proofs.YtjllnhdampjieaaDoor
