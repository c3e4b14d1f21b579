/- The law DiskKeeps. All is written again. -/
import Derived.Test.YtjllnhdampjieaaDoorKt4
import Derived.Deep.CutRange
import Derived.Deep.CutBlock
namespace Go.Proofs.YtjllnhdampjieaaDoor
open Go.RowKit Go.Sort Go.Maps Go.Shelf

noncomputable def tl3 : Code := (Tryd.f4.body.bind (afterR 40)).getD .skip
set_option maxHeartbeats 8000000 in
set_option maxRecDepth 1000000 in
theorem keeps_t3 (w0 W : World) (b : Nat) (mb : Option Nat) (M L : Kv Ent) (keeps : Int) (was : List UInt8) (mn mo : Nat) (hd : KD w0 W b mb M false (-1)) (hM : Kok M) (hS : Stl M) (hW : Wr M L) (hwas : was = altx M) (hmn : MP w0 W b mb mn (nowL L)) (hmo : MP w0 W b mb mo (nowL M)) (hne : mn ≠ mo) (s0 s1 s3 s4 s5 s6 s8 s9 s12 s14 s15 s16 s17 s18 s19 s20 s21 s22 s23 s24 s25 s26 s27 s28 s29 s30 s31 s32 s33 s34 s35 s36 s37 s38 s39 s40 s41 s42 s43 s44 s45 s46 s47 s48 s49 s50 s51 s52 s53 s54 s55 s56 s57 s58 s59 s60 s61 s62 s63 s64 s65 s66 s67 s68 s69 s70 s71 s72 s73 s74 s75 s76 s77 s78 s79 s80 s81 s82 s83 s84 s85 s86 s87 s88 s89 s90 s91 s92 s93 s94 s95 s96 s97 s98 s99 s100 s101 s102 s103 s104 s105 s106 s107 s108 s109 s110 s111 s112 s113 s114 s115 s116 s117 s118 s119 s120 s121 s122 s123 s124 s125 s126 s127 s128 s129 s130 s131 s132 s133 s134 s135 s136 s137 s138 s139 s140 s141 s142 s143 s144 s145 s146 s147 s148 s149 s150 s151 s152 s153 s154 s155 s156 s157 s158 s159 s160 s161 s162 s163 s164 s165 s166 s167 s168 s169 s170 s171 s172 s173 s174 s175 s176 s177 s178 s179 s180 s181 s182 s183 s184 s185 s186 s187 s188 s189 s190 s191 s192 s193 s194 s195 s196 : Value) :
    Code.wp Tryd.prog tl3 (bodyPost Tryd.prog Tryd.f4 fun x w' => x = .returned (.bool true) ∧ Below w0.heap.size w0 w') ⟨#[s0, s1, .int .i64 keeps, s3, s4, s5, s6, .pointer (some ⟨b, 0, none⟩), s8, s9, .string ⟨was.toArray⟩, .map (some mn), s12, .map (some mo), s14, s15, s16, s17, s18, s19, s20, s21, s22, s23, s24, s25, s26, s27, s28, s29, s30, s31, s32, s33, s34, s35, s36, s37, s38, s39, s40, s41, s42, s43, s44, s45, s46, s47, s48, s49, s50, s51, s52, s53, s54, s55, s56, s57, s58, s59, s60, s61, s62, s63, s64, s65, s66, s67, s68, s69, s70, s71, s72, s73, s74, s75, s76, s77, s78, s79, s80, s81, s82, s83, s84, s85, s86, s87, s88, s89, s90, s91, s92, s93, s94, s95, s96, s97, s98, s99, s100, s101, s102, s103, s104, s105, s106, s107, s108, s109, s110, s111, s112, s113, s114, s115, s116, s117, s118, s119, s120, s121, s122, s123, s124, s125, s126, s127, s128, s129, s130, s131, s132, s133, s134, s135, s136, s137, s138, s139, s140, s141, s142, s143, s144, s145, s146, s147, s148, s149, s150, s151, s152, s153, s154, s155, s156, s157, s158, s159, s160, s161, s162, s163, s164, s165, s166, s167, s168, s169, s170, s171, s172, s173, s174, s175, s176, s177, s178, s179, s180, s181, s182, s183, s184, s185, s186, s187, s188, s189, s190, s191, s192, s193, s194, s195, s196], []⟩ W := by
  have HD := Lib.hid hd
  have HM := Lib.hid hM
  have HS := Lib.hid hS
  have HW := Lib.hid hW
  have HWAS := Lib.hid hwas
  have HMN := Lib.hid hmn
  have HMO := Lib.hid hmo
  have HNE := Lib.hid hne
  clear hd hM hS hW hwas hmn hmo hne
  conv => arg 2; whnf
  have cA := all_any b mb M false (-1) false 0 W HD.out.pd (by have := HM.out.len; omega) HM.out.nml HM.out.bn1000
  rw [← HWAS.out] at cA
  go_wp2_with fail
  refine cA.mono ?_
  rintro x W1 ⟨rfl, hb1⟩
  have hd1 := HD.out.up hb1
  have hmn1 := HMN.out.up hb1
  have hmo1 := HMO.out.up hb1
  have hown := hmn1.own
  have HQ := Lib.hid (And.intro hd1 (And.intro hmn1 hmo1))
  have HNR : Hid (mo ≠ W1.heap.size) := fun e1 => by have := hmo1.own.lt; omega
  clear cA hd1 hmn1 hmo1 hb1 HD HMN HMO
  go_wp2_with (first
    | (at_range; refine wpList_range_own _ rfl _ 57 rfl 9 9 law9 Tryd.underlying57 Rv mn (nowL L).length (toD sv (nowL L)) rfl hown ?_; intro W2 hrg0 hg0 hs0)
    | fail)
  go_frame
  have hR0 := HQ.out.2.1.start HQ.out.1 hrg0
  have hb2 := gr_below hg0
  have HR0 := Lib.hid (And.intro hR0 (And.intro (HQ.out.1.up hb2) (HQ.out.2.2.up hb2)))
  generalize W1.heap.size = r at HR0 HNR ⊢
  clear hrg0 hg0 hs0 hR0 hb2 hown HQ
  go_loopw [21] (fun _ W' => ∃ left cnt L' mb', Rr w0 W' b mb' mn r (nowL L) left cnt ∧ KD w0 W' b mb' L' false (-1) ∧ MP w0 W' b mb' mo (nowL M) ∧ Wv M L (fun k => left (.string k)) L') (fun _ W' => W'.rangeLeft mn r)
  case atStart => exact ⟨_, _, M, mb, HR0.out.1, HR0.out.2.1, HR0.out.2.2, Wv.start HM.out.srt fun k => by rw [toD_has, nowL_lk, Option.isSome_map]⟩
  case round =>
    obtain ⟨left, cnt, L', mb', hR, hd, hmo, hV⟩ := hrel
    have hrg := hR.rg
    have hK' := hV.kok HM.out HW.out.kok
    have HQ := Lib.hid (And.intro hR (And.intro hd (And.intro hmo hV)))
    clear hR hd hmo hV
    go_wp2_with (first
      | (at_next; refine next_texts _ rfl _ rfl mn r _ _ left cnt rfl hrg ?_ ?_)
      | fail)
    · intro hl0
      have hLe := HQ.out.2.2.2.done HW.out fun k => hl0 (.string k)
      subst hLe
      have hm2 := HQ.out.1.mp
      have HQ2 := Lib.hid (And.intro HQ.out.2.1 (And.intro hm2 HQ.out.2.2.1))
      have cP := pick_any keeps 25 (.inr (.inr rfl))
      have hpl := pk_lt keeps 25 (by omega)
      clear HQ hm2 hrg hl0 hK'
      have cS := start_any b mb' L' false (-1) false 0 ((1 + pk keeps 25 : Nat) : Int) wr HQ2.out.1.pd HW.out.kok.bn1000 (by have := HW.out.kok.len; omega) HW.out.kok.nml (by omega)
      have hk1 : 1 ≤ 1 + pk keeps 25 := by omega
      have hwr : wrap64 (1 + (pk keeps 25 : Int)) = ((1 + pk keeps 25 : Nat) : Int) := by rw [w64 _ (by omega) (by omega)]; omega
      go_wp2_with fail
      refine (cP _).mono ?_
      rintro y Wp ⟨rfl, rfl⟩
      go_upto_region 49 with fail
      go_cut [23] from 24 to 196 (fun s23 W' => s23 = .int .i64 ((1 + pk keeps 25 : Nat) : Int) ∧ ∃ mb4, KD w0 W' b mb4 (stL L' ((1 + pk keeps 25 : Nat) : Int)) false (-1) ∧ MP w0 W' b mb4 mn (nowL L') ∧ MP w0 W' b mb4 mo (nowL M))
      case first =>
        clear hwr
        generalize hkk : 1 + pk keeps 25 = kk at *
        have hke : 1 + (pk keeps 25 : Int) = (kk : Int) := by omega
        go_wp2_with fail
        refine cS.mono ?_
        rintro z W4 ⟨rfl, hp4⟩
        obtain ⟨mb4, hd4, hm4, hk4⟩ := HQ2.out.1.next hp4
        have HQ4 := Lib.hid (And.intro hd4 (And.intro (HQ2.out.2.1.next hm4 hk4) (HQ2.out.2.2.next hm4 hk4)))
        clear cS hp4 hd4 hm4 hk4 HQ2 cP
        go_wp2_with fail
        go_meet
        case rel => exact ⟨rfl, mb4, HQ4.out.1, HQ4.out.2.1, HQ4.out.2.2⟩
      case rest =>
        obtain ⟨rfl, mb4, hd4, hmn4, hmo4⟩ := hcut
        apply_assumption
        exact keeps_t4 w0 _ b mb4 M L' mn mo (1 + pk keeps 25) hd4 HM.out HW.out hmn4 hmo4 HNE.out hk1 _ _ _ _ _ _ _ _ _ _ _ _ _ _ _ _ _ _ _ _ _ _ _ _ _ _ _ _ _ _ _ _ _ _ _ _ _ _ _ _ _ _ _ _ _ _ _ _ _ _ _ _ _ _ _ _ _ _ _ _ _ _ _ _ _ _ _ _ _ _ _ _ _ _ _ _ _ _ _ _ _ _ _ _ _ _ _ _ _ _ _ _ _ _ _ _ _ _ _ _ _ _ _ _ _ _ _ _ _ _ _ _ _ _ _ _ _ _ _ _ _ _ _ _ _ _ _ _ _ _ _ _ _ _ _ _ _ _ _ _ _ _ _ _ _ _ _ _ _ _ _ _ _ _ _ _ _ _ _ _ _ _ _ _ _ _ _ _ _ _ _ _ _ _ _ _ _ _ _ _ _ _ _ _ _ _ _ _ _ _ _ _ _
    · intro k s W3 cnt3 hlk hlo hrg1 hlt hg1 hs1 hen
      obtain ⟨a, ha, has⟩ : ∃ a, lkL k L = some a ∧ a.now = s := by
        rw [nowL_lk] at hlo
        cases hl : lkL k L with
        | none => rw [hl] at hlo; cases hlo
        | some a => rw [hl] at hlo; cases hlo; exact ⟨a, rfl, rfl⟩
      obtain ⟨⟨y, rfl, hy⟩, hla, _⟩ := HW.out.kok.is k a ha
      have hkr := gr_kp hg1
      have hd3 := HQ.out.2.1.oth hkr HQ.out.1.rb HQ.out.1.rm HQ.out.1.rge
      have hmo3 := HQ.out.2.2.1.oth hkr HNR.out
      have hR3 := HQ.out.1.step hrg1
      have hV3 := HQ.out.2.2.2.step HW.out HS.out ha hlk
      have hsl := hla.len
      rw [has] at hV3 hsl
      have cW := write_any b mb' L' false (-1) false 0 [y] s W3 hd3.pd (by omega) (by simp) (by omega) (by have := hK'.tot; omega) (by have := hK'.len; omega)
      rw [(wL_on L' (-1) y s).1, (wL_on L' (-1) y s).2.1, (wL_on L' (-1) y s).2.2, show evv 0 = .nilIface from rfl] at cW
      have hle := hrg.left_eq
      have HL := Lib.hid (And.intro hle hlt)
      have HQ3 := Lib.hid (And.intro hR3 (And.intro hd3 (And.intro hmo3 hV3)))
      clear hR3 hd3 hmo3 hV3 hkr hg1 hs1 hrg1 HQ hlk hlo ha has hla hle hrg hK' hlt
      go_wp2_with fail
      refine cW.mono ?_
      rintro z W4 ⟨rfl, hp4⟩
      obtain ⟨mb4, hd4, hm4, hk4⟩ := HQ3.out.2.1.next hp4
      have hR4 := HQ3.out.1.next hm4 hk4
      have HQ4 := Lib.hid (And.intro hR4 (And.intro hd4 (And.intro (HQ3.out.2.2.1.next hm4 hk4) HQ3.out.2.2.2)))
      have hle4 := hR4.rg.left_eq
      have HL4 := Lib.hid hle4
      clear cW hp4 hd4 hm4 hk4 hR4 HQ3 hen hle4
      go_wp2_with fail
      exact ⟨⟨_, _, _, mb4, HQ4.out.1, HQ4.out.2.1, HQ4.out.2.2.1, HQ4.out.2.2.2⟩, by rw [HL4.out, HL.out.1]; exact HL.out.2⟩
end Go.Proofs.YtjllnhdampjieaaDoor
