/- The law DiskKeeps. What stands of each file behind the last start. -/
import Derived.Test.YtjllnhdampjieaaDoorKi
import Derived.Deep.CutRange
import Derived.Deep.CutBlock
namespace Go.Proofs.YtjllnhdampjieaaDoor
open Go.RowKit Go.Sort Go.Maps Go.Shelf

noncomputable def tl4 : Code := (Tryd.f4.body.bind (afterR 49)).getD .skip
set_option maxHeartbeats 8000000 in
set_option maxRecDepth 1000000 in
theorem keeps_t4 (w0 W : World) (b : Nat) (mb : Option Nat) (M L : Kv Ent) (mn mo kk : Nat) (hd : KD w0 W b mb (stL L kk) false (-1)) (hM : Kok M) (hW : Wr M L) (hmn : MP w0 W b mb mn (nowL L)) (hmo : MP w0 W b mb mo (nowL M)) (hne : mn ≠ mo) (hk1 : 1 ≤ kk) (s0 s1 s2 s3 s4 s5 s6 s8 s9 s10 s12 s14 s15 s16 s17 s18 s19 s20 s21 s22 s24 s25 s26 s27 s28 s29 s30 s31 s32 s33 s34 s35 s36 s37 s38 s39 s40 s41 s42 s43 s44 s45 s46 s47 s48 s49 s50 s51 s52 s53 s54 s55 s56 s57 s58 s59 s60 s61 s62 s63 s64 s65 s66 s67 s68 s69 s70 s71 s72 s73 s74 s75 s76 s77 s78 s79 s80 s81 s82 s83 s84 s85 s86 s87 s88 s89 s90 s91 s92 s93 s94 s95 s96 s97 s98 s99 s100 s101 s102 s103 s104 s105 s106 s107 s108 s109 s110 s111 s112 s113 s114 s115 s116 s117 s118 s119 s120 s121 s122 s123 s124 s125 s126 s127 s128 s129 s130 s131 s132 s133 s134 s135 s136 s137 s138 s139 s140 s141 s142 s143 s144 s145 s146 s147 s148 s149 s150 s151 s152 s153 s154 s155 s156 s157 s158 s159 s160 s161 s162 s163 s164 s165 s166 s167 s168 s169 s170 s171 s172 s173 s174 s175 s176 s177 s178 s179 s180 s181 s182 s183 s184 s185 s186 s187 s188 s189 s190 s191 s192 s193 s194 s195 s196 : Value) :
    Code.wp Tryd.prog tl4 (bodyPost Tryd.prog Tryd.f4 fun x w' => x = .returned (.bool true) ∧ Below w0.heap.size w0 w') ⟨#[s0, s1, s2, s3, s4, s5, s6, .pointer (some ⟨b, 0, none⟩), s8, s9, s10, .map (some mn), s12, .map (some mo), s14, s15, s16, s17, s18, s19, s20, s21, s22, .int .i64 (kk : Nat), s24, s25, s26, s27, s28, s29, s30, s31, s32, s33, s34, s35, s36, s37, s38, s39, s40, s41, s42, s43, s44, s45, s46, s47, s48, s49, s50, s51, s52, s53, s54, s55, s56, s57, s58, s59, s60, s61, s62, s63, s64, s65, s66, s67, s68, s69, s70, s71, s72, s73, s74, s75, s76, s77, s78, s79, s80, s81, s82, s83, s84, s85, s86, s87, s88, s89, s90, s91, s92, s93, s94, s95, s96, s97, s98, s99, s100, s101, s102, s103, s104, s105, s106, s107, s108, s109, s110, s111, s112, s113, s114, s115, s116, s117, s118, s119, s120, s121, s122, s123, s124, s125, s126, s127, s128, s129, s130, s131, s132, s133, s134, s135, s136, s137, s138, s139, s140, s141, s142, s143, s144, s145, s146, s147, s148, s149, s150, s151, s152, s153, s154, s155, s156, s157, s158, s159, s160, s161, s162, s163, s164, s165, s166, s167, s168, s169, s170, s171, s172, s173, s174, s175, s176, s177, s178, s179, s180, s181, s182, s183, s184, s185, s186, s187, s188, s189, s190, s191, s192, s193, s194, s195, s196], []⟩ W := by
  have HD := Lib.hid hd
  have HM := Lib.hid hM
  have HW := Lib.hid hW
  have HMN := Lib.hid hmn
  have HMO := Lib.hid hmo
  have HNE := Lib.hid hne
  clear hd hM hW hmn hmo hne
  conv => arg 2; whnf
  have hown := HMN.out.own
  have HNR : Hid (mo ≠ W.heap.size) := fun e1 => by have := HMO.out.own.lt; omega
  go_wp2_with (first
    | (at_range; refine wpList_range_own _ rfl _ 57 rfl 9 9 law9 Tryd.underlying57 Rv mn (nowL L).length (toD sv (nowL L)) rfl hown ?_; intro W2 hrg0 hg0 hs0)
    | fail)
  go_frame
  have hR0 := HMN.out.start HD.out hrg0
  have hb2 := gr_below hg0
  have HR0 := Lib.hid (And.intro hR0 (And.intro (HD.out.up hb2) (HMO.out.up hb2)))
  generalize W.heap.size = r at HR0 HNR ⊢
  clear hrg0 hg0 hs0 hR0 hb2 hown HD HMN HMO
  go_loopw [24] (fun _ W' => ∃ left cnt, Rr w0 W' b mb mn r (nowL L) left cnt ∧ KD w0 W' b mb (stL L kk) false (-1) ∧ MP w0 W' b mb mo (nowL M)) (fun _ W' => W'.rangeLeft mn r)
  case atStart => exact ⟨_, _, HR0.out.1, HR0.out.2.1, HR0.out.2.2⟩
  case round =>
    obtain ⟨left, cnt, hR, hd, hmo⟩ := hrel
    have hrg := hR.rg
    have HQ := Lib.hid (And.intro hR (And.intro hd hmo))
    clear hR hd hmo
    go_wp2_with (first
      | (at_next; refine next_texts _ rfl _ rfl mn r _ _ left cnt rfl hrg ?_ ?_)
      | fail)
    · intro hl0
      have hbl := HQ.out.2.1.bl
      clear hl0 HQ hrg
      go_wp2
      go_ret
      exact ⟨rfl, hbl⟩
    · intro k s W3 cnt3 hlk hlo hrg1 hlt hg1 hs1 hen
      obtain ⟨a, ha, has⟩ : ∃ a, lkL k L = some a ∧ a.now = s := by
        rw [nowL_lk] at hlo
        cases hl : lkL k L with
        | none => rw [hl] at hlo; cases hlo
        | some a => rw [hl] at hlo; cases hlo; exact ⟨a, rfl, rfl⟩
      obtain ⟨⟨y, rfl, hy⟩, hla, _⟩ := HW.out.kok.is k a ha
      have hkr := gr_kp hg1
      have hd3 := HQ.out.2.1.oth hkr HQ.out.1.rb HQ.out.1.rm HQ.out.1.rge
      have hmo3 := HQ.out.2.2.oth hkr HNR.out
      have hR3 := HQ.out.1.step hrg1
      have hold : a.sf.getD [] = tx [y] (nowL M) := by rw [HW.out.sf _ a ha]; unfold tx; rw [nowL_lk]
      obtain ⟨x, hx, hx1, hx2⟩ := kept (a := a) hk1 hold
      have hlx : lkL [y] (stL L kk) = some ⟨x, some x⟩ := by
        rw [stL_lk HW.out.kok.srt, ha]; unfold gl; simp [hx]
      have hrd : rdc [y] (stL L kk) = 0 := by unfold rdc; rw [hlx]; rfl
      have hen2 : (ent [y] (stL L kk)).now = x := by unfold ent; rw [hlx]; rfl
      have cR := read_any b mb (stL L kk) false (-1) false 0 [y] W3 hd3.pd (by simp)
      rw [hrd, hen2, show evv 0 = .nilIface from rfl] at cR
      have hsl := hla.len
      rw [has] at hx1 hx2 hsl
      have hle := hrg.left_eq
      have HL := Lib.hid (And.intro hle hlt)
      have HQ3 := Lib.hid (And.intro hR3 (And.intro hd3 hmo3))
      have HX := Lib.hid (And.intro hx1 hx2)
      clear hR3 hd3 hmo3 hkr hg1 hs1 hrg1 HQ hlk hlo ha has hla hle hrg hlt hx hx1 hx2 hlx hrd hen2 hold
      go_wp2_with fail
      refine cR.mono ?_
      rintro z W4 ⟨rfl, hb4⟩
      have hR4 := HQ3.out.1.up hb4
      have hmo4 := HQ3.out.2.2.up hb4
      have hlo4 := slook hmo4.own [y] (by simp)
      have hlo5 := fun n => slook (w := W4.drewN n) hmo4.own [y] (by simp)
      have HQ4 := Lib.hid (And.intro hR4 (And.intro (HQ3.out.2.1.up hb4) hmo4))
      have HL4 := Lib.hid hR4.rg.left_eq
      clear cR hb4 hR4 hmo4 HQ3 hen
      generalize tx [y] (nowL M) = old at hlo4 hlo5 HX
      by_cases hso : s = old
      · have hxs := HX.out.1 hso
        subst hso
        subst hxs
        clear HX
        go_wp2_with fail
        go_quiet (fail)
        have bq := below_dN W4 nq
        have hR5 := HQ4.out.1.up bq
        have HQ5 := Lib.hid (And.intro hR5 (And.intro (HQ4.out.2.1.up bq) (HQ4.out.2.2.up bq)))
        have HL5 := Lib.hid hR5.rg.left_eq
        generalize W4.drewN nq = W5 at HQ5 HL5 ⊢
        clear hlo4 hlo5 bq hR5 HQ4 HL4
        go_wp2_with fail
        exact ⟨⟨_, _, HQ5.out.1, HQ5.out.2.1, HQ5.out.2.2⟩, by rw [HL5.out, HL.out.1]; exact HL.out.2⟩
      · obtain ⟨hx2, hx3⟩ := HX.out.2 hso
        have hmin : min (kk : Int) (s.length : Int) = ((min kk s.length : Nat) : Int) := by omega
        have hn1 : min kk s.length ≤ s.length := Nat.min_le_right _ _
        have hn2 : min kk s.length ≤ x.length := by omega
        clear HX
        go_wp2_with fail
        try rw [hmin]
        generalize min kk s.length = n0 at hx2 hx3 hn1 hn2 ⊢
        have hex : (ByteArray.mk x.toArray).extract 0 n0 = (ByteArray.mk s.toArray).extract 0 n0 := by rw [ba_take, ba_take, hx2]
        have hml : (max (n0 : Int) (old.length : Int)) = (x.length : Int) := by omega
        clear hmin hx2 hx3
        go_quiet (fail)
        have bq := below_dN W4 nq
        have hR5 := HQ4.out.1.up bq
        have HQ5 := Lib.hid (And.intro hR5 (And.intro (HQ4.out.2.1.up bq) (HQ4.out.2.2.up bq)))
        have HL5 := Lib.hid hR5.rg.left_eq
        generalize W4.drewN nq = W5 at HQ5 HL5 ⊢
        clear hlo4 hlo5 bq hR5 HQ4 HL4
        go_wp2_with fail
        exact ⟨⟨_, _, HQ5.out.1, HQ5.out.2.1, HQ5.out.2.2⟩, by rw [HL5.out, HL.out.1]; exact HL.out.2⟩
end Go.Proofs.YtjllnhdampjieaaDoor
