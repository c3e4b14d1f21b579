/- The law DiskKeeps. Writes alone, not made safe. -/
import Derived.Test.YtjllnhdampjieaaDoorKt2
import Derived.Deep.CutRange
import Derived.Deep.CutBlock
namespace Go.Proofs.YtjllnhdampjieaaDoor
open Go.RowKit Go.Sort Go.Maps Go.Shelf

noncomputable def tl1 : Code := (Tryd.f4.body.bind (afterR 21)).getD .skip
set_option maxHeartbeats 8000000 in
set_option maxRecDepth 1000000 in
theorem keeps_t1 (w0 W : World) (b : Nat) (mb : Option Nat) (M : Kv Ent) (A2 : Option Addr) (c2 : Nat) (m : List Kc) (keeps : Int) (was : List UInt8) (mn : Nat) (hd : KD w0 W b mb M false (-1)) (hM : Kok M) (hS : Stl M) (hwas : was = altx M) (hmp : MP w0 W b mb mn []) (h2 : Kcs w0 (.slice A2 m.length c2) m) (hn2 : m.length ≤ 40) (mm : Int) (hmm : w0.cell? ⟨0, 0, none⟩ = some (.int .i64 mm)) (s0 s3 s4 s5 s6 s8 s9 s12 s13 s14 s15 s16 s17 s18 s19 s20 s21 s22 s23 s24 s25 s26 s27 s28 s29 s30 s31 s32 s33 s34 s35 s36 s37 s38 s39 s40 s41 s42 s43 s44 s45 s46 s47 s48 s49 s50 s51 s52 s53 s54 s55 s56 s57 s58 s59 s60 s61 s62 s63 s64 s65 s66 s67 s68 s69 s70 s71 s72 s73 s74 s75 s76 s77 s78 s79 s80 s81 s82 s83 s84 s85 s86 s87 s88 s89 s90 s91 s92 s93 s94 s95 s96 s97 s98 s99 s100 s101 s102 s103 s104 s105 s106 s107 s108 s109 s110 s111 s112 s113 s114 s115 s116 s117 s118 s119 s120 s121 s122 s123 s124 s125 s126 s127 s128 s129 s130 s131 s132 s133 s134 s135 s136 s137 s138 s139 s140 s141 s142 s143 s144 s145 s146 s147 s148 s149 s150 s151 s152 s153 s154 s155 s156 s157 s158 s159 s160 s161 s162 s163 s164 s165 s166 s167 s168 s169 s170 s171 s172 s173 s174 s175 s176 s177 s178 s179 s180 s181 s182 s183 s184 s185 s186 s187 s188 s189 s190 s191 s192 s193 s194 s195 s196 : Value) :
    Code.wp Tryd.prog tl1 (bodyPost Tryd.prog Tryd.f4 fun x w' => x = .returned (.bool true) ∧ Below w0.heap.size w0 w') ⟨#[s0, .slice A2 m.length c2, .int .i64 keeps, s3, s4, s5, s6, .pointer (some ⟨b, 0, none⟩), s8, s9, .string ⟨was.toArray⟩, .map (some mn), s12, s13, s14, s15, s16, s17, s18, s19, s20, s21, s22, s23, s24, s25, s26, s27, s28, s29, s30, s31, s32, s33, s34, s35, s36, s37, s38, s39, s40, s41, s42, s43, s44, s45, s46, s47, s48, s49, s50, s51, s52, s53, s54, s55, s56, s57, s58, s59, s60, s61, s62, s63, s64, s65, s66, s67, s68, s69, s70, s71, s72, s73, s74, s75, s76, s77, s78, s79, s80, s81, s82, s83, s84, s85, s86, s87, s88, s89, s90, s91, s92, s93, s94, s95, s96, s97, s98, s99, s100, s101, s102, s103, s104, s105, s106, s107, s108, s109, s110, s111, s112, s113, s114, s115, s116, s117, s118, s119, s120, s121, s122, s123, s124, s125, s126, s127, s128, s129, s130, s131, s132, s133, s134, s135, s136, s137, s138, s139, s140, s141, s142, s143, s144, s145, s146, s147, s148, s149, s150, s151, s152, s153, s154, s155, s156, s157, s158, s159, s160, s161, s162, s163, s164, s165, s166, s167, s168, s169, s170, s171, s172, s173, s174, s175, s176, s177, s178, s179, s180, s181, s182, s183, s184, s185, s186, s187, s188, s189, s190, s191, s192, s193, s194, s195, s196], []⟩ W := by
  have HD := Lib.hid hd
  have HM := Lib.hid hM
  have HS := Lib.hid hS
  have HWAS := Lib.hid hwas
  have HMP := Lib.hid hmp
  have H2 := Lib.hid h2
  have HMM := Lib.hid hmm
  clear hd hM hS hwas hmp h2 hmm
  conv => arg 2; whnf
  go_wp2_with fail
  go_loopw [12] (fun iv W' => ∃ k : Nat, k ≤ m.length ∧ iv = .int .i64 k ∧ ∃ mb' L', KD w0 W' b mb' L' false (-1) ∧ MP w0 W' b mb' mn [] ∧ Wr M L') (fun iv _ => m.length - (intOf iv).toNat)
  case atStart => exact ⟨0, Nat.zero_le _, rfl, mb, M, HD.out, HMP.out, Wr.start HM.out HS.out⟩
  case round =>
    obtain ⟨k, hk, rfl, mb', L', hd', hmp', hW⟩ := hrel
    by_cases hlt : k < m.length
    · obtain ⟨b0, o0, rfl, hcp, hlt0, hc0, hone⟩ := H2.out.one k hlt
      have q0 := (hd'.bl.cell (p := ⟨b0, o0 + k * 4, none⟩) hlt0).trans hc0
      generalize m[k] = x at q0 hone
      by_cases hx : x.t = 0
      · rw [hx] at q0
        have hW2 := hW.step (-1) x hx
        have cA := acts_any hd' hW.kok _ [x] (hone (c2 - k) (by omega)) (by simp) (fun h => by cases h) (by omega)
        have HQ := Lib.hid (And.intro hd' hmp')
        have HW2 := Lib.hid hW2
        have hcd : (k + 1 : Int) ≤ (c2 : Int) := by omega
        have hcn : c2 ≠ k := by omega
        clear hd' hmp' hW hW2 hx hone hc0
        go_wp2_with fail
        refine cA.mono ?_
        rintro y W3 ⟨rfl, hp3⟩
        obtain ⟨mb3, hd3, hm3, hk3⟩ := HQ.out.1.next hp3
        have hmp3 := HQ.out.2.next hm3 hk3
        have HQ3 := Lib.hid (And.intro hd3 hmp3)
        clear cA hp3 hd3 hm3 hk3 hmp3 HQ q0 hcd hcn hcp
        go_wp2_with fail
        exact ⟨⟨k + 1, hlt, by go_num, mb3, _, HQ3.out.1, HQ3.out.2, HW2.out⟩, by simp [intOf]; omega⟩
      · have g0 : (x.t == 0) = false := by rw [beq_eq_false_iff_ne]; exact hx
        have HQ := Lib.hid (And.intro hd' (And.intro hmp' hW))
        clear hd' hmp' hW hx
        go_wp2_with fail
        exact ⟨⟨k + 1, hlt, by go_num, mb', L', HQ.out.1, HQ.out.2.1, HQ.out.2.2⟩, by simp [intOf]; omega⟩
    · obtain rfl : k = m.length := by omega
      have hmk := @run_makeMap Tryd.prog
      have hmo : MP w0 (wr.alloc (.map #[] 0)) b mb' wr.heap.size [] := ⟨by simpa [toD] using World.ownsMap_made wr Tryd.prog 9 Rv, Srt.nil, fun e1 => by have := (Array.getElem?_eq_some_iff.1 hd'.pd.blk).1; omega, fun e1 => by have := (hd'.pd.map _ e1).lt; omega, hd'.bl.size⟩
      have hba : Below wr.heap.size wr (wr.alloc (.map #[] 0)) := (Below.refl _ _).alloc (Nat.le_refl _) _
      have hda := hd'.up hba
      have hmpa := hmp'.up hba
      have hmno : mn ≠ wr.heap.size := fun e1 => by have := hmp'.own.lt; omega
      have HQ := Lib.hid (And.intro hda (And.intro hmpa hmo))
      have HW := Lib.hid hW
      have HNE := Lib.hid hmno
      clear hd' hmp' hW hmo hba hda hmpa hmno
      go_upto_region 27 with fail
      go_cut [13] from 14 to 196 (fun s13 W' => s13 = .map (some wr.heap.size) ∧ W' = wr.alloc (.map #[] 0))
      case first =>
        go_wp2_with fail
        go_meet
        case rel => exact ⟨rfl, rfl⟩
      case rest =>
        obtain ⟨rfl, rfl⟩ := hcut
        apply_assumption
        exact keeps_t2 w0 _ b mb' M L' keeps was mn wr.heap.size HQ.out.1 HM.out HS.out HW.out HWAS.out HQ.out.2.1 HQ.out.2.2 HNE.out mm HMM.out _ _ _ _ _ _ _ _ _ _ _ _ _ _ _ _ _ _ _ _ _ _ _ _ _ _ _ _ _ _ _ _ _ _ _ _ _ _ _ _ _ _ _ _ _ _ _ _ _ _ _ _ _ _ _ _ _ _ _ _ _ _ _ _ _ _ _ _ _ _ _ _ _ _ _ _ _ _ _ _ _ _ _ _ _ _ _ _ _ _ _ _ _ _ _ _ _ _ _ _ _ _ _ _ _ _ _ _ _ _ _ _ _ _ _ _ _ _ _ _ _ _ _ _ _ _ _ _ _ _ _ _ _ _ _ _ _ _ _ _ _ _ _ _ _ _ _ _ _ _ _ _ _ _ _ _ _ _ _ _ _ _ _ _ _ _ _ _ _ _ _ _ _ _ _ _ _ _ _ _ _ _ _ _ _ _ _ _ _ _ _ _
end Go.Proofs.YtjllnhdampjieaaDoor
