/- The law DiskKeeps: what is safe stays. -/
import Derived.Test.YtjllnhdampjieaaDoorKt1
namespace Go.Proofs.YtjllnhdampjieaaDoor
open Go.RowKit Go.Sort Go.Maps Go.Shelf

set_option maxHeartbeats 4000000 in
set_option maxRecDepth 100000 in
theorem keeps_row (v1 v2 : Value) (l m : List Kc) (keeps : Int) (w : World) (h1 : Kcs w v1 l) (h2 : Kcs w v2 m) (hn1 : l.length ≤ 40) (hn2 : m.length ≤ 40) (hkp : keeps ≤ 9223372036854775807) (mm : Int) (hmm : w.cell? ⟨0, 0, none⟩ = some (.int .i64 mm)) :
    Calls Tryd.prog 4 #[v1, v2, .int .i64 keeps] w fun x w' => x = .returned (.bool true) ∧ Below w.heap.size w w' := by
  obtain ⟨A1, c1, rfl⟩ := h1.sl
  obtain ⟨A2, c2, rfl⟩ := h2.sl
  have cS := safe_any w
  have H1 := Lib.hid h1
  have H2 := Lib.hid h2
  have HM := Lib.hid hmm
  clear h1 h2 hmm
  go_enter Tryd.func4, Tryd.ntmps4
  go_wp2_with fail
  refine cS.mono ?_
  rintro x w1 ⟨rfl, hb1⟩
  have HB1 := Lib.hid hb1
  clear cS hb1
  have hd0 : KD w (w1.alloc (dko none 0 false 0 false 0)) w1.heap.size none [] false 0 := ⟨pd_new w1, HB1.out.trans (((Below.refl _ _).alloc (Nat.le_refl _) _).mono HB1.out.size), HB1.out.size, fun _ h => by cases h⟩
  have cA := acts_any hd0 Kok.nil _ l H1.out (by omega) (fun h => by cases h) (by omega)
  have HD0 := Lib.hid hd0
  clear hd0
  go_wp2_with fail
  refine cA.mono ?_
  rintro x W1 ⟨rfl, hp1⟩
  obtain ⟨mb1, hd1, _, _⟩ := HD0.out.next hp1
  have hK1 := Kok.nil.al (e := false) (c := 0) (l := l)
  generalize kal [] false 0 l = L1 at hd1 hK1
  generalize w1.heap.size = b at hd1 ⊢
  have cL := list_any b mb1 L1 false 0 false 0 W1 hd1.pd (by have := hK1.len; omega)
  have HD1 := Lib.hid hd1
  have HK1 := Lib.hid hK1
  have hl6 := hK1.len
  clear hd1 hK1 cA hp1 HD0
  go_wp2_with fail
  refine cL.mono ?_
  rintro x W2 ⟨v, rfl, hT, hb2⟩
  obtain ⟨A, cp, rfl⟩ := tx_sl hT
  have hd2 := HD1.out.up hb2
  have HD2 := Lib.hid hd2
  have HT := Lib.hid hT
  have HTB := Lib.hid hT
  have hnn := nms_len L1
  have hn6 : (nms L1).length ≤ 6 := by omega
  have hndx : ∀ nb, A = some ⟨nb, 0, none⟩ → W1.heap.size ≤ nb → ¬ DX b mb1 nb := fun nb _ hle hx => by
    have h3 := (Array.getElem?_eq_some_iff.1 HD1.out.pd.blk).1
    rcases hx with hx | hx
    · omega
    · have := (HD1.out.pd.map nb hx).lt; omega
  have HND := Lib.hid hndx
  have HNN := Lib.hid hnn
  clear cL hT hb2 hd2 hndx hnn
  go_wp2_with fail
  go_loopw [43] (fun iv W => ∃ k : Nat, k ≤ (nms L1).length ∧ iv = .int .i64 k ∧ ∃ L', Po b mb1 L' false 0 false 0 W2 W ∧ Sy L1 ((nms L1).take k) L') (fun iv _ => (nms L1).length - (intOf iv).toNat)
  case atStart => exact ⟨0, Nat.zero_le _, rfl, L1, Po.same HD2.out.pd (Kp.refl _ _), Sy.start HK1.out.srt⟩
  case round =>
    obtain ⟨k, hk, rfl, L', hP, hSy⟩ := hrel
    by_cases hlt : k < (nms L1).length
    · obtain ⟨nb, rfl, hnb, hge, hcell⟩ := tx_at' HT.out k hlt
      have hblk : wr.heap[nb]? = W2.heap[nb]? := hP.kp.block nb hnb (HND.out nb rfl (by omega))
      have q0 := (World.cell?_of_block (w := W2) (a := ⟨nb, k, none⟩) hblk).trans hcell
      have hkl := HK1.out.nml _ (List.getElem_mem hlt)
      have HTK := Lib.hid (List.take_succ_eq_append_getElem hlt)
      obtain ⟨a, ha⟩ := nms_mem.1 (List.getElem_mem hlt)
      have ha := (lk_iff HK1.out.srt).2 ha
      generalize (nms L1)[k] = nm at q0 hkl HTK ha hcell
      obtain ⟨ht0, hSy2⟩ := hSy.step ha 0
      obtain ⟨⟨mb', hd, hmm⟩, hkp'⟩ := hP
      have hK' := hSy.kok HK1.out
      have cY := sync_any b mb' L' false 0 false 0 nm wr hd (by omega) (by omega) (by have := hK'.tot; omega) (by have := hK'.len; omega)
      rw [ht0, show evv 0 = .nilIface from rfl, show tc L' false 0 nm = 0 from by unfold tc; split <;> rfl] at cY
      have HP := Lib.hid (And.intro hkp' hmm)
      have HS2 := Lib.hid hSy2
      clear ht0 hSy2 hSy hd hmm hkp' hK' ha hblk hcell
      go_wp2_with fail
      refine cY.mono ?_
      rintro y W3 ⟨rfl, hp3⟩
      have hp4 := Po.then HP.out.1 HP.out.2 hp3
      have HP4 := Lib.hid hp4
      clear hp3 hp4 cY HP
      go_wp2_with fail
      exact ⟨⟨k + 1, hlt, by go_num, _, HP4.out, by rw [HTK.out]; exact HS2.out⟩, by simp [intOf]; omega⟩
    · obtain rfl : k = (nms L1).length := by omega
      rw [List.take_length] at hSy
      have hL' := hSy.done HK1.out.srt
      subst hL'
      obtain ⟨mb3, hd3, _, _⟩ := HD2.out.next hP
      have hK3 := syn_kok HK1.out
      have hS3 := syn_stl L1
      generalize syn L1 = M at hd3 hK3 hS3
      clear hP hSy HD2 HT HTB HND HNN HK1 HD1
      have cW := all_any b mb3 M false 0 false 0 wr hd3.pd (by have := hK3.len; omega) hK3.nml hK3.bn1000
      have HD3 := Lib.hid hd3
      have HK3 := Lib.hid hK3
      have HS3 := Lib.hid hS3
      clear hd3 hK3 hS3
      go_wp2_with fail
      refine cW.mono ?_
      rintro y W4 ⟨rfl, hb4⟩
      have hd4 := HD3.out.up hb4
      have cC := cut_any b mb3 M false 0 false 0 0 W4 hd4.pd
      rw [show decide ((0 : Int) ≤ 0) = true from rfl] at cC
      have HD4 := Lib.hid hd4
      clear cW hb4 HD3 hd4
      go_wp2_with fail
      refine cC.mono ?_
      rintro y W5 ⟨rfl, hpd5, hk5⟩
      obtain ⟨mb5, hd5, _, _⟩ := HD4.out.next (Po.same hpd5 (kp_dx hk5))
      have cA2 := acts_any hd5 HK3.out _ m H2.out (by omega) (fun _ => Int.le_refl _) (by omega)
      rw [kal_off] at cA2
      have HD5 := Lib.hid hd5
      clear cC hpd5 hk5 HD4 hd5
      go_wp2_with fail
      refine cA2.mono ?_
      rintro y W6 ⟨rfl, hp6⟩
      obtain ⟨mb6, hd6, _, _⟩ := HD5.out.next hp6
      have cO := on_any b mb6 _ true 0 false 0 W6 (dc_of hd6.pd.blk)
      rw [show (!true || decide ((0 : Int) < 0)) = false from rfl] at cO
      have cW2 := all_any b mb6 M true 0 false 0 W6 hd6.pd (by have := HK3.out.len; omega) HK3.out.nml HK3.out.bn1000
      have HD6 := Lib.hid hd6
      clear cA2 hp6 HD5 hd6
      obtain ⟨was, hwas⟩ : ∃ was, was = altx M := ⟨_, rfl⟩
      rw [← hwas] at cW2 ⊢
      have HWAS := Lib.hid hwas
      clear hwas
      go_wp2_with fail
      refine cO.mono ?_
      rintro y W7 ⟨rfl, rfl⟩
      go_wp2_with fail
      refine cW2.mono ?_
      rintro y W8 ⟨rfl, hb8⟩
      have hd8 := HD6.out.up hb8
      have cT := start_any b mb6 M true 0 false 0 keeps W8 hd8.pd HK3.out.bn1000 (by have := HK3.out.len; omega) HK3.out.nml hkp
      rw [HS3.out.start HK3.out.srt] at cT
      have HD8 := Lib.hid hd8
      clear cO cW2 hb8 HD6 hd8
      go_wp2_with fail
      refine cT.mono ?_
      rintro y W9 ⟨rfl, hp9⟩
      obtain ⟨mb9, hd9, _, _⟩ := HD8.out.next hp9
      have cO := on_any b mb9 _ false (-1) false 0 W9 (dc_of hd9.pd.blk)
      rw [show (!false || decide ((0 : Int) < -1)) = true from rfl] at cO
      have cW2 := all_any b mb9 M false (-1) false 0 W9 hd9.pd (by have := HK3.out.len; omega) HK3.out.nml HK3.out.bn1000
      rw [← HWAS.out] at cW2
      have HD9 := Lib.hid hd9
      clear cT hp9 HD8 hd9
      go_wp2_with fail
      refine cO.mono ?_
      rintro y W10 ⟨rfl, rfl⟩
      go_wp2_with fail
      refine cW2.mono ?_
      rintro y W11 ⟨rfl, hb11⟩
      have hd11 := HD9.out.up hb11
      have HD11 := Lib.hid hd11
      clear cO cW2 hb11 HD9 hd11
      have hmk := @run_makeMap Tryd.prog
      have hmo : MP w (W11.alloc (.map #[] 0)) b mb9 W11.heap.size [] := ⟨by simpa [toD] using World.ownsMap_made W11 Tryd.prog 9 Rv, Srt.nil, fun e1 => by have := (Array.getElem?_eq_some_iff.1 HD11.out.pd.blk).1; omega, fun e1 => by have := (HD11.out.pd.map _ e1).lt; omega, HD11.out.bl.size⟩
      have HQ := Lib.hid (And.intro (HD11.out.up ((Below.refl _ _).alloc (Nat.le_refl _) (.map #[] 0))) hmo)
      clear hmo
      go_upto_region 21 with fail
      go_cut [11] from 12 to 196 (fun s11 W' => s11 = .map (some W11.heap.size) ∧ W' = W11.alloc (.map #[] 0))
      case first =>
        go_wp2_with fail
        go_meet
        case rel => exact ⟨rfl, rfl⟩
      case rest =>
        obtain ⟨rfl, rfl⟩ := hcut
        apply_assumption
        exact keeps_t1 w _ b mb9 M A2 c2 m keeps was W11.heap.size HQ.out.1 HK3.out HS3.out HWAS.out HQ.out.2 H2.out hn2 mm HM.out _ _ _ _ _ _ _ _ _ _ _ _ _ _ _ _ _ _ _ _ _ _ _ _ _ _ _ _ _ _ _ _ _ _ _ _ _ _ _ _ _ _ _ _ _ _ _ _ _ _ _ _ _ _ _ _ _ _ _ _ _ _ _ _ _ _ _ _ _ _ _ _ _ _ _ _ _ _ _ _ _ _ _ _ _ _ _ _ _ _ _ _ _ _ _ _ _ _ _ _ _ _ _ _ _ _ _ _ _ _ _ _ _ _ _ _ _ _ _ _ _ _ _ _ _ _ _ _ _ _ _ _ _ _ _ _ _ _ _ _ _ _ _ _ _ _ _ _ _ _ _ _ _ _ _ _ _ _ _ _ _ _ _ _ _ _ _ _ _ _ _ _ _ _ _ _ _ _ _ _ _ _ _ _ _ _ _ _ _ _ _ _
end Go.Proofs.YtjllnhdampjieaaDoor
