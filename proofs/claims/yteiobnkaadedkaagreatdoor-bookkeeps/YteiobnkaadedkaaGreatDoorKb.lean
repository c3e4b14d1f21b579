/- A disk's Start, for greater files. -/
import Derived.Test.YteiobnkaadedkaaGreatDoorMk
namespace Go.Proofs.YteiobnkaadedkaaGreatDoor
open Go.RowKit Go.Sort Go.Maps

set_option maxHeartbeats 3200000 in
set_option maxRecDepth 100000 in
theorem start_big (M : Nat) (hM : M ≤ 20000) (b : Nat) (mb : Option Nat) (L : Kv Ent) (e : Bool) (c : Int) (bd : Bool) (r n : Int) (w : World) (h : PD w b mb L e c bd r) (hB : Bn M L) (hn : L.length ≤ 40) (hk : ∀ k ∈ nms L, k.length ≤ 1000) (hn' : n ≤ 9223372036854775807) :
    Calls Tryz.prog 23 #[.pointer (some ⟨b, 0, none⟩), .int .i64 n] w fun x w' => x = .returned (.tuple #[]) ∧ Po b mb (stL L n) false (-1) bd r w w' := by
  have cC := cut_any b mb L e c bd r (-1) w h
  rw [show decide ((0 : Int) ≤ -1) = false from rfl] at cC
  have hS := h.srt
  have HB := Lib.hid hB
  have HK := Lib.hid hk
  have HS := Lib.hid hS
  clear h hB hk hS
  go_enter Tryz.func23, Tryz.ntmps23
  go_wp2_with fail
  refine cC.mono ?_
  rintro x w1 ⟨rfl, hd1, hk1⟩
  have cL := list_any b mb L false (-1) bd r w1 hd1 (by omega)
  have HK1 := Lib.hid (kp_dx (mb := mb) hk1)
  clear cC hk1
  go_wp2_with fail
  refine cL.mono ?_
  rintro x w2 ⟨v, rfl, ht, hb2⟩
  have hd2 := hd1.up hb2
  have HF : Hid (∀ W L', Po b mb L' false (-1) bd r w2 W → Po b mb L' false (-1) bd r w W) := fun W L' hp => Po.then HK1.out (fun _ hm => Or.inl hm) (Po.below hb2 hp)
  have hlb : ∀ m, mb = some m → m < w1.heap.size := fun m hm => (hd1.map m hm).lt
  have hbb := (Array.getElem?_eq_some_iff.1 hd1.blk).1
  rcases ht.is with ⟨hnil, rfl⟩ | ⟨nb, cp, rfl, hnb, hnl, hcell⟩
  · have hL : L = stL L n := by
      have : L = [] := by
        have := nms_len L
        rw [hnil] at this
        exact List.length_eq_zero_iff.1 this.symm
      subst this; rfl
    have HP := Lib.hid (HF.out w2 (stL L n) (hL ▸ Po.same hd2 (Kp.refl _ _)))
    clear hL hd2 hd1 cL HK1 HF hb2 ht hnil
    go_wp2_with fail
    refine wp_loop_rounds 1 ?_
    rw [rounds_succ]
    go_wp2
    exact bodyPost_end (results_none rfl _ _ _) rfl ⟨rfl, HP.out⟩
  · have hnn := nms_len L
    have HD2 := Lib.hid hd2
    have HC := Lib.hid hcell
    clear hd2 hd1 cL HK1 hb2 ht hcell
    have hnd : ¬ DX b mb nb := fun hx => by
      rcases hx with hx | hx
      · omega
      · have := hlb _ hx; omega
    go_wp2_with fail
    go_loopw [13] (fun i W => ∃ k : Nat, k ≤ (nms L).length ∧ i = .int .i64 k ∧ ∃ L', Po b mb L' false (-1) bd r w2 W ∧ St L n ((nms L).take k) L') (fun i _ => (nms L).length - (intOf i).toNat)
    case atStart => exact ⟨0, Nat.zero_le _, rfl, L, Po.same HD2.out (Kp.refl _ _), ⟨HS.out, Nat.le_refl _, fun k => by simp⟩⟩
    case round =>
      obtain ⟨i, hi, rfl, L', hP, hSt⟩ := hrel
      by_cases hlt : i < (nms L).length
      · have hc := HC.out i hlt
        obtain ⟨⟨mb', hd, hmm⟩, hkp⟩ := hP
        have q0 : wr.cell? ⟨nb, i, none⟩ = some (.string ⟨(nms L)[i].toArray⟩) := (World.cell?_of_block (w := w2) (hkp.block nb hnl hnd)).trans hc
        have hkl := HK.out _ (List.getElem_mem hlt)
        have hnot := take_not (nms_nodup HS.out) i hlt
        obtain ⟨a, ha⟩ := nms_mem.1 (List.getElem_mem hlt)
        have ha := (lk_iff HS.out).2 ha
        have HT : Hid ((nms L).take (i + 1) = (nms L).take i ++ [(nms L)[i]]) := List.take_succ_eq_append_getElem hlt
        generalize (nms L)[i] = k at q0 hkl hnot ha HT hc
        have hak : lkL k L' = some a := by rw [hSt.lk, if_neg hnot, ha]
        have hent : ent k L' = a := by unfold ent; rw [hak]; rfl
        have c0 := (dc_of hd.blk).c0
        have hy := (look_any hd k (by omega) wr (fun _ _ => rfl)).1
        rw [hent] at hy
        have hab := HB.out.is k a ha
        have cF := left_any a n wr (by omega) (by omega) hn'
        have hBL := hSt.bn HB.out
        have htot := bn_tot hBL hSt.srt
        have hlen := hSt.len
        have htt : tot nl L' ≤ 1000000 := by
          have : L'.length * M ≤ 40 * 20000 := Nat.mul_le_mul (by omega) hM
          omega
        cases hlf : lf a n with
        | none =>
          rw [hlf] at cF
          have HS2 := Lib.hid (hSt.del hnot ha hlf)
          have cD := fun w3 (hb3 : Below wr.heap.size wr w3) => drop_any b mb' L' false (-1) bd r k w3 (hd.up hb3) (by omega) (by omega)
          have HM := Lib.hid hmm
          have HKp := Lib.hid hkp
          unfold pv at hy cF
          clear hd hSt hent hak ha hnot hc hmm hkp hBL
          go_wp2_with fail
          refine cF.mono ?_
          rintro x w3 ⟨rfl, hb3⟩
          have cD' := cD w3 hb3
          clear cD cF
          go_wp2_with fail
          refine cD'.mono ?_
          rintro x w4 ⟨rfl, hd4, hk4⟩
          have hfin := Po.then HKp.out HM.out (Po.below hb3 (Po.same hd4 hk4))
          clear cD' hd4 hk4 hb3
          go_wp2_with fail
          exact ⟨⟨i + 1, hlt, by go_num, _, hfin, by rw [HT.out]; exact HS2.out⟩, by simp [intOf]; omega⟩
        | some s =>
          rw [hlf] at cF
          have hsl := lf_le hab hlf
          have HS2 := Lib.hid (hSt.put hnot ha hlf)
          have cS := fun w3 => settled_any s w3
          have cP := fun w3 (hb3 : Below wr.heap.size wr w3) => put_any b mb' L' false (-1) bd r k ⟨s, some s⟩ w3 (hd.up hb3) (by omega) (by omega) (by dsimp only; omega) (by omega)
          have HM := Lib.hid hmm
          have HKp := Lib.hid hkp
          unfold pv at hy cF cS cP
          clear hd hSt hent hak ha hnot hc hmm hkp hBL
          go_wp2_with fail
          refine cF.mono ?_
          rintro x w3 ⟨rfl, hb3⟩
          have cS' := cS w3
          clear cS cF
          go_wp2_with fail
          refine cS'.mono ?_
          rintro x w4 ⟨rfl, hb4⟩
          have hb34 := hb3.trans (hb4.mono hb3.size)
          have cP' := cP w4 hb34
          clear cP cS' hb3 hb4
          go_wp2_with fail
          refine cP'.mono ?_
          rintro x w5 ⟨rfl, hpu⟩
          have hfin := Po.then HKp.out HM.out (Po.below hb34 (Po.put hpu))
          clear cP' hpu hb34
          go_wp2_with fail
          exact ⟨⟨i + 1, hlt, by go_num, _, hfin, by rw [HT.out]; exact HS2.out⟩, by simp [intOf]; omega⟩
      · obtain rfl : i = (nms L).length := by omega
        rw [List.take_length] at hSt
        have hL := hSt.done HS.out
        subst hL
        have HP := Lib.hid (HF.out _ _ hP)
        clear hP hSt
        go_wp2
        exact bodyPost_end (results_none rfl _ _ _) rfl ⟨rfl, HP.out⟩
end Go.Proofs.YteiobnkaadedkaaGreatDoor
