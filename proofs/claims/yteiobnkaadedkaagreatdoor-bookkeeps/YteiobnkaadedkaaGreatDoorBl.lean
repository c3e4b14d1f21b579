/- A book: all walked. -/
import Derived.Test.YteiobnkaadedkaaGreatDoorBj
import Derived.Deep.MidRow
namespace Go.Proofs.YteiobnkaadedkaaGreatDoor
open Go.RowKit Go.Sort Go.Maps

theorem idx66 (V : Array Value) (k : Nat) (hk : k < 37) (v : Value) (hv : V[k]? = some v) (w : World) : (Instr.index 66 (.agg V) (.int .i64 k)).run Tryz.prog w = .ok v w := by
  have hn : (k : Int) < 37 := by omega
  simp [Instr.index, run_underlying Tryz.underlying66, asIntOf, go_sem, part, hv]
  intro h
  omega
set_option maxRecDepth 100000 in
set_option maxHeartbeats 4000000 in
theorem all_any (b d pm : Nat) (ns : Nat → Nat) (dn : Bool) (A P : Bk) (N : Nat → Bk) (w : World) (h : BK w b d pm ns dn P N) (hG : Gp P N) (hA : Srt A) (ho : ∀ x, lkL x A = ov P N x) (hat : ∀ i, i < 37 → ∀ x t, lkL x (N i) = some t → shf x = i) :
    Calls Tryz.prog 35 #[.pointer (some ⟨b, 0, none⟩)] w fun x w' => x = .returned (.map (some w.heap.size)) ∧ Lm w' w.heap.size A ∧ Below w.heap.size w w' := by
  obtain ⟨hlt, c0, c1, cn, cd, f⟩ := bc_of h.blk
  have cC := clone_map pm P w h.lp
  have H := Lib.hid h
  have HG := Lib.hid hG
  have HA := Lib.hid hA
  have HO := Lib.hid ho
  have HT := Lib.hid hat
  clear h hG hA ho hat
  go_enter Tryz.func35, Tryz.ntmps35
  go_wp2_with fail
  refine cC.mono ?_
  rintro x w1 ⟨rfl, hm1, b1⟩
  have hB1 := H.out.up b1
  have hblk := hB1.blk
  clear cC c0 c1 cn cd f hlt
  obtain ⟨V, hV⟩ : ∃ V : Array Value, V = (ncs fun i => some (ns i)).toArray := ⟨_, rfl⟩
  have hVk : ∀ k, k < 37 → V[k]? = some (.map (some (ns k))) := fun k hk => by
    rw [hV]
    simp [ncs, hk]
  have hVs : V.size = 37 := by rw [hV]; simp [ncs]
  have hra : w1.rangeAt b 2 (ncs fun i => some (ns i)) := fun j v hj => by
    have hjl : j < 37 := by
      have := (List.getElem?_eq_some_iff.1 hj).1
      rwa [ncs_len] at this
    have := (bc_of hblk).cn j hjl
    rw [this]
    simpa [ncs, hjl] using hj
  go_upto_region 2 with fail
  refine wp_region_lit ?_
  refine wpList_plain rfl fun K hK => ?_
  unfold Oper.wp
  simp [go_sem]
  refine hK _ _ ?_
  clear hK K
  refine wpList_plain rfl fun K hK => ?_
  unfold Oper.wp
  simp [go_sem]
  refine hK _ _ ?_
  clear hK K
  refine wpList_plain rfl fun K hK => ?_
  unfold Oper.wp
  simp [go_sem]
  refine hK _ _ ?_
  clear hK K
  refine wpList_load_mid rfl 66 _ rfl b 2 rfl _ _ hra Tryz.underlying66 rfl (by kernel_rfl) ?_
  rw [← hV]
  go_frame
  go_wp2_with fail
  have HV := Lib.hid hVk
  have hO1 : AO w w.heap.size P N 0 w1 := ⟨b1, P, hm1, HG.out.gp.srt, fun x => by rw [if_neg (Nat.not_lt_zero _)], by have := HG.out.lp; omega⟩
  have HO1 := Lib.hid hO1
  have hmb : pm < w.heap.size := H.out.lp.lt
  clear hV hVk hO1 hm1 hB1 hblk b1 hra
  go_loopw [17] (fun iv W => ∃ k : Nat, k ≤ 37 ∧ iv = .int .i64 k ∧ AO w w.heap.size P N k W) (fun iv _ => 37 - (intOf iv).toNat)
  case atStart => exact ⟨0, Nat.zero_le _, rfl, HO1.out⟩
  case round =>
    obtain ⟨k, hk, rfl, hI⟩ := hrel
    by_cases hlt : k < 37
    · have hvk := idx66 V k hlt _ (HV.out k hlt)
      have hki : (k : Int) < 37 := by omega
      have hBr := H.out.up hI.bl
      have hown := hBr.ln k hlt
      go_wp2_with (first | (at_range; refine wpList_range_own _ rfl _ 64 rfl 9 77 law9 Tryz.underlying64 Rv (ns k) (N k).length _ rfl hown ?_; intro w4 hrg4 hg4 hs4))
      obtain ⟨A0, a1, a2, a3, a4⟩ := hI.ex
      have hb4 : Below wr.heap.size wr w4 := ⟨hg4.os, hg4.tape, hg4.output, hg4.size, fun i hi => hg4.block i hi (by simp)⟩
      have hln := HG.out.ln k hlt
      have hJ4 : AJ w w.heap.size (ns k) wr.heap.size (1000 + (k + 1) * 1000) (N k) A0 _ _ w4 := ⟨hrg4, hI.bl.trans (hb4.mono hI.bl.size), A0, lm_on a1 (hb4.block _ a1.lt), a2, fun x => by
        rw [if_neg]
        rintro ⟨h1, h2⟩
        rw [toD_has, h1] at h2
        simp at h2, by rw [toD_size]; omega⟩
      have HJ4 := Lib.hid hJ4
      have HA0 := Lib.hid a3
      have hr1 := hI.bl.size
      have hmk := (H.out.ln k hlt).lt
      obtain ⟨ws, hws⟩ : ∃ ws, ws = wr.heap.size := ⟨_, rfl⟩
      rw [← hws] at HJ4 hr1 ⊢
      clear hI hown hBr hvk a1 a2 a3 a4 hb4 hJ4 hrg4 hg4 hs4 hws
      go_frame
      go_loopw [6] (fun _ W => ∃ (left : Lit → Bool) (cnt : Nat), AJ w w.heap.size (ns k) ws (1000 + (k + 1) * 1000) (N k) A0 left cnt W) (fun _ W => W.rangeLeft (ns k) ws)
      case atStart => exact ⟨_, _, HJ4.out⟩
      case round =>
        obtain ⟨left, cnt, hJ⟩ := hrel
        have hrg := hJ.rg
        have HRg := Lib.hid hJ
        clear hJ
        go_wp2_with (first | (at_next; refine wpList_next_kv (HG.out.gn k hlt).srt lv_inj _ rfl _ rfl (ns k) ws (N k).length _ _ rfl hrg ?_ ?_))
        · intro hc0 hl0
          have hO := HRg.out.done hl0 (HT.out k hlt) HA0.out (Nat.le_refl _)
          clear hrg HRg hc0 hl0
          go_wp2
          exact ⟨⟨k + 1, hlt, by go_num, hO⟩, by simp [intOf]; omega⟩
        · intro x t w5 cnt5 hlx hlk hrg5 hlt5 hg5 hs5 hen
          have hxl := ((HG.out.gn k hlt).nm (x, t) ((lk_iff (HG.out.gn k hlt).srt).1 hlx)).2.2
          dsimp only at hxl
          have HM : Hid (∀ W left', AJ w w.heap.size (ns k) ws (1000 + (k + 1) * 1000) (N k) A0 left' cnt5 W → W.rangeLeft (ns k) ws < wr.rangeLeft (ns k) ws) := fun W left' hW => by rw [hW.rg.left_eq, HRg.out.rg.left_eq]; exact hlt5
          unfold lv at hen
          cases t with
          | nil =>
            obtain ⟨A', hA', hD⟩ := HRg.out.del hr1 (Nat.le_refl _) hmk hrg5 hg5 hlt5 hlx (.cells #[.string ⟨#[]⟩] 77 (0, 0))
            have HD := Lib.hid hD
            clear hlx hlk hrg5 hlt5 hg5 hs5 hrg HRg hD HJ4
            go_wp2_with (at_delete; refine wpList_delete_own _ rfl _ _ 64 9 rfl 77 law9 Tryz.underlying64 Rv w.heap.size A'.length _ rfl hA' _ _ rfl (key9 x (by omega)) ?_; intro w7 hown7 hturn7; go_frame)
            have hJ7 := HD.out w7 _ hown7 hturn7
            clear hA' hown7 hturn7
            go_wp2
            exact ⟨⟨_, cnt5, hJ7⟩, HM.out _ _ hJ7⟩
          | cons y ys =>
            obtain ⟨w7, hrun, hJ7⟩ := HRg.out.put hr1 (Nat.le_refl _) hmk (by omega) (by omega) hrg5 hg5 hlt5 hlx (by simp) (.cells #[.string ⟨(y :: ys).toArray⟩] 77 (0, 0))
            clear hlx hlk hrg5 hlt5 hg5 hs5 hrg HRg HJ4
            go_wp2
            exact ⟨⟨_, cnt5, hJ7⟩, HM.out _ _ hJ7⟩
    · obtain rfl : k = 37 := by omega
      have hL := hI.done HA.out HO.out
      have hbl := hI.bl
      clear hI
      go_wp2
      go_ret
      exact ⟨rfl, hL, hbl⟩
end Go.Proofs.YteiobnkaadedkaaGreatDoor
