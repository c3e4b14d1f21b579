/- The walk of the reference's Start: its loop. -/
import Derived.Test.YtjllnhdampjieaaDoorNe
namespace Go.Proofs.YtjllnhdampjieaaDoor
open Go.RowKit Go.Sort Go.Maps

theorem lf_same {now : List UInt8} {n : Int} : lf ⟨now, some now⟩ n = some now := by unfold lf; rw [if_pos rfl]
theorem lf_none {now : List UInt8} {n : Int} (h : n ≤ 0) : lf ⟨now, none⟩ n = none := by unfold lf; rw [if_neg (by simp), if_pos h]
theorem lf_take {now : List UInt8} {n : Int} (h : 0 < n) {k : Nat} (hk : min n (now.length : Int) = k) : lf ⟨now, none⟩ n = some (now.take k) := by
  unfold lf; rw [if_neg (by simp), if_neg (by omega)]
  have : k = min n.toNat now.length := by omega
  rw [this, ← List.take_eq_take_min]; simp
theorem lf_old {now t : List UInt8} {n : Int} (hne : now ≠ t) (h : n ≤ 0) : lf ⟨now, some t⟩ n = some t := by
  unfold lf; rw [if_neg (fun e => hne (Option.some.inj e).symm), if_pos h]
theorem lf_add {now t : List UInt8} {n : Int} (hne : now ≠ t) (h : 0 < n) {k : Nat} (hk : min n (now.length : Int) = k) : lf ⟨now, some t⟩ n = some (now.take k ++ t.drop k) := by
  unfold lf; rw [if_neg (fun e => hne (Option.some.inj e).symm), if_neg (by omega)]
  have : k = min n.toNat now.length := by omega
  rw [this, ← List.take_eq_take_min]; rfl
theorem SJ.start {w W : World} {b m fm r : Nat} {K : Kv Rx} {L : Kv Ent} {lf' bt n : Int} (h : RD w b m K L lf' bt) (hrg : W.ranges Tryd.prog 9 Rv m r K.length (toD rvv K) (has (toD rvv K)) (Maps.size (toD rvv K))) (hb : Below w.heap.size w W) (ho : W.ownsMap Tryd.prog 9 Rv fm 0 (.map [])) : SJ w m r fm K L n (has (toD rvv K)) (Maps.size (toD rvv K)) W := by
  refine ⟨hrg, hb, [], [], ho, Srt.nil, Srt.nil, fun k => ⟨.inl ⟨rfl, rfl⟩⟩, fun k => ?_, by rw [toD_size]; simp⟩
  rw [toD_has, (h.at k).2.2]
  show none = _
  cases hl : lkL k L <;> rfl
theorem SJ.done {w W : World} {b m fm r : Nat} {K : Kv Rx} {L : Kv Ent} {n : Int} {left : Lit → Bool} {cnt : Nat} (hS : Srt L) (h : SJ w m r fm K L n left cnt W) (hl : ∀ kl, left kl = false) {w' : World} (hk : Kp (fun i => i = b) W w') (hb : NoB W b) (hne : fm ≠ b) {lf' bt : Int} (hbl : w'.heap[b]? = some (rdo fm lf' bt)) : ∃ Kf, RD w' b fm Kf (stL L n) lf' bt := by
  obtain ⟨Kf, Lf, h1, h2, h3, h4, h5, h6⟩ := h.ex
  have e : Lf = stL L n := ext_lk h3 (stL_srt hS n) fun k => by rw [h5, hl, stL_lk hS]; rfl
  subst e
  exact ⟨Kf, hbl, own_kp h1 hk hne, h2, h3, fun k => (h4 k).kp hk fun i hi => by subst hi; exact hb⟩

set_option maxHeartbeats 6400000 in
set_option maxRecDepth 100000 in
theorem rstart_any (b m : Nat) (K : Kv Rx) (L : Kv Ent) (lf' bt n : Int) (w : World) (h : RD w b m K L lf' bt) (hB : Bn 1000 L) (hn : L.length ≤ 1000) (hk : ∀ k ∈ nms L, k.length ≤ 1000) (hn' : n ≤ 9223372036854775807) :
    Calls Tryd.prog 16 #[.pointer (some ⟨b, 0, none⟩), .int .i64 n] w fun x w' => x = .returned (.tuple #[]) ∧ Ro b m (stL L n) (-1) bt w w' := by
  have c0 := (rc_of h.blk).c0
  have hltb := (rc_of h.blk).lt
  have hltm := h.map.lt
  have hKL : K.length ≤ 1000 := by have := h.len; omega
  have hown := h.map.alloc (.map #[] 0)
  have hmade := World.ownsMap_made w Tryd.prog 9 Rv
  have H := Lib.hid h
  have HB := Lib.hid hB
  have HK := Lib.hid hk
  have hmm := @run_makeMap Tryd.prog
  have hf2 : w.heap.size < (w.alloc (.map #[] 0)).heap.size := by simp
  clear h hB hk
  go_enter Tryd.func16, Tryd.ntmps16
  go_wp2_with (first | (at_range; refine wpList_range_own _ rfl _ 39 rfl 9 50 law9 Tryd.underlying39 Rv m K.length _ rfl hown ?_; intro w1 hrg1 hg1 hs1))
  have hb1 : Below w.heap.size w w1 := ((Below.refl _ _).alloc (Nat.le_refl _) _).grown hg1 (by simp) (fun j hj => by cases hj)
  have HJ := Lib.hid (SJ.start (n := n) H.out hrg1 hb1 (hmade.kept hg1 (by simp)))
  have hr1 : w.heap.size ≤ (w.alloc (.map #[] 0)).heap.size := by simp
  clear hg1 hs1 hrg1 hown hmade hmm c0 hb1
  go_frame
  obtain ⟨r, hre⟩ : ∃ r, r = (w.alloc (.map #[] 0)).heap.size := ⟨_, rfl⟩
  rw [← hre] at HJ hr1 hf2 ⊢
  clear hre
  go_loopw [5] (fun _ wr => ∃ (left : Lit → Bool) (cnt : Nat), SJ w m r w.heap.size K L n left cnt wr) (fun _ wr => wr.rangeLeft m r)
  case atStart => exact ⟨_, _, HJ.out⟩
  case round =>
    obtain ⟨left, cnt, hJ⟩ := hrel
    have hrg := hJ.rg
    have HRg := Lib.hid hJ
    clear hJ
    go_wp2_with (first | (at_next; refine wpList_next_kv H.out.srt rvv_inj _ rfl _ rfl m r K.length _ _ rfl hrg ?_ ?_))
    · intro hc0 hl0
      have hbw := (HRg.out.bl.block b hltb).trans H.out.blk
      obtain ⟨_, d0, d1, d2, f0, f1, f2⟩ := rc_of hbw
      have HBw := Lib.hid hbw
      have HL0 := Lib.hid hl0
      have hlw := Nat.lt_of_lt_of_le hltb HRg.out.bl.size
      clear hrg hl0 hc0 hbw
      go_wp2
      have hk2 : Kp (fun i => i = b) wr ((wr.setCell ⟨b, 0, none⟩ (.map (some w.heap.size))).setCell ⟨b, 1, none⟩ (.int .i64 (-1))) := kp1.t kp1
      obtain ⟨Kf, hRD⟩ := SJ.done (b := b) H.out.srtL HRg.out HL0.out hk2 (nob_cells HBw.out (by decide)) (by omega) (lf' := -1) (bt := bt) (heap_set (heap_set HBw.out))
      refine bodyPost_end (results_none rfl _ _ _) rfl ⟨rfl, ⟨_, Kf, hRD, .inr (Nat.le_refl _)⟩, ?_⟩
      exact (Kp.of (X := RX b m) HRg.out.bl).t (kp_rx hk2)
    · intro x c w5 cnt5 hlx hlk hrg5 hlt5 hg5 hs5 hen
      have hrel := H.out.rel x
      rw [hlx] at hrel
      obtain ⟨e, he, hnow, hBx⟩ : ∃ e, lkL x L = some e ∧ c.now = e.now ∧ Bx w c.p e.sf := by
        rcases hrel.is with ⟨h1, _⟩ | ⟨x', e, h1, h2, h3, h4⟩
        · cases h1
        · cases h1; exact ⟨e, h2, h3, h4⟩
      have hbd := HB.out.is x e he
      have hxl := HK.out x (nms_mem.2 ⟨e, (lk_iff H.out.srtL).1 he⟩)
      have hSkip := fun hs o1 o2 => HRg.out.skip hr1 hrg5 hg5 hlt5 hlk he hs o1 o2
      have hPut := fun s (hs : lf e n = some s) o1 => HRg.out.put hr1 (Nat.le_refl _) hltm (by omega) (by omega) hrg5 hg5 hlt5 hlk he hs o1
      have hPutD := fun s (hs : lf e n = some s) o1 => HRg.out.put (w5 := w5.drew) hr1 (Nat.le_refl _) hltm (by omega) (by omega) hrg5 ⟨hg5.os, hg5.tape, hg5.output, hg5.size, hg5.block⟩ hlt5 hlk he hs o1
      have hbl5 : Below w.heap.size w w5 := HRg.out.bl.grown hg5 HRg.out.bl.size (fun j hj => by cases hj; exact hr1)
      have hlw5 := hbl5.size
      have HM : Hid (∀ W left', SJ w m r w.heap.size K L n left' cnt5 W → W.rangeLeft m r < wr.rangeLeft m r) := fun W left' hW => by rw [hW.rg.left_eq, HRg.out.rg.left_eq]; exact hlt5
      obtain ⟨cn, cp⟩ := c
      obtain ⟨en, es⟩ := e
      dsimp only at hnow hBx hbd
      subst hnow
      clear hrel hs5 hrg5 hg5 hlt5 hlk he hlx hrg HJ
      rcases hBx.is with ⟨h1, h2⟩ | ⟨a, t, h1, h2, h3⟩
      · subst h1 h2
        unfold rvv at hen
        dsimp only [Option.map] at hen
        by_cases hn0 : n ≤ 0
        · have hS := hSkip (lf_none hn0) (rxo ⟨cn, none⟩) (bxo cn)
          clear hSkip hPut hPutD
          go_wp2
          exact ⟨⟨_, cnt5, hS⟩, HM.out _ _ hS⟩
        · obtain ⟨k, hk⟩ : ∃ k : Nat, min n (cn.length : Int) = (k : Int) := ⟨(min n (cn.length : Int)).toNat, by omega⟩
          have hkl : k ≤ cn.length := by omega
          obtain ⟨w7, hrun, hJ7⟩ := hPut (cn.take k) (lf_take (by omega) hk) (rxo ⟨cn, none⟩)
          rw [bxo, ← ba_take] at hrun
          dsimp only [rxo, Option.map] at hrun
          have hn1 : 0 < n := by omega
          clear hSkip hPut hPutD
          go_wp2
          exact ⟨⟨_, cnt5, hJ7⟩, HM.out _ _ hJ7⟩
      · subst h1 h2
        unfold rvv at hen
        dsimp only [Option.map] at hen
        have h5 : w5.heap[a]? = some (bxo t) := (hbl5.block a (Array.getElem?_eq_some_iff.1 h3).1).trans h3
        have a0 : w5.cell? ⟨a, 0, none⟩ = some (.string ⟨t.toArray⟩) := by simp [World.cell?, h5]
        have hal : a < w5.heap.size := (Array.getElem?_eq_some_iff.1 h5).1
        by_cases hct : cn = t
        · subst hct
          obtain ⟨w7, hrun, hJ7⟩ := hPut cn lf_same (rxo ⟨cn, some a⟩)
          dsimp only [rxo, bxo, Option.map] at hrun
          clear hSkip hPut hPutD
          go_wp2
          exact ⟨⟨_, cnt5, hJ7⟩, HM.out _ _ hJ7⟩
        · have hct' : (cn == t) = false := by rw [beq_eq_false_iff_ne]; exact hct
          by_cases hn0 : n ≤ 0
          · obtain ⟨w7, hrun, hJ7⟩ := hPut t (lf_old hct hn0) (rxo ⟨cn, some a⟩)
            dsimp only [rxo, bxo, Option.map] at hrun
            clear hSkip hPut hPutD hct
            go_wp2
            exact ⟨⟨_, cnt5, hJ7⟩, HM.out _ _ hJ7⟩
          · obtain ⟨k, hk⟩ : ∃ k : Nat, min n (cn.length : Int) = (k : Int) := ⟨(min n (cn.length : Int)).toNat, by omega⟩
            have hkl : k ≤ cn.length := by omega
            have hlf := lf_add (t := t) hct (by omega) hk
            have hn1 : 0 < n := by omega
            by_cases hkt : k < t.length
            · obtain ⟨w7, hrun, hJ7⟩ := hPutD _ hlf (rxo ⟨cn, some a⟩)
              rw [bxo, ← ba_app, ← ba_take, ← ba_drop] at hrun
              dsimp only [rxo, Option.map] at hrun
              have hkt' : (k : Int) < (t.length : Int) := by omega
              have htl : t.length ≤ 1000 := hbd.2
              clear hSkip hPut hPutD hct hlf
              change Sem.run Tryd.prog (Instr.mapUpdate 39 (.map (some w.heap.size)) (.string ⟨x.toArray⟩) (.agg #[.string ((ByteArray.mk cn.toArray).extract 0 k ++ (ByteArray.mk t.toArray).extract k t.length), .pointer (some ⟨w5.heap.size + 1, 0, none⟩)])) ((w5.alloc (.cells #[.string ⟨cn.toArray⟩, .pointer (some ⟨a, 0, none⟩)] 50)).alloc (.cells #[.string ((ByteArray.mk cn.toArray).extract 0 k ++ (ByteArray.mk t.toArray).extract k t.length)] 9)).drew = _ at hrun
              go_wp2_with fail
              go_region
              go_wp2
              exact ⟨⟨_, cnt5, hJ7⟩, HM.out _ _ hJ7⟩
            · have e1 : cn.take k ++ t.drop k = cn.take k := by rw [List.drop_eq_nil_of_le (by omega), List.append_nil]
              rw [e1] at hlf
              obtain ⟨w7, hrun, hJ7⟩ := hPut _ hlf (rxo ⟨cn, some a⟩)
              rw [bxo, ← ba_take] at hrun
              dsimp only [rxo, Option.map] at hrun
              have hkt' : ¬ (k : Int) < (t.length : Int) := by omega
              clear hSkip hPut hPutD hct hlf e1
              go_wp2
              exact ⟨⟨_, cnt5, hJ7⟩, HM.out _ _ hJ7⟩
end Go.Proofs.YtjllnhdampjieaaDoor
