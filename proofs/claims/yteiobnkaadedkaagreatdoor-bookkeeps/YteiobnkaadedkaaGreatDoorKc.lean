/- A book: Tidy, with what went. -/
import Derived.Test.YteiobnkaadedkaaGreatDoorBt
namespace Go.Proofs.YteiobnkaadedkaaGreatDoor
open Go.RowKit Go.Sort Go.Maps

/-- A sheet that went, or was not there. -/
def Rd (e : Bool) (L : Kv Ent) (c : Int) (i : Nat) : Prop := pwr e (td e L c i).2 = true ∨ (lkL (shF i) (td e L c i).1).isSome = false
/-- How Tidy ends: all sheets are gone, or one is left for want of power. -/
structure Tf (w : World) (b d pm : Nat) (ns : Nat → Nat) (A : Bk) (N : Nat → Bk) (mb : Option Nat) (L : Kv Ent) (e : Bool) (c : Int) (x : Ending) (w' : World) : Prop where
  is : ∃ j, j ≤ 37 ∧ x = .returned (evv (if j = 37 then 0 else 14)) ∧ (j < 37 → pwr e (td e L c j).2 = false) ∧ Sx w b d pm ns (decide (j < 37)) A (tN N j) mb (td e L c j).1 e (td e L c j).2 w' ∧ ∀ i, i < j → Rd e L c i
set_option maxRecDepth 100000 in
set_option maxHeartbeats 4000000 in
theorem tidy_full (b d pm : Nat) (ns : Nat → Nat) (A P : Bk) (N : Nat → Bk) (mb : Option Nat) (L : Kv Ent) (e : Bool) (c : Int) (w : World) (h : BJ w b d pm ns false P N mb L e c) (hG : Gp P N) (hA : Gd A) (hlA : A.length ≤ 1000) (ho : ∀ x, lkL x A = ov P N x) (hat : ∀ i, i < 37 → ∀ x t, lkL x (N i) = some t → shf x = i) (hc : c ≤ 9223372036854775807) (hT : tot nl L + (prt A).length ≤ 1000000) (hT3 : tot nl (k3L L pgF (prt A)) ≤ 1000000) (hn : L.length + 2 < 5000) (hp : pw3 e c = true) :
    Calls Tryz.prog 12 #[.pointer (some ⟨b, 0, none⟩)] w fun x w' => Tf w b d pm ns A N mb (k3L L pgF (prt A)) e (ch3 e c) x w' := by
  have cA := all_any b d pm ns false A P N w h.bk hG hA.srt ho hat
  have cd := (bc_of h.bk.blk).cd
  have hlt := (bc_of h.bk.blk).lt
  have HJ := Lib.hid h
  have HA := Lib.hid hA
  have hc3 : ch3 e c ≤ 9223372036854775807 := by unfold ch3 chg; repeat' split
                                                 all_goals omega
  have hL3 : Srt (k3L L pgF (prt A)) := (((h.pd.srt.put _ _).put _ _).del _).put _ _
  have hl3 : (k3L L pgF (prt A)).length ≤ L.length + 2 := by
    have h1 := (k_tot h.pd.srt (prt A)).2.2.2
    have h2 := len_put (delL frF (k2L L (prt A))) pgF ⟨prt A, some (prt A)⟩
    have h3 := len_del (L := k2L L (prt A)) frF
    unfold k3L
    omega
  have HT := Lib.hid (td_all hL3 e hc3)
  clear h hG ho hat hA hL3
  go_enter Tryz.func12, Tryz.ntmps12
  go_wp2_with fail
  refine cA.mono ?_
  rintro x w1 ⟨rfl, hm1, b1⟩
  have hJ1 := HJ.out.up b1
  have cK := keep_any b d pm ns false P N mb L e c pgF w.heap.size A w1 hJ1 hm1 HA.out hlA (by decide) hc hT (by omega)
  unfold kcd at cK
  have hkL : kL L e c pgF (prt A) = k3L L pgF (prt A) := by
    unfold pw3 at hp
    simp only [Bool.and_eq_true] at hp
    unfold kL
    rw [if_pos hp.1.1, if_pos hp.1.2, if_pos hp.2]
  rw [hp, hkL] at cK
  rw [if_pos rfl, show evv 0 = .nilIface from rfl] at cK
  clear cA cd hlt hp hkL
  go_wp2_with fail
  refine cK.mono ?_
  rintro x w2 ⟨rfl, hX⟩
  clear cK
  obtain ⟨⟨mb2, hJ2, hf2⟩, hk2⟩ := hX
  have hla := hm1.lt
  have hnX : ¬ BX b pm ns w.heap.size := fun hx => by have := bx_lt HJ.out.bk _ hx; omega
  have hnD : ¬ DX d mb w.heap.size := fun hx => by
    rcases hx with hx | hx
    · have := (Array.getElem?_eq_some_iff.1 HJ.out.pd.blk).1; omega
    · have := (HJ.out.pd.map _ hx).lt; omega
  have hnB : ¬ BD b d mb w.heap.size := fun hx => by
    rcases hx with hx | hx
    · exact hnX (.inl hx)
    · exact hnD hx
  have hm2 : Lm w2 w.heap.size A := lm_on hm1 (hk2.block _ hla hnB)
  have hnD2 : ¬ DX d mb2 w.heap.size := fun hx => by
    rcases hx with hx | hx
    · exact hnD (.inl hx)
    · rcases hf2 _ hx with h4 | h4
      · exact hnD (.inr h4)
      · omega
  have hf0 : Fr w mb mb2 := fun x hx => by
    rcases hf2 x hx with h4 | h4
    · exact .inl h4
    · exact .inr (Nat.le_trans b1.size h4)
  have hk0 : Kp (fun k => BX b pm ns k ∨ DX d mb k) w w2 := (Kp.of b1).t (hk2.mono bd_bx)
  have hJ3 := hJ2.setp hm2 hnX hnD2
  have hTJ : TJ w b d pm w.heap.size ns false A (tN N 0) mb (k3L L pgF (prt A)) e (ch3 e c) (w2.setCell ⟨b, 1, none⟩ (.map (some w.heap.size))) := ⟨⟨mb2, by
    rw [show tN N 0 = N from funext fun i => if_neg (Nat.not_lt_zero _)]; exact hJ3, hf0⟩, hk0.set (p := ⟨b, 1, none⟩) (.inl (.inl rfl)) _, Nat.le_refl _⟩
  have c21 := (bc_of hJ2.bk.blk).c1
  have f21 := (bc_of hJ2.bk.blk).f 1
  have hlt2 := (bc_of hJ2.bk.blk).lt
  have HTJ := Lib.hid hTJ
  obtain ⟨ap, hap⟩ : ∃ ap, ap = w.heap.size := ⟨_, rfl⟩
  rw [← hap] at HTJ ⊢
  generalize hL3e : k3L L pgF (prt A) = L3 at hT3 hl3 HT HTJ
  generalize hc3e : ch3 e c = c3 at hc3 HT HTJ
  have HL3 := Lib.hid hL3e
  have HC3 := Lib.hid hc3e
  clear hTJ hJ3 hk0 hf0 hnD2 hm2 hnB hnD hnX hla hk2 hf2 hm1 b1 hJ1 hJ2 hc hT HA hap hL3e hc3e
  go_wp2_with fail
  clear c21 f21 hlt2
  go_loopw [24] (fun iv W => ∃ k : Nat, k ≤ 37 ∧ iv = .int .i64 k ∧ TJ w b d pm ap ns false A (tN N k) mb (td e L3 c3 k).1 e (td e L3 c3 k).2 W ∧ ∀ i, i < k → Rd e L3 c3 i) (fun iv _ => 37 - (intOf iv).toNat)
  case atStart => exact ⟨0, Nat.zero_le _, rfl, HTJ.out, fun i hi => absurd hi (Nat.not_lt_zero _)⟩
  case round =>
    obtain ⟨k, hk, rfl, hT, hrd⟩ := hrel
    have HRd := Lib.hid hrd
    clear hrd
    by_cases hlt : k < 37
    · have htd := HT.out k
      have Htd : Hid (td e L3 c3 (k + 1) = (rL (td e L3 c3 k).1 e (td e L3 c3 k).2 (shF k), tc (td e L3 c3 k).1 e (td e L3 c3 k).2 (shF k))) := rfl
      obtain ⟨⟨mbk, hJ, hf⟩, hkp, hap⟩ := hT
      obtain ⟨Lk, hLk⟩ : ∃ Lk, Lk = (td e L3 c3 k).1 := ⟨_, rfl⟩
      obtain ⟨ck, hck⟩ : ∃ ck, ck = (td e L3 c3 k).2 := ⟨_, rfl⟩
      rw [← hLk, ← hck] at htd Htd hJ
      have HLk := Lib.hid hLk
      have Hck := Lib.hid hck
      clear hLk hck
      have bdr := (Below.refl wr.heap.size wr).drew
      have hJd := hJ.up bdr
      have cF := file_any k hlt wr.drew
      have cR := remove_any d mbk Lk e ck false 0 (shF k) wr.drew hJd.pd htd.2.2.2 (by have := shF_len hlt; omega) (by omega) (by omega)
      have c0 := (bc_of hJd.bk.blk).c0
      have HJd := Lib.hid hJd
      have Hkp := Lib.hid hkp
      have Hf := Lib.hid hf
      clear hJ hJd hkp hf bdr htd
      go_wp2_with fail
      refine wp_region_held (S := fun W => W.cell? ⟨b, 0, none⟩ = some (.pointer (some ⟨d, 0, none⟩))) (by kernel_rfl) ?_
      refine wpAnyH_take (i := 0) (v := .pointer (some ⟨b, 0, none⟩)) rfl (by kernel_rfl) (by kernel_rfl) (by kernel_rfl) (fun _ _ _ h => h) (.inl ⟨rfl, fun w' _ => by simp [go_sem]⟩) c0 ?_
      refine wpAnyH_take (i := 1) (v := .pointer (some ⟨b, 0, none⟩)) rfl (by kernel_rfl) (by kernel_rfl) (by kernel_rfl) (fun _ _ _ h => h) (.inl ⟨rfl, fun w' _ => by simp [go_sem]⟩) c0 ?_
      refine wpAnyH_take (i := 2) (v := .pointer (some ⟨b, 0, none⟩)) rfl (by kernel_rfl) (by kernel_rfl) (by kernel_rfl) (fun _ _ _ h => h) (.inl ⟨rfl, fun w' _ => by simp [go_sem]⟩) c0 ?_
      refine wpAnyH_take (i := 3) (v := .pointer (some ⟨d, 0, none⟩)) rfl (by kernel_rfl) (by kernel_rfl) (by kernel_rfl) (fun _ _ _ h => h) (.inl ⟨rfl, fun w' hw => by simp [go_sem, hw]⟩) c0 ?_
      refine wpAnyH_take (i := 4) (v := .int .i64 k) rfl (by kernel_rfl) (by kernel_rfl) (by kernel_rfl) (fun _ _ _ h => h) (.inl ⟨rfl, fun w' _ => by simp [go_sem]⟩) c0 ?_
      refine wpAnyH_all (rs := [5]) (by kernel_rfl) (by simp) fun j hj => ?_
      obtain rfl : j = 5 := by simpa using hj
      refine wpOp_go rfl rfl ?_
      unfold Oper.wp
      simp [go_sem]
      refine cF.mono ?_
      rintro z w3 ⟨rfl, hw⟩
      rw [hw]
      clear hw cF
      refine ⟨c0, ?_⟩
      refine wpAnyH_all (rs := [6]) (by kernel_rfl) (by simp) fun j hj => ?_
      obtain rfl : j = 6 := by simpa using hj
      refine wpOp_go rfl rfl ?_
      unfold Oper.wp
      simp [go_sem]
      refine cR.mono ?_
      rintro z w4 ⟨rfl, hp4⟩
      obtain ⟨mb4, hJ4, hf4, hk4⟩ := HJd.out.po hp4
      have hc04 := (bc_of hJ4.bk.blk).c0
      refine ⟨hc04, ?_⟩
      refine wpAnyH_take (i := 7) (v := evv (tcd Lk e ck (shF k))) rfl (by kernel_rfl) (by kernel_rfl) (by kernel_rfl) (fun _ _ _ h => h) (.inl ⟨rfl, fun w' _ => by simp [go_sem]⟩) hc04 ?_
      refine wpAnyH_done (by kernel_rfl) ?_ _
      have hkp4 : Kp (fun k => BX b pm ns k ∨ DX d mb k) w w4 := (Hkp.out.t (Kp.of (X := fun k => BX b pm ns k ∨ DX d mb k) ((Below.refl wr.heap.size wr).drew))).trans hk4 fun i hi hx => by
        rcases hx with hx | hx
        · exact .inl (.inl hx)
        · exact .inr (fr_dx Hf.out hi hx)
      have hf04 : Fr w mb mb4 := Hf.out.trans hf4 Hkp.out.size
      have Hkp4 := Lib.hid hkp4
      have Hf4 := Lib.hid hf04
      clear hkp4 hf04 hk4 hf4 hp4 cR hc04 c0 HJd Hkp Hf
      have hcs : (tcd Lk e ck (shF k) = 14 ∧ rL Lk e ck (shF k) = Lk ∧ tc Lk e ck (shF k) = ck ∧ pwr e ck = false) ∨ tcd Lk e ck (shF k) = 7 ∨ tcd Lk e ck (shF k) = 0 := by
        unfold tcd rL tc
        cases hz : (lkL (shF k) Lk).isSome with
        | false => exact .inr (.inl (by simp))
        | true =>
          cases hq : pwr e ck with
          | false => exact .inl (by rw [chg_no hq]; simp)
          | true => exact .inr (.inr (by simp))
      have hcr : tcd Lk e ck (shF k) = 7 ∨ tcd Lk e ck (shF k) = 0 → Rd e L3 c3 k := fun hz => by
        unfold Rd
        rw [← HLk.out, ← Hck.out]
        unfold tcd at hz
        cases hy : (lkL (shF k) Lk).isSome with
        | false => exact .inr rfl
        | true =>
          cases hq : pwr e ck with
          | false => rw [hy, hq] at hz; simp at hz
          | true => exact .inl rfl
      rcases hcs with ⟨t1, t2, t3, t4⟩ | hcs
      · rw [t2, t3] at hJ4
        rw [t1, show evv 14 = .iface 33 (.int .i64 14) from rfl]
        have cF := fallj (.iface 33 (.int .i64 14)) hJ4
        have HT4 := Lib.hid t4
        have hne := neq14
        clear t1 t2 t3 t4 hJ4 HTJ hcr
        go_wp2_with fail
        refine cF.mono ?_
        rintro z w5 ⟨rfl, hJ5, hk5⟩
        have hkp5 : Kp (fun k => BX b pm ns k ∨ DX d mb k) w w5 := Hkp4.out.trans hk5 fun i hi hx => by
          rcases hx with hx | hx
          · exact .inl (.inl hx)
          · exact .inr (fr_dx Hf4.out hi hx)
        have hTJ5 : TJ w b d pm ap ns true A (tN N k) mb Lk e ck w5 := ⟨⟨mb4, hJ5, Hf4.out⟩, hkp5, hap⟩
        have hTe : Tf w b d pm ns A N mb L3 e c3 (.returned (.iface 33 (.int .i64 14))) w5 := ⟨k, hk, by rw [if_neg (by omega)]; rfl, fun _ => by rw [← Hck.out]; exact HT4.out, by
          rw [decide_eq_true hlt, ← HLk.out, ← Hck.out]; exact hTJ5.sx, HRd.out⟩
        clear cF hJ5 hk5 hkp5 hTJ5
        go_wp2
        go_ret
        rw [HL3.out, HC3.out]
        exact hTe
      · obtain ⟨w5, hrun, hm5, hk5⟩ := clear_run (hJ4.bk.ln k hlt)
        have cn4 := (bc_of hJ4.bk.blk).cn k hlt
        have hJ5 := hJ4.clr hlt hm5 hk5
        rw [upd_tN] at hJ5
        have hkp5 : Kp (fun k => BX b pm ns k ∨ DX d mb k) w w5 := Hkp4.out.trans hk5 fun i hi hx => .inl (.inr (.inr ⟨k, hlt, hx⟩))
        have hTJ5 : TJ w b d pm ap ns false A (tN N (k + 1)) mb (td e L3 c3 (k + 1)).1 e (td e L3 c3 (k + 1)).2 w5 := ⟨⟨mb4, by rw [Htd.out]; exact hJ5, Hf4.out⟩, hkp5, hap⟩
        have H5 := Lib.hid hTJ5
        have HR5 : Hid (∀ i, i < k + 1 → Rd e L3 c3 i) := fun i hi => by
          rcases Nat.lt_or_ge i k with h | h
          · exact HRd.out i h
          · obtain rfl : i = k := by omega
            exact hcr hcs
        clear hcr
        have hlt4 := (bc_of hJ4.bk.blk).lt
        clear hkp5 hTJ5 hJ5 hm5 hk5 hJ4 HTJ
        rcases hcs with t1 | t1
        · rw [t1, show evv 7 = .iface 33 (.int .i64 7) from rfl]
          have hne := neq7
          clear t1
          go_wp2
          exact ⟨⟨k + 1, hlt, by go_num, H5.out, HR5.out⟩, by simp [intOf]; omega⟩
        · rw [t1, show evv 0 = .nilIface from rfl]
          clear t1
          go_wp2
          exact ⟨⟨k + 1, hlt, by go_num, H5.out, HR5.out⟩, by simp [intOf]; omega⟩
    · obtain rfl : k = 37 := by omega
      have hTe : Tf w b d pm ns A N mb L3 e c3 (.returned .nilIface) wr := ⟨37, Nat.le_refl _, rfl, fun h => absurd h (Nat.lt_irrefl _), hT.sx, HRd.out⟩
      clear hT
      go_wp2
      go_ret
      rw [HL3.out, HC3.out]
      exact hTe
end Go.Proofs.YteiobnkaadedkaaGreatDoor
