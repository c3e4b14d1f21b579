/- The law ShelfOwns. -/
import Derived.Test.YtlldfmnoidndmaaGreatDoorQm
import Derived.Deep.CutRange
import Derived.Deep.CutBlock
namespace Go.Proofs.YtlldfmnoidndmaaGreatDoor.Dsk
open Go.RowKit Go.Sort Go.Maps

set_option maxRecDepth 100000 in
set_option maxHeartbeats 16000000 in
theorem owns_row (W : World) (vl vd : Value) (l : List Pck) (ds : List Int) (all : Bool) (hl : PR W vl l) (hw : ∀ p ∈ l, Pw p) (hd : IR W vd ds) (hds : ∀ x ∈ ds, I64 x) (hT : Tab W) (hM : MaxN W) : Calls Tryz.prog 4 #[vl, vd, .bool all] W fun x W2 => x = .returned (.bool true) ∧ Below W.heap.size W W2 := by
  obtain ⟨lA, lc, rfl⟩ : ∃ lA lc, vl = .slice lA l.length lc := by
    rcases hl.is with ⟨h, A, c, h1⟩ | ⟨b, o, c, h1, _⟩
    · rw [h]; exact ⟨_, _, h1⟩
    · exact ⟨_, _, h1⟩
  obtain ⟨dA, dc, rfl⟩ : ∃ dA dc, vd = .slice dA ds.length dc := by
    rcases hd.is with ⟨h, A, c, h1⟩ | ⟨b, o, c, h1, _⟩
    · rw [h]; exact ⟨_, _, h1⟩
    · exact ⟨_, _, h1⟩
  have HPR : Hid (∀ V, Below W.heap.size W V → ∀ i (hi : i < l.length), ∃ b o, lA = some ⟨b, o, none⟩ ∧ b < W.heap.size ∧ ∃ vD vA vG vB vR vP vS vL vF, Pc V b (o + i * 13) l[i] vD vA vG vB vR vP vS vL vF ∧ Pz V l[i] vD vA vG vB vR vP vS vL vF ∧ Fz (fun k => k < W.heap.size) V vF l[i].F ∧ Sl (fun k => k < W.heap.size) V vS l[i].S) := fun V hV i hi => by
    rcases hl.is with ⟨h, _⟩ | ⟨b, o, c, h1, _, hb, h2⟩
    · rw [h] at hi; simp at hi
    · cases h1
      obtain ⟨vD, vA, vG, vB, vR, vP, vS, vL, vF, hc, hz⟩ := h2 i hi
      refine ⟨b, o, rfl, hb, vD, vA, vG, vB, vR, vP, vS, vL, vF, hc.on hV, hz.on hV, ⟨(hz.on hV).F, fun b' o' n' c' e1 e2 => ?_⟩, ⟨(hz.on hV).S, fun b' o' n' c' e1 e2 => ?_⟩⟩
      · rcases hz.F.is with ⟨h3, _⟩ | ⟨b3, o3, c3, h3, _, h4⟩
        · exact absurd h3 e2
        · rw [h3] at e1; cases e1; exact h4.lt
      · rcases hz.S.is with ⟨h3, _⟩ | ⟨b3, o3, c3, h3, _, h4⟩
        · exact absurd h3 e2
        · rw [h3] at e1; cases e1; exact h4.lt
  have HIR : Hid (∀ V, Below W.heap.size W V → ∀ i (hi : i < ds.length), ∃ b o, dA = some ⟨b, o, none⟩ ∧ b < V.heap.size ∧ V.cell? ⟨b, o + i, none⟩ = some (.int .i64 ds[i])) := fun V hV i hi => by
    rcases hd.is with ⟨h, _⟩ | ⟨b, o, c, h1, _, hb, h2⟩
    · rw [h] at hi; simp at hi
    · cases h1
      exact ⟨b, o, rfl, Nat.lt_of_lt_of_le hb hV.size, (hV.cell (p := ⟨b, o + i, none⟩) hb).trans (h2 i hi)⟩
  have HW := Lib.hid hw
  have HDS := Lib.hid hds
  have bA := (Below.refl W.heap.size W).alloc (Nat.le_refl _) (.cells #[.bool all] 4)
  have xa := nb0 W (.cells #[.bool all] 4)
  obtain ⟨ba, hba⟩ : ∃ ba, ba = W.heap.size := ⟨_, rfl⟩
  obtain ⟨V0, hV0⟩ : ∃ V0, V0 = W.alloc (.cells #[.bool all] 4) := ⟨_, rfl⟩
  rw [← hV0] at bA xa
  rw [← hba] at xa
  have ca : V0.cell? ⟨ba, 0, none⟩ = some (.bool all) := by simp [World.cell?, xa]
  have HCA := Lib.hid ca
  have HB0 := Lib.hid bA
  have cS := shelved_any V0 (tab_on hT bA) (hM.on bA)
  have HT := Lib.hid hT
  have HM := Lib.hid hM
  by_cases h15 : l.length ≤ 15
  case neg =>
    clear cS hl hd hw hds hT hM bA xa ca
    go_enter Tryz.func4, Tryz.ntmps4
    go_upto_region 1 with fail
    rw [← hV0]
    clear hV0
    go_wp2
    go_ret
    exact ⟨rfl, HB0.out⟩
  by_cases d15 : ds.length ≤ 15
  case neg =>
    clear cS hl hd hw hds hT hM bA xa ca
    go_enter Tryz.func4, Tryz.ntmps4
    go_upto_region 1 with fail
    rw [← hV0]
    clear hV0
    go_wp2
    go_ret
    exact ⟨rfl, HB0.out⟩
  clear hl hd hw hds hT hM bA xa ca
  go_enter Tryz.func4, Tryz.ntmps4
  go_upto_region 1 with fail
  rw [← hV0, ← hba]
  clear hV0
  have hbW : W.heap.size ≤ ba := by omega
  clear hba
  go_wp2_with fail
  refine cS.mono ?_
  rintro x V1 ⟨rfl, b1⟩
  have hB1 := HB0.out.trans (b1.mono HB0.out.size)
  have ca1 := (b1.cell (p := ⟨ba, 0, none⟩) (block_lt_of_cell HCA.out)).trans HCA.out
  have cO := over_any V1
  have HB1 := Lib.hid hB1
  have HCA1 := Lib.hid ca1
  clear cS b1 hB1 ca1 HCA HB0
  go_wp2_with fail
  refine cO.mono ?_
  rintro x V2 ⟨s, rfl, hJ⟩
  obtain ⟨d, hd⟩ : ∃ d, d = V1.heap.size := ⟨_, rfl⟩
  rw [← hd] at hJ
  rw [← hd]
  have hdW : W.heap.size ≤ d := by rw [hd]; exact HB1.out.size
  have HDV := Lib.hid hd
  clear hd
  have HJ := Lib.hid hJ
  clear cO hJ
  go_wp2_with fail
  go_loopw [11] (fun iv Y => ∃ k : Nat, k ≤ l.length ∧ iv = .int .i64 k ∧ Hid (∃ L, Iv L ∧ L.length ≤ 60 * k ∧ SJ V1 s d L (fun j => j < d) Y) ∧ Hid (∀ j (hj : j < l.length), j < k → l[j].o.n.length ≤ 60)) (fun iv _ => l.length - (intOf iv).toNat)
  case atStart => exact ⟨0, Nat.zero_le _, rfl, ⟨[], iv_nil, Nat.zero_le _, HJ.out⟩, fun j _ h => absurd h (Nat.not_lt_zero _)⟩
  case round =>
    clear HJ
    obtain ⟨k, hk, rfl, HK, HN⟩ := hrel
    obtain ⟨L, hI, hLl, hJ⟩ := HK.out
    clear HK
    by_cases hlt : k < l.length
    · have hBY := HB1.out.trans (hJ.bl.mono HB1.out.size)
      obtain ⟨b, o, rfl, hb, vD, vA, vG, vB, vR, vP, vS, vL, vF, hPc, hPz, hFz, hSl⟩ := HPR.out V1 HB1.out k hlt
      have hPw := HW.out _ (List.getElem_mem hlt)
      have HNk : Hid (l[k].o.n.length ≤ 60 → ∀ j (hj : j < l.length), j < k + 1 → l[j].o.n.length ≤ 60) := fun h j hj hjk => by
        by_cases e : j = k
        · subst e; exact h
        · exact HN.out j hj (by omega)
      have HJ := Lib.hid hJ
      have HI := Lib.hid hI
      have HBY := Lib.hid hBY
      generalize hp : l[k] = p at hPc hPz hFz hSl hPw HNk
      have HPE := Lib.hid hp
      have HPc := Lib.hid hPc
      have HPz := Lib.hid hPz
      have HFz := Lib.hid (hFz.more (Z' := fun j => j < d) fun j hj => Nat.lt_of_lt_of_le hj hdW)
      have HSl := Lib.hid (hSl.more (Z' := fun j => j < d) fun j hj => Nat.lt_of_lt_of_le hj hdW)
      clear hp
      have cY := Kep.says_any p vD vA vG vB vR vP vS vL vF wr (hPz.on hJ.bl)
      have hra := pc_range (hPc.on hJ.bl)
      have hbw : b < wr.heap.size := Nat.lt_of_lt_of_le hb hBY.size
      clear hJ hI hBY hPc hPz hFz hSl
      go_upto_region 13 with fail
      refine wp_region_lit ?_
      refine wpList_plain rfl fun K hK => ?_
      unfold Oper.wp
      simp [go_sem]
      refine hK _ _ ?_
      clear hK K
      refine wpList_plain rfl fun K hK => ?_
      unfold Oper.wp
      simp [go_sem]
      refine hK _ _ ?_
      clear hK K
      refine wpList_plain rfl fun K hK => ?_
      unfold Oper.wp
      simp [go_sem, hlt]
      refine hK _ _ ?_
      clear hK K
      refine wpList_load_mid rfl 43 _ rfl b (o + k * 13) rfl _ _ hra Tryz.underlying43 rfl (by kernel_rfl) ?_
      go_frame
      go_wp2_with fail
      refine cY.mono ?_
      rintro x Y1 ⟨⟨y, rfl, hy⟩, b1⟩
      have HY := Lib.hid hy
      have HB2 := Lib.hid b1
      clear cY hy b1 hra
      cases y with
      | false =>
        have HF := Lib.hid (HBY.out.trans (HB2.out.mono HBY.out.size))
        clear HB2 HY
        go_wp2
        go_ret
        exact ⟨rfl, HF.out⟩
      | true =>
        have hSok := HY.out rfl
        have hPg := pg_of hSok hPw
        have hJ1 := HJ.out.up HB2.out
        have hL9 : L.length ≤ 900 := by omega
        have htot := HI.out.tot
        have cT := there_any hJ1 HI.out.gd (by omega) HI.out.dl
        obtain ⟨T, hTT⟩ : ∃ T, T = thr L := ⟨_, rfl⟩
        rw [← hTT] at cT
        have HJ1 := Lib.hid hJ1
        have HTT := Lib.hid hTT
        clear hJ1 hTT HY HB2 HJ
        go_wp2_with fail
        refine cT.mono ?_
        rintro x Y2 ⟨rfl, b2⟩
        have hJ2 := HJ1.out.up b2
        have hra := pc_range (HPc.out.on hJ2.bl)
        have hbw : b < Y2.heap.size := Nat.lt_of_lt_of_le hb (HB1.out.trans (hJ2.bl.mono HB1.out.size)).size
        have hTb : (T == T) = true := beq_self_eq_true _
        have cT2 : ∀ Y, SJ V1 s d L (fun j => j < d) Y → Calls Tryz.prog 24 #[.pointer (some ⟨s, 0, none⟩)] Y fun x W2 => x = .returned (.string ⟨T.toArray⟩) ∧ Below Y.heap.size Y W2 := fun Y hY => by rw [HTT.out]; exact there_any hY HI.out.gd (by omega) HI.out.dl
        have HT2 := Lib.hid cT2
        clear cT cT2 b2
        rcases Bool.eq_false_or_eq_true (aok p) with hok | hok
        case' inr =>
          have cP := put_arg hJ2 p vD vA vG vB vR vP vS vL vF (.slice none 0 0) 22 #[.pointer (some ⟨ba, 0, none⟩)] (HPz.out.on hJ2.bl) hPg (tab_on HT.out (HB1.out.trans (hJ2.bl.mono HB1.out.size))) (HM.out.on (HB1.out.trans (hJ2.bl.mono HB1.out.size))) hok
          clear hJ2 HJ1
          go_upto_region 16 with fail
          refine wp_region_lit ?_
          refine wpList_plain rfl fun K hK => ?_
          unfold Oper.wp
          simp [go_sem]
          refine hK _ _ ?_
          clear hK K
          refine wpList_plain rfl fun K hK => ?_
          unfold Oper.wp
          simp [go_sem]
          refine hK _ _ ?_
          clear hK K
          refine wpList_plain rfl fun K hK => ?_
          unfold Oper.wp
          simp [go_sem]
          refine hK _ _ ?_
          clear hK K
          refine wpList_plain rfl fun K hK => ?_
          unfold Oper.wp
          simp [go_sem, hlt]
          refine hK _ _ ?_
          clear hK K
          refine wpList_load_mid rfl 43 _ rfl b (o + k * 13) rfl _ _ hra Tryz.underlying43 rfl (by kernel_rfl) ?_
          go_frame
          go_wp2_with fail
          refine cP.mono ?_
          rintro x Y3 ⟨rfl, _, hJ3⟩
          have cT3 := HT2.out Y3 hJ3
          have HJ3 := Lib.hid hJ3
          clear cP hJ3 hra HT2
          go_wp2_with fail
          refine cT3.mono ?_
          rintro x Y4 ⟨rfl, b4⟩
          have HF4 : Hid (∃ L, Iv L ∧ L.length ≤ 60 * (k + 1) ∧ SJ V1 s d L (fun j => j < d) Y4) := ⟨L, HI.out, by omega, HJ3.out.up b4⟩
          clear cT3 b4 HJ3
          go_wp2_with fail
          exact ⟨⟨k + 1, hlt, by go_num, HF4, HNk.out hSok.n⟩, by simp [intOf]; omega⟩
        case' inl =>
          have HST : Hid (Clr L p.o.n (fun _ => all) p.F (-1) [] → Stp L p (fun _ => all) (putG L p.o.n p.S p.F [])) := fun hc => put_step HI.out hok hPg hc
          have cP := put_gen hJ2 p vD vA vG vB vR vP vS vL vF (.slice none 0 0) 22 #[.pointer (some ⟨ba, 0, none⟩)] (fun _ => all) [] (HPz.out.on hJ2.bl) hPg (tab_on HT.out (HB1.out.trans (hJ2.bl.mono HB1.out.size))) (HM.out.on (HB1.out.trans (hJ2.bl.mono HB1.out.size))) hok (HFz.out.up hJ2.bl) (HSl.out.up hJ2.bl) ⟨.inl ⟨rfl, _, _, rfl⟩⟩ HI.out.gd (by omega) (by omega) (fun m V _ hV => may_up HCA1.out hJ2.bl m hV)
          clear hJ2 HJ1
          go_upto_region 16 with fail
          refine wp_region_lit ?_
          refine wpList_plain rfl fun K hK => ?_
          unfold Oper.wp
          simp [go_sem]
          refine hK _ _ ?_
          clear hK K
          refine wpList_plain rfl fun K hK => ?_
          unfold Oper.wp
          simp [go_sem]
          refine hK _ _ ?_
          clear hK K
          refine wpList_plain rfl fun K hK => ?_
          unfold Oper.wp
          simp [go_sem]
          refine hK _ _ ?_
          clear hK K
          refine wpList_plain rfl fun K hK => ?_
          unfold Oper.wp
          simp [go_sem, hlt]
          refine hK _ _ ?_
          clear hK K
          refine wpList_load_mid rfl 43 _ rfl b (o + k * 13) rfl _ _ hra Tryz.underlying43 rfl (by kernel_rfl) ?_
          go_frame
          go_wp2_with fail
          refine cP.mono ?_
          intro x Y3 hx3
          clear cP hra
          rcases hx3 with ⟨hcl, rfl, _, hJ3⟩ | ⟨i, m, _, g, rfl, _, _, _, hJ3⟩
          · have hSt := HST.out hcl
            obtain ⟨L2, hL2⟩ : ∃ L2, L2 = putG L p.o.n p.S p.F [] := ⟨_, rfl⟩
            rw [← hL2] at hSt hJ3
            have hL29 : L2.length ≤ 60 * (k + 1) := by have := hSt.ln; omega
            have htot2 := hSt.iv.tot
            have cT3 := there_any hJ3 hSt.iv.gd (by omega) hSt.iv.dl
            obtain ⟨T2, hT2⟩ : ∃ T2, T2 = thr L2 := ⟨_, rfl⟩
            rw [← hT2] at cT3
            have HTh : Hid (∀ Y, SJ V1 s d L2 (fun j => j < d) Y → Calls Tryz.prog 24 #[.pointer (some ⟨s, 0, none⟩)] Y fun x W2 => x = .returned (.string ⟨T2.toArray⟩) ∧ Below Y.heap.size Y W2) := fun Y hY => by rw [hT2]; exact there_any hY hSt.iv.gd (by omega) hSt.iv.dl
            have HSt := Lib.hid hSt
            have HJ3 := Lib.hid hJ3
            have HOK := Lib.hid hok
            clear hSt hJ3 hL2 hT2 hcl HST HT2 hTb
            go_upto_region 19 with fail
            go_wp2_with fail
            refine cT3.mono ?_
            rintro x Y4 ⟨rfl, b4⟩
            have hJ4 := HJ3.out.up b4
            have hra := pc_range (HPc.out.on hJ4.bl)
            have hbw : b < Y4.heap.size := Nat.lt_of_lt_of_le hb (HB1.out.trans (hJ4.bl.mono HB1.out.size)).size
            have cL := laid_any hJ4 p vD vA vG vB vR vP vS vL vF (HPz.out.on hJ4.bl).S (by have := aok_slen HOK.out; omega) (aok_set HOK.out) (HPz.out.on hJ4.bl).F (by have := aok_len HOK.out; omega) (fun f hf => by have := aok_file HOK.out hPg hf; omega) (by have := hSok.n; omega) HSt.out.o HSt.out.d
            have HJ4 := Lib.hid hJ4
            clear cT3 b4 hJ4 HJ3
            go_upto_region 20 with fail
            refine wp_region_lit ?_
            refine wpList_plain rfl fun K hK => ?_
            unfold Oper.wp
            simp [go_sem]
            refine hK _ _ ?_
            clear hK K
            refine wpList_plain rfl fun K hK => ?_
            unfold Oper.wp
            simp [go_sem]
            refine hK _ _ ?_
            clear hK K
            refine wpList_plain rfl fun K hK => ?_
            unfold Oper.wp
            simp [go_sem]
            refine hK _ _ ?_
            clear hK K
            refine wpList_plain rfl fun K hK => ?_
            unfold Oper.wp
            simp [go_sem, hlt]
            refine hK _ _ ?_
            clear hK K
            refine wpList_load_mid rfl 43 _ rfl b (o + k * 13) rfl _ _ hra Tryz.underlying43 rfl (by kernel_rfl) ?_
            go_frame
            go_wp2_with fail
            refine cL.mono ?_
            rintro x Y5 ⟨rfl, b5⟩
            have hJ5 := HJ4.out.up b5
            have hra := pc_range (HPc.out.on hJ5.bl)
            have hbw : b < Y5.heap.size := Nat.lt_of_lt_of_le hb (HB1.out.trans (hJ5.bl.mono HB1.out.size)).size
            have cP2 := put_gen hJ5 p vD vA vG vB vR vP vS vL vF (.slice none 0 0) 22 #[.pointer (some ⟨ba, 0, none⟩)] (fun _ => all) [] (HPz.out.on hJ5.bl) hPg (tab_on HT.out (HB1.out.trans (hJ5.bl.mono HB1.out.size))) (HM.out.on (HB1.out.trans (hJ5.bl.mono HB1.out.size))) HOK.out (HFz.out.up hJ5.bl) (HSl.out.up hJ5.bl) ⟨.inl ⟨rfl, _, _, rfl⟩⟩ HSt.out.iv.gd (by omega) (by omega) (fun m V _ hV => may_up HCA1.out hJ5.bl m hV)
            clear cL b5 hJ5 HJ4
            apply_assumption
            refine wpList_plain rfl fun K hK => ?_
            unfold Oper.wp
            simp [go_sem]
            refine hK _ _ ?_
            clear hK K
            refine wpList_plain rfl fun K hK => ?_
            unfold Oper.wp
            simp [go_sem]
            refine hK _ _ ?_
            clear hK K
            refine BigFrame.wpList_want (by kernel_rfl) fun K hK => ?_
            unfold Oper.wp
            simp [go_sem]
            refine hK _ _ ?_
            clear hK K
            refine BigFrame.wpList_want (by kernel_rfl) fun K hK => ?_
            unfold Oper.wp
            simp [go_sem]
            refine hK _ _ ?_
            clear hK K
            refine BigFrame.wpList_want (by kernel_rfl) fun K hK => ?_
            unfold Oper.wp
            simp [go_sem]
            refine hK _ _ ?_
            clear hK K
            refine BigFrame.wpList_want (by kernel_rfl) fun K hK => ?_
            unfold Oper.wp
            simp [go_sem, hlt]
            refine hK _ _ ?_
            clear hK K
            refine wpList_load_midg (by kernel_rfl) 43 _ rfl b (o + k * 13) rfl _ _ hra Tryz.underlying43 rfl (by kernel_rfl) ?_
            go_frame
            go_wp2_with fail
            refine cP2.mono ?_
            intro x Y6 hx6
            obtain ⟨rfl, hJ6⟩ : x = .returned .nilIface ∧ SJ V1 s d L2 (fun j => j < d) Y6 := by
              rcases hx6 with ⟨_, h1, _, h2⟩ | ⟨i, m, h1, _⟩
              · rw [HSt.out.ag] at h2
                exact ⟨h1, h2⟩
              · exact absurd h1 (HSt.out.fr i m)
            have cT4 := HTh.out Y6 hJ6
            have hTb2 : (T2 == T2) = true := beq_self_eq_true _
            have HJ6 := Lib.hid hJ6
            have HI2 := Lib.hid HSt.out.iv
            clear cP2 hx6 hJ6 hra hbw HTh HSt
            go_wp2_with fail
            refine cT4.mono ?_
            rintro x Y7 ⟨rfl, b7⟩
            have HJ7 := Lib.hid (HJ6.out.up b7)
            clear cT4 b7 HJ6
            go_upto_region 22 with fail
            by_cases hd0 : (0 : Int) < (ds.length : Int)
            case neg =>
              have cA := apart_any HJ7.out HI2.out.gd (by omega) HI2.out.ap
              go_wp2_with fail
              refine cA.mono ?_
              rintro x YZ ⟨rfl, bZ⟩
              have HFZ : Hid (∃ L, Iv L ∧ L.length ≤ 60 * (k + 1) ∧ SJ V1 s d L (fun j => j < d) YZ) := ⟨L2, HI2.out, hL29, HJ7.out.up bZ⟩
              clear cA bZ
              go_wp2_with fail
              exact ⟨⟨k + 1, hlt, by go_num, HFZ, HNk.out hSok.n⟩, by simp [intOf]; omega⟩
            have hdpos : 0 < ds.length := by omega
            have hBY7 := (HB1.out.trans (HJ7.out.bl.mono HB1.out.size))
            obtain ⟨rr, hrr⟩ : ∃ rr, rr = k % ds.length := ⟨_, rfl⟩
            have hrl : rr < ds.length := by rw [hrr]; exact Nat.mod_lt _ hdpos
            obtain ⟨db, dq, rfl, hdb, hdc⟩ := HIR.out Y7 hBY7 rr hrl
            have hdx := HDS.out _ (List.getElem_mem hrl)
            generalize ds[rr] = dx at hdc hdx
            obtain ⟨hx1, hx2⟩ := i64_b hdx
            have cK := pick_fn dx 3 Y7 hx1 hx2 (by omega) (by omega)
            have hkm : (k : Int).tmod (ds.length : Int) = (rr : Int) := by rw [hrr]; rfl
            have hne0 : ¬ ds.length = 0 := by omega
            have HRR := Lib.hid hrr
            clear hBY7 hdx hrr
            go_wp2_with fail
            refine cK.mono ?_
            rintro x Y8 ⟨rfl, hY8⟩
            rw [hY8]
            clear hY8 Y8 cK
            obtain ⟨pz, hpz⟩ : ∃ pz, pz = pkf dx 3 := ⟨_, rfl⟩
            rw [← hpz]
            clear hpz
            by_cases hz0 : pz = 0
            case neg =>
              have hzb : (pz == 0) = false := beq_eq_false_iff_ne.2 hz0
              clear hz0
              have cA := apart_any HJ7.out HI2.out.gd (by omega) HI2.out.ap
              go_wp2_with fail
              refine cA.mono ?_
              rintro x YZ ⟨rfl, bZ⟩
              have HFZ : Hid (∃ L, Iv L ∧ L.length ≤ 60 * (k + 1) ∧ SJ V1 s d L (fun j => j < d) YZ) := ⟨L2, HI2.out, hL29, HJ7.out.up bZ⟩
              clear cA bZ
              go_wp2_with fail
              exact ⟨⟨k + 1, hlt, by go_num, HFZ, HNk.out hSok.n⟩, by simp [intOf]; omega⟩
            have hzb : (pz == 0) = true := beq_iff_eq.2 hz0
            clear hz0
            have hBY7 := (HB1.out.trans (HJ7.out.bl.mono HB1.out.size))
            obtain ⟨r, hr, hpr⟩ := pkf_nat dx (k + 1) (by omega)
            have hrl2 : r < l.length := by omega
            obtain ⟨b', o', hbo, _, w1, w2, w3, w4, w5, w6, w7, w8, w9, hPcr, _, _, _⟩ := HPR.out Y7 hBY7 r hrl2
            cases hbo
            have hnl := HNk.out hSok.n r hrl2 (by omega)
            have c0r := hPcr.c0
            generalize l[r].o.n = nm at c0r hnl
            obtain ⟨yy, hyy⟩ : ∃ yy, yy = (dx.tmod 2 == 0) := ⟨_, rfl⟩
            have bD := (Below.refl Y7.heap.size Y7).drew
            have cK2 := pick_fn dx ((k : Int) + 1) Y7.drew hx1 hx2 (by omega) (by omega)
            rw [show pkf dx ((k : Int) + 1) = (r : Int) from hpr] at cK2
            have hdd := drop_dp HI2.out.sd nm yy
            have cD := drop_gen (HJ7.out.up bD) HI2.out.gd.osm nm (by omega) yy (fun q hq => HI2.out.gd.pts hq) (by omega) (by omega)
            have HI3 := Lib.hid (hdd.iv HI2.out)
            have hL39 : (drL L2 nm yy).length ≤ 60 * (k + 1) := Nat.le_trans hdd.ln hL29
            generalize drL L2 nm yy = L3 at cD HI3 hL39
            have LC : (fun V : World => V.cell? ⟨db, dq + rr, none⟩ = some (.int .i64 dx) ∧ V.cell? ⟨b, o + r * 13, none⟩ = some (.string ⟨nm.toArray⟩)) Y7.drew := ⟨hdc, c0r⟩
            have hzd : db < d ∧ b < d := by
              have h1 := hdW
              refine ⟨?_, by omega⟩
              obtain ⟨b2, o2, hb2, hl2, _⟩ := HIR.out W (Below.refl _ _) rr hrl
              cases hb2
              omega
            have hrr2 : r < l.length := hrl2
            have hwk : IntKind.i64.wrap ((k : Int) + 1) = (k : Int) + 1 := by unfold IntKind.wrap; simp [IntKind.signed, IntKind.bits]; omega
            clear hBY7 hPcr hpr hdd hnl c0r hdc bD
            go_upto_region 23 with fail
            refine wp_region_held (S := fun V => V.cell? ⟨db, dq + rr, none⟩ = some (.int .i64 dx) ∧ V.cell? ⟨b, o + r * 13, none⟩ = some (.string ⟨nm.toArray⟩)) (by kernel_rfl) ?_
            refine take_d (some 106) (i := 0) (v := .pointer (some ⟨s, 0, none⟩)) rfl rfl (by as_aux_lemma => kernel_rfl) (by as_aux_lemma => kernel_rfl) (by as_aux_lemma => kernel_rfl) (fun _ _ _ h => h) (.inl ⟨by kernel_rfl, fun w' hw => by simp [go_sem]⟩) LC ?_
            refine take_d (some 107) (i := 1) (v := .slice (some ⟨b, o, none⟩) l.length lc) rfl rfl (by as_aux_lemma => kernel_rfl) (by as_aux_lemma => kernel_rfl) (by as_aux_lemma => kernel_rfl) (fun _ _ _ h => h) (.inl ⟨by kernel_rfl, fun w' hw => by simp [go_sem]⟩) LC ?_
            refine take_d (some 108) (i := 2) (v := .slice (some ⟨db, dq, none⟩) ds.length dc) rfl rfl (by as_aux_lemma => kernel_rfl) (by as_aux_lemma => kernel_rfl) (by as_aux_lemma => kernel_rfl) (fun _ _ _ h => h) (.inl ⟨by kernel_rfl, fun w' hw => by simp [go_sem]⟩) LC ?_
            refine take_d (some 109) (i := 3) (v := .int .i64 k) rfl rfl (by as_aux_lemma => kernel_rfl) (by as_aux_lemma => kernel_rfl) (by as_aux_lemma => kernel_rfl) (fun _ _ _ h => h) (.inl ⟨by kernel_rfl, fun w' hw => by simp [go_sem]⟩) LC ?_
            refine take_d (some 110) (i := 4) (v := .slice (some ⟨db, dq, none⟩) ds.length dc) rfl rfl (by as_aux_lemma => kernel_rfl) (by as_aux_lemma => kernel_rfl) (by as_aux_lemma => kernel_rfl) (fun _ _ _ h => h) (.inl ⟨by kernel_rfl, fun w' hw => by simp [go_sem]⟩) LC ?_
            refine take_d (some 111) (i := 5) (v := .int .i64 ds.length) rfl rfl (by as_aux_lemma => kernel_rfl) (by as_aux_lemma => kernel_rfl) (by as_aux_lemma => kernel_rfl) (fun _ _ _ h => h) (.inl ⟨by kernel_rfl, fun w' hw => by simp [go_sem]⟩) LC ?_
            refine take_d (some 112) (i := 6) (v := .int .i64 rr) rfl rfl (by as_aux_lemma => kernel_rfl) (by as_aux_lemma => kernel_rfl) (by as_aux_lemma => kernel_rfl) (fun _ _ _ h => h) (.inl ⟨by kernel_rfl, fun w' hw => by simp [go_sem, hne0, hkm]⟩) LC ?_
            refine take_d (some 113) (i := 7) (v := .pointer (some ⟨db, dq + rr, none⟩)) rfl rfl (by as_aux_lemma => kernel_rfl) (by as_aux_lemma => kernel_rfl) (by as_aux_lemma => kernel_rfl) (fun _ _ _ h => h) (.inl ⟨by kernel_rfl, fun w' hw => by simp [go_sem, hrl]⟩) LC ?_
            refine take_d (some 114) (i := 8) (v := .int .i64 dx) rfl rfl (by as_aux_lemma => kernel_rfl) (by as_aux_lemma => kernel_rfl) (by as_aux_lemma => kernel_rfl) (fun _ _ _ h => h) (.inl ⟨by kernel_rfl, fun w' hw => by simp [go_sem, hw.1]⟩) LC ?_
            refine take_d (some 115) (i := 9) (v := .int .i64 k) rfl rfl (by as_aux_lemma => kernel_rfl) (by as_aux_lemma => kernel_rfl) (by as_aux_lemma => kernel_rfl) (fun _ _ _ h => h) (.inl ⟨by kernel_rfl, fun w' hw => by simp [go_sem]⟩) LC ?_
            refine take_d (some 116) (i := 10) (v := .int .i64 ((k : Int) + 1)) rfl rfl (by as_aux_lemma => kernel_rfl) (by as_aux_lemma => kernel_rfl) (by as_aux_lemma => kernel_rfl) (fun _ _ _ h => h) (.inl ⟨by kernel_rfl, fun w' hw => by simp [go_sem, hwk]⟩) LC ?_
            refine take_d (some 121) (i := 15) (v := .slice (some ⟨db, dq, none⟩) ds.length dc) rfl rfl (by as_aux_lemma => kernel_rfl) (by as_aux_lemma => kernel_rfl) (by as_aux_lemma => kernel_rfl) (fun _ _ _ h => h) (.inl ⟨by kernel_rfl, fun w' hw => by simp [go_sem]⟩) LC ?_
            refine take_d (some 122) (i := 16) (v := .int .i64 k) rfl rfl (by as_aux_lemma => kernel_rfl) (by as_aux_lemma => kernel_rfl) (by as_aux_lemma => kernel_rfl) (fun _ _ _ h => h) (.inl ⟨by kernel_rfl, fun w' hw => by simp [go_sem]⟩) LC ?_
            refine take_d (some 123) (i := 17) (v := .slice (some ⟨db, dq, none⟩) ds.length dc) rfl rfl (by as_aux_lemma => kernel_rfl) (by as_aux_lemma => kernel_rfl) (by as_aux_lemma => kernel_rfl) (fun _ _ _ h => h) (.inl ⟨by kernel_rfl, fun w' hw => by simp [go_sem]⟩) LC ?_
            refine take_d (some 124) (i := 18) (v := .int .i64 ds.length) rfl rfl (by as_aux_lemma => kernel_rfl) (by as_aux_lemma => kernel_rfl) (by as_aux_lemma => kernel_rfl) (fun _ _ _ h => h) (.inl ⟨by kernel_rfl, fun w' hw => by simp [go_sem]⟩) LC ?_
            refine take_d (some 125) (i := 19) (v := .int .i64 rr) rfl rfl (by as_aux_lemma => kernel_rfl) (by as_aux_lemma => kernel_rfl) (by as_aux_lemma => kernel_rfl) (fun _ _ _ h => h) (.inl ⟨by kernel_rfl, fun w' hw => by simp [go_sem, hne0, hkm]⟩) LC ?_
            refine take_d (some 126) (i := 20) (v := .pointer (some ⟨db, dq + rr, none⟩)) rfl rfl (by as_aux_lemma => kernel_rfl) (by as_aux_lemma => kernel_rfl) (by as_aux_lemma => kernel_rfl) (fun _ _ _ h => h) (.inl ⟨by kernel_rfl, fun w' hw => by simp [go_sem, hrl]⟩) LC ?_
            refine take_d (some 127) (i := 21) (v := .int .i64 dx) rfl rfl (by as_aux_lemma => kernel_rfl) (by as_aux_lemma => kernel_rfl) (by as_aux_lemma => kernel_rfl) (fun _ _ _ h => h) (.inl ⟨by kernel_rfl, fun w' hw => by simp [go_sem, hw.1]⟩) LC ?_
            refine take_d (some 128) (i := 22) (v := .int .i64 (dx.tmod 2)) rfl rfl (by as_aux_lemma => kernel_rfl) (by as_aux_lemma => kernel_rfl) (by as_aux_lemma => kernel_rfl) (fun _ _ _ h => h) (.inl ⟨by kernel_rfl, fun w' hw => by simp [go_sem]⟩) LC ?_
            refine take_d (some 129) (i := 23) (v := .bool yy) rfl rfl (by as_aux_lemma => kernel_rfl) (by as_aux_lemma => kernel_rfl) (by as_aux_lemma => kernel_rfl) (fun _ _ _ h => h) (.inl ⟨by kernel_rfl, fun w' hw => by simp [go_sem, hyy]⟩) LC ?_
            try simp only [Act.put, List.setIfInBounds_toArray, List.set_cons_succ, List.set_cons_zero]
            refine wpAnyH_all (rs := [11]) (by as_aux_lemma => kernel_rfl) (by simp) fun j' hj' => ?_
            obtain rfl : j' = 11 := by simpa using hj'
            refine wpOp_want rfl (by kernel_rfl) ?_
            unfold Oper.wp
            simp [go_sem]
            refine cK2.mono ?_
            rintro z YK ⟨rfl, hYK⟩
            rw [hYK]
            clear hYK YK cK2
            refine ⟨LC, ?_⟩
            refine take_d (some 118) (i := 12) (v := .pointer (some ⟨b, o + r * 13, none⟩)) rfl rfl (by as_aux_lemma => kernel_rfl) (by as_aux_lemma => kernel_rfl) (by as_aux_lemma => kernel_rfl) (fun _ _ _ h => h) (.inl ⟨by kernel_rfl, fun w' hw => by simp [go_sem, hrr2]⟩) LC ?_
            refine take_d (some 119) (i := 13) (v := .pointer (some ⟨b, o + r * 13, none⟩)) rfl rfl (by as_aux_lemma => kernel_rfl) (by as_aux_lemma => kernel_rfl) (by as_aux_lemma => kernel_rfl) (fun _ _ _ h => h) (.inl ⟨by kernel_rfl, fun w' hw => by simp [go_sem]⟩) LC ?_
            refine take_d (some 120) (i := 14) (v := .string ⟨nm.toArray⟩) rfl rfl (by as_aux_lemma => kernel_rfl) (by as_aux_lemma => kernel_rfl) (by as_aux_lemma => kernel_rfl) (fun _ _ _ h => h) (.inl ⟨by kernel_rfl, fun w' hw => by simp [go_sem, hw.2]⟩) LC ?_
            try simp only [Act.put, List.setIfInBounds_toArray, List.set_cons_succ, List.set_cons_zero]
            refine wpAnyH_all (rs := [24]) (by as_aux_lemma => kernel_rfl) (by simp) fun j' hj' => ?_
            obtain rfl : j' = 24 := by simpa using hj'
            refine wpOp_want rfl (by kernel_rfl) ?_
            unfold Oper.wp
            simp [go_sem]
            refine cD.mono ?_
            rintro z Y9 ⟨rfl, hz9, hJ9⟩
            replace LC : (fun V : World => V.cell? ⟨db, dq + rr, none⟩ = some (.int .i64 dx) ∧ V.cell? ⟨b, o + r * 13, none⟩ = some (.string ⟨nm.toArray⟩)) Y9 := ⟨(hz9.cell hzd.1).trans LC.1, (hz9.cell hzd.2).trans LC.2⟩
            refine ⟨LC, ?_⟩
            refine take_d (some 131) (i := 25) (v := .bool false) rfl rfl (by as_aux_lemma => kernel_rfl) (by as_aux_lemma => kernel_rfl) (by as_aux_lemma => kernel_rfl) (fun _ _ _ h => h) (.inl ⟨by kernel_rfl, fun w' hw => by simp [go_sem]⟩) LC ?_
            simp only [Act.put, List.setIfInBounds_toArray, List.set_cons_succ, List.set_cons_zero]
            refine wpAnyH_done (by as_aux_lemma => kernel_rfl) ?_ _
            have HJ9 := Lib.hid hJ9
            clear LC cD hz9 hJ9 hyy hzd hwk hrr2 hkm hx1 hx2 HJ7
            have cA := apart_any HJ9.out HI3.out.gd (by omega) HI3.out.ap
            go_wp2_with fail
            refine cA.mono ?_
            rintro x YZ ⟨rfl, bZ⟩
            have HFZ : Hid (∃ L, Iv L ∧ L.length ≤ 60 * (k + 1) ∧ SJ V1 s d L (fun j => j < d) YZ) := ⟨L3, HI3.out, hL39, HJ9.out.up bZ⟩
            clear cA bZ
            go_wp2_with fail
            exact ⟨⟨k + 1, hlt, by go_num, HFZ, HNk.out hSok.n⟩, by simp [intOf]; omega⟩
          · have cT3 := HT2.out Y3 hJ3
            have HJ3 := Lib.hid hJ3
            clear hJ3 HT2
            go_wp2_with fail
            refine cT3.mono ?_
            rintro x Y4 ⟨rfl, b4⟩
            have HF4 : Hid (∃ L, Iv L ∧ L.length ≤ 60 * (k + 1) ∧ SJ V1 s d L (fun j => j < d) Y4) := ⟨L, HI.out, by omega, HJ3.out.up b4⟩
            clear cT3 b4 HJ3
            go_wp2_with fail
            exact ⟨⟨k + 1, hlt, by go_num, HF4, HNk.out hSok.n⟩, by simp [intOf]; omega⟩
    · have hL9 : L.length ≤ 900 := by omega
      have cO := owners_gen hJ (by omega) hI.gd.osm
      have HOS : Hid (∀ x ∈ ows L, x.length ≤ 1000) := fun x hx => ows_short hI.sd.s hI.gd.osm hx
      have HOM : Hid (∀ n, pts L n ≠ [] → n ∈ ows L) := fun n hn => (ows_mem hI.sd.s).2 hn
      have hol : (ows L).length ≤ 4900 := Nat.le_trans (ows_len L) (by omega)
      have HI := Lib.hid hI
      have HJ := Lib.hid hJ
      generalize ows L = os at cO HOS HOM hol
      clear hI hJ HN
      go_wp2_with fail
      refine cO.mono ?_
      rintro x V5 ⟨v, rfl, hTx, b5⟩
      obtain ⟨A, c, rfl, hTr⟩ := tr_tx hTx
      have HTr := Lib.hid hTr
      have HJ5 := Lib.hid (HJ.out.add b5)
      obtain ⟨g5, hg5⟩ : ∃ g5, g5 = wr.heap.size := ⟨_, rfl⟩
      rw [← hg5] at HJ5 HTr
      clear cO hTx hTr b5 HJ hg5
      go_wp2_with fail
      go_loopw [138] (fun iv Y => ∃ j : Nat, j ≤ os.length ∧ iv = .int .i64 j ∧ Hid (∃ L', Iv L' ∧ L'.length ≤ 900 ∧ SJ V1 s d L' (Zu (fun j => j < d) g5 V5.heap.size) Y ∧ Gone L' (os.take j) ∧ (∀ n, pts L' n ≠ [] → n ∈ os)) ∧ Hid (Zn (Zu (fun j => j < d) g5 V5.heap.size) V5 Y)) (fun iv _ => os.length - (intOf iv).toNat)
      case atStart => exact ⟨0, Nat.zero_le _, rfl, ⟨L, HI.out, hL9, HJ5.out, fun n hn => (by simp at hn), HOM.out⟩, Zn.refl _ _⟩
      case round =>
        clear HJ5 HI HOM hL9 hLl
        obtain ⟨j, hj, rfl, HK, HZ⟩ := hrel
        obtain ⟨L', hI, hL9, hJ, hG, hO⟩ := HK.out
        clear HK
        by_cases hjt : j < os.length
        · obtain ⟨og, rfl, hog1, hog2, hogc⟩ := HTr.out.c j hjt
          have hoz : Zu (fun j => j < d) g5 V5.heap.size og := .inr ⟨hog1, hog2⟩
          have c0 := (HZ.out.cell hoz (i := j)).trans hogc
          have hogr : og < wr.heap.size := hJ.hs og hoz
          have hnl := HOS.out _ (List.getElem_mem hjt)
          have htot := hI.tot
          have HTK : Hid (os.take (j + 1) = os.take j ++ [os[j]]) := List.take_succ_eq_append_getElem hjt
          generalize os[j] = n at c0 hnl HTK hogc
          have hdd := drop_dp hI.sd n true
          have cD := drop_gen hJ hI.gd.osm n hnl true (fun q hq => hI.gd.pts hq) (by omega) (by omega)
          have HIn : Hid (Iv (drL L' n true) ∧ (drL L' n true).length ≤ 900 ∧ Gone (drL L' n true) (os.take (j + 1)) ∧ ∀ m, pts (drL L' n true) m ≠ [] → m ∈ os) := ⟨hdd.iv hI, Nat.le_trans hdd.ln hL9, by rw [HTK.out]; exact hdd.gone hI.sd.s hG, fun m hm => hO m fun e => hm (by
            cases hp : pts (drL L' n true) m with
            | nil => rfl
            | cons q t =>
              have hq : q ∈ pts (drL L' n true) m := by rw [hp]; exact List.mem_cons_self
              have := Dp.pts hI.sd.s hdd hq
              rw [e] at this
              cases this)⟩
          generalize drL L' n true = L'' at cD HIn
          clear hI hG hO hdd hogc HTK hJ
          go_wp2_with fail
          refine cD.mono ?_
          rintro x Y6 ⟨rfl, hz6, hJ6⟩
          have HF6 : Hid (∃ L', Iv L' ∧ L'.length ≤ 900 ∧ SJ V1 s d L' (Zu (fun j => j < d) g5 V5.heap.size) Y6 ∧ Gone L' (os.take (j + 1)) ∧ (∀ n, pts L' n ≠ [] → n ∈ os)) := ⟨L'', HIn.out.1, HIn.out.2.1, hJ6, HIn.out.2.2.1, HIn.out.2.2.2⟩
          have HZ6 := Lib.hid (HZ.out.trans hz6)
          clear cD hz6 hJ6 HIn c0 HZ
          go_wp2_with fail
          exact ⟨⟨j + 1, hjt, by go_num, HF6, HZ6⟩, by simp [intOf]; omega⟩
        · have hje : j = os.length := by omega
          have hL0 : L' = [] := by
            rw [hje, List.take_length] at hG
            exact all_gone hI hG hO
          subst hL0
          obtain ⟨mb, hX⟩ := hJ
          have cL := list_any d mb [] false 0 false 0 wr hX.pd (by simp)
          have cT : ∀ Y, Below wr.heap.size wr Y → Calls Tryz.prog 24 #[.pointer (some ⟨s, 0, none⟩)] Y fun x W2 => x = .returned (.string ⟨#[]⟩) ∧ Below Y.heap.size Y W2 := fun Y hY => there_any (Z := Zu (fun j => j < d) g5 V5.heap.size) (⟨mb, hX.up hY⟩ : SJ V1 s d [] _ Y) iv_nil.gd (by simp) iv_nil.dl
          have HCT := Lib.hid cT
          have HBX := Lib.hid (HB1.out.trans (hX.bl.mono HB1.out.size))
          clear hI hG hO hje hX cT HZ HTr HOS
          go_wp2_with fail
          refine cL.mono ?_
          rintro x Y6 ⟨v, rfl, hTx, b6⟩
          obtain ⟨A6, c6, rfl⟩ : ∃ A c, v = .slice A 0 c := by
            rcases hTx.is with ⟨_, h⟩ | ⟨b, c, h, _, _⟩
            · exact ⟨_, _, h⟩
            · exact ⟨_, _, by simpa [nms] using h⟩
          have cT6 := HCT.out Y6 b6
          have HB6 := Lib.hid (HBX.out.trans (b6.mono HBX.out.size))
          clear cL hTx b6 HCT HBX
          go_wp2_with fail
          refine cT6.mono ?_
          rintro x Y7 ⟨rfl, b7⟩
          have HB7 := Lib.hid (HB6.out.trans (b7.mono HB6.out.size))
          clear cT6 b7 HB6
          go_wp2
          go_ret
          exact ⟨rfl, HB7.out⟩
end Go.Proofs.YtlldfmnoidndmaaGreatDoor.Dsk
