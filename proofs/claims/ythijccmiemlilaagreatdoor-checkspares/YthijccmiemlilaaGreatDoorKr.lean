/- The walk of the law's known. -/
import Derived.Test.YthijccmiemlilaaGreatDoorKq
namespace Go.Proofs.YthijccmiemlilaaGreatDoor
open Go.RowKit Go.Sort

/-- What known tells. -/
def KnT (w : World) (l : List Kn) (e : Ending) (w' : World) : Prop := ∃ S y, e = .returned (.tuple #[S, .bool y]) ∧ Below w.heap.size w w' ∧ (y = true → Ks w' S l ∧ l.length ≤ 20 ∧ ∀ k ∈ l, Sok k.p)
set_option maxHeartbeats 1600000 in
set_option maxRecDepth 100000 in
theorem known_long (A : Option Addr) (c : Nat) (l : List Kn) (w : World) (h : 20 < l.length) : Calls Tryz.prog 6 #[.slice A l.length c] w fun e w' => KnT w l e w' := by
  go_enter Tryz.func6, Tryz.ntmps6
  go_wp2_with fail
  go_ret2
  exact ⟨_, _, rfl, Below.refl _ _, fun h => (by cases h)⟩
set_option maxHeartbeats 1600000 in
set_option maxRecDepth 100000 in
theorem known_nil (A : Option Addr) (c : Nat) (w : World) : Calls Tryz.prog 6 #[.slice A 0 c] w fun e w' => KnT w [] e w' := by
  go_enter Tryz.func6, Tryz.ntmps6
  go_wp2
  refine wp_loop_rounds 1 ?_
  rw [rounds_succ]
  go_wp2
  go_ret2
  exact ⟨_, _, rfl, Below.refl _ _, fun _ => ⟨⟨.inl ⟨rfl, _, _, rfl⟩⟩, by simp, fun k hk => (by cases hk)⟩⟩
set_option maxHeartbeats 6400000 in
set_option maxRecDepth 100000 in
theorem known_row (b o c : Nat) (l : List Kn) (w : World) (h : Kl w b o l) (hn : l.length ≤ 20) : Calls Tryz.prog 6 #[.slice (some ⟨b, o, none⟩) l.length c] w fun e w' => KnT w l e w' := by
  have HF := Lib.hid h
  clear h
  go_enter Tryz.func6, Tryz.ntmps6
  go_wp2_with fail
  go_loopw [2, 4] (fun S i W => ∃ (k : Nat) (r : List (Kn × V9)), k ≤ l.length ∧ i = .int .i64 k ∧ Hid (KW w W S (l.take k) r) ∧ Hid (∀ j (hj : j < l.length), j < k → Sok l[j].p)) (fun _ i _ => l.length - (intOf i).toNat)
  case atStart => exact ⟨0, [], Nat.zero_le _, rfl, ⟨rfl, World.ownsRow_nil _ _ _ _, fun x hx => (by cases hx), Below.refl _ _⟩, fun j _ h => absurd h (Nat.not_lt_zero _)⟩
  case round =>
    obtain ⟨wo, rfl⟩ : ∃ wo, wo = wr := ⟨_, rfl⟩
    obtain ⟨uS, rfl⟩ : ∃ uS, uS = u2 := ⟨_, rfl⟩
    obtain ⟨k, r, hk, rfl, HOW, HSo⟩ := hrel
    have hW := HOW.out.b
    by_cases hlt : k < l.length
    · obtain ⟨vW, vT, vD, vA, vG, vB, vR, vP, vS, vL, vF, kc0, kz⟩ := HF.out.c k hlt
      have kc : Kc wo b (o + k * 20) l[k] vW vT vD vA vG vB vR vP vS vL vF := kc0.on hW
      obtain ⟨⟨a1, a2, a3, rfl⟩, ⟨b1, b2, b3, rfl⟩, ⟨c1, c2, c3, rfl⟩, ⟨d1, d2, d3, rfl⟩, ⟨e1, e2, e3, rfl⟩, ⟨f1, f2, f3, rfl⟩, ⟨g1, g2, g3, rfl⟩, ⟨i1, i2, i3, rfl⟩, ⟨j1, j2, j3, rfl⟩, ⟨l1, l2, l3, rfl⟩, ⟨m1, m2, m3, rfl⟩⟩ := kz.k11
      obtain ⟨tw, htw⟩ := kz.w
      obtain ⟨tt, htt⟩ := kz.t
      have hra := kc.range
      have HZ := Lib.hid kz
      have HTW := Lib.hid htw
      have HTT := Lib.hid htt
      have HT : Hid (l.take (k + 1) = l.take k ++ [l[k]]) := List.take_succ_eq_append_getElem hlt
      have HNS : Hid (Sok l[k].p → ∀ j (hj : j < l.length), j < k + 1 → Sok l[j].p) := fun h j hj hjk => by
        by_cases e : j = k
        · subst e; exact h
        · exact HSo.out j hj (by omega)
      have hlen : (l.take k).length ≤ 20 := by simp; omega
      clear kc kc0 kz htw htt
      generalize l[k] = x at hra HZ HT HNS
      have hb1 := b1c wo (kno 71 x (.slice a1 a2 a3) (.slice b1 b2 b3) (.slice c1 c2 c3) (.slice d1 d2 d3) (.slice e1 e2 e3) (.slice f1 f2 f3) (.slice g1 g2 g3) (.slice i1 i2 i3) (.slice j1 j2 j3) (.slice l1 l2 l3) (.slice m1 m2 m3))
      have HK2 := Lib.hid (k20_new wo 71 x (.slice a1 a2 a3) (.slice b1 b2 b3) (.slice c1 c2 c3) (.slice d1 d2 d3) (.slice e1 e2 e3) (.slice f1 f2 f3) (.slice g1 g2 g3) (.slice i1 i2 i3) (.slice j1 j2 j3) (.slice l1 l2 l3) (.slice m1 m2 m3))
      have HO1 := Lib.hid (HOW.out.on hb1)
      have hW1 := bon hW hb1
      clear HOW HSo
      go_upto_region 6 with fail
      refine wp_region_lit ?_
      refine wpList_plain rfl fun K hK => ?_
      unfold Oper.wp
      simp [go_sem]
      refine hK _ _ ?_
      clear hK K
      refine wpList_plain rfl fun K hK => ?_
      unfold Oper.wp
      simp [go_sem]
      refine hK _ _ ?_
      clear hK K
      refine wpList_plain rfl fun K hK => ?_
      unfold Oper.wp
      simp [go_sem, hlt]
      refine hK _ _ ?_
      clear hK K
      refine wpList_load_mid rfl 71 _ rfl b (o + k * 20) rfl _ _ hra Tryz.underlying71 rfl (by kernel_rfl) ?_
      refine wpList_plain rfl fun K hK => ?_
      unfold Oper.wp
      simp [go_sem]
      refine hK _ _ ?_
      clear hK K
      refine wpList_store_new rfl 71 _ _ rfl _ _ rfl rfl (by kernel_rfl) (by rfl) (by first | rfl | simp [Value.oneCell']) ?_
      go_frame
      generalize wo.alloc (kno 71 x (.slice a1 a2 a3) (.slice b1 b2 b3) (.slice c1 c2 c3) (.slice d1 d2 d3) (.slice e1 e2 e3) (.slice f1 f2 f3) (.slice g1 g2 g3) (.slice i1 i2 i3) (.slice j1 j2 j3) (.slice l1 l2 l3) (.slice m1 m2 m3)) = wE at HK2 HO1 hW1 hb1 ⊢
      clear hra
      go_upto_region 7 with fail
      refine wp_region_lit ?_
      refine wpList_plain rfl fun K hK => ?_
      unfold Oper.wp
      simp [go_sem]
      refine hK _ _ ?_
      clear hK K
      refine wpList_load_mid rfl 30 _ rfl wo.heap.size 7 rfl _ _ HK2.out.pack Tryz.underlying30 rfl (by kernel_rfl) ?_
      go_frame
      go_wp2_with fail
      refine (says_any x.p (.slice c1 c2 c3) (.slice d1 d2 d3) (.slice e1 e2 e3) (.slice f1 f2 f3) (.slice g1 g2 g3) (.slice i1 i2 i3) (.slice j1 j2 j3) (.slice l1 l2 l3) (.slice m1 m2 m3) wE (HZ.out.on hW1).z).mono ?_
      rintro e wF ⟨⟨y, rfl, hy⟩, bF⟩
      have HY := Lib.hid hy
      have hWF := bon hW1 bF
      clear hy
      cases y with
      | false =>
        go_wp2_with fail
        go_ret2
        exact ⟨_, _, rfl, hWF, fun h => (by cases h)⟩
      | true =>
        have q1 := (HK2.out.on bF).c1
        have q2 := (HK2.out.on bF).c2
        have q3 := (HK2.out.on bF).c3
        have cS := short_b x.e x.u x.r wF
        generalize (decide (x.u.length ≤ 100) && decide (x.r.length ≤ 100)) = ys at cS
        go_wp2_with fail
        refine cS.mono ?_
        rintro e wG ⟨rfl, bG'⟩
        have bG := bon bF bG'
        have hWG := bon hW1 bG
        clear cS q1 q2 q3 bG' bF hWF
        cases ys with
        | false =>
          go_wp2_with fail
          go_ret2
          exact ⟨_, _, rfl, hWG, fun h => (by cases h)⟩
        | true =>
          have q5 := (HK2.out.on bG).c5
          have cT := texts_any (.slice a1 a2 a3) tw wG (HTW.out.on hWG)
          generalize txs tw = yt at cT
          go_wp2_with fail
          refine cT.mono ?_
          rintro e wH ⟨rfl, bH'⟩
          have bH := bon bG bH'
          have hWH := bon hW1 bH
          clear cT q5 bH' bG hWG
          cases yt with
          | false =>
            go_wp2_with fail
            go_ret2
            exact ⟨_, _, rfl, hWH, fun h => (by cases h)⟩
          | true =>
            have q6 := (HK2.out.on bH).c6
            have cT := texts_any (.slice b1 b2 b3) tt wH (HTT.out.on hWH)
            generalize txs tt = yt at cT
            go_wp2_with fail
            refine cT.mono ?_
            rintro e wI ⟨rfl, bI'⟩
            have bI := bon bH bI'
            have hWI := bon hW1 bI
            clear cT q6 bI' bH hWH
            cases yt with
            | false =>
              go_wp2_with fail
              go_ret2
              exact ⟨_, _, rfl, hWI, fun h => (by cases h)⟩
            | true =>
              have q0 := (HK2.out.on bI).c0
              obtain ⟨st, hst⟩ : ∃ st, x.st = st := ⟨_, rfl⟩
              rw [hst] at q0
              have HST := Lib.hid hst
              clear hst
              by_cases hs0 : st < 0
              · go_wp2_with fail
                go_ret2
                exact ⟨_, _, rfl, hWI, fun h => (by cases h)⟩
              · by_cases hs7 : 7 < st
                · go_wp2_with fail
                  go_ret2
                  exact ⟨_, _, rfl, hWI, fun h => (by cases h)⟩
                · have k7 := (HK2.out.on bI).c7
                  have HKI := Lib.hid (HK2.out.on bI)
                  have HO2 := Lib.hid (HO1.out.on bI)
                  have HS : Hid (Sok x.p) := by first | exact HY.out rfl | exact HY.out trivial
                  clear HK2 HO1 HY bI hW1 hb1
                  go_wp2_with fail
                  go_loopw [2, 6] (fun S i W => ∃ j : Nat, j ≤ k ∧ S = uS ∧ i = .int .i64 j ∧ Below wI.heap.size wI W) (fun _ i _ => k - (intOf i).toNat)
                  case atStart => exact ⟨0, Nat.zero_le _, rfl, rfl, Below.refl _ _⟩
                  case round =>
                    obtain ⟨j, hj, rfl, rfl, hJ⟩ := hrel
                    have hWJ := bon hWI hJ
                    by_cases hjk : j < k
                    · obtain ⟨_, _, _, _, _, _, _, _, _, _, _, kj, _⟩ := (HF.out.on hWJ).c j (by omega)
                      have hjl : j < l.length := by omega
                      have m7 : wr.drew.cell? ⟨b, o + j * 20 + 7, none⟩ = some (.string ⟨l[j].p.o.n.toArray⟩) := kj.c7
                      have m8 : wr.drew.cell? ⟨wo.heap.size, 7, none⟩ = some (.string ⟨x.p.o.n.toArray⟩) := (HKI.out.on hJ).c7
                      have hJd := hJ.drew
                      have hWd := hWJ.drew
                      clear kj k7
                      cases hq : (l[j].p.o.n == x.p.o.n) with
                      | true =>
                        generalize l[j] = xj at m7 hq
                        go_wp2_with fail
                        go_region
                        all_goals go_wp2_with fail
                        all_goals go_ret2
                        all_goals exact ⟨_, _, rfl, hWd, fun h => (by cases h)⟩
                      | false =>
                        generalize l[j] = xj at m7 hq
                        go_wp2_with fail
                        go_region
                        all_goals go_wp2_with fail
                        all_goals exact ⟨⟨j + 1, hjk, rfl, by go_num, hJd⟩, by simp [intOf]; omega⟩
                    · have q0' := (HKI.out.on hJ).c0
                      rw [HST.out] at q0'
                      have q1 := (HKI.out.on hJ).c1
                      have q2 := (HKI.out.on hJ).c2
                      have q3 := (HKI.out.on hJ).c3
                      have q4 := (HKI.out.on hJ).c4
                      have HKJ := Lib.hid (HKI.out.on hJ)
                      have HO3 := Lib.hid (HO2.out.on hJ)
                      have hr : r.length ≤ 1000 := by have := congrArg List.length HO3.out.m; simp at this; omega
                      have hsz := HO3.out.b.size
                      clear q0 k7
                      generalize wr = wK at *
                      go_upto_region 14 with fail
                      refine wp_region_lit ?_
                      refine wpList_plain rfl fun K hK => ?_
                      unfold Oper.wp
                      simp [go_sem]
                      refine hK _ _ ?_
                      clear hK K
                      refine wpList_plain rfl fun K hK => ?_
                      unfold Oper.wp
                      simp [go_sem]
                      refine hK _ _ ?_
                      clear hK K
                      refine wpList_plain rfl fun K hK => ?_
                      unfold Oper.wp
                      simp [go_sem]
                      refine hK _ _ ?_
                      clear hK K
                      refine wpList_plain rfl fun K hK => ?_
                      unfold Oper.wp
                      simp [go_sem, q0']
                      refine hK _ _ ?_
                      clear hK K
                      refine wpList_plain rfl fun K hK => ?_
                      unfold Oper.wp
                      simp [go_sem]
                      refine hK _ _ ?_
                      clear hK K
                      refine wpList_plain rfl fun K hK => ?_
                      unfold Oper.wp
                      simp [go_sem]
                      refine hK _ _ ?_
                      clear hK K
                      refine wpList_plain rfl fun K hK => ?_
                      unfold Oper.wp
                      simp [go_sem, q1, q2, q3]
                      refine hK _ _ ?_
                      clear hK K
                      refine wpList_plain rfl fun K hK => ?_
                      unfold Oper.wp
                      simp [go_sem]
                      refine hK _ _ ?_
                      clear hK K
                      refine wpList_plain rfl fun K hK => ?_
                      unfold Oper.wp
                      simp [go_sem]
                      refine hK _ _ ?_
                      clear hK K
                      refine wpList_plain rfl fun K hK => ?_
                      unfold Oper.wp
                      simp [go_sem, q4]
                      refine hK _ _ ?_
                      clear hK K
                      refine wpList_plain rfl fun K hK => ?_
                      unfold Oper.wp
                      simp [go_sem]
                      refine hK _ _ ?_
                      clear hK K
                      refine wpList_plain rfl fun K hK => ?_
                      unfold Oper.wp
                      simp [go_sem]
                      refine hK _ _ ?_
                      clear hK K
                      refine wpList_load_mid rfl 30 _ rfl wo.heap.size 7 rfl _ _ HKJ.out.pack Tryz.underlying30 rfl (by kernel_rfl) ?_
                      go_frame
                      rw [← HST.out]
                      go_wp2_with (first | (at_builtin; refine wpList_apG Tryz.underlying32 info60 (by decide) (by decide) (kn20 (x, ⟨.slice c1 c2 c3, .slice d1 d2 d3, .slice e1 e2 e3, .slice f1 f2 f3, .slice g1 g2 g3, .slice i1 i2 i3, .slice j1 j2 j3, .slice l1 l2 l3, .slice m1 m2 m3⟩)) rfl (by intro u hu; simp only [List.mem_cons, List.not_mem_nil, or_false] at hu; rcases hu with rfl | rfl | rfl | rfl | rfl | rfl | rfl | rfl | rfl | rfl | rfl | rfl | rfl | rfl | rfl | rfl | rfl | rfl | rfl | rfl <;> rfl) HO3.out.o (by omega) hsz rfl _ _ rfl rfl _ rfl rfl ?_; intro g9 c9 w9 hR9 hB9; have HB9 := Lib.hid (hB9 _ (Nat.le_refl _)); have HR9 := Lib.hid hR9; clear hR9 hB9) | fail)
                      refine ⟨⟨k + 1, r ++ [(x, ⟨.slice c1 c2 c3, .slice d1 d2 d3, .slice e1 e2 e3, .slice f1 f2 f3, .slice g1 g2 g3, .slice i1 i2 i3, .slice j1 j2 j3, .slice l1 l2 l3, .slice m1 m2 m3⟩)], hlt, by go_num, ⟨?_, ?_, ?_, ?_⟩, HNS.out HS.out⟩, by simp [intOf]; omega⟩
                      · rw [HT.out, List.map_append, HO3.out.m]; rfl
                      · rw [List.length_append, List.flatMap_append]; exact HR9.out
                      · intro y hy
                        rw [List.mem_append] at hy
                        rcases hy with hy | hy
                        · exact HO3.out.t y hy
                        · rw [List.mem_singleton.1 hy]; exact HZ.out.z
                      · exact HO3.out.b.trans HB9.out
    · have hke : k = l.length := by omega
      subst hke
      have HK : Hid (KW w wo uS l r) := by have h := HOW.out; rw [List.take_length] at h; exact h
      obtain ⟨U1, U2, hU⟩ := HK.out.ks.sl
      have HKs := Lib.hid HK.out.ks
      subst hU
      clear HOW HK
      go_wp2_with fail
      go_ret2
      exact ⟨_, _, rfl, hW, fun _ => ⟨HKs.out, hn, fun y hy => (by obtain ⟨j, hj, rfl⟩ := List.getElem_of_mem hy; exact HSo.out j hj hj)⟩⟩
end Go.Proofs.YthijccmiemlilaaGreatDoor
