/- The walk of Line. -/
import Derived.Test.YthijccmiemlilaaGreatDoorB8
import Derived.Test.YthijccmiemlilaaGreatDoorGh
namespace Go.Proofs.YthijccmiemlilaaGreatDoor
open Go.RowKit Go.Sort

/-- Those that may start, of the first k. -/
def sts (l : List Kn) (k : Nat) : List Nat := (List.range k).filter fun i => ms (l.getD i default)
theorem sts_yes {l : List Kn} {k : Nat} (hk : k < l.length) (h : ms l[k] = true) : sts l (k + 1) = sts l k ++ [k] := by
  unfold sts
  rw [filt_succ, show l.getD k default = l[k] from by simp [List.getD, hk], h]; rfl
theorem sts_no {l : List Kn} {k : Nat} (hk : k < l.length) (h : ms l[k] = false) : sts l (k + 1) = sts l k := by
  unfold sts
  rw [filt_succ, show l.getD k default = l[k] from by simp [List.getD, hk], h]; simp
theorem sts_le (l : List Kn) (k : Nat) : (sts l k).length ≤ k := filt_le _ _
theorem sts_lt (l : List Kn) : ∀ i ∈ sts l l.length, i < l.length := fun i hi => by
  have := (List.mem_filter.1 hi).1
  simpa using this
/-- Who asks for whom, among them. -/
def qD (l : List Kn) : Nat → Nat → Bool := Rq (qof l (sts l l.length) (·.D)) (sts l l.length).length
def qA (l : List Kn) : Nat → Nat → Bool := Rq (qof l (sts l l.length) (·.A)) (sts l l.length).length
/-- Their line. -/
def lnO (l : List Kn) : List Nat := Ord.lin (Ord.Om.cl (sts l l.length).length (fun a b => qD l a b || qA l a b)) (qA l) (sts l l.length).length
def lnR (l : List Kn) : List Nat := (lnO l).map fun i => (sts l l.length).getD i 0
theorem lnO_all (l : List Kn) : (lnO l).length = (sts l l.length).length ∧ (lnO l).Nodup ∧ ∀ a, a ∈ lnO l ↔ a < (sts l l.length).length := Ord.lin_all (Ord.cl_wy _ _) _
/-- The first k are others by now. -/
def mix (f : Nat → Nat) (L : List Nat) (k : Nat) : List Nat := (L.take k).map f ++ L.drop k
theorem mix_len (f : Nat → Nat) (L : List Nat) (k : Nat) : (mix f L k).length = L.length := by unfold mix; simp; omega
theorem mix_at {f : Nat → Nat} {L : List Nat} {k : Nat} (hk : k < L.length) : (mix f L k)[k]? = some L[k] := by
  unfold mix
  rw [List.getElem?_append_right (by simp; omega)]
  simp [Nat.min_eq_left (Nat.le_of_lt hk), hk]
theorem mix_set {f : Nat → Nat} {L : List Nat} {k : Nat} (hk : k < L.length) : (mix f L k).set k (f L[k]) = mix f L (k + 1) := by
  unfold mix
  have h1 : ((L.take k).map f).length = k := by simp; omega
  have h2 : L.drop k = L[k] :: L.drop (k + 1) := List.drop_eq_getElem_cons hk
  have h3 : L.take (k + 1) = L.take k ++ [L[k]] := List.take_succ_eq_append_getElem hk
  rw [List.set_append_right _ _ (by omega), h1, Nat.sub_self, h3, h2, List.map_append, List.set_cons_zero, List.map_singleton, List.append_assoc]
  rfl
theorem mix_all (f : Nat → Nat) (L : List Nat) : mix f L L.length = L.map f := by unfold mix; simp
theorem iw_set {W : World} {B g c : Nat} {L : List Nat} (h : Ord.Iw W B (.slice (some ⟨g, 0, none⟩) L.length c) L) (k x : Nat) : Ord.Iw (W.setCell ⟨g, k, none⟩ (.int .i64 (x : Int))) B (.slice (some ⟨g, 0, none⟩) L.length c) (L.set k x) := by
  have := (World.ownsRow.stored h k (.int .i64 (x : Int))).1
  unfold Ord.Iw
  rw [List.length_set, List.map_set]
  exact this
set_option maxHeartbeats 6400000 in
set_option maxRecDepth 100000 in
theorem line_any (A : Option Addr) (c : Nat) (l : List Kn) (w : World) (hl : Ks w (.slice A l.length c) l) (hn : l.length ≤ 40) (hSo : ∀ k ∈ l, Sok k.p) (hO : Oc w) :
    Calls Tryz.prog 16 #[.slice A l.length c] w fun e w' => ∃ S, e = .returned S ∧ Ord.Is w' S (lnR l) ∧ Below w.heap.size w w' := by
  have HL := Lib.hid hl
  have HSo := Lib.hid hSo
  have HO := Lib.hid hO
  clear hl hSo hO
  go_enter Tryz.func16, Tryz.ntmps16
  go_wp2_with fail
  go_loopw [3, 14] (fun S i W => ∃ (k : Nat), k ≤ l.length ∧ i = .int .i64 k ∧ Hid (Ord.Iw W w.heap.size S (sts l k)) ∧ Hid (Below w.heap.size w W)) (fun _ i _ => l.length - (intOf i).toNat)
  case atStart => exact ⟨0, Nat.zero_le _, rfl, World.ownsRow_nil _ _ _ _, Below.refl _ _⟩
  case round =>
    obtain ⟨k, hk, rfl, HI, HB⟩ := hrel
    by_cases hlt : k < l.length
    · obtain ⟨b, o, rfl, vW, vT, vD, vA, vG, vB, vR, vP, vS, vL, vF, kc, kz⟩ := (HL.out.on HB.out).at' k hlt
      obtain ⟨⟨a1, a2, a3, rfl⟩, ⟨b1, b2, b3, rfl⟩, ⟨c1, c2, c3, rfl⟩, ⟨d1, d2, d3, rfl⟩, ⟨e1, e2, e3, rfl⟩, ⟨f1, f2, f3, rfl⟩, ⟨g1, g2, g3, rfl⟩, ⟨i1, i2, i3, rfl⟩, ⟨j1, j2, j3, rfl⟩, ⟨l1, l2, l3, rfl⟩, ⟨m1, m2, m3, rfl⟩⟩ := kz.k11
      have hra := kc.range
      have HSY := Lib.hid (sts_yes (l := l) hlt)
      have HSN := Lib.hid (sts_no (l := l) hlt)
      have HSL := Lib.hid (sts_le l k)
      have cM0 := Lib.hid (fun W (h : Below wr.heap.size wr W) => mays_any l[k] (.slice a1 a2 a3) (.slice b1 b2 b3) (.slice c1 c2 c3) (.slice d1 d2 d3) (.slice e1 e2 e3) (.slice f1 f2 f3) (.slice g1 g2 g3) (.slice i1 i2 i3) (.slice j1 j2 j3) (.slice l1 l2 l3) (.slice m1 m2 m3) W kz.k11 (HO.out.on (bon HB.out h)))
      generalize l[k] = x at *
      have hb1 := b1c wr (kno 60 x (.slice a1 a2 a3) (.slice b1 b2 b3) (.slice c1 c2 c3) (.slice d1 d2 d3) (.slice e1 e2 e3) (.slice f1 f2 f3) (.slice g1 g2 g3) (.slice i1 i2 i3) (.slice j1 j2 j3) (.slice l1 l2 l3) (.slice m1 m2 m3))
      have hK2 := k20_new wr 60 x (.slice a1 a2 a3) (.slice b1 b2 b3) (.slice c1 c2 c3) (.slice d1 d2 d3) (.slice e1 e2 e3) (.slice f1 f2 f3) (.slice g1 g2 g3) (.slice i1 i2 i3) (.slice j1 j2 j3) (.slice l1 l2 l3) (.slice m1 m2 m3)
      have HK2 := Lib.hid hK2
      have cM := cM0.out _ hb1
      obtain ⟨y, hy⟩ : ∃ y, ms x = y := ⟨_, rfl⟩
      rw [hy] at cM HSY HSN
      clear hy hK2 kc kz cM0
      go_upto_region 4 with fail
      refine wp_region_lit ?_
      refine wpList_plain rfl fun K hK => ?_
      unfold Oper.wp
      simp [go_sem]
      refine hK _ _ ?_
      clear hK K
      refine wpList_plain rfl fun K hK => ?_
      unfold Oper.wp
      simp [go_sem, hlt]
      refine hK _ _ ?_
      clear hK K
      refine wpList_load_mid rfl 60 _ rfl b (o + k * 20) rfl _ _ hra Tryz.underlying60 rfl (by kernel_rfl) ?_
      refine wpList_plain rfl fun K hK => ?_
      unfold Oper.wp
      simp [go_sem]
      refine hK _ _ ?_
      clear hK K
      refine wpList_plain rfl fun K hK => ?_
      unfold Oper.wp
      simp [go_sem]
      refine hK _ _ ?_
      clear hK K
      refine wpList_store_new rfl 60 _ _ rfl _ _ rfl rfl (by kernel_rfl) (by rfl) (by first | rfl | simp [Value.oneCell']) ?_
      go_frame
      go_upto_region 5 with fail
      refine wp_region_lit ?_
      refine wpList_load_mid rfl 60 _ rfl wr.heap.size 0 rfl _ _ HK2.out.range Tryz.underlying60 rfl (by kernel_rfl) ?_
      go_frame
      go_wp2_with fail
      with_reducible refine cM.mono ?_
      rintro e w1 ⟨rfl, bw⟩
      have bw1 := bon hb1 bw
      have HI1 := Lib.hid (Ord.own_on HI.out bw1)
      have HB1 := Lib.hid (bon HB.out bw1)
      clear cM HI HB hra HK2 bw bw1 hb1
      cases y with
      | false =>
        have HI2 : Hid (Ord.Iw w1 w.heap.size u3 (sts l (k + 1))) := by
          show Ord.Iw _ _ _ _
          rw [HSN.out rfl]; exact HI1.out
        clear HSY HSN HI1
        go_wp2_with fail
        exact ⟨⟨k + 1, hlt, by go_num, HI2, HB1⟩, by simp [intOf]; omega⟩
      | true =>
        have HSE := Lib.hid (HSY.out rfl)
        have hI1 := HI1.out
        have hz1 := HB1.out.size
        have hsl := HSL.out
        clear HSY HSN
        go_wp2_with (first | (at_builtin; refine Ord.wpList_ap k hI1 (by omega) hz1 rfl _ _ rfl rfl _ rfl rfl ?_; intro g9 d9 w9 hI9 hB9 _; have HI9 := Lib.hid hI9; have HB9 := Lib.hid (HB1.out.trans (hB9 _ (Nat.le_refl _))); clear hI9 hB9) | fail)
        refine ⟨⟨k + 1, hlt, by go_num, ?_, HB9⟩, by simp [intOf]; omega⟩
        rw [HSE.out]
        exact HI9
    · have hke : k = l.length := by omega
      subst hke
      have hsl := sts_le l l.length
      have HSL := Lib.hid (sts_lt l)
      have HAL := Lib.hid (lnO_all l)
      obtain ⟨As, cs, rfl⟩ := own_sl HI.out
      have HIs := Lib.hid (Ord.iw_is HI.out)
      obtain ⟨am, ham⟩ : ∃ am, am = sts l l.length := ⟨_, rfl⟩
      have HR : Hid (∀ L L', Mm L (Rq (qof l am (·.D)) am.length) → Mm L' (Rq (qof l am (·.A)) am.length) → Ord.ro2 am.length L L' = .ok ∧ Ord.li am.length L L' = lnO l) := fun L L' h h' => by
        have := mm_li (n := am.length) h h' (by rw [ham]; omega) (fun a b => rq_lt) (fun a b => rq_lt)
        rw [ham] at this ⊢
        exact this
      have HRL : Hid (lnR l = (lnO l).map fun i => am.getD i 0) := by rw [ham]; rfl
      rw [← ham] at HI HIs hsl HSL HAL ⊢
      clear ham
      have h40 : ¬ ((am.length : Int) > 40) := by omega
      have cE1 := edges53 54 f54 (·.D) (fun p vD vA vG vB vR vP vS vL vF W h => clo54 p vD vA vG vB vR vP vS vL vF W h) (fun p hp => tla_parts hp.D) A c l am As cs wr (HL.out.on HB.out) (by omega) HIs.out (by omega) HSL.out HSo.out
      go_wp2_with fail
      with_reducible refine cE1.mono ?_
      rintro z w1 ⟨S1, L1, rfl, hE1, hM1, hl1, k1⟩
      obtain ⟨B1, d1, rfl, hB1⟩ := ew_sl hE1
      have HE1 := Lib.hid hE1
      have HM1 := Lib.hid hM1
      have HB1' := Lib.hid (bon HB.out k1)
      have cE2 := edges53 55 f55 (·.A) (fun p vD vA vG vB vR vP vS vL vF W h => clo55 p vD vA vG vB vR vP vS vL vF W h) (fun p hp => tla_parts hp.A) A c l am As cs w1 (HL.out.on HB1'.out) (by omega) (HIs.out.on k1) (by omega) HSL.out HSo.out
      clear cE1 hE1 hM1
      go_wp2_with fail
      with_reducible refine cE2.mono ?_
      rintro z w2 ⟨S2, L2, rfl, hE2, hM2, hl2, k2⟩
      obtain ⟨B2, d2, rfl, hB2⟩ := ew_sl hE2
      have HB2' := Lib.hid (bon HB1'.out k2)
      have HIs2 := Lib.hid (HIs.out.on (bon k1 k2))
      obtain ⟨hro, hli⟩ := HR.out L1 L2 HM1.out hM2
      have cL := Ord.pline_any (am.length : Int) B1 B2 d1 d2 L1 L2 w2 (by omega) (by omega) (Ord.ew_es (Ord.own_on HE1.out k2)) (Ord.ew_es hE2)
      rw [hro, hli] at cL
      clear cE2 hE2 hM2 HE1 HM1 HR hro hli
      go_wp2_with fail
      with_reducible refine cL.mono ?_
      rintro z w3 ⟨v3, u3', rfl, hI3, hEv, k3⟩
      have hu : u3' = .nilIface := hEv
      subst hu
      obtain ⟨A3, c3', hv3⟩ := own_sl hI3
      have HI3 := Lib.hid hI3
      have hLn := HAL.out.1
      have HB3 := Lib.hid k3
      have HMX : Hid (Ord.Iw w3 w2.heap.size v3 (mix (fun i => am.getD i 0) (lnO l) 0)) := by
        show Ord.Iw _ _ _ _
        unfold mix
        simpa using hI3
      subst hv3
      generalize lnO l = LN at *
      clear cL hEv hI3 HI3 k3 HI HIs HB HB1' k1 k2
      go_wp2_with fail
      go_loopw [45] (fun i W => ∃ (k : Nat), k ≤ LN.length ∧ i = .int .i64 k ∧ Hid (Ord.Iw W w2.heap.size (.slice A3 LN.length c3') (mix (fun i => am.getD i 0) LN k)) ∧ Hid (Below w2.heap.size w2 W)) (fun i _ => LN.length - (intOf i).toNat)
      case atStart => exact ⟨0, Nat.zero_le _, rfl, HMX, HB3⟩
      case round =>
        obtain ⟨k, hk, rfl, HI, HB⟩ := hrel
        clear HMX HB3
        have hml := mix_len (fun i => am.getD i 0) LN k
        by_cases hlt : k < LN.length
        · obtain ⟨g3, e3, cur, eS, hg3, hgl, hGc, hcm, hcur, hGk⟩ := iw_row HI.out (by omega)
          rw [Value.slice.injEq] at eS
          obtain ⟨rfl, _, rfl⟩ := eS
          have hck := hGk k (by omega)
          have hkk : (mix (fun i => am.getD i 0) LN k)[k]'(by omega) = LN[k] := by
            have := mix_at (f := fun i => am.getD i 0) hlt
            rw [List.getElem?_eq_getElem (by omega)] at this
            exact Option.some.inj this
          rw [hkk] at hck
          have hnl : LN[k] < am.length := (HAL.out.2.2 _).1 (List.getElem_mem hlt)
          have HST := Lib.hid (mix_set (f := fun i => am.getD i 0) hlt)
          generalize LN[k] = nk at *
          obtain ⟨b8, o8, rfl, hc8, _⟩ := isn_at (HIs2.out.on HB.out) nk hnl
          have hgd : am.getD nk 0 = am[nk] := by simp [List.getD, hnl]
          rw [hgd] at HST
          have HI2 : Hid (Ord.Iw (wr.setCell ⟨g3, k, none⟩ (.int .i64 (am[nk] : Nat))) w2.heap.size (.slice (some ⟨g3, 0, none⟩) LN.length c3') (mix (fun i => am.getD i 0) LN (k + 1))) := by
            have h1 := HI.out
            rw [← hml] at h1 ⊢
            have h2 := iw_set h1 k am[nk]
            rw [HST.out] at h2
            exact h2
          have HB2 := Lib.hid (HB.out.setCell (p := ⟨g3, k, none⟩) hg3 (.int .i64 (am[nk] : Nat)))
          have hfz : wr.frozen? ⟨g3, k, none⟩ = false := by simp [World.frozen?, hcur]
          generalize am[nk] = ank at *
          clear HI HB hGk hcm hcur hkk hgd HST hml
          go_wp2_with fail
          exact ⟨⟨k + 1, hlt, by go_num, HI2, HB2⟩, by simp [intOf]; omega⟩
        · have hke : k = LN.length := by omega
          subst hke
          have h1 := Ord.iw_is HI.out
          rw [mix_all, ← HRL.out, hLn] at h1
          have HI9 := Lib.hid h1
          clear h1 HI hml
          go_wp2_with fail
          go_ret
          exact ⟨_, rfl, HI9.out, HB2'.out.trans (HB.out.mono HB2'.out.size)⟩
end Go.Proofs.YthijccmiemlilaaGreatDoor
