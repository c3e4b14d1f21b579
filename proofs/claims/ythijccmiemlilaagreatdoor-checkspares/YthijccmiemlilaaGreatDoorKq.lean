/- The walk of the reference's CheckConfigure. -/
import Derived.Test.YthijccmiemlilaaGreatDoorKp
namespace Go.Proofs.YthijccmiemlilaaGreatDoor
open Go.RowKit Go.Sort

theorem met_congr {O O' : List Ofr} {l : List (List Tm)} (h : ∀ t, O.any (om t) = O'.any (om t)) : met O l = met O' l := by
  have e : (fun x : List Tm => !(x.any (tm O))) = fun x => !(x.any (tm O')) := by
    funext x
    congr 2
    funext t
    exact h t
  unfold met
  rw [e]
theorem sel_any (l : List Kn) (f : Nat → Bool) (t : Tm) : ((sel l f l.length).map (·.p.o)).any (om t) = (List.range l.length).any fun i => f i && om t (l.getD i default).p.o := by
  unfold sel
  rw [List.map_map, List.any_map, List.any_filter]
  rfl
theorem any_or {α : Type} (f g : α → Bool) : ∀ l : List α, (l.any f || l.any g) = l.any fun x => f x || g x
  | [] => rfl
  | x :: l => by
    rw [List.any_cons, List.any_cons, List.any_cons, ← any_or f g l]
    cases f x <;> cases g x <;> cases l.any f <;> cases l.any g <;> rfl
theorem met_cff (l : List Kn) (ws : List Int) (D : List (List Tm)) : met (((sel l (wf l []) l.length).map (·.p) ++ (sel l (abt l ws) l.length).map (·.p)).map (·.o)) D = met ((sel l (cff l ws) l.length).map (·.p.o)) D := by
  refine met_congr fun t => ?_
  rw [List.map_append, List.any_append, List.map_map, List.map_map]
  have e1 := sel_any l (wf l []) t
  have e2 := sel_any l (abt l ws) t
  have e3 := sel_any l (cff l ws) t
  rw [e3]
  show (((sel l (wf l []) l.length).map (·.p.o)).any (om t) || ((sel l (abt l ws) l.length).map (·.p.o)).any (om t)) = _
  rw [e1, e2, any_or]
  congr 1
  funext i
  unfold wf cff
  cases wk (l.getD i default) <;> cases abt l ws i <;> cases om t (l.getD i default).p.o <;> rfl
set_option maxHeartbeats 1600000 in
set_option maxRecDepth 100000 in
theorem xconf_out (v vI : Value) (l : List Kn) (m : Int) (ws : List Int) (w : World) (hl : Ks w v l) (hI : Is w vI ws) (hn : l.length ≤ 1000) (hm : m < 0 ∨ (l.length : Int) ≤ m) : Calls Tryz.prog 12 #[v, .int .i64 m, vI] w fun x w' => x = .returned (.agg #[.int .i64 (cfE l m ws).1, .int .i64 (cfE l m ws).2]) ∧ Below w.heap.size w w' := by
  obtain ⟨A, c, rfl⟩ := hl.sl
  obtain ⟨A2, cB, rfl⟩ := hI.sl
  have HG : Hid (cfE l m ws = (2, -1)) := by show _ = _; unfold cfE; rw [if_pos hm]
  generalize cfE l m ws = E at HG ⊢
  have HB := Lib.hid (b1c w (.cells #[.int .i64 0, .int .i64 0] 42))
  have HR := Lib.hid (k2_new w)
  have hwr : wrap64 ((l.length : Int) - 1) = (l.length : Int) - 1 := by unfold wrap64; omega
  have cI := in_any m 0 ((l.length : Int) - 1) (w.alloc (.cells #[.int .i64 0, .int .i64 0] 42))
  rw [show (decide (0 ≤ m) && decide (m ≤ (l.length : Int) - 1)) = false by rcases hm with h | h <;> simp <;> omega] at cI
  clear hl hI hm
  go_enter Tryz.func12, Tryz.ntmps12
  go_wp2_with fail
  refine cI.mono ?_
  rintro e w1 ⟨rfl, rfl⟩
  have cB2 := bareF_any 2 (w.alloc (.cells #[.int .i64 0, .int .i64 0] 42))
  go_wp2_with fail
  refine cB2.mono ?_
  rintro e w2 ⟨rfl, b2⟩
  obtain ⟨kl, q0, q1, f0, f1⟩ := HR.out.on b2
  go_wp2_with fail
  exact bodyPost_ret (v := .agg #[.int .i64 2, .int .i64 (-1)]) (by simp [results, Tryz.results12, go_sem, q0, q1]) rfl ⟨by rw [HG.out], ((bon HB.out b2).setCell (Nat.le_refl _) _).setCell (Nat.le_refl _) _⟩
set_option maxHeartbeats 6400000 in
set_option maxRecDepth 100000 in
theorem xconf_in (b o c : Nat) (vI : Value) (l : List Kn) (m : Nat) (ws : List Int) (w : World) (hl : Kl w b o l) (hI : Is w vI ws) (hn : l.length ≤ 400) (hws : ws.length ≤ 1000) (hm : m < l.length) (hSo : ∀ k ∈ l, Sok k.p) (hR : Rr w) (hFi : Fi w) : Calls Tryz.prog 12 #[.slice (some ⟨b, o, none⟩) l.length c, .int .i64 m, vI] w fun x w' => x = .returned (.agg #[.int .i64 (cfE l m ws).1, .int .i64 (cfE l m ws).2]) ∧ Below w.heap.size w w' := by
  obtain ⟨A2, cB, rfl⟩ := hI.sl
  obtain ⟨E, hE⟩ : ∃ E, E = cfE l m ws := ⟨_, rfl⟩
  have HE : Hid (E = if ms l[m] then msE (met ((sel l (cff l ws) l.length).map (·.p.o)) l[m].p.D) else (6, -1)) := by
    show _ = _
    rw [hE]; unfold cfE
    rw [if_neg (by omega), Int.toNat_natCast, show l.getD m default = l[m] from by simp [List.getD, hm]]
  rw [← hE]
  clear hE
  obtain ⟨w2, hw2⟩ : ∃ w2, w2 = w.alloc (.cells #[.int .i64 0, .int .i64 0] 42) := ⟨_, rfl⟩
  have hb2 : Below w.heap.size w w2 := by rw [hw2]; exact b1c _ _
  have HR : Hid (K2 w2 w.heap.size) := by show K2 _ _; rw [hw2]; exact k2_new w
  have HL := Lib.hid (hl.on hb2)
  have HI := Lib.hid (hI.on hb2)
  have HRr := Lib.hid (hR.on hb2)
  have HFi := Lib.hid (hFi.on hb2)
  have HSo := Lib.hid hSo
  have HB := Lib.hid hb2
  obtain ⟨vW, vT, vD, vA, vG, vB, vR, vP, vS, vL, vF, kc, kz⟩ := HL.out.c m hm
  obtain ⟨D1, D2, hD'⟩ := kz.z.D.sl
  rw [hD'] at kc kz
  have k0 := kc.c0
  have hD := kc.c11
  have hSm := hSo l[m] (List.getElem_mem hm)
  have HZ := Lib.hid kz.z.D
  have cM := xmay_any l[m].st 3 w2 HRr.out
  have cI := in_any (m : Int) 0 ((l.length : Int) - 1) w2
  rw [show (decide (0 ≤ (m : Int)) && decide ((m : Int) ≤ (l.length : Int) - 1)) = true by simp; omega] at cI
  have hwr : wrap64 ((l.length : Int) - 1) = (l.length : Int) - 1 := by unfold wrap64; omega
  rw [show mayB l[m].st 3 = ms l[m] from rfl] at cM
  clear hl hI hR hSo hFi hb2 kc kz hD'
  generalize l[m] = x at HE k0 hSm HZ hD cM
  obtain ⟨y, hy⟩ : ∃ y, ms x = y := ⟨_, rfl⟩
  rw [hy] at cM HE
  clear hy
  go_enter Tryz.func12, Tryz.ntmps12
  go_upto_region 1 with fail
  rw [← hw2]
  clear hw2
  go_wp2_with fail
  refine cI.mono ?_
  rintro e w3 ⟨rfl, hw3⟩
  rw [hw3]
  clear hw3 cI w3 hwr
  go_wp2_with fail
  refine cM.mono ?_
  rintro e w3 ⟨rfl, hw3⟩
  rw [hw3]
  clear hw3 cM w3 k0
  cases y with
  | false =>
    have HG : Hid (E = (6, -1)) := HE.out
    have cB2 := bareF_any 6 w2
    go_wp2_with fail
    refine cB2.mono ?_
    rintro e w4 ⟨rfl, b4⟩
    obtain ⟨kl, q0, q1, f0, f1⟩ := HR.out.on b4
    go_wp2_with fail
    exact bodyPost_ret (v := .agg #[.int .i64 6, .int .i64 (-1)]) (by simp [results, Tryz.results12, go_sem, q0, q1]) rfl ⟨by rw [HG.out], ((bon HB.out b4).setCell (Nat.le_refl _) _).setCell (Nat.le_refl _) _⟩
  | true =>
    have HG0 : Hid (E = msE (met (((sel l (wf l []) l.length).map (·.p) ++ (sel l (abt l ws) l.length).map (·.p)).map (·.o)) x.p.D)) := by
      show _ = _
      rw [met_cff]; exact HE.out
    have cW := working_any (.slice (some ⟨b, o, none⟩) l.length c) (.slice none 0 0) l [] w2 ⟨.inr ⟨b, o, c, rfl, HL.out⟩⟩ ⟨.inl ⟨rfl, _, _, rfl⟩⟩ (by omega) (by simp)
    have hq0 := sel_le l (wf l []) l.length
    have HQ0 : Hid (∀ q ∈ (sel l (wf l []) l.length).map (·.p), Oh q.o) := fun q hq => sel_oh (f := wf l []) HSo.out q.o (by obtain ⟨k, hk, rfl⟩ := List.mem_map.1 hq; exact List.mem_map.2 ⟨k, hk, rfl⟩)
    have HQ1 : Hid (∀ q ∈ (sel l (abt l ws) l.length).map (·.p), Oh q.o) := fun q hq => sel_oh (f := abt l ws) HSo.out q.o (by obtain ⟨k, hk, rfl⟩ := List.mem_map.1 hq; exact List.mem_map.2 ⟨k, hk, rfl⟩)
    have hq0' : ((sel l (wf l []) l.length).map (·.p)).length ≤ 400 := by rw [List.length_map]; omega
    generalize (sel l (wf l []) l.length).map (·.p) = Q0 at cW HG0 HQ0 hq0'
    clear HE hq0
    go_wp2_with fail
    refine cW.mono ?_
    rintro e w4 ⟨S0, r0, rfl, hPW⟩
    have HPW := Lib.hid hPW
    obtain ⟨S1, S2, hS⟩ := hPW.ps.sl
    clear cW hPW
    rw [hS] at HPW ⊢
    clear hS
    go_wp2_with fail
    go_loopw [7, 32] (fun S i W => ∃ (k : Nat) (r : List (Pck × V9)), k ≤ l.length ∧ i = .int .i64 k ∧ Hid (PW w2 W S (Q0 ++ (sel l (abt l ws) k).map (·.p)) r)) (fun _ i _ => l.length - (intOf i).toNat)
    case atStart => exact ⟨0, r0, Nat.zero_le _, rfl, by show PW _ _ _ _ _; rw [show sel l (abt l ws) 0 = [] from rfl, List.map_nil, List.append_nil]; exact HPW.out⟩
    case round =>
      obtain ⟨k, r, hk, rfl, HOW⟩ := hrel
      have hW := HOW.out.b
      by_cases hlt : k < l.length
      · obtain ⟨vW, vT, vD, vA, vG, vB, vR, vP, vS, vL, vF, kc0, kz⟩ := HL.out.c k hlt
        have kc : Kc wr b (o + k * 20) l[k] vW vT vD vA vG vB vR vP vS vL vF := kc0.on hW
        obtain ⟨⟨a1, a2, a3, rfl⟩, ⟨b1, b2, b3, rfl⟩, ⟨c1, c2, c3, rfl⟩, ⟨d1, d2, d3, rfl⟩, ⟨e1, e2, e3, rfl⟩, ⟨f1, f2, f3, rfl⟩, ⟨g1, g2, g3, rfl⟩, ⟨i1, i2, i3, rfl⟩, ⟨j1, j2, j3, rfl⟩, ⟨l1, l2, l3, rfl⟩, ⟨m1, m2, m3, rfl⟩⟩ := kz.k11
        have hra := kc.range
        have HZk := Lib.hid kz
        have HWF : Hid (abt l ws k = (ws.contains (k : Int) && ms l[k])) := by show _ = _; unfold abt; simp [List.getD, hlt]
        have HSY := Lib.hid (sel_yes (f := abt l ws) hlt)
        have HSL := Lib.hid (sel_le l (abt l ws) k)
        clear kc kc0 kz
        generalize l[k] = xk at hra HZk HSY HWF
        have hb1 := b1c wr (kno 71 xk (.slice a1 a2 a3) (.slice b1 b2 b3) (.slice c1 c2 c3) (.slice d1 d2 d3) (.slice e1 e2 e3) (.slice f1 f2 f3) (.slice g1 g2 g3) (.slice i1 i2 i3) (.slice j1 j2 j3) (.slice l1 l2 l3) (.slice m1 m2 m3))
        have HK2 := Lib.hid (k20_new wr 71 xk (.slice a1 a2 a3) (.slice b1 b2 b3) (.slice c1 c2 c3) (.slice d1 d2 d3) (.slice e1 e2 e3) (.slice f1 f2 f3) (.slice g1 g2 g3) (.slice i1 i2 i3) (.slice j1 j2 j3) (.slice l1 l2 l3) (.slice m1 m2 m3))
        have HO1 := Lib.hid (HOW.out.on hb1)
        have hW1 := bon hW hb1
        clear HOW
        go_upto_region 8 with fail
        refine wp_region_lit ?_
        refine wpList_plain rfl fun K hK => ?_
        unfold Oper.wp
        simp [go_sem]
        refine hK _ _ ?_
        clear hK K
        refine wpList_plain rfl fun K hK => ?_
        unfold Oper.wp
        simp [go_sem, hlt]
        refine hK _ _ ?_
        clear hK K
        refine wpList_load_mid rfl 71 _ rfl b (o + k * 20) rfl _ _ hra Tryz.underlying71 rfl (by kernel_rfl) ?_
        refine wpList_plain rfl fun K hK => ?_
        unfold Oper.wp
        simp [go_sem]
        refine hK _ _ ?_
        clear hK K
        refine wpList_plain rfl fun K hK => ?_
        unfold Oper.wp
        simp [go_sem]
        refine hK _ _ ?_
        clear hK K
        refine wpList_store_new rfl 71 _ _ rfl _ _ rfl rfl (by kernel_rfl) (by rfl) (by first | rfl | simp [Value.oneCell']) ?_
        go_frame
        generalize wr.alloc (kno 71 xk (.slice a1 a2 a3) (.slice b1 b2 b3) (.slice c1 c2 c3) (.slice d1 d2 d3) (.slice e1 e2 e3) (.slice f1 f2 f3) (.slice g1 g2 g3) (.slice i1 i2 i3) (.slice j1 j2 j3) (.slice l1 l2 l3) (.slice m1 m2 m3)) = wE at HK2 HO1 hW1 hb1 ⊢
        clear hra
        have cH := holds_any (.slice A2 ws.length cB) ws (k : Int) wE (HI.out.on hW1) (by omega)
        obtain ⟨y, hy⟩ : ∃ y, ws.contains (k : Int) = y := ⟨_, rfl⟩
        rw [hy] at cH HWF
        have cMk := xmay_any xk.st 3 wE (HRr.out.on hW1)
        rw [show mayB xk.st 3 = ms xk from rfl] at cMk
        obtain ⟨z, hz⟩ : ∃ z, ms xk = z := ⟨_, rfl⟩
        rw [hz] at cMk HWF
        have k0 := HK2.out.c0
        clear hy hz
        go_wp2_with fail
        refine cH.mono ?_
        rintro e w5 ⟨rfl, hw5⟩
        rw [hw5]
        clear hw5 w5 cH
        have hno : (y && z) = false → PW w2 wE u7 (Q0 ++ (sel l (abt l ws) (k + 1)).map (·.p)) r := fun h => by
          rw [sel_no (l := l) (by rw [HWF.out]; exact h)]; exact HO1.out
        have HNO := Lib.hid hno
        clear hno
        cases y with
        | false =>
          have HO2 := Lib.hid (HNO.out rfl)
          clear HSY HWF HO1
          go_wp2_with fail
          exact ⟨⟨k + 1, r, hlt, by go_num, HO2⟩, by simp [intOf]; omega⟩
        | true =>
          go_wp2_with fail
          refine cMk.mono ?_
          rintro e w5 ⟨rfl, hw5⟩
          rw [hw5]
          clear hw5 w5 cMk k0
          cases z with
          | false =>
            have HO2 := Lib.hid (HNO.out rfl)
            clear HSY HWF HO1
            go_wp2_with fail
            exact ⟨⟨k + 1, r, hlt, by go_num, HO2⟩, by simp [intOf]; omega⟩
          | true =>
            have HSE := Lib.hid (HSY.out (by rw [HWF.out]; rfl))
            have hr : r.length ≤ 2000 := by have := congrArg List.length HO1.out.m; simp at this; have := HSL.out; omega
            have hsz := HO1.out.b.size
            clear HSY HWF HNO
            go_upto_region 10 with fail
            refine wp_region_lit ?_
            refine wpList_plain rfl fun K hK => ?_
            unfold Oper.wp
            simp [go_sem]
            refine hK _ _ ?_
            clear hK K
            refine wpList_plain rfl fun K hK => ?_
            unfold Oper.wp
            simp [go_sem]
            refine hK _ _ ?_
            clear hK K
            refine wpList_load_mid rfl 30 _ rfl wr.heap.size 7 rfl _ _ HK2.out.pack Tryz.underlying30 rfl (by kernel_rfl) ?_
            go_frame
            go_wp2_with (first | (at_builtin; refine wpList_apG Tryz.underlying88 info30 (by decide) (by decide) (pk13 (xk.p, ⟨.slice c1 c2 c3, .slice d1 d2 d3, .slice e1 e2 e3, .slice f1 f2 f3, .slice g1 g2 g3, .slice i1 i2 i3, .slice j1 j2 j3, .slice l1 l2 l3, .slice m1 m2 m3⟩)) rfl (by intro u hu; simp at hu; rcases hu with rfl | rfl | rfl | rfl | rfl | rfl | rfl | rfl | rfl | rfl | rfl | rfl | rfl <;> rfl) HO1.out.o (by omega) hsz rfl _ _ rfl rfl _ rfl rfl ?_; intro g9 c9 w9 hR9 hB9; have HB9 := Lib.hid (hB9 _ (Nat.le_refl _)); have HR9 := Lib.hid hR9; clear hR9 hB9) | fail)
            refine ⟨⟨k + 1, r ++ [(xk.p, ⟨.slice c1 c2 c3, .slice d1 d2 d3, .slice e1 e2 e3, .slice f1 f2 f3, .slice g1 g2 g3, .slice i1 i2 i3, .slice j1 j2 j3, .slice l1 l2 l3, .slice m1 m2 m3⟩)], hlt, by go_num, ⟨?_, ?_, ?_, ?_⟩⟩, by simp [intOf]; omega⟩
            · rw [HSE.out, List.map_append, List.map_append, HO1.out.m, ← List.append_assoc]; rfl
            · rw [List.length_append, List.flatMap_append]; exact HR9.out
            · intro y hy
              rw [List.mem_append] at hy
              rcases hy with hy | hy
              · exact HO1.out.t y hy
              · rw [List.mem_singleton.1 hy]; exact HZk.out.z
            · exact HO1.out.b.trans HB9.out
      · have hke : k = l.length := by omega
        subst hke
        obtain ⟨tA1, tA2⟩ := tla_parts hSm.D
        have hlO : (Q0 ++ (sel l (abt l ws) l.length).map (·.p)).length ≤ 1000 := by rw [List.length_append, List.length_map]; have := sel_le l (abt l ws) l.length; omega
        have HOh : Hid (∀ q ∈ Q0 ++ (sel l (abt l ws) l.length).map (·.p), Oh q.o) := fun q hq => by
          rcases List.mem_append.1 hq with h | h
          · exact HQ0.out q h
          · exact HQ1.out q h
        have cR := rmet_any (.slice D1 x.p.D.length D2) u7 x.p.D (Q0 ++ (sel l (abt l ws) l.length).map (·.p)) wr (HZ.out.on hW) (by omega) HOW.out.ps HOh.out hlO tA2
        have hcD : wr.cell? ⟨b, o + m * 20 + 11, none⟩ = some (.slice D1 x.p.D.length D2) := by rw [hW.cell (p := ⟨b, o + m * 20 + 11, none⟩) HL.out.lt]; exact hD
        obtain ⟨r1, r2, hr⟩ : ∃ r1 r2, met ((Q0 ++ (sel l (abt l ws) l.length).map (·.p)).map (·.o)) x.p.D = (r1, r2) := ⟨_, _, rfl⟩
        rw [hr] at cR HG0
        obtain ⟨U1, U2, hU⟩ := HOW.out.ps.sl
        generalize (Q0 ++ (sel l (abt l ws) l.length).map (·.p)).length = nU at hU
        rw [hU] at cR ⊢
        clear hr HOW hU hD
        generalize wr = wA at *
        go_wp2_with fail
        refine cR.mono ?_
        rintro e w5 ⟨rfl, b5⟩
        have hW5 := bon hW b5
        clear cR hcD
        cases r2 with
        | false =>
          have HG : Hid (E = (7, r1)) := HG0.out
          obtain ⟨kl, q0, q1, f0, f1⟩ := HR.out.on hW5
          go_wp2_with fail
          exact bodyPost_ret (v := .agg #[.int .i64 7, .int .i64 r1]) (by simp [results, Tryz.results12, go_sem, q0, q1]) rfl ⟨by rw [HG.out], ((bon HB.out hW5).setCell (Nat.le_refl _) _).setCell (Nat.le_refl _) _⟩
        | true =>
          have HG : Hid (E = (0, -1)) := HG0.out
          have g0 := (HFi.out.on hW5).c0
          have g1 := (HFi.out.on hW5).c1
          obtain ⟨kl, q0, q1, f0, f1⟩ := HR.out.on hW5
          go_wp2_with fail
          exact bodyPost_ret (v := .agg #[.int .i64 0, .int .i64 (-1)]) (by simp [results, Tryz.results12, go_sem, q0, q1]) rfl ⟨by rw [HG.out], ((bon HB.out hW5).setCell (Nat.le_refl _) _).setCell (Nat.le_refl _) _⟩
end Go.Proofs.YthijccmiemlilaaGreatDoor
