/- The walk of the reference's CheckUnpack. -/
import Derived.Test.YthijccmiemlilaaGreatDoorK2
namespace Go.Proofs.YthijccmiemlilaaGreatDoor
open Go.RowKit Go.Sort

/-- The variable Fine. -/
structure Fi (W : World) : Prop where
  c0 : W.cell? ⟨0, 0, none⟩ = some (.int .i64 0)
  c1 : W.cell? ⟨0, 1, none⟩ = some (.int .i64 (-1))
theorem Fi.on {W W' : World} (h : Fi W) (k : Below W.heap.size W W') : Fi W' := ⟨(k.cell (block_lt_of_cell h.c0)).trans h.c0, (k.cell (block_lt_of_cell h.c1)).trans h.c1⟩
/-- Two cells that are written whole. -/
structure K2 (W : World) (g : Nat) : Prop where
  lt : g < W.heap.size
  c0 : W.cell? ⟨g, 0, none⟩ = some (.int .i64 0)
  c1 : W.cell? ⟨g, 1, none⟩ = some (.int .i64 0)
  f0 : W.frozen? ⟨g, 0, none⟩ = false
  f1 : W.frozen? ⟨g, 1, none⟩ = false
theorem K2.on {W w' : World} {g : Nat} (h : K2 W g) (k : Below W.heap.size W w') : K2 w' g :=
  ⟨Nat.lt_of_lt_of_le h.lt k.size, by rw [k.cell h.lt]; exact h.c0, by rw [k.cell h.lt]; exact h.c1, by rw [k.frozen h.lt]; exact h.f0, by rw [k.frozen h.lt]; exact h.f1⟩
theorem k2_new (w : World) : K2 (w.alloc (.cells #[.int .i64 0, .int .i64 0] 42)) w.heap.size := ⟨by simp, by simp, by simp, by simp, by simp⟩
/-- Those of the same name, by their numbers. -/
def smL (l : List Kn) (p : Pck) (k : Nat) : List Int := ((List.range k).filter fun i => (l.getD i default).p.o.n == p.o.n).map fun (i : Nat) => (i : Int)
theorem smL_yes {l : List Kn} {p : Pck} {k : Nat} (hk : k < l.length) (h : (l[k].p.o.n == p.o.n) = true) : smL l p (k + 1) = smL l p k ++ [(k : Int)] := by
  unfold smL
  rw [filt_succ, if_pos (by simpa [List.getD, hk] using h), List.map_append]
  rfl
theorem smL_no {l : List Kn} {p : Pck} {k : Nat} (hk : k < l.length) (h : (l[k].p.o.n == p.o.n) = false) : smL l p (k + 1) = smL l p k := by
  unfold smL
  rw [filt_succ, if_neg (by simp only [List.getD, List.getElem?_eq_getElem hk, Option.getD_some]; rw [h]; simp), List.append_nil]
theorem smL_le (l : List Kn) (p : Pck) (k : Nat) : (smL l p k).length ≤ k := by
  unfold smL
  rw [List.length_map]
  exact filt_le _ k
theorem smL_con (l : List Kn) (p : Pck) (i : Nat) (hi : i < l.length) : (smL l p l.length).contains (i : Int) = ((l.getD i default).p.o.n == p.o.n) := by
  rw [Bool.eq_iff_iff, List.contains_iff_mem]
  unfold smL
  constructor
  · intro h
    obtain ⟨j, hj, e⟩ := List.mem_map.1 h
    obtain rfl : j = i := by omega
    exact (List.mem_filter.1 hj).2
  · intro h
    exact List.mem_map.2 ⟨i, (List.mem_filter (p := fun i => (l.getD i default).p.o.n == p.o.n)).2 ⟨List.mem_range.2 hi, h⟩, rfl⟩
theorem sel_same (l : List Kn) (p : Pck) : sel l (wf l (smL l p l.length)) l.length = sel l (uf l p) l.length := by
  unfold sel
  congr 1
  refine List.filter_congr fun i hi => ?_
  rw [List.mem_range] at hi
  unfold wf uf
  rw [smL_con l p i hi, Bool.and_comm]
/-- Numbers of the call's own. -/
structure IW (V W : World) (S : Value) (l : List Int) : Prop where
  o : W.ownsRow V.heap.size 3 1 S l.length (l.map fun i => .int .i64 i)
  b : Below V.heap.size V W
theorem IW.on {V W W' : World} {S : Value} {l : List Int} (h : IW V W S l) (k : Below W.heap.size W W') : IW V W' S l := ⟨own_on h.o k, bon h.b k⟩
theorem IW.is {V W : World} {S : Value} {l : List Int} (h : IW V W S l) : Is W S l := by
  have ho := h.o
  rcases ho.2 with ⟨rfl, h0⟩ | ⟨g, cap, cur, rfl, hb, hg, hnc, hcm, hcs, htake⟩
  · exact ⟨.inl ⟨List.length_eq_zero_iff.1 h0, none, 0, rfl⟩⟩
  · refine ⟨.inr ⟨g, 0, cap, rfl, (Array.getElem?_eq_some_iff.1 hg).1, fun i hi => ?_⟩⟩
    rw [Nat.zero_add, World.ownsRow.cellAt ho i (by omega)]
    simp [hi]
set_option maxHeartbeats 6400000 in
set_option maxRecDepth 100000 in
theorem xunpack_any (v : Value) (l : List Kn) (p : Pck) (uD uA uG uB uR uP uS uL uF : Value) (w : World) (hl : Ks w v l) (hp : Pz w p uD uA uG uB uR uP uS uL uF) (hn : l.length ≤ 1000) (hSo : ∀ k ∈ l, Sok k.p) (hop : Sok p) (hFi : Fi w) : Calls Tryz.prog 10 #[v, pkv p.o.n p.o.e p.o.u p.o.r uD uA uG uB uR uP uS uL uF] w fun x w' => x = .returned (.agg #[.int .i64 (upE l p).1, .int .i64 (upE l p).2]) ∧ Below w.heap.size w w' := by
  obtain ⟨A, c, rfl⟩ := hl.sl
  obtain ⟨d4, d5, rfl⟩ := hp.D.sl
  obtain ⟨a4, a5, rfl⟩ := hp.A.sl
  obtain ⟨g4, g5, rfl⟩ := hp.G.sl
  obtain ⟨b4, b5, rfl⟩ := hp.B.sl
  obtain ⟨r4, r5, rfl⟩ := hp.R.sl
  obtain ⟨p4, p5, rfl⟩ := hp.P.sl
  obtain ⟨s4, s5, rfl⟩ := hp.S.sl
  obtain ⟨l4, l5, rfl⟩ := hp.L.sl
  obtain ⟨f4, f5, rfl⟩ := hp.F.sl
  obtain ⟨E, hE⟩ : ∃ E, E = upE l p := ⟨_, rfl⟩
  have HE := Lib.hid hE
  rw [← hE]
  clear hE
  obtain ⟨w2, hw2⟩ : ∃ w2, w2 = (w.alloc (pko p.o.n p.o.e p.o.u p.o.r (.slice d4 p.D.length d5) (.slice a4 p.A.length a5) (.slice g4 p.G.length g5) (.slice b4 p.B.length b5) (.slice r4 p.R.length r5) (.slice p4 p.o.P.length p5) (.slice s4 p.S.length s5) (.slice l4 p.L.length l5) (.slice f4 p.F.length f5))).alloc (.cells #[.int .i64 0, .int .i64 0] 42) := ⟨_, rfl⟩
  have hb2 : Below w.heap.size w w2 := by rw [hw2]; exact b2c _ _ _
  have hPB : Pb w2 w.heap.size p (.slice d4 p.D.length d5) (.slice a4 p.A.length a5) (.slice g4 p.G.length g5) (.slice b4 p.B.length b5) (.slice r4 p.R.length r5) (.slice p4 p.o.P.length p5) (.slice s4 p.S.length s5) (.slice l4 p.L.length l5) (.slice f4 p.F.length f5) := by
    rw [hw2]
    exact (pb_new w p (.slice d4 p.D.length d5) (.slice a4 p.A.length a5) (.slice g4 p.G.length g5) (.slice b4 p.B.length b5) (.slice r4 p.R.length r5) (.slice p4 p.o.P.length p5) (.slice s4 p.S.length s5) (.slice l4 p.L.length l5) (.slice f4 p.F.length f5)).on (b1c _ _)
  have hR : K2 w2 (w.heap.size + 1) := by
    have h := k2_new (w.alloc (pko p.o.n p.o.e p.o.u p.o.r (.slice d4 p.D.length d5) (.slice a4 p.A.length a5) (.slice g4 p.G.length g5) (.slice b4 p.B.length b5) (.slice r4 p.R.length r5) (.slice p4 p.o.P.length p5) (.slice s4 p.S.length s5) (.slice l4 p.L.length l5) (.slice f4 p.F.length f5)))
    rw [World.size_alloc] at h
    rw [hw2]
    exact h
  have HL := Lib.hid (hl.on hb2)
  have HP := Lib.hid (hp.on hb2)
  have HFi := Lib.hid (hFi.on hb2)
  have HSo := Lib.hid hSo
  have HOP := Lib.hid hop
  have HB := Lib.hid hb2
  have HPB := Lib.hid hPB
  have HK2R := Lib.hid hR
  clear hl hp hSo hop hb2 hPB hR hFi
  go_enter Tryz.func10, Tryz.ntmps10
  go_upto_region 1 with fail
  rw [← hw2]
  clear hw2
  go_wp2_with fail
  go_loopw [16] (fun i W => ∃ k : Nat, k ≤ l.length ∧ i = .int .i64 k ∧ Below w2.heap.size w2 W ∧ Hid (∀ j (hj : j < l.length), j < k → hdB p l[j] = false)) (fun i _ => l.length - (intOf i).toNat)
  case atStart => exact ⟨0, Nat.zero_le _, rfl, Below.refl _ _, fun j _ h => absurd h (Nat.not_lt_zero _)⟩
  case round =>
    obtain ⟨k, hk, rfl, hW, HN⟩ := hrel
    by_cases hlt : k < l.length
    · obtain ⟨b, o, rfl, vW, vT, vD, vA, vG, vB, vR, vP, vS, vL, vF, kc, kz⟩ := (HL.out.on hW).at' k hlt
      obtain ⟨⟨a1, a2, a3, rfl⟩, ⟨b1, b2, b3, rfl⟩, ⟨c1, c2, c3, rfl⟩, ⟨d1, d2, d3, rfl⟩, ⟨e1, e2, e3, rfl⟩, ⟨f1, f2, f3, rfl⟩, ⟨g1, g2, g3, rfl⟩, ⟨i1, i2, i3, rfl⟩, ⟨j1, j2, j3, rfl⟩, ⟨l1, l2, l3, rfl⟩, ⟨m1, m2, m3, rfl⟩⟩ := kz.k11
      have hra := kc.range
      obtain ⟨y, hy⟩ : ∃ y, hdB p l[k] = y := ⟨_, rfl⟩
      have HY := Lib.hid hy
      have hy2 : (l[k].p.o.n == p.o.n && l[k].hd) = y := hy
      clear kc kz hy
      generalize l[k] = x at hra hy2
      have hbx := b1c wr (kno 71 x (.slice a1 a2 a3) (.slice b1 b2 b3) (.slice c1 c2 c3) (.slice d1 d2 d3) (.slice e1 e2 e3) (.slice f1 f2 f3) (.slice g1 g2 g3) (.slice i1 i2 i3) (.slice j1 j2 j3) (.slice l1 l2 l3) (.slice m1 m2 m3))
      have hK2 := k20_new wr 71 x (.slice a1 a2 a3) (.slice b1 b2 b3) (.slice c1 c2 c3) (.slice d1 d2 d3) (.slice e1 e2 e3) (.slice f1 f2 f3) (.slice g1 g2 g3) (.slice i1 i2 i3) (.slice j1 j2 j3) (.slice l1 l2 l3) (.slice m1 m2 m3)
      have p0 := (HPB.out.on (bon hW hbx)).c0
      have k4 := hK2.c4
      have k7 := hK2.c7
      have hW1 := bon hW hbx
      clear hK2
      go_upto_region 3 with fail
      refine wp_region_lit ?_
      refine wpList_plain rfl fun K hK => ?_
      unfold Oper.wp
      simp [go_sem, hlt]
      refine hK _ _ ?_
      clear hK K
      refine wpList_load_mid rfl 71 _ rfl b (o + k * 20) rfl _ _ hra Tryz.underlying71 rfl (by kernel_rfl) ?_
      refine wpList_plain rfl fun K hK => ?_
      unfold Oper.wp
      simp [go_sem]
      refine hK _ _ ?_
      clear hK K
      refine wpList_store_new rfl 71 _ _ rfl _ _ rfl rfl (by kernel_rfl) (by rfl) (by first | rfl | simp [Value.oneCell']) ?_
      go_frame
      cases hq : (x.p.o.n == p.o.n) with
      | false =>
        obtain rfl : y = false := by rw [← hy2, hq]; rfl
        have HN1 : Hid (∀ j (hj : j < l.length), j < k + 1 → hdB p l[j] = false) := fun j hj h => by
          by_cases e : j = k
          · subst e; exact HY.out
          · exact HN.out j hj (by omega)
        clear hy2
        go_wp2_with fail
        exact ⟨⟨k + 1, hlt, by go_num, hW1, HN1⟩, by simp [intOf]; omega⟩
      | true =>
        rw [hq, Bool.true_and] at hy2
        rw [hy2] at k4
        cases y with
        | false =>
          have HN1 : Hid (∀ j (hj : j < l.length), j < k + 1 → hdB p l[j] = false) := fun j hj h => by
            by_cases e : j = k
            · subst e; exact HY.out
            · exact HN.out j hj (by omega)
          clear hy2
          go_wp2_with fail
          exact ⟨⟨k + 1, hlt, by go_num, hW1, HN1⟩, by simp [intOf]; omega⟩
        | true =>
          have HG : Hid (E = (6, -1)) := by
            show _ = _
            rw [HE.out]; unfold upE; rw [any_yes k hlt HY.out]; rfl
          have cB := bareF_any 6 (wr.alloc (kno 71 x (.slice a1 a2 a3) (.slice b1 b2 b3) (.slice c1 c2 c3) (.slice d1 d2 d3) (.slice e1 e2 e3) (.slice f1 f2 f3) (.slice g1 g2 g3) (.slice i1 i2 i3) (.slice j1 j2 j3) (.slice l1 l2 l3) (.slice m1 m2 m3)))
          clear hy2
          go_wp2_with fail
          refine cB.mono ?_
          rintro z wB ⟨rfl, bB⟩
          have hWB := bon hW1 bB
          clear cB
          obtain ⟨kl, q0, q1, f0, f1⟩ := HK2R.out.on hWB
          go_wp2_with fail
          exact bodyPost_ret (v := .agg #[.int .i64 6, .int .i64 (-1)]) (by simp [results, Tryz.results10, go_sem, q0, q1]) rfl ⟨by rw [HG.out], ((bon HB.out hWB).setCell (Nat.le_add_right _ 1) _).setCell (Nat.le_add_right _ 1) _⟩
    · have HH : Hid (l.any (hdB p) = false) := any_no (fun j hj => HN.out j hj (by omega))
      clear HN
      generalize wr = wA at *
      go_wp2_with fail
      go_loopw [7, 35] (fun S i W => ∃ k : Nat, k ≤ l.length ∧ i = .int .i64 k ∧ Hid (IW w2 W S (smL l p k))) (fun _ i _ => l.length - (intOf i).toNat)
      case atStart => exact ⟨0, Nat.zero_le _, rfl, ⟨World.ownsRow_nil _ _ _ _, hW⟩⟩
      case round =>
        obtain ⟨k, hk, rfl, HIW⟩ := hrel
        have hV := HIW.out.b
        by_cases hlt : k < l.length
        · obtain ⟨b, o, rfl, vW, vT, vD, vA, vG, vB, vR, vP, vS, vL, vF, kc, kz⟩ := (HL.out.on hV).at' k hlt
          obtain ⟨⟨a1, a2, a3, rfl⟩, ⟨b1, b2, b3, rfl⟩, ⟨c1, c2, c3, rfl⟩, ⟨d1, d2, d3, rfl⟩, ⟨e1, e2, e3, rfl⟩, ⟨f1, f2, f3, rfl⟩, ⟨g1, g2, g3, rfl⟩, ⟨i1, i2, i3, rfl⟩, ⟨j1, j2, j3, rfl⟩, ⟨l1, l2, l3, rfl⟩, ⟨m1, m2, m3, rfl⟩⟩ := kz.k11
          have hra := kc.range
          have HSY := Lib.hid (smL_yes (p := p) hlt)
          have HSN := Lib.hid (smL_no (p := p) hlt)
          have hle := smL_le l p k
          clear kc kz
          generalize l[k] = x at hra HSY HSN
          have hbx := b1c wr (kno 71 x (.slice a1 a2 a3) (.slice b1 b2 b3) (.slice c1 c2 c3) (.slice d1 d2 d3) (.slice e1 e2 e3) (.slice f1 f2 f3) (.slice g1 g2 g3) (.slice i1 i2 i3) (.slice j1 j2 j3) (.slice l1 l2 l3) (.slice m1 m2 m3))
          have hK2 := k20_new wr 71 x (.slice a1 a2 a3) (.slice b1 b2 b3) (.slice c1 c2 c3) (.slice d1 d2 d3) (.slice e1 e2 e3) (.slice f1 f2 f3) (.slice g1 g2 g3) (.slice i1 i2 i3) (.slice j1 j2 j3) (.slice l1 l2 l3) (.slice m1 m2 m3)
          have p0 := (HPB.out.on (bon hV hbx)).c0
          have k7 := hK2.c7
          have HI1 := Lib.hid (HIW.out.on hbx)
          clear hK2
          go_upto_region 10 with fail
          refine wp_region_lit ?_
          refine wpList_plain rfl fun K hK => ?_
          unfold Oper.wp
          simp [go_sem]
          refine hK _ _ ?_
          clear hK K
          refine wpList_plain rfl fun K hK => ?_
          unfold Oper.wp
          simp [go_sem, hlt]
          refine hK _ _ ?_
          clear hK K
          refine wpList_load_mid rfl 71 _ rfl b (o + k * 20) rfl _ _ hra Tryz.underlying71 rfl (by kernel_rfl) ?_
          refine wpList_plain rfl fun K hK => ?_
          unfold Oper.wp
          simp [go_sem]
          refine hK _ _ ?_
          clear hK K
          refine wpList_plain rfl fun K hK => ?_
          unfold Oper.wp
          simp [go_sem]
          refine hK _ _ ?_
          clear hK K
          refine wpList_store_new rfl 71 _ _ rfl _ _ rfl rfl (by kernel_rfl) (by rfl) (by first | rfl | simp [Value.oneCell']) ?_
          go_frame
          generalize wr.alloc (kno 71 x (.slice a1 a2 a3) (.slice b1 b2 b3) (.slice c1 c2 c3) (.slice d1 d2 d3) (.slice e1 e2 e3) (.slice f1 f2 f3) (.slice g1 g2 g3) (.slice i1 i2 i3) (.slice j1 j2 j3) (.slice l1 l2 l3) (.slice m1 m2 m3)) = wE at p0 k7 HI1 hbx ⊢
          cases hq : (x.p.o.n == p.o.n) with
          | false =>
            have HI2 : Hid (IW w2 wE u7 (smL l p (k + 1))) := by
              show IW _ _ _ _
              rw [HSN.out hq]; exact HI1.out
            go_wp2_with fail
            exact ⟨⟨k + 1, hlt, by go_num, HI2⟩, by simp [intOf]; omega⟩
          | true =>
            have HE2 := Lib.hid (HSY.out hq)
            have hsz := HI1.out.b.size
            clear HSY HSN
            go_wp2_with (first | (at_builtin; refine wpList_apG Tryz.underlying31 info3 (by decide) (by decide) [.int .i64 (k : Int)] rfl (by intro u hu; simp at hu; rw [hu]; rfl) HI1.out.o (by omega) hsz rfl _ _ rfl rfl _ rfl rfl ?_; intro g9 c9 w9 hR9 hB9; have HB9 := Lib.hid (hB9 _ (Nat.le_refl _)); have HR9 := Lib.hid hR9; clear hR9 hB9) | fail)
            refine ⟨⟨k + 1, hlt, by go_num, ⟨?_, HI1.out.b.trans HB9.out⟩⟩, by simp [intOf]; omega⟩
            rw [HE2.out, List.length_append, List.map_append]; exact HR9.out
        · have hke : k = l.length := by omega
          subst hke
          obtain ⟨S7, c7, hu7⟩ := HIW.out.is.sl
          have hIs := HIW.out.is
          rw [hu7] at hIs ⊢
          have hle := smL_le l p l.length
          obtain ⟨tA1, tA2⟩ := tla_parts HOP.out.A
          have hlO : ((sel l (uf l p) l.length).map (·.p)).length ≤ 1000 := by rw [List.length_map]; have := sel_le l (uf l p) l.length; omega
          have HO1 : Hid (∀ q ∈ (sel l (uf l p) l.length).map (·.p), Oh q.o) := fun q hq => sel_oh (f := uf l p) HSo.out q.o (by obtain ⟨k, hk, rfl⟩ := List.mem_map.1 hq; exact List.mem_map.2 ⟨k, hk, rfl⟩)
          have HUM : Hid (upM l p = met (((sel l (uf l p) l.length).map (·.p)).map (·.o)) p.A) := by show _ = _; unfold upM; rw [List.map_map]; rfl
          have cW := working_any (.slice A l.length c) (.slice S7 (smL l p l.length).length c7) l (smL l p l.length) wr.drew ((HL.out.on hV).on (Below.refl _ _).drew) (hIs.on (Below.refl _ _).drew) hn (by omega)
          rw [sel_same] at cW
          generalize (sel l (uf l p) l.length).map (·.p) = Q at cW hlO HO1 HUM
          have hS : Below wr.heap.size wr wr.drew := (Below.refl _ _).drew
          have p5' := (HPB.out.on hV).c5
          have hpl : w.heap.size < wr.heap.size := block_lt_of_cell p5'
          generalize (smL l p l.length).length = n7 at cW hIs hle ⊢
          clear HIW hu7
          go_upto_region 14 with fail
          refine wp_region_held (S := fun V => Below wr.heap.size wr V) (by kernel_rfl) ?_
          refine take_d (some 52) (i := 0) (v := .pointer (some ⟨w.heap.size, 5, none⟩)) rfl rfl (by kernel_rfl) (by kernel_rfl) (by kernel_rfl) (fun _ _ _ h => h) (.inl ⟨by kernel_rfl, fun w' hw => by simp [go_sem]⟩) hS ?_
          refine take_d (some 53) (i := 1) (v := .slice a4 p.A.length a5) rfl rfl (by kernel_rfl) (by kernel_rfl) (by kernel_rfl) (fun _ _ _ h => h) (.inl ⟨by kernel_rfl, fun w' hw => by simp [go_sem, (hw.cell (p := ⟨w.heap.size, 5, none⟩) hpl).trans p5']⟩) hS ?_
          refine take_d (some 54) (i := 2) (v := .slice A l.length c) rfl rfl (by kernel_rfl) (by kernel_rfl) (by kernel_rfl) (fun _ _ _ h => h) (.inl ⟨by kernel_rfl, fun w' hw => by simp [go_sem]⟩) hS ?_
          refine take_d (some 55) (i := 3) (v := .slice S7 n7 c7) rfl rfl (by kernel_rfl) (by kernel_rfl) (by kernel_rfl) (fun _ _ _ h => h) (.inl ⟨by kernel_rfl, fun w' hw => by simp [go_sem]⟩) hS ?_
          simp only [Act.put, List.setIfInBounds_toArray, List.set_cons_succ, List.set_cons_zero]
          refine wpAnyH_all (rs := [4]) (by kernel_rfl) (by simp) fun i hi => ?_
          obtain rfl : i = 4 := by simpa using hi
          refine wpOp_want rfl (by kernel_rfl) ?_
          unfold Oper.wp
          simp [go_sem]
          refine cW.mono ?_
          rintro z V1 ⟨S, q, rfl, hPW⟩
          have hS1 : Below wr.heap.size wr V1 := bon hS hPW.b
          have cR := rmet_any (.slice a4 p.A.length a5) S p.A Q V1 ((HP.out.on (bon hV hS1)).A) (by omega) hPW.ps HO1.out hlO tA2
          rw [← HUM.out] at cR
          obtain ⟨S1, S2, hSe⟩ := hPW.ps.sl
          rw [hSe] at cR ⊢
          refine ⟨hS1, ?_⟩
          refine wpAnyH_all (rs := [5]) (by kernel_rfl) (by simp) fun i hi => ?_
          obtain rfl : i = 5 := by simpa using hi
          refine wpOp_want rfl (by kernel_rfl) ?_
          unfold Oper.wp
          simp [go_sem]
          refine cR.mono ?_
          rintro z V2 ⟨rfl, bV2⟩
          have hS2 := bon hS1 bV2
          have hVC := bon hV hS2
          refine ⟨hS2, ?_⟩
          clear cW cR hPW hSe bV2
          obtain ⟨r1, r2, hum⟩ : ∃ r1 r2, upM l p = (r1, r2) := ⟨_, _, rfl⟩
          rw [hum]
          have HUM2 := Lib.hid hum
          clear hum HUM
          refine take_d (some 51) (i := 6) (v := .tuple #[.int .i64 r1, .bool r2]) rfl rfl (by kernel_rfl) (by kernel_rfl) (by kernel_rfl) (fun _ _ _ h => h) (.inl ⟨by kernel_rfl, fun w' hw => by simp [go_sem]⟩) hS2 ?_
          refine take_d (some 58) (i := 7) (v := .int .i64 r1) rfl rfl (by kernel_rfl) (by kernel_rfl) (by kernel_rfl) (fun _ _ _ h => h) (.inl ⟨by kernel_rfl, fun w' hw => by simp [go_sem]⟩) hS2 ?_
          refine take_d (some 59) (i := 8) (v := .bool r2) rfl rfl (by kernel_rfl) (by kernel_rfl) (by kernel_rfl) (fun _ _ _ h => h) (.inl ⟨by kernel_rfl, fun w' hw => by simp [go_sem]⟩) hS2 ?_
          refine take_d (some 10) (i := 9) (v := .int .i64 r1) rfl rfl (by kernel_rfl) (by kernel_rfl) (by kernel_rfl) (fun _ _ _ h => h) (.inl ⟨by kernel_rfl, fun w' hw => by simp [go_sem]⟩) hS2 ?_
          refine take_d (some 11) (i := 10) (v := .bool r2) rfl rfl (by kernel_rfl) (by kernel_rfl) (by kernel_rfl) (fun _ _ _ h => h) (.inl ⟨by kernel_rfl, fun w' hw => by simp [go_sem]⟩) hS2 ?_
          refine wpAnyH_done (by kernel_rfl) ?_ _
          simp only [Act.put, List.setIfInBounds_toArray, List.set_cons_succ, List.set_cons_zero]
          generalize wr = wB at *
          cases r2 with
          | false =>
            have HG : Hid (E = (7, r1)) := by
              show _ = _
              rw [HE.out]; unfold upE
              rw [if_neg (by rw [HH.out]; simp), HUM2.out]; rfl
            obtain ⟨kl, q0, q1, f0, f1⟩ := HK2R.out.on hVC
            go_wp2_with fail
            exact bodyPost_ret (v := .agg #[.int .i64 7, .int .i64 r1]) (by simp [results, Tryz.results10, go_sem, q0, q1]) rfl ⟨by rw [HG.out], ((bon HB.out hVC).setCell (Nat.le_add_right _ 1) _).setCell (Nat.le_add_right _ 1) _⟩
          | true =>
            go_wp2_with fail
            go_loopw [66] (fun i W => ∃ k : Nat, k ≤ l.length ∧ i = .int .i64 k ∧ Below w2.heap.size w2 W ∧ Hid (∀ j (hj : j < l.length), j < k → upF p l[j] = false)) (fun i _ => l.length - (intOf i).toNat)
            case atStart => exact ⟨0, Nat.zero_le _, rfl, hVC, fun j _ h => absurd h (Nat.not_lt_zero _)⟩
            case round =>
              obtain ⟨k, hk, rfl, hX, HN⟩ := hrel
              by_cases hlt : k < l.length
              · obtain ⟨b, o, rfl, vW, vT, vD, vA, vG, vB, vR, vP, vS, vL, vF, kc, kz⟩ := (HL.out.on hX).at' k hlt
                obtain ⟨⟨a1, a2, a3, rfl⟩, ⟨b1, b2, b3, rfl⟩, ⟨c1, c2, c3, rfl⟩, ⟨d1, d2, d3, rfl⟩, ⟨e1, e2, e3, rfl⟩, ⟨f1, f2, f3, rfl⟩, ⟨g1, g2, g3, rfl⟩, ⟨i1, i2, i3, rfl⟩, ⟨j1, j2, j3, rfl⟩, ⟨l1, l2, l3, rfl⟩, ⟨m1, m2, m3, rfl⟩⟩ := kz.k11
                have hra := kc.range
                have hSk := HSo.out l[k] (List.getElem_mem hlt)
                have HHit : Hid (upF p l[k] = true → E = (bs l[k] p, (k : Int))) := fun h => by
                  show _ = _
                  rw [HE.out]; unfold upE
                  rw [if_neg (by rw [HH.out]; simp), HUM2.out, fi_yes k hlt h (fun j hj h => HN.out j hj h)]
                  simp [List.getD, hlt]
                have HNo : Hid (upF p l[k] = false → ∀ j (hj : j < l.length), j < k + 1 → upF p l[j] = false) := fun hh j hj h => by
                  by_cases e : j = k
                  · subst e; exact hh
                  · exact HN.out j hj (by omega)
                have HZ := Lib.hid kz
                clear kc kz
                generalize l[k] = x at hra hSk HHit HNo HZ
                have hbx := b1c wr (kno 71 x (.slice a1 a2 a3) (.slice b1 b2 b3) (.slice c1 c2 c3) (.slice d1 d2 d3) (.slice e1 e2 e3) (.slice f1 f2 f3) (.slice g1 g2 g3) (.slice i1 i2 i3) (.slice j1 j2 j3) (.slice l1 l2 l3) (.slice m1 m2 m3))
                have HK2 := Lib.hid (k20_new wr 71 x (.slice a1 a2 a3) (.slice b1 b2 b3) (.slice c1 c2 c3) (.slice d1 d2 d3) (.slice e1 e2 e3) (.slice f1 f2 f3) (.slice g1 g2 g3) (.slice i1 i2 i3) (.slice j1 j2 j3) (.slice l1 l2 l3) (.slice m1 m2 m3))
                have hX1 := bon hX hbx
                obtain ⟨hG1, hG2⟩ := fla_parts HOP.out.G
                obtain ⟨hG3, hG4⟩ := fla_parts hSk.G
                obtain ⟨hG5, hG6⟩ := fla_parts HOP.out.B
                obtain ⟨hG7, hG8⟩ := fla_parts hSk.B
                have M1 : Hid (∀ W, Below wr.heap.size wr W → Calls Tryz.prog 38 #[pkv x.p.o.n x.p.o.e x.p.o.u x.p.o.r (.slice c1 c2 c3) (.slice d1 d2 d3) (.slice e1 e2 e3) (.slice f1 f2 f3) (.slice g1 g2 g3) (.slice i1 i2 i3) (.slice j1 j2 j3) (.slice l1 l2 l3) (.slice m1 m2 m3), .slice g4 p.G.length g5] W fun e w' => e = .returned (.bool (on1 x.p.o p.G)) ∧ Below W.heap.size W w') := fun W hW' => xone_any x.p _ _ _ _ _ _ _ _ _ _ p.G W (HZ.out.on hW').z (HP.out.on (bon hX hW')).G (by omega) hSk.oh hG2
                have M2 : Hid (∀ W, Below wr.heap.size wr W → Calls Tryz.prog 38 #[pkv p.o.n p.o.e p.o.u p.o.r (.slice d4 p.D.length d5) (.slice a4 p.A.length a5) (.slice g4 p.G.length g5) (.slice b4 p.B.length b5) (.slice r4 p.R.length r5) (.slice p4 p.o.P.length p5) (.slice s4 p.S.length s5) (.slice l4 p.L.length l5) (.slice f4 p.F.length f5), .slice e1 e2 e3] W fun e w' => e = .returned (.bool (on1 p.o x.p.G)) ∧ Below W.heap.size W w') := fun W hW' => xone_any p _ _ _ _ _ _ _ _ _ _ x.p.G W (HP.out.on (bon hX hW')) (HZ.out.on hW').z.G (by omega) HOP.out.oh hG4
                have M3 : Hid (∀ W, Below wr.heap.size wr W → Calls Tryz.prog 38 #[pkv x.p.o.n x.p.o.e x.p.o.u x.p.o.r (.slice c1 c2 c3) (.slice d1 d2 d3) (.slice e1 e2 e3) (.slice f1 f2 f3) (.slice g1 g2 g3) (.slice i1 i2 i3) (.slice j1 j2 j3) (.slice l1 l2 l3) (.slice m1 m2 m3), .slice b4 p.B.length b5] W fun e w' => e = .returned (.bool (on1 x.p.o p.B)) ∧ Below W.heap.size W w') := fun W hW' => xone_any x.p _ _ _ _ _ _ _ _ _ _ p.B W (HZ.out.on hW').z (HP.out.on (bon hX hW')).B (by omega) hSk.oh hG6
                have M4 : Hid (∀ W, Below wr.heap.size wr W → Calls Tryz.prog 38 #[pkv p.o.n p.o.e p.o.u p.o.r (.slice d4 p.D.length d5) (.slice a4 p.A.length a5) (.slice g4 p.G.length g5) (.slice b4 p.B.length b5) (.slice r4 p.R.length r5) (.slice p4 p.o.P.length p5) (.slice s4 p.S.length s5) (.slice l4 p.L.length l5) (.slice f4 p.F.length f5), .slice f1 f2 f3] W fun e w' => e = .returned (.bool (on1 p.o x.p.B)) ∧ Below W.heap.size W w') := fun W hW' => xone_any p _ _ _ _ _ _ _ _ _ _ x.p.B W (HP.out.on (bon hX hW')) (HZ.out.on hW').z.B (by omega) HOP.out.oh hG8
                have M5 : Hid (∀ W, Calls Tryz.prog 39 #[knv x (.slice a1 a2 a3) (.slice b1 b2 b3) (.slice c1 c2 c3) (.slice d1 d2 d3) (.slice e1 e2 e3) (.slice f1 f2 f3) (.slice g1 g2 g3) (.slice i1 i2 i3) (.slice j1 j2 j3) (.slice l1 l2 l3) (.slice m1 m2 m3)] W fun e w' => e = .returned (.bool (wk x)) ∧ Below W.heap.size W w') := fun W => xworks_any x _ _ _ _ _ _ _ _ _ _ _ W HZ.out.k11
                obtain ⟨y1, hy⟩ : ∃ y, on1 x.p.o p.G = y := ⟨_, rfl⟩
                have HY1 := Lib.hid hy
                rw [hy] at M1
                clear hy
                obtain ⟨y2, hy⟩ : ∃ y, on1 p.o x.p.G = y := ⟨_, rfl⟩
                have HY2 := Lib.hid hy
                rw [hy] at M2
                clear hy
                obtain ⟨y4, hy⟩ : ∃ y, on1 x.p.o p.B = y := ⟨_, rfl⟩
                have HY4 := Lib.hid hy
                rw [hy] at M3
                clear hy
                obtain ⟨y5, hy⟩ : ∃ y, on1 p.o x.p.B = y := ⟨_, rfl⟩
                have HY5 := Lib.hid hy
                rw [hy] at M4
                clear hy
                obtain ⟨y3, hy⟩ : ∃ y, wk x = y := ⟨_, rfl⟩
                have HY3 := Lib.hid hy
                rw [hy] at M5
                clear hy
                obtain ⟨st, hy⟩ : ∃ y, x.st = y := ⟨_, rfl⟩
                have HST := Lib.hid hy
                have k0 := HK2.out.c0
                rw [hy] at k0
                clear hy
                have p0 := (HPB.out.on hX1).c0
                have k7 := HK2.out.c7
                clear hSk hG1 hG2 hG3 hG4 hG5 hG6 hG7 hG8
                go_upto_region 19 with fail
                refine wp_region_lit ?_
                refine wpList_plain rfl fun K hK => ?_
                unfold Oper.wp
                simp [go_sem]
                refine hK _ _ ?_
                clear hK K
                refine wpList_plain rfl fun K hK => ?_
                unfold Oper.wp
                simp [go_sem, hlt]
                refine hK _ _ ?_
                clear hK K
                refine wpList_load_mid rfl 71 _ rfl b (o + k * 20) rfl _ _ hra Tryz.underlying71 rfl (by kernel_rfl) ?_
                refine wpList_plain rfl fun K hK => ?_
                unfold Oper.wp
                simp [go_sem]
                refine hK _ _ ?_
                clear hK K
                refine wpList_plain rfl fun K hK => ?_
                unfold Oper.wp
                simp [go_sem]
                refine hK _ _ ?_
                clear hK K
                refine wpList_store_new rfl 71 _ _ rfl _ _ rfl rfl (by kernel_rfl) (by rfl) (by first | rfl | simp [Value.oneCell']) ?_
                go_frame
                generalize wr.alloc (kno 71 x (.slice a1 a2 a3) (.slice b1 b2 b3) (.slice c1 c2 c3) (.slice d1 d2 d3) (.slice e1 e2 e3) (.slice f1 f2 f3) (.slice g1 g2 g3) (.slice i1 i2 i3) (.slice j1 j2 j3) (.slice l1 l2 l3) (.slice m1 m2 m3)) = wE at p0 k0 k7 HK2 hbx hX1 ⊢
                clear hra
                cases hq : (x.p.o.n == p.o.n) with
                | true =>
                  have HN1 := Lib.hid (HNo.out (by unfold upF; rw [hq]; rfl))
                  go_wp2_with fail
                  exact ⟨⟨k + 1, hlt, by go_num, hX1, HN1⟩, by simp [intOf]; omega⟩
                | false =>
                  by_cases h01 : st = 0 ∨ st = 1
                  · have HN1 := Lib.hid (HNo.out (by unfold upF hf; rw [HST.out]; rcases h01 with rfl | rfl <;> simp))
                    rcases h01 with rfl | rfl
                    · go_wp2_with fail
                      exact ⟨⟨k + 1, hlt, by go_num, hX1, HN1⟩, by simp [intOf]; omega⟩
                    · go_wp2_with fail
                      exact ⟨⟨k + 1, hlt, by go_num, hX1, HN1⟩, by simp [intOf]; omega⟩
                  · have hs0 : (st == 0) = false := by rw [beq_eq_false_iff_ne]; omega
                    have hs1 : (st == 1) = false := by rw [beq_eq_false_iff_ne]; omega
                    have HF : Hid (upF p x = !(bs x p == 0)) := by show _ = _; unfold upF hf; rw [HST.out, hq, hs0, hs1]; simp
                    have p6 := (HPB.out.on hX1).c6
                    clear h01
                    go_upto_region 21 with fail
                    refine wp_region_lit ?_
                    refine wpList_plain rfl fun K hK => ?_
                    unfold Oper.wp
                    simp [go_sem]
                    refine hK _ _ ?_
                    clear hK K
                    refine wpList_load_mid rfl 30 _ rfl wr.heap.size 7 rfl _ _ HK2.out.pack Tryz.underlying30 rfl (by kernel_rfl) ?_
                    go_frame
                    refine wpList_plain rfl fun K hK => ?_
                    unfold Oper.wp
                    simp [go_sem]
                    refine hK _ _ ?_
                    clear hK K
                    refine wpList_plain rfl fun K hK => ?_
                    unfold Oper.wp
                    simp [go_sem, p6]
                    refine hK _ _ ?_
                    clear hK K
                    go_wp2_with fail
                    refine (M1.out wE hbx).mono ?_
                    rintro z wF ⟨rfl, bF⟩
                    have hX2 := bon hX1 bF
                    have hbF := bon hbx bF
                    clear p6 p0 k0 k7
                    cases y1 with
                    | true =>
                      have HB0 : Hid (bs x p = 13) := by show _ = _; unfold bs; simp [HY1.out]
                      have HG := Lib.hid (HHit.out (by rw [HF.out, HB0.out]; rfl))
                      rw [HB0.out] at HG
                      obtain ⟨kl, q0, q1, f0, f1⟩ := HK2R.out.on hX2
                      go_wp2_with fail
                      exact bodyPost_ret (v := .agg #[.int .i64 13, .int .i64 k]) (by simp [results, Tryz.results10, go_sem, q0, q1]) rfl ⟨by rw [HG.out], ((bon HB.out hX2).setCell (Nat.le_add_right _ 1) _).setCell (Nat.le_add_right _ 1) _⟩
                    | false =>
                      have k13 := (HK2.out.on bF).c13
                      have rP := (HPB.out.on hX2).range
                      apply_assumption
                      refine wpList_plain rfl fun K hK => ?_
                      unfold Oper.wp
                      simp [go_sem]
                      refine hK _ _ ?_
                      clear hK K
                      refine wpList_load_midg (by kernel_rfl) 30 _ rfl w.heap.size 0 rfl _ _ rP Tryz.underlying30 rfl (by kernel_rfl) ?_
                      go_frame
                      refine BigFrame.wpList_want (by kernel_rfl) fun K hK => ?_
                      unfold Oper.wp
                      simp [go_sem]
                      refine hK _ _ ?_
                      clear hK K
                      refine BigFrame.wpList_want (by kernel_rfl) fun K hK => ?_
                      unfold Oper.wp
                      simp [go_sem]
                      refine hK _ _ ?_
                      clear hK K
                      refine BigFrame.wpList_want (by kernel_rfl) fun K hK => ?_
                      unfold Oper.wp
                      simp [go_sem, k13]
                      refine hK _ _ ?_
                      clear hK K
                      go_wp2_with fail
                      refine (M2.out wF hbF).mono ?_
                      rintro z wG ⟨rfl, bG'⟩
                      have bG := bon bF bG'
                      have hX3 := bon hX1 bG
                      have hbG := bon hbx bG
                      clear k13 rP hX2 hbF bG' bF
                      cases y2 with
                      | true =>
                        have HB0 : Hid (bs x p = 13) := by show _ = _; unfold bs; simp [HY1.out, HY2.out]
                        have HG := Lib.hid (HHit.out (by rw [HF.out, HB0.out]; rfl))
                        rw [HB0.out] at HG
                        obtain ⟨kl, q0, q1, f0, f1⟩ := HK2R.out.on hX3
                        go_wp2_with fail
                        exact bodyPost_ret (v := .agg #[.int .i64 13, .int .i64 k]) (by simp [results, Tryz.results10, go_sem, q0, q1]) rfl ⟨by rw [HG.out], ((bon HB.out hX3).setCell (Nat.le_add_right _ 1) _).setCell (Nat.le_add_right _ 1) _⟩
                      | false =>
                        have rK := (HK2.out.on bG).range
                        go_upto_region 23 with fail
                        refine wp_region_lit ?_
                        refine wpList_load_mid rfl 71 _ rfl wr.heap.size 0 rfl _ _ rK Tryz.underlying71 rfl (by kernel_rfl) ?_
                        go_frame
                        go_wp2_with fail
                        refine (M5.out wG).mono ?_
                        rintro z wH ⟨rfl, bH'⟩
                        have bH := bon bG bH'
                        have hX4 := bon hX1 bH
                        have hbH := bon hbx bH
                        clear rK hX3 hbG bH' bG
                        cases y3 with
                        | false =>
                          have HN1 := Lib.hid (HNo.out (by rw [HF.out]; unfold bs; simp [HY1.out, HY2.out, HY3.out]))
                          go_wp2_with fail
                          exact ⟨⟨k + 1, hlt, by go_num, hX4, HN1⟩, by simp [intOf]; omega⟩
                        | true =>
                          have rK := (HK2.out.on bH).pack
                          have p7 := (HPB.out.on hX4).c7
                          apply_assumption
                          refine wpList_plain rfl fun K hK => ?_
                          unfold Oper.wp
                          simp [go_sem]
                          refine hK _ _ ?_
                          clear hK K
                          refine BigFrame.wpList_want (by kernel_rfl) fun K hK => ?_
                          unfold Oper.wp
                          simp [go_sem]
                          refine hK _ _ ?_
                          clear hK K
                          refine wpList_load_midg (by kernel_rfl) 30 _ rfl wr.heap.size 7 rfl _ _ rK Tryz.underlying30 rfl (by kernel_rfl) ?_
                          go_frame
                          refine BigFrame.wpList_want (by kernel_rfl) fun K hK => ?_
                          unfold Oper.wp
                          simp [go_sem]
                          refine hK _ _ ?_
                          clear hK K
                          refine BigFrame.wpList_want (by kernel_rfl) fun K hK => ?_
                          unfold Oper.wp
                          simp [go_sem, p7]
                          refine hK _ _ ?_
                          clear hK K
                          go_wp2_with fail
                          refine (M3.out wH hbH).mono ?_
                          rintro z wI ⟨rfl, bI'⟩
                          have bI := bon bH bI'
                          have hX5 := bon hX1 bI
                          have hbI := bon hbx bI
                          clear rK p7 hX4 hbH bI' bH
                          cases y4 with
                          | true =>
                            have HB0 : Hid (bs x p = 10) := by show _ = _; unfold bs; simp [HY1.out, HY2.out, HY3.out, HY4.out]
                            have HG := Lib.hid (HHit.out (by rw [HF.out, HB0.out]; rfl))
                            rw [HB0.out] at HG
                            obtain ⟨kl, q0, q1, f0, f1⟩ := HK2R.out.on hX5
                            go_wp2_with fail
                            exact bodyPost_ret (v := .agg #[.int .i64 10, .int .i64 k]) (by simp [results, Tryz.results10, go_sem, q0, q1]) rfl ⟨by rw [HG.out], ((bon HB.out hX5).setCell (Nat.le_add_right _ 1) _).setCell (Nat.le_add_right _ 1) _⟩
                          | false =>
                            have k14 := (HK2.out.on bI).c14
                            have rP := (HPB.out.on hX5).range
                            apply_assumption
                            refine BigFrame.wpList_want (by kernel_rfl) fun K hK => ?_
                            unfold Oper.wp
                            simp [go_sem]
                            refine hK _ _ ?_
                            clear hK K
                            refine wpList_load_midg (by kernel_rfl) 30 _ rfl w.heap.size 0 rfl _ _ rP Tryz.underlying30 rfl (by kernel_rfl) ?_
                            go_frame
                            refine BigFrame.wpList_want (by kernel_rfl) fun K hK => ?_
                            unfold Oper.wp
                            simp [go_sem]
                            refine hK _ _ ?_
                            clear hK K
                            refine BigFrame.wpList_want (by kernel_rfl) fun K hK => ?_
                            unfold Oper.wp
                            simp [go_sem]
                            refine hK _ _ ?_
                            clear hK K
                            refine BigFrame.wpList_want (by kernel_rfl) fun K hK => ?_
                            unfold Oper.wp
                            simp [go_sem, k14]
                            refine hK _ _ ?_
                            clear hK K
                            go_wp2_with fail
                            refine (M4.out wI hbI).mono ?_
                            rintro z wJ ⟨rfl, bJ'⟩
                            have bJ := bon bI bJ'
                            have hX6 := bon hX1 bJ
                            clear k14 rP hX5 hbI bJ' bI
                            cases y5 with
                            | true =>
                              have HB0 : Hid (bs x p = 10) := by show _ = _; unfold bs; simp [HY1.out, HY2.out, HY3.out, HY4.out, HY5.out]
                              have HG := Lib.hid (HHit.out (by rw [HF.out, HB0.out]; rfl))
                              rw [HB0.out] at HG
                              obtain ⟨kl, q0, q1, f0, f1⟩ := HK2R.out.on hX6
                              go_wp2_with fail
                              exact bodyPost_ret (v := .agg #[.int .i64 10, .int .i64 k]) (by simp [results, Tryz.results10, go_sem, q0, q1]) rfl ⟨by rw [HG.out], ((bon HB.out hX6).setCell (Nat.le_add_right _ 1) _).setCell (Nat.le_add_right _ 1) _⟩
                            | false =>
                              have HN1 := Lib.hid (HNo.out (by rw [HF.out]; unfold bs; simp [HY1.out, HY2.out, HY3.out, HY4.out, HY5.out]))
                              go_wp2_with fail
                              exact ⟨⟨k + 1, hlt, by go_num, hX6, HN1⟩, by simp [intOf]; omega⟩
              · have HG : Hid (E = (0, -1)) := by
                  show _ = _
                  rw [HE.out]; unfold upE
                  rw [if_neg (by rw [HH.out]; simp), HUM2.out, fi_no (fun j hj => HN.out j hj (by omega))]; rfl
                have g0 := (HFi.out.on hX).c0
                have g1 := (HFi.out.on hX).c1
                obtain ⟨kl, q0, q1, f0, f1⟩ := HK2R.out.on hX
                go_wp2_with fail
                exact bodyPost_ret (v := .agg #[.int .i64 0, .int .i64 (-1)]) (by simp [results, Tryz.results10, go_sem, q0, q1]) rfl ⟨by rw [HG.out], ((bon HB.out hX).setCell (Nat.le_add_right _ 1) _).setCell (Nat.le_add_right _ 1) _⟩
end Go.Proofs.YthijccmiemlilaaGreatDoor
