/- The walk of Unpack. -/
import Derived.Test.YthijccmiemlilaaGreatDoorKg
namespace Go.Proofs.YthijccmiemlilaaGreatDoor
open Go.RowKit Go.Sort

theorem wpList_load_midg {ops : Array Oper} {rest : List Oper} {op : Oper} {a : Act} {w : World} {Q : Exit → Act → World → Prop} (hw : Region.wanted op (yielded ops a.tmps) = true) (ty : TypeId) (x : Operand) (ho : op.op = .load ty x)
    (b o : Nat) (hx : a.eval x = .pointer (some ⟨b, o, none⟩)) (cs : List Value) (d : TypeDesc) (hc : w.rangeAt b o cs)
    (hu : Tryz.prog.underlying ty = some d) (hd : d.isRow = true) (hi : (Tryz.prog.info? ty).map (·.size) = some cs.length)
    (h : wpList Tryz.prog ops Q rest (a.put op.dst (.agg cs.toArray)) w) : wpList Tryz.prog ops Q (op :: rest) a w :=
  BigFrame.wpList_want hw fun _ hK => wp_load_mid ty x ho b o hx cs d hc hu hd hi (hK _ _ h)
/-- Is it held? What is missing? Who may not stand beside it? -/
def hdB (p : Pck) (k : Kn) : Bool := k.p.o.n == p.o.n && k.hd
def upM (l : List Kn) (p : Pck) : Int × Bool := met ((sel l (uf l p) l.length).map (·.p.o)) p.A
def upF (p : Pck) (k : Kn) : Bool := !(k.p.o.n == p.o.n) && hf k && !(bs k p == 0)
def upE (l : List Kn) (p : Pck) : Int × Int := if l.any (hdB p) then (6, -1) else if (upM l p).2 then (match l.findIdx? (upF p) with
  | some i => (bs (l.getD i default) p, (i : Int))
  | none => (0, -1)) else (7, (upM l p).1)
theorem sel_oh {l : List Kn} {f : Nat → Bool} (h : ∀ k ∈ l, Sok k.p) : ∀ o ∈ (sel l f l.length).map (·.p.o), Oh o := fun o ho => by
  obtain ⟨k, hk, rfl⟩ := List.mem_map.1 ho
  unfold sel at hk
  obtain ⟨i, hi, rfl⟩ := List.mem_map.1 hk
  have hi2 := (List.mem_filter.1 hi).1
  rw [List.mem_range] at hi2
  rw [show l.getD i default = l[i] from by simp [List.getD, hi2]]
  exact (h _ (List.getElem_mem hi2)).oh
set_option maxHeartbeats 6400000 in
set_option maxRecDepth 100000 in
theorem unpack_any (v : Value) (l : List Kn) (p : Pck) (uD uA uG uB uR uP uS uL uF : Value) (w : World) (hl : Ks w v l) (hp : Pz w p uD uA uG uB uR uP uS uL uF) (hn : l.length ≤ 1000) (hSo : ∀ k ∈ l, Sok k.p) (hop : Sok p) : Calls Tryz.prog 9 #[v, pkv p.o.n p.o.e p.o.u p.o.r uD uA uG uB uR uP uS uL uF] w fun x w' => ∃ z, x = .returned z ∧ ErrIs w' z (upE l p).1 (upE l p).2 ∧ Below w.heap.size w w' := by
  obtain ⟨A, c, rfl⟩ := hl.sl
  obtain ⟨d4, d5, rfl⟩ := hp.D.sl
  obtain ⟨a4, a5, rfl⟩ := hp.A.sl
  obtain ⟨g4, g5, rfl⟩ := hp.G.sl
  obtain ⟨b4, b5, rfl⟩ := hp.B.sl
  obtain ⟨r4, r5, rfl⟩ := hp.R.sl
  obtain ⟨p4, p5, rfl⟩ := hp.P.sl
  obtain ⟨s4, s5, rfl⟩ := hp.S.sl
  obtain ⟨l4, l5, rfl⟩ := hp.L.sl
  obtain ⟨f4, f5, rfl⟩ := hp.F.sl
  obtain ⟨E, hE⟩ : ∃ E, E = upE l p := ⟨_, rfl⟩
  have HE := Lib.hid hE
  rw [← hE]
  clear hE
  obtain ⟨w2, hw2⟩ : ∃ w2, w2 = (w.alloc (.cells #[.slice A l.length c] 32)).alloc (pko p.o.n p.o.e p.o.u p.o.r (.slice d4 p.D.length d5) (.slice a4 p.A.length a5) (.slice g4 p.G.length g5) (.slice b4 p.B.length b5) (.slice r4 p.R.length r5) (.slice p4 p.o.P.length p5) (.slice s4 p.S.length s5) (.slice l4 p.L.length l5) (.slice f4 p.F.length f5)) := ⟨_, rfl⟩
  have hb2 : Below w.heap.size w w2 := by rw [hw2]; exact b2c _ _ _
  have hPB : Pb w2 (w.heap.size + 1) p (.slice d4 p.D.length d5) (.slice a4 p.A.length a5) (.slice g4 p.G.length g5) (.slice b4 p.B.length b5) (.slice r4 p.R.length r5) (.slice p4 p.o.P.length p5) (.slice s4 p.S.length s5) (.slice l4 p.L.length l5) (.slice f4 p.F.length f5) := by
    have h := pb_new (w.alloc (.cells #[.slice A l.length c] 32)) p (.slice d4 p.D.length d5) (.slice a4 p.A.length a5) (.slice g4 p.G.length g5) (.slice b4 p.B.length b5) (.slice r4 p.R.length r5) (.slice p4 p.o.P.length p5) (.slice s4 p.S.length s5) (.slice l4 p.L.length l5) (.slice f4 p.F.length f5)
    rw [World.size_alloc] at h
    rw [hw2]
    exact h
  have hcA : w2.cell? ⟨w.heap.size, 0, none⟩ = some (.slice A l.length c) := by
    rw [hw2, World.cell?_alloc_lt _ _ ⟨w.heap.size, _, none⟩ (by simp)]
    simp
  have HL := Lib.hid (hl.on hb2)
  have HP := Lib.hid (hp.on hb2)
  have HSo := Lib.hid hSo
  have HOP := Lib.hid hop
  have HB := Lib.hid hb2
  have HPB := Lib.hid hPB
  have HCA := Lib.hid hcA
  clear hl hp hSo hop hb2 hPB hcA
  go_enter Tryz.func9, Tryz.ntmps9
  have q0 := HCA.out
  go_upto_region 1 with fail
  rw [← hw2]
  clear hw2
  go_wp2_with fail
  go_loopw [14] (fun i W => ∃ k : Nat, k ≤ l.length ∧ i = .int .i64 k ∧ Below w2.heap.size w2 W ∧ Hid (∀ j (hj : j < l.length), j < k → hdB p l[j] = false)) (fun i _ => l.length - (intOf i).toNat)
  case atStart => exact ⟨0, Nat.zero_le _, rfl, Below.refl _ _, fun j _ h => absurd h (Nat.not_lt_zero _)⟩
  case round =>
    obtain ⟨k, hk, rfl, hW, HN⟩ := hrel
    clear q0
    by_cases hlt : k < l.length
    · obtain ⟨b, o, rfl, vW, vT, vD, vA, vG, vB, vR, vP, vS, vL, vF, kc, kz⟩ := (HL.out.on hW).at' k hlt
      obtain ⟨⟨a1, a2, a3, rfl⟩, ⟨b1, b2, b3, rfl⟩, ⟨c1, c2, c3, rfl⟩, ⟨d1, d2, d3, rfl⟩, ⟨e1, e2, e3, rfl⟩, ⟨f1, f2, f3, rfl⟩, ⟨g1, g2, g3, rfl⟩, ⟨i1, i2, i3, rfl⟩, ⟨j1, j2, j3, rfl⟩, ⟨l1, l2, l3, rfl⟩, ⟨m1, m2, m3, rfl⟩⟩ := kz.k11
      have hra := kc.range
      obtain ⟨y, hy⟩ : ∃ y, hdB p l[k] = y := ⟨_, rfl⟩
      have HY := Lib.hid hy
      have hy2 : (l[k].p.o.n == p.o.n && l[k].hd) = y := hy
      clear kc kz hy
      generalize l[k] = x at hra hy2
      have hbx := b1c wr (kno 60 x (.slice a1 a2 a3) (.slice b1 b2 b3) (.slice c1 c2 c3) (.slice d1 d2 d3) (.slice e1 e2 e3) (.slice f1 f2 f3) (.slice g1 g2 g3) (.slice i1 i2 i3) (.slice j1 j2 j3) (.slice l1 l2 l3) (.slice m1 m2 m3))
      have hK2 := k20_new wr 60 x (.slice a1 a2 a3) (.slice b1 b2 b3) (.slice c1 c2 c3) (.slice d1 d2 d3) (.slice e1 e2 e3) (.slice f1 f2 f3) (.slice g1 g2 g3) (.slice i1 i2 i3) (.slice j1 j2 j3) (.slice l1 l2 l3) (.slice m1 m2 m3)
      have p0 := (HPB.out.on (bon hW hbx)).c0
      have k4 := hK2.c4
      have k7 := hK2.c7
      have hW1 := bon hW hbx
      clear hK2
      go_upto_region 3 with fail
      refine wp_region_lit ?_
      refine wpList_plain rfl fun K hK => ?_
      unfold Oper.wp
      simp [go_sem, hlt]
      refine hK _ _ ?_
      clear hK K
      refine wpList_load_mid rfl 60 _ rfl b (o + k * 20) rfl _ _ hra Tryz.underlying60 rfl (by kernel_rfl) ?_
      refine wpList_plain rfl fun K hK => ?_
      unfold Oper.wp
      simp [go_sem]
      refine hK _ _ ?_
      clear hK K
      refine wpList_store_new rfl 60 _ _ rfl _ _ rfl rfl (by kernel_rfl) (by rfl) (by first | rfl | simp [Value.oneCell']) ?_
      go_frame
      cases hq : (x.p.o.n == p.o.n) with
      | false =>
        obtain rfl : y = false := by rw [← hy2, hq]; rfl
        have HN1 : Hid (∀ j (hj : j < l.length), j < k + 1 → hdB p l[j] = false) := fun j hj h => by
          by_cases e : j = k
          · subst e; exact HY.out
          · exact HN.out j hj (by omega)
        clear hy2
        go_wp2_with fail
        exact ⟨⟨k + 1, hlt, by go_num, hW1, HN1⟩, by simp [intOf]; omega⟩
      | true =>
        rw [hq, Bool.true_and] at hy2
        rw [hy2] at k4
        cases y with
        | false =>
          have HN1 : Hid (∀ j (hj : j < l.length), j < k + 1 → hdB p l[j] = false) := fun j hj h => by
            by_cases e : j = k
            · subst e; exact HY.out
            · exact HN.out j hj (by omega)
          clear hy2
          go_wp2_with fail
          exact ⟨⟨k + 1, hlt, by go_num, hW1, HN1⟩, by simp [intOf]; omega⟩
        | true =>
          have HG : Hid (E = (6, -1)) := by
            show _ = _
            rw [HE.out]; unfold upE; rw [any_yes k hlt HY.out]; rfl
          clear hy2
          go_wp2_with fail
          go_ret
          exact ⟨_, rfl, ⟨.inr (.inl (by rw [HG.out]; exact ⟨rfl, rfl⟩))⟩, bon HB.out hW1⟩
    · have HH : Hid (l.any (hdB p) = false) := any_no (fun j hj => HN.out j hj (by omega))
      clear HN
      obtain ⟨tA1, tA2⟩ := tla_parts HOP.out.A
      have hlO : ((sel l (uf l p) l.length).map (·.p.o)).length ≤ 1000 := by rw [List.length_map]; have := sel_le l (uf l p) l.length; omega
      have cO := offers_any 30 f30 (.pointer (some ⟨w.heap.size, 0, none⟩)) (.pointer (some ⟨w.heap.size + 1, 0, none⟩)) (.slice A l.length c) l (uf l p) wr (HL.out.on hW) hn (fun i hi W hWW => by
        have hWx := bon hW hWW
        rcases (HL.out.on hWx).is with ⟨h, _⟩ | ⟨b, o, c', e, hf⟩
        · rw [h] at hi; simp at hi
        · cases e
          exact clo30 l p i _ _ b o c W hi (by rw [hWx.cell (block_lt_of_cell HCA.out)]; exact HCA.out) hf (HPB.out.on hWx).c0)
      have HO1 := Lib.hid (sel_oh (f := uf l p) HSo.out)
      have HUM : Hid (upM l p = met ((sel l (uf l p) l.length).map (·.p.o)) p.A) := rfl
      generalize (sel l (uf l p) l.length).map (·.p.o) = O at cO hlO HO1 HUM
      have q1 : wr.cell? ⟨w.heap.size, 0, none⟩ = some (.slice A l.length c) := by rw [hW.cell (block_lt_of_cell HCA.out)]; exact HCA.out
      generalize wr = wA at *
      go_wp2_with fail
      refine cO.mono ?_
      rintro z wB ⟨S, rfl, hOs, bB⟩
      have hWB := bon hW bB
      have cM := missing_any (.slice a4 p.A.length a5) S p.A O wB ((HP.out.on hWB).A) (by omega) hOs HO1.out hlO tA2
      rw [← HUM.out] at cM
      have q2 := (HPB.out.on hWB).c5
      obtain ⟨S1, S2, hS⟩ := hOs.sl
      rw [hS] at cM ⊢
      clear cO hOs q1 hS
      go_wp2_with fail
      refine cM.mono ?_
      rintro z wC ⟨v, rfl, hMs, bC⟩
      have hWC := bon hWB bC
      clear cM q2
      rcases hMs.is with ⟨hm2, rfl⟩ | ⟨hm2, b7, rfl, hm3, hm4⟩
      · have HM2 := Lib.hid hm2
        have q3 : wC.cell? ⟨w.heap.size, 0, none⟩ = some (.slice A l.length c) := by rw [hWC.cell (block_lt_of_cell HCA.out)]; exact HCA.out
        clear hMs hm2 bC hWB bB
        go_wp2_with fail
        go_loopw [43] (fun i W => ∃ k : Nat, k ≤ l.length ∧ i = .int .i64 k ∧ Below w2.heap.size w2 W ∧ Hid (∀ j (hj : j < l.length), j < k → upF p l[j] = false)) (fun i _ => l.length - (intOf i).toNat)
        case atStart => exact ⟨0, Nat.zero_le _, rfl, hWC, fun j _ h => absurd h (Nat.not_lt_zero _)⟩
        case round =>
          obtain ⟨k, hk, rfl, hV, HN⟩ := hrel
          clear q3
          by_cases hlt : k < l.length
          · obtain ⟨b, o, rfl, vW, vT, vD, vA, vG, vB, vR, vP, vS, vL, vF, kc, kz⟩ := (HL.out.on hV).at' k hlt
            obtain ⟨⟨a1, a2, a3, rfl⟩, ⟨b1, b2, b3, rfl⟩, ⟨c1, c2, c3, rfl⟩, ⟨d1, d2, d3, rfl⟩, ⟨e1, e2, e3, rfl⟩, ⟨f1, f2, f3, rfl⟩, ⟨g1, g2, g3, rfl⟩, ⟨i1, i2, i3, rfl⟩, ⟨j1, j2, j3, rfl⟩, ⟨l1, l2, l3, rfl⟩, ⟨m1, m2, m3, rfl⟩⟩ := kz.k11
            have hra := kc.range
            have hSk := HSo.out l[k] (List.getElem_mem hlt)
            have HHit : Hid (upF p l[k] = true → E = (bs l[k] p, (k : Int))) := fun h => by
              show _ = _
              rw [HE.out]; unfold upE
              rw [if_neg (by rw [HH.out]; simp), if_pos HM2.out, fi_yes k hlt h (fun j hj h => HN.out j hj h)]
              simp [List.getD, hlt]
            have HNo : Hid (upF p l[k] = false → ∀ j (hj : j < l.length), j < k + 1 → upF p l[j] = false) := fun hh j hj h => by
              by_cases e : j = k
              · subst e; exact hh
              · exact HN.out j hj (by omega)
            have HZ := Lib.hid kz
            clear kc kz
            generalize l[k] = x at hra hSk HHit HNo HZ
            have hbx := b1c wr (kno 60 x (.slice a1 a2 a3) (.slice b1 b2 b3) (.slice c1 c2 c3) (.slice d1 d2 d3) (.slice e1 e2 e3) (.slice f1 f2 f3) (.slice g1 g2 g3) (.slice i1 i2 i3) (.slice j1 j2 j3) (.slice l1 l2 l3) (.slice m1 m2 m3))
            have hK2 := k20_new wr 60 x (.slice a1 a2 a3) (.slice b1 b2 b3) (.slice c1 c2 c3) (.slice d1 d2 d3) (.slice e1 e2 e3) (.slice f1 f2 f3) (.slice g1 g2 g3) (.slice i1 i2 i3) (.slice j1 j2 j3) (.slice l1 l2 l3) (.slice m1 m2 m3)
            have hV1 := bon hV hbx
            have HK2 := Lib.hid hK2
            have p0 := (HPB.out.on hV1).c0
            have k7 := hK2.c7
            have M33 : Hid (∀ W, Calls Tryz.prog 33 #[knv x (.slice a1 a2 a3) (.slice b1 b2 b3) (.slice c1 c2 c3) (.slice d1 d2 d3) (.slice e1 e2 e3) (.slice f1 f2 f3) (.slice g1 g2 g3) (.slice i1 i2 i3) (.slice j1 j2 j3) (.slice l1 l2 l3) (.slice m1 m2 m3)] W fun e w' => e = .returned (.bool (hf x)) ∧ Below W.heap.size W w') := fun W => hasf_any x _ _ _ _ _ _ _ _ _ _ _ W HZ.out.k11
            have M34 : Hid (∀ W, Below w2.heap.size w2 W → Below wr.heap.size wr W → Calls Tryz.prog 34 #[knv x (.slice a1 a2 a3) (.slice b1 b2 b3) (.slice c1 c2 c3) (.slice d1 d2 d3) (.slice e1 e2 e3) (.slice f1 f2 f3) (.slice g1 g2 g3) (.slice i1 i2 i3) (.slice j1 j2 j3) (.slice l1 l2 l3) (.slice m1 m2 m3), pkv p.o.n p.o.e p.o.u p.o.r (.slice d4 p.D.length d5) (.slice a4 p.A.length a5) (.slice g4 p.G.length g5) (.slice b4 p.B.length b5) (.slice r4 p.R.length r5) (.slice p4 p.o.P.length p5) (.slice s4 p.S.length s5) (.slice l4 p.L.length l5) (.slice f4 p.F.length f5)] W fun e w' => e = .returned (.int .i64 (bs x p)) ∧ Below W.heap.size W w') := fun W h1 h2 => beside_any x _ _ _ _ _ _ _ _ _ _ _ p _ _ _ _ _ _ _ _ _ W (HZ.out.on h2) (HP.out.on h1) hSk HOP.out
            obtain ⟨yb, hyb⟩ : ∃ y, bs x p = y := ⟨_, rfl⟩
            obtain ⟨yf, hyf⟩ : ∃ y, hf x = y := ⟨_, rfl⟩
            rw [hyb] at M34 HHit
            rw [hyf] at M33
            have HYB := Lib.hid hyb
            have HYF := Lib.hid hyf
            clear hK2 hSk hyb hyf
            generalize wr = wD at *
            go_upto_region 13 with fail
            refine wp_region_lit ?_
            refine wpList_plain rfl fun K hK => ?_
            unfold Oper.wp
            simp [go_sem]
            refine hK _ _ ?_
            clear hK K
            refine wpList_plain rfl fun K hK => ?_
            unfold Oper.wp
            simp [go_sem, hlt]
            refine hK _ _ ?_
            clear hK K
            refine wpList_load_mid rfl 60 _ rfl b (o + k * 20) rfl _ _ hra Tryz.underlying60 rfl (by kernel_rfl) ?_
            refine wpList_plain rfl fun K hK => ?_
            unfold Oper.wp
            simp [go_sem]
            refine hK _ _ ?_
            clear hK K
            refine wpList_plain rfl fun K hK => ?_
            unfold Oper.wp
            simp [go_sem]
            refine hK _ _ ?_
            clear hK K
            refine wpList_store_new rfl 60 _ _ rfl _ _ rfl rfl (by kernel_rfl) (by rfl) (by first | rfl | simp [Value.oneCell']) ?_
            go_frame
            cases hq : (x.p.o.n == p.o.n) with
            | true =>
              have HN1 := Lib.hid (HNo.out (by unfold upF; rw [hq]; rfl))
              go_wp2_with fail
              exact ⟨⟨k + 1, hlt, by go_num, hV1, HN1⟩, by simp [intOf]; omega⟩
            | false =>
              go_upto_region 14 with fail
              refine wp_region_lit ?_
              refine wpList_plain rfl fun K hK => ?_
              unfold Oper.wp
              simp [go_sem]
              refine hK _ _ ?_
              clear hK K
              refine wpList_plain rfl fun K hK => ?_
              unfold Oper.wp
              simp [go_sem]
              refine hK _ _ ?_
              clear hK K
              refine wpList_plain rfl fun K hK => ?_
              unfold Oper.wp
              simp [go_sem, k7]
              refine hK _ _ ?_
              clear hK K
              refine wpList_plain rfl fun K hK => ?_
              unfold Oper.wp
              simp [go_sem]
              refine hK _ _ ?_
              clear hK K
              refine wpList_plain rfl fun K hK => ?_
              unfold Oper.wp
              simp [go_sem, p0]
              refine hK _ _ ?_
              clear hK K
              refine wpList_plain rfl fun K hK => ?_
              unfold Oper.wp
              simp [go_sem, hq]
              refine hK _ _ ?_
              clear hK K
              refine wpList_plain rfl fun K hK => ?_
              unfold Oper.wp
              simp [go_sem]
              refine hK _ _ ?_
              clear hK K
              refine wpList_load_midg (by kernel_rfl) 60 _ rfl wD.heap.size 0 rfl _ _ HK2.out.range Tryz.underlying60 rfl (by kernel_rfl) ?_
              go_frame
              go_wp2_with fail
              refine (M33.out _).mono ?_
              rintro z wE ⟨rfl, bE⟩
              have hV2 := bon hV1 bE
              have HK3 := Lib.hid (HK2.out.on bE)
              clear k7 p0
              cases yf with
              | false =>
                have HN1 := Lib.hid (HNo.out (by unfold upF; rw [hq, HYF.out]; rfl))
                go_wp2_with fail
                exact ⟨⟨k + 1, hlt, by go_num, hV2, HN1⟩, by simp [intOf]; omega⟩
              | true =>
                go_upto_region 15 with fail
                refine wp_region_lit ?_
                refine wpList_load_mid rfl 60 _ rfl wD.heap.size 0 rfl _ _ HK3.out.range Tryz.underlying60 rfl (by kernel_rfl) ?_
                go_frame
                refine wpList_load_mid rfl 30 _ rfl (w.heap.size + 1) 0 rfl _ _ (HPB.out.on hV2).range Tryz.underlying30 rfl (by kernel_rfl) ?_
                go_frame
                go_wp2_with fail
                refine (M34.out _ hV2 (bon hbx bE)).mono ?_
                rintro z wF ⟨rfl, bF⟩
                have hV3 := bon hV2 bF
                cases hb0 : (yb == 0) with
                | true =>
                  have HN1 := Lib.hid (HNo.out (by unfold upF; rw [HYB.out, hb0]; simp))
                  have hb1 : yb = 0 := by simpa using hb0
                  subst hb1
                  clear hb0
                  go_wp2_with fail
                  exact ⟨⟨k + 1, hlt, by go_num, hV3, HN1⟩, by simp [intOf]; omega⟩
                | false =>
                  have HG := Lib.hid (HHit.out (by unfold upF; rw [hq, HYF.out, HYB.out, hb0]; rfl))
                  have hbz := bon hV3 (b1c wF (.cells #[.int .i64 yb, .int .i64 k] 85))
                  go_wp2_with fail
                  go_ret
                  exact ⟨_, rfl, ⟨.inr (.inr ⟨wF.heap.size, rfl, by rw [HG.out]; simp, by rw [HG.out]; simp⟩)⟩, bon HB.out hbz⟩
          · have HG : Hid (E = (0, -1)) := by
              show _ = _
              rw [HE.out]; unfold upE
              rw [if_neg (by rw [HH.out]; simp), if_pos HM2.out, fi_no (fun j hj => HN.out j hj (by omega))]
            go_wp2_with fail
            go_ret
            exact ⟨_, rfl, ⟨.inl (by rw [HG.out]; exact ⟨rfl, rfl, rfl⟩)⟩, bon HB.out hV⟩
      · have HG : Hid (E = (7, (upM l p).1)) := by
          show _ = _
          rw [HE.out]; unfold upE
          rw [if_neg (by rw [HH.out]; simp), if_neg (by rw [hm2]; simp)]
        clear hm2 hMs
        go_wp2_with fail
        go_ret
        exact ⟨_, rfl, ⟨.inr (.inr ⟨b7, rfl, by rw [HG.out]; exact hm3, by rw [HG.out]; exact hm4⟩)⟩, bon HB.out hWC⟩
end Go.Proofs.YthijccmiemlilaaGreatDoor
