/- The keeper's read and pick, the closure of CheckSpares. -/
import Derived.Test.YthijccmiemlilaaGreatDoorC1
import Derived.Test.YthijccmiemlilaaGreatDoorK1
import Derived.Test.YthijccmiemlilaaGreatDoorGg
import Derived.Test.YthijccmiemlilaaGreatDoorG1
import Derived.Test.YthijccmiemlilaaGreatDoorA5
namespace Go.Proofs.YthijccmiemlilaaGreatDoor.Kee
open Go.RowKit Go.Sort

set_option maxHeartbeats 1600000 in
set_option maxRecDepth 100000 in
theorem read_dig (c : UInt8) (w : World) (hpv : Vm.pv [c] = some (0, [c], [])) (_htab : Lib.TabIs Tryz.prog w "internal/strconv.uint64pow10" .u64 Lib.pow10Tab) (hT : ∀ W, Below w.heap.size w W → Lib.TabIs Tryz.prog W "internal/strconv.uint64pow10" .u64 Lib.pow10Tab) : Calls Tryz.prog 60 #[.string ⟨#[c]⟩] w fun x w' => x = .returned (.agg #[.int .i64 0, .string ⟨#[c]⟩, .string ⟨#[]⟩]) ∧ Below w.heap.size w w' := by
  have hb0 := b1c w (.cells #[.int .i64 0, .string ⟨#[]⟩, .string ⟨#[]⟩] 24)
  have cP := parse_any [c] (w.alloc (.cells #[.int .i64 0, .string ⟨#[]⟩, .string ⟨#[]⟩] 24)) (hT _ hb0)
  rw [hpv] at cP
  have n0 : (w.alloc (.cells #[.int .i64 0, .string ⟨#[]⟩, .string ⟨#[]⟩] 24)).cell? ⟨w.heap.size, 0, none⟩ = some (.int .i64 0) := by simp
  have n1 : (w.alloc (.cells #[.int .i64 0, .string ⟨#[]⟩, .string ⟨#[]⟩] 24)).cell? ⟨w.heap.size, 1, none⟩ = some (.string ⟨#[]⟩) := by simp
  have n2 : (w.alloc (.cells #[.int .i64 0, .string ⟨#[]⟩, .string ⟨#[]⟩] 24)).cell? ⟨w.heap.size, 2, none⟩ = some (.string ⟨#[]⟩) := by simp
  clear hT hpv
  go_enter Tryz.func60, Tryz.ntmps60
  go_wp2_with fail
  refine cP.mono ?_
  rintro x w1 ⟨rfl, k1⟩
  have m0 : w1.cell? ⟨w.heap.size, 0, none⟩ = some (.int .i64 0) := by rw [k1.cell (block_lt_of_cell n0)]; exact n0
  have m1 : w1.cell? ⟨w.heap.size, 1, none⟩ = some (.string ⟨#[]⟩) := by rw [k1.cell (block_lt_of_cell n1)]; exact n1
  have m2 : w1.cell? ⟨w.heap.size, 2, none⟩ = some (.string ⟨#[]⟩) := by rw [k1.cell (block_lt_of_cell n2)]; exact n2
  have hh := heap_on (nb0 w (.cells #[.int .i64 0, .string ⟨#[]⟩, .string ⟨#[]⟩] 24)) k1
  have hlt : w.heap.size < w1.heap.size := block_lt_of_cell m0
  have f0 : w1.frozen? ⟨w.heap.size, 0, none⟩ = false := by simp [World.frozen?, hh]
  have f1 : w1.frozen? ⟨w.heap.size, 1, none⟩ = false := by simp [World.frozen?, hh]
  have f2 : w1.frozen? ⟨w.heap.size, 2, none⟩ = false := by simp [World.frozen?, hh]
  have HB := Lib.hid (bon hb0 k1)
  clear n0 n1 n2 cP hb0 hh
  show _
  rw [show pvVal (some ((0 : Int), [c], [])) = .tuple #[.agg #[.int .i64 0, .string ⟨#[c]⟩, .string ⟨#[]⟩], .nilIface] from rfl]
  go_wp2_with fail
  have HB3 := Lib.hid (((HB.out.setCell (p := ⟨w.heap.size, 0, none⟩) (Nat.le_refl _) (.int .i64 0)).setCell (p := ⟨w.heap.size, 1, none⟩) (Nat.le_refl _) (.string ⟨#[c]⟩)).setCell (p := ⟨w.heap.size, 2, none⟩) (Nat.le_refl _) (.string ⟨#[]⟩))
  have z0 : (((w1.setCell ⟨w.heap.size, 0, none⟩ (.int .i64 0)).setCell ⟨w.heap.size, 1, none⟩ (.string ⟨#[c]⟩)).setCell ⟨w.heap.size, 2, none⟩ (.string ⟨#[]⟩)).cell? ⟨w.heap.size, 0, none⟩ = some (.int .i64 0) := by simp [go_sem, m0]
  have z1 : (((w1.setCell ⟨w.heap.size, 0, none⟩ (.int .i64 0)).setCell ⟨w.heap.size, 1, none⟩ (.string ⟨#[c]⟩)).setCell ⟨w.heap.size, 2, none⟩ (.string ⟨#[]⟩)).cell? ⟨w.heap.size, 1, none⟩ = some (.string ⟨#[c]⟩) := by simp [go_sem, m1]
  have z2 : (((w1.setCell ⟨w.heap.size, 0, none⟩ (.int .i64 0)).setCell ⟨w.heap.size, 1, none⟩ (.string ⟨#[c]⟩)).setCell ⟨w.heap.size, 2, none⟩ (.string ⟨#[]⟩)).cell? ⟨w.heap.size, 2, none⟩ = some (.string ⟨#[]⟩) := by simp [go_sem, m2]
  generalize ((w1.setCell ⟨w.heap.size, 0, none⟩ (.int .i64 0)).setCell ⟨w.heap.size, 1, none⟩ (.string ⟨#[c]⟩)).setCell ⟨w.heap.size, 2, none⟩ (.string ⟨#[]⟩) = w4 at HB3 z0 z1 z2 ⊢
  have hb4 := b1c w4 (.cells #[.int .i64 0, .string ⟨#[c]⟩, .string ⟨#[]⟩] 24)
  have y0 : (w4.alloc (.cells #[.int .i64 0, .string ⟨#[c]⟩, .string ⟨#[]⟩] 24)).cell? ⟨w.heap.size, 0, none⟩ = some (.int .i64 0) := by rw [hb4.cell (block_lt_of_cell z0)]; exact z0
  have y1 : (w4.alloc (.cells #[.int .i64 0, .string ⟨#[c]⟩, .string ⟨#[]⟩] 24)).cell? ⟨w.heap.size, 1, none⟩ = some (.string ⟨#[c]⟩) := by rw [hb4.cell (block_lt_of_cell z1)]; exact z1
  have y2 : (w4.alloc (.cells #[.int .i64 0, .string ⟨#[c]⟩, .string ⟨#[]⟩] 24)).cell? ⟨w.heap.size, 2, none⟩ = some (.string ⟨#[]⟩) := by rw [hb4.cell (block_lt_of_cell z2)]; exact z2
  have HB5 := Lib.hid (bon HB3.out hb4)
  generalize w4.alloc (.cells #[.int .i64 0, .string ⟨#[c]⟩, .string ⟨#[]⟩] 24) = w5 at y0 y1 y2 HB5 ⊢
  exact bodyPost_ret (v := .agg #[.int .i64 0, .string ⟨#[c]⟩, .string ⟨#[]⟩]) (by simp [results, Tryz.results60, go_sem, y0, y1, y2]) rfl ⟨rfl, HB5.out⟩
/-- Some number below. -/
theorem pick_any (a : Int) (n : Nat) (w : World) (hn : 0 < n) (hn2 : n ≤ 1000) : Calls Tryz.prog 21 #[.int .i64 a, .int .i64 n] w fun x w' => (∃ r : Nat, r < n ∧ x = .returned (.int .i64 r)) ∧ w' = w := by
  have hw : 0 ≤ IntKind.u64.wrap a := by unfold IntKind.wrap; simp [IntKind.signed, IntKind.bits]; omega
  have h1 := Int.tmod_nonneg (n : Int) hw
  have h2 := Int.tmod_lt_of_pos (IntKind.u64.wrap a) (show (0 : Int) < (n : Int) by omega)
  have h3 : wrap64 ((IntKind.u64.wrap a).tmod n) = (IntKind.u64.wrap a).tmod n := by unfold wrap64; omega
  have H1 := Lib.hid h1
  have H2 := Lib.hid h2
  clear h1 h2 hw
  go_enter Tryz.func21, Tryz.ntmps21
  go_wp2
  go_ret
  have h1 := H1.out
  have h2 := H2.out
  refine ⟨⟨((IntKind.u64.wrap a).tmod n).toNat, by omega, ?_⟩, rfl⟩
  rw [Int.toNat_of_nonneg h1]
  simp [h3]
set_option maxHeartbeats 1600000 in
set_option maxRecDepth 100000 in
theorem clo22 (l : List Kn) (n a b o c : Nat) (w : World) (hn : n < l.length) (ha : w.cell? ⟨a, 0, none⟩ = some (.slice (some ⟨b, o, none⟩) l.length c)) (hl : Kl w b o l) :
    Calls Tryz.prog 22 #[.int .i64 n, .pointer (some ⟨a, 0, none⟩)] w fun e w' => e = .returned (.bool (ndW l n)) ∧ w' = w := by
  obtain ⟨vW, vT, vD, vA, vG, vB, vR, vP, vS, vL, vF, kc, kz⟩ := hl.c n hn
  have q0 := kc.c0
  have e : ndW l n = (l[n].st == 7 || l[n].st == 6 || l[n].st == 5) := by unfold ndW wk; simp [List.getD, hn]
  rw [e]
  generalize l[n].st = st at q0 ⊢
  clear kc kz e hl
  cases h7 : st == 7 with
  | true =>
    go_enter Tryz.func22, Tryz.ntmps22
    go_wp2
    go_ret
    exact ⟨rfl, rfl⟩
  | false =>
    cases h6 : st == 6 with
    | true =>
      go_enter Tryz.func22, Tryz.ntmps22
      go_wp2
      go_ret
      exact ⟨rfl, rfl⟩
    | false =>
      cases h5 : st == 5 with
      | true =>
        go_enter Tryz.func22, Tryz.ntmps22
        go_wp2
        go_ret
        exact ⟨rfl, rfl⟩
      | false =>
        go_enter Tryz.func22, Tryz.ntmps22
        go_wp2
        go_ret
        exact ⟨rfl, rfl⟩
end Go.Proofs.YthijccmiemlilaaGreatDoor.Kee
namespace Go.Proofs.YthijccmiemlilaaGreatDoor.Kee
open Go.RowKit Go.Sort

set_option maxHeartbeats 6400000 in
set_option maxRecDepth 100000 in
theorem unpack_ok (v : Value) (l : List Kn) (p : Pck) (uD uA uG uB uR uP uS uL uF : Value) (w : World) (hl : Ks w v l) (hp : Pz w p uD uA uG uB uR uP uS uL uF) (hn : l.length ≤ 1000) (hSo : ∀ k ∈ l, Sok k.p) (hop : Sok p) : Calls Tryz.prog 9 #[v, pkv p.o.n p.o.e p.o.u p.o.r uD uA uG uB uR uP uS uL uF] w fun x w' => ∃ z, x = .returned z ∧ (upE l p = (0, -1) → z = .nilIface) ∧ Below w.heap.size w w' := by
  obtain ⟨A, c, rfl⟩ := hl.sl
  obtain ⟨d4, d5, rfl⟩ := hp.D.sl
  obtain ⟨a4, a5, rfl⟩ := hp.A.sl
  obtain ⟨g4, g5, rfl⟩ := hp.G.sl
  obtain ⟨b4, b5, rfl⟩ := hp.B.sl
  obtain ⟨r4, r5, rfl⟩ := hp.R.sl
  obtain ⟨p4, p5, rfl⟩ := hp.P.sl
  obtain ⟨s4, s5, rfl⟩ := hp.S.sl
  obtain ⟨l4, l5, rfl⟩ := hp.L.sl
  obtain ⟨f4, f5, rfl⟩ := hp.F.sl
  obtain ⟨E, hE⟩ : ∃ E, E = upE l p := ⟨_, rfl⟩
  have HE := Lib.hid hE
  rw [← hE]
  clear hE
  obtain ⟨w2, hw2⟩ : ∃ w2, w2 = (w.alloc (.cells #[.slice A l.length c] 32)).alloc (pko p.o.n p.o.e p.o.u p.o.r (.slice d4 p.D.length d5) (.slice a4 p.A.length a5) (.slice g4 p.G.length g5) (.slice b4 p.B.length b5) (.slice r4 p.R.length r5) (.slice p4 p.o.P.length p5) (.slice s4 p.S.length s5) (.slice l4 p.L.length l5) (.slice f4 p.F.length f5)) := ⟨_, rfl⟩
  have hb2 : Below w.heap.size w w2 := by rw [hw2]; exact b2c _ _ _
  have hPB : Pb w2 (w.heap.size + 1) p (.slice d4 p.D.length d5) (.slice a4 p.A.length a5) (.slice g4 p.G.length g5) (.slice b4 p.B.length b5) (.slice r4 p.R.length r5) (.slice p4 p.o.P.length p5) (.slice s4 p.S.length s5) (.slice l4 p.L.length l5) (.slice f4 p.F.length f5) := by
    have h := pb_new (w.alloc (.cells #[.slice A l.length c] 32)) p (.slice d4 p.D.length d5) (.slice a4 p.A.length a5) (.slice g4 p.G.length g5) (.slice b4 p.B.length b5) (.slice r4 p.R.length r5) (.slice p4 p.o.P.length p5) (.slice s4 p.S.length s5) (.slice l4 p.L.length l5) (.slice f4 p.F.length f5)
    rw [World.size_alloc] at h
    rw [hw2]
    exact h
  have hcA : w2.cell? ⟨w.heap.size, 0, none⟩ = some (.slice A l.length c) := by
    rw [hw2, World.cell?_alloc_lt _ _ ⟨w.heap.size, _, none⟩ (by simp)]
    simp
  have HL := Lib.hid (hl.on hb2)
  have HP := Lib.hid (hp.on hb2)
  have HSo := Lib.hid hSo
  have HOP := Lib.hid hop
  have HB := Lib.hid hb2
  have HPB := Lib.hid hPB
  have HCA := Lib.hid hcA
  clear hl hp hSo hop hb2 hPB hcA
  go_enter Tryz.func9, Tryz.ntmps9
  have q0 := HCA.out
  go_upto_region 1 with fail
  rw [← hw2]
  clear hw2
  go_wp2_with fail
  go_loopw [14] (fun i W => ∃ k : Nat, k ≤ l.length ∧ i = .int .i64 k ∧ Below w2.heap.size w2 W ∧ Hid (∀ j (hj : j < l.length), j < k → hdB p l[j] = false)) (fun i _ => l.length - (intOf i).toNat)
  case atStart => exact ⟨0, Nat.zero_le _, rfl, Below.refl _ _, fun j _ h => absurd h (Nat.not_lt_zero _)⟩
  case round =>
    obtain ⟨k, hk, rfl, hW, HN⟩ := hrel
    clear q0
    by_cases hlt : k < l.length
    · obtain ⟨b, o, rfl, vW, vT, vD, vA, vG, vB, vR, vP, vS, vL, vF, kc, kz⟩ := (HL.out.on hW).at' k hlt
      obtain ⟨⟨a1, a2, a3, rfl⟩, ⟨b1, b2, b3, rfl⟩, ⟨c1, c2, c3, rfl⟩, ⟨d1, d2, d3, rfl⟩, ⟨e1, e2, e3, rfl⟩, ⟨f1, f2, f3, rfl⟩, ⟨g1, g2, g3, rfl⟩, ⟨i1, i2, i3, rfl⟩, ⟨j1, j2, j3, rfl⟩, ⟨l1, l2, l3, rfl⟩, ⟨m1, m2, m3, rfl⟩⟩ := kz.k11
      have hra := kc.range
      obtain ⟨y, hy⟩ : ∃ y, hdB p l[k] = y := ⟨_, rfl⟩
      have HY := Lib.hid hy
      have hy2 : (l[k].p.o.n == p.o.n && l[k].hd) = y := hy
      clear kc kz hy
      generalize l[k] = x at hra hy2
      have hbx := b1c wr (kno 60 x (.slice a1 a2 a3) (.slice b1 b2 b3) (.slice c1 c2 c3) (.slice d1 d2 d3) (.slice e1 e2 e3) (.slice f1 f2 f3) (.slice g1 g2 g3) (.slice i1 i2 i3) (.slice j1 j2 j3) (.slice l1 l2 l3) (.slice m1 m2 m3))
      have hK2 := k20_new wr 60 x (.slice a1 a2 a3) (.slice b1 b2 b3) (.slice c1 c2 c3) (.slice d1 d2 d3) (.slice e1 e2 e3) (.slice f1 f2 f3) (.slice g1 g2 g3) (.slice i1 i2 i3) (.slice j1 j2 j3) (.slice l1 l2 l3) (.slice m1 m2 m3)
      have p0 := (HPB.out.on (bon hW hbx)).c0
      have k4 := hK2.c4
      have k7 := hK2.c7
      have hW1 := bon hW hbx
      clear hK2
      go_upto_region 3 with fail
      refine wp_region_lit ?_
      refine wpList_plain rfl fun K hK => ?_
      unfold Oper.wp
      simp [go_sem, hlt]
      refine hK _ _ ?_
      clear hK K
      refine wpList_load_mid rfl 60 _ rfl b (o + k * 20) rfl _ _ hra Tryz.underlying60 rfl (by kernel_rfl) ?_
      refine wpList_plain rfl fun K hK => ?_
      unfold Oper.wp
      simp [go_sem]
      refine hK _ _ ?_
      clear hK K
      refine wpList_store_new rfl 60 _ _ rfl _ _ rfl rfl (by kernel_rfl) (by rfl) (by first | rfl | simp [Value.oneCell']) ?_
      go_frame
      cases hq : (x.p.o.n == p.o.n) with
      | false =>
        obtain rfl : y = false := by rw [← hy2, hq]; rfl
        have HN1 : Hid (∀ j (hj : j < l.length), j < k + 1 → hdB p l[j] = false) := fun j hj h => by
          by_cases e : j = k
          · subst e; exact HY.out
          · exact HN.out j hj (by omega)
        clear hy2
        go_wp2_with fail
        exact ⟨⟨k + 1, hlt, by go_num, hW1, HN1⟩, by simp [intOf]; omega⟩
      | true =>
        rw [hq, Bool.true_and] at hy2
        rw [hy2] at k4
        cases y with
        | false =>
          have HN1 : Hid (∀ j (hj : j < l.length), j < k + 1 → hdB p l[j] = false) := fun j hj h => by
            by_cases e : j = k
            · subst e; exact HY.out
            · exact HN.out j hj (by omega)
          clear hy2
          go_wp2_with fail
          exact ⟨⟨k + 1, hlt, by go_num, hW1, HN1⟩, by simp [intOf]; omega⟩
        | true =>
          have HG : Hid (E = (6, -1)) := by
            show _ = _
            rw [HE.out]; unfold upE; rw [any_yes k hlt HY.out]; rfl
          clear hy2
          go_wp2_with fail
          go_ret
          exact ⟨_, rfl, (fun h => by rw [HG.out] at h; first | (simp at h; done) | (simp at h; omega)), bon HB.out hW1⟩
    · have HH : Hid (l.any (hdB p) = false) := any_no (fun j hj => HN.out j hj (by omega))
      clear HN
      obtain ⟨tA1, tA2⟩ := tla_parts HOP.out.A
      have hlO : ((sel l (uf l p) l.length).map (·.p.o)).length ≤ 1000 := by rw [List.length_map]; have := sel_le l (uf l p) l.length; omega
      have cO := offers_any 30 f30 (.pointer (some ⟨w.heap.size, 0, none⟩)) (.pointer (some ⟨w.heap.size + 1, 0, none⟩)) (.slice A l.length c) l (uf l p) wr (HL.out.on hW) hn (fun i hi W hWW => by
        have hWx := bon hW hWW
        rcases (HL.out.on hWx).is with ⟨h, _⟩ | ⟨b, o, c', e, hf⟩
        · rw [h] at hi; simp at hi
        · cases e
          exact clo30 l p i _ _ b o c W hi (by rw [hWx.cell (block_lt_of_cell HCA.out)]; exact HCA.out) hf (HPB.out.on hWx).c0)
      have HO1 := Lib.hid (sel_oh (f := uf l p) HSo.out)
      have HUM : Hid (upM l p = met ((sel l (uf l p) l.length).map (·.p.o)) p.A) := rfl
      generalize (sel l (uf l p) l.length).map (·.p.o) = O at cO hlO HO1 HUM
      have q1 : wr.cell? ⟨w.heap.size, 0, none⟩ = some (.slice A l.length c) := by rw [hW.cell (block_lt_of_cell HCA.out)]; exact HCA.out
      generalize wr = wA at *
      go_wp2_with fail
      refine cO.mono ?_
      rintro z wB ⟨S, rfl, hOs, bB⟩
      have hWB := bon hW bB
      have cM := missing_any (.slice a4 p.A.length a5) S p.A O wB ((HP.out.on hWB).A) (by omega) hOs HO1.out hlO tA2
      rw [← HUM.out] at cM
      have q2 := (HPB.out.on hWB).c5
      obtain ⟨S1, S2, hS⟩ := hOs.sl
      rw [hS] at cM ⊢
      clear cO hOs q1 hS
      go_wp2_with fail
      refine cM.mono ?_
      rintro z wC ⟨v, rfl, hMs, bC⟩
      have hWC := bon hWB bC
      clear cM q2
      rcases hMs.is with ⟨hm2, rfl⟩ | ⟨hm2, b7, rfl, hm3, hm4⟩
      · have HM2 := Lib.hid hm2
        have q3 : wC.cell? ⟨w.heap.size, 0, none⟩ = some (.slice A l.length c) := by rw [hWC.cell (block_lt_of_cell HCA.out)]; exact HCA.out
        clear hMs hm2 bC hWB bB
        go_wp2_with fail
        go_loopw [43] (fun i W => ∃ k : Nat, k ≤ l.length ∧ i = .int .i64 k ∧ Below w2.heap.size w2 W ∧ Hid (∀ j (hj : j < l.length), j < k → upF p l[j] = false)) (fun i _ => l.length - (intOf i).toNat)
        case atStart => exact ⟨0, Nat.zero_le _, rfl, hWC, fun j _ h => absurd h (Nat.not_lt_zero _)⟩
        case round =>
          obtain ⟨k, hk, rfl, hV, HN⟩ := hrel
          clear q3
          by_cases hlt : k < l.length
          · obtain ⟨b, o, rfl, vW, vT, vD, vA, vG, vB, vR, vP, vS, vL, vF, kc, kz⟩ := (HL.out.on hV).at' k hlt
            obtain ⟨⟨a1, a2, a3, rfl⟩, ⟨b1, b2, b3, rfl⟩, ⟨c1, c2, c3, rfl⟩, ⟨d1, d2, d3, rfl⟩, ⟨e1, e2, e3, rfl⟩, ⟨f1, f2, f3, rfl⟩, ⟨g1, g2, g3, rfl⟩, ⟨i1, i2, i3, rfl⟩, ⟨j1, j2, j3, rfl⟩, ⟨l1, l2, l3, rfl⟩, ⟨m1, m2, m3, rfl⟩⟩ := kz.k11
            have hra := kc.range
            have hSk := HSo.out l[k] (List.getElem_mem hlt)
            have HHit : Hid (upF p l[k] = true → E = (bs l[k] p, (k : Int))) := fun h => by
              show _ = _
              rw [HE.out]; unfold upE
              rw [if_neg (by rw [HH.out]; simp), if_pos HM2.out, fi_yes k hlt h (fun j hj h => HN.out j hj h)]
              simp [List.getD, hlt]
            have HNo : Hid (upF p l[k] = false → ∀ j (hj : j < l.length), j < k + 1 → upF p l[j] = false) := fun hh j hj h => by
              by_cases e : j = k
              · subst e; exact hh
              · exact HN.out j hj (by omega)
            have HZ := Lib.hid kz
            clear kc kz
            generalize l[k] = x at hra hSk HHit HNo HZ
            have hbx := b1c wr (kno 60 x (.slice a1 a2 a3) (.slice b1 b2 b3) (.slice c1 c2 c3) (.slice d1 d2 d3) (.slice e1 e2 e3) (.slice f1 f2 f3) (.slice g1 g2 g3) (.slice i1 i2 i3) (.slice j1 j2 j3) (.slice l1 l2 l3) (.slice m1 m2 m3))
            have hK2 := k20_new wr 60 x (.slice a1 a2 a3) (.slice b1 b2 b3) (.slice c1 c2 c3) (.slice d1 d2 d3) (.slice e1 e2 e3) (.slice f1 f2 f3) (.slice g1 g2 g3) (.slice i1 i2 i3) (.slice j1 j2 j3) (.slice l1 l2 l3) (.slice m1 m2 m3)
            have hV1 := bon hV hbx
            have HK2 := Lib.hid hK2
            have p0 := (HPB.out.on hV1).c0
            have k7 := hK2.c7
            have M33 : Hid (∀ W, Calls Tryz.prog 33 #[knv x (.slice a1 a2 a3) (.slice b1 b2 b3) (.slice c1 c2 c3) (.slice d1 d2 d3) (.slice e1 e2 e3) (.slice f1 f2 f3) (.slice g1 g2 g3) (.slice i1 i2 i3) (.slice j1 j2 j3) (.slice l1 l2 l3) (.slice m1 m2 m3)] W fun e w' => e = .returned (.bool (hf x)) ∧ Below W.heap.size W w') := fun W => hasf_any x _ _ _ _ _ _ _ _ _ _ _ W HZ.out.k11
            have M34 : Hid (∀ W, Below w2.heap.size w2 W → Below wr.heap.size wr W → Calls Tryz.prog 34 #[knv x (.slice a1 a2 a3) (.slice b1 b2 b3) (.slice c1 c2 c3) (.slice d1 d2 d3) (.slice e1 e2 e3) (.slice f1 f2 f3) (.slice g1 g2 g3) (.slice i1 i2 i3) (.slice j1 j2 j3) (.slice l1 l2 l3) (.slice m1 m2 m3), pkv p.o.n p.o.e p.o.u p.o.r (.slice d4 p.D.length d5) (.slice a4 p.A.length a5) (.slice g4 p.G.length g5) (.slice b4 p.B.length b5) (.slice r4 p.R.length r5) (.slice p4 p.o.P.length p5) (.slice s4 p.S.length s5) (.slice l4 p.L.length l5) (.slice f4 p.F.length f5)] W fun e w' => e = .returned (.int .i64 (bs x p)) ∧ Below W.heap.size W w') := fun W h1 h2 => beside_any x _ _ _ _ _ _ _ _ _ _ _ p _ _ _ _ _ _ _ _ _ W (HZ.out.on h2) (HP.out.on h1) hSk HOP.out
            obtain ⟨yb, hyb⟩ : ∃ y, bs x p = y := ⟨_, rfl⟩
            obtain ⟨yf, hyf⟩ : ∃ y, hf x = y := ⟨_, rfl⟩
            rw [hyb] at M34 HHit
            rw [hyf] at M33
            have HYB := Lib.hid hyb
            have HYF := Lib.hid hyf
            clear hK2 hSk hyb hyf
            generalize wr = wD at *
            go_upto_region 13 with fail
            refine wp_region_lit ?_
            refine wpList_plain rfl fun K hK => ?_
            unfold Oper.wp
            simp [go_sem]
            refine hK _ _ ?_
            clear hK K
            refine wpList_plain rfl fun K hK => ?_
            unfold Oper.wp
            simp [go_sem, hlt]
            refine hK _ _ ?_
            clear hK K
            refine wpList_load_mid rfl 60 _ rfl b (o + k * 20) rfl _ _ hra Tryz.underlying60 rfl (by kernel_rfl) ?_
            refine wpList_plain rfl fun K hK => ?_
            unfold Oper.wp
            simp [go_sem]
            refine hK _ _ ?_
            clear hK K
            refine wpList_plain rfl fun K hK => ?_
            unfold Oper.wp
            simp [go_sem]
            refine hK _ _ ?_
            clear hK K
            refine wpList_store_new rfl 60 _ _ rfl _ _ rfl rfl (by kernel_rfl) (by rfl) (by first | rfl | simp [Value.oneCell']) ?_
            go_frame
            cases hq : (x.p.o.n == p.o.n) with
            | true =>
              have HN1 := Lib.hid (HNo.out (by unfold upF; rw [hq]; rfl))
              go_wp2_with fail
              exact ⟨⟨k + 1, hlt, by go_num, hV1, HN1⟩, by simp [intOf]; omega⟩
            | false =>
              go_upto_region 14 with fail
              refine wp_region_lit ?_
              refine wpList_plain rfl fun K hK => ?_
              unfold Oper.wp
              simp [go_sem]
              refine hK _ _ ?_
              clear hK K
              refine wpList_plain rfl fun K hK => ?_
              unfold Oper.wp
              simp [go_sem]
              refine hK _ _ ?_
              clear hK K
              refine wpList_plain rfl fun K hK => ?_
              unfold Oper.wp
              simp [go_sem, k7]
              refine hK _ _ ?_
              clear hK K
              refine wpList_plain rfl fun K hK => ?_
              unfold Oper.wp
              simp [go_sem]
              refine hK _ _ ?_
              clear hK K
              refine wpList_plain rfl fun K hK => ?_
              unfold Oper.wp
              simp [go_sem, p0]
              refine hK _ _ ?_
              clear hK K
              refine wpList_plain rfl fun K hK => ?_
              unfold Oper.wp
              simp [go_sem, hq]
              refine hK _ _ ?_
              clear hK K
              refine wpList_plain rfl fun K hK => ?_
              unfold Oper.wp
              simp [go_sem]
              refine hK _ _ ?_
              clear hK K
              refine wpList_load_midg (by kernel_rfl) 60 _ rfl wD.heap.size 0 rfl _ _ HK2.out.range Tryz.underlying60 rfl (by kernel_rfl) ?_
              go_frame
              go_wp2_with fail
              refine (M33.out _).mono ?_
              rintro z wE ⟨rfl, bE⟩
              have hV2 := bon hV1 bE
              have HK3 := Lib.hid (HK2.out.on bE)
              clear k7 p0
              cases yf with
              | false =>
                have HN1 := Lib.hid (HNo.out (by unfold upF; rw [hq, HYF.out]; rfl))
                go_wp2_with fail
                exact ⟨⟨k + 1, hlt, by go_num, hV2, HN1⟩, by simp [intOf]; omega⟩
              | true =>
                go_upto_region 15 with fail
                refine wp_region_lit ?_
                refine wpList_load_mid rfl 60 _ rfl wD.heap.size 0 rfl _ _ HK3.out.range Tryz.underlying60 rfl (by kernel_rfl) ?_
                go_frame
                refine wpList_load_mid rfl 30 _ rfl (w.heap.size + 1) 0 rfl _ _ (HPB.out.on hV2).range Tryz.underlying30 rfl (by kernel_rfl) ?_
                go_frame
                go_wp2_with fail
                refine (M34.out _ hV2 (bon hbx bE)).mono ?_
                rintro z wF ⟨rfl, bF⟩
                have hV3 := bon hV2 bF
                cases hb0 : (yb == 0) with
                | true =>
                  have HN1 := Lib.hid (HNo.out (by unfold upF; rw [HYB.out, hb0]; simp))
                  have hb1 : yb = 0 := by simpa using hb0
                  subst hb1
                  clear hb0
                  go_wp2_with fail
                  exact ⟨⟨k + 1, hlt, by go_num, hV3, HN1⟩, by simp [intOf]; omega⟩
                | false =>
                  have HG := Lib.hid (HHit.out (by unfold upF; rw [hq, HYF.out, HYB.out, hb0]; rfl))
                  have hbz := bon hV3 (b1c wF (.cells #[.int .i64 yb, .int .i64 k] 85))
                  go_wp2_with fail
                  go_ret
                  exact ⟨_, rfl, (fun h => by rw [HG.out] at h; first | (simp at h; done) | (simp at h; omega)), bon HB.out hbz⟩
          · have HG : Hid (E = (0, -1)) := by
              show _ = _
              rw [HE.out]; unfold upE
              rw [if_neg (by rw [HH.out]; simp), if_pos HM2.out, fi_no (fun j hj => HN.out j hj (by omega))]
            go_wp2_with fail
            go_ret
            exact ⟨_, rfl, (fun _ => rfl), bon HB.out hV⟩
      · have HG : Hid (E = (7, (upM l p).1)) := by
          show _ = _
          rw [HE.out]; unfold upE
          rw [if_neg (by rw [HH.out]; simp), if_neg (by rw [hm2]; simp)]
        clear hm2 hMs
        go_wp2_with fail
        go_ret
        exact ⟨_, rfl, (fun h => by rw [HG.out] at h; first | (simp at h; done) | (simp at h; omega)), bon HB.out hWC⟩
end Go.Proofs.YthijccmiemlilaaGreatDoor.Kee
namespace Go.Proofs.YthijccmiemlilaaGreatDoor.Kee
open Go.RowKit Go.Sort

def tj : Tm := ⟨[98, 98], 0, 0, [], []⟩
def pj : Pck := ⟨⟨[97, 97], 0, [49], [], []⟩, [], [[tj]], [], [], [], [], [], []⟩
def kj : Kn := ⟨7, 0, [50], [], false, ⟨⟨[98, 98], 0, [50], [], []⟩, [], [], [], [], [], [], [], []⟩⟩
theorem up0 : upE [] pj = (7, 0) := by decide
theorem up1 : upE [kj] pj = (0, -1) := by decide
theorem sokp : Sok pj := ⟨by decide, by decide, by decide, by decide, by decide, by decide, by decide, by decide, by decide, by decide, by decide, by decide⟩
theorem sokk : Sok kj.p := ⟨by decide, by decide, by decide, by decide, by decide, by decide, by decide, by decide, by decide, by decide, by decide, by decide⟩
theorem kl_one {W : World} {b : Nat} {k : Kn} {vW vT vD vA vG vB vR vP vS vL vF : Value} (h : K20 W b k vW vT vD vA vG vB vR vP vS vL vF) (hz : Kz W k vW vT vD vA vG vB vR vP vS vL vF) : Kl W b 0 [k] := by
  refine ⟨block_lt_of_cell h.c0, fun i hi => ?_⟩
  obtain rfl : i = 0 := by simp at hi; omega
  exact ⟨vW, vT, vD, vA, vG, vB, vR, vP, vS, vL, vF, ⟨h.c0, h.c1, h.c2, h.c3, h.c4, h.c5, h.c6, h.c7, h.c8, h.c9, h.c10, h.c11, h.c12, h.c13, h.c14, h.c15, h.c16, h.c17, h.c18, h.c19⟩, hz⟩
set_option maxHeartbeats 6400000 in
set_option maxRecDepth 100000 in
theorem judged_any (w : World) (hT : ∀ W, Below w.heap.size w W → Lib.TabIs Tryz.prog W "internal/strconv.uint64pow10" .u64 Lib.pow10Tab) (hE : ErrT w) : Calls Tryz.prog 19 #[] w fun x w' => x = .returned (.bool true) ∧ Below w.heap.size w w' := by
  have c1 := read_dig 49 w (by decide) (hT _ (Below.refl _ _)) hT
  have HT := Lib.hid hT
  have HE := Lib.hid hE
  clear hT hE
  go_enter Tryz.func19, Tryz.ntmps19
  go_wp2_with fail
  refine c1.mono ?_
  rintro x w1 ⟨rfl, k1⟩
  clear c1
  go_upto_region 2 with fail
  obtain ⟨wa, hwa⟩ : ∃ wa, wa = w1.alloc (.cells #[.string ⟨#[98, 98]⟩, .int .i64 0, .int .i64 0, .string ⟨#[]⟩, .string ⟨#[]⟩] 112) := ⟨_, rfl⟩
  have ha1 : wa.heap.size = w1.heap.size + 1 := by rw [hwa]; simp
  have hab : Below w1.heap.size w1 wa := by rw [hwa]; exact b1c _ _
  have hah : wa.heap[w1.heap.size]? = some (.cells #[.string ⟨#[98, 98]⟩, .int .i64 0, .int .i64 0, .string ⟨#[]⟩, .string ⟨#[]⟩] 112 (0, 0)) := by rw [hwa]; exact nb0 _ _
  obtain ⟨wb, hwb⟩ : ∃ wb, wb = wa.alloc (.cells #[.slice (some ⟨w1.heap.size, 0, none⟩) 1 1] 26) := ⟨_, rfl⟩
  have hb1 : wb.heap.size = w1.heap.size + 1 + 1 := by rw [hwb]; simp [ha1]
  have hbb : Below wa.heap.size wa wb := by rw [hwb]; exact b1c _ _
  have hbh : wb.heap[w1.heap.size + 1]? = some (.cells #[.slice (some ⟨w1.heap.size, 0, none⟩) 1 1] 26 (0, 0)) := by rw [hwb, ← ha1]; exact nb0 _ _
  have hAs : As wb (.slice (some ⟨w1.heap.size + 1, 0, none⟩) 1 1) [[tj]] := by
    have hh := heap_on hah hbb
    refine ⟨.inr ⟨w1.heap.size + 1, 0, 1, rfl, Nat.le_refl _, by omega, fun i hi => ?_⟩⟩
    obtain rfl : i = 0 := by simp at hi; omega
    refine ⟨.slice (some ⟨w1.heap.size, 0, none⟩) 1 1, by simp [World.cell?, hbh], ⟨.inr ⟨w1.heap.size, 0, 1, rfl, Nat.le_refl _, ⟨by omega, ?_, ?_, ?_, ?_, ?_⟩⟩⟩⟩
    all_goals
      intro i hi
      obtain rfl : i = 0 := by simp at hi; omega
      simp [World.cell?, hh, tj]
  obtain ⟨w2, hw2⟩ : ∃ w2, w2 = wb.alloc (pko [97, 97] 0 [49] [] (.slice none 0 0) (.slice (some ⟨w1.heap.size + 1, 0, none⟩) 1 1) (.slice none 0 0) (.slice none 0 0) (.slice none 0 0) (.slice none 0 0) (.slice none 0 0) (.slice none 0 0) (.slice none 0 0)) := ⟨_, rfl⟩
  have h2b : Below wb.heap.size wb w2 := by rw [hw2]; exact b1c _ _
  have hPb : Pb w2 (w1.heap.size + 1 + 1) pj (.slice none 0 0) (.slice (some ⟨w1.heap.size + 1, 0, none⟩) 1 1) (.slice none 0 0) (.slice none 0 0) (.slice none 0 0) (.slice none 0 0) (.slice none 0 0) (.slice none 0 0) (.slice none 0 0) := by rw [hw2, ← hb1]; exact pb_new wb pj (.slice none 0 0) (.slice (some ⟨w1.heap.size + 1, 0, none⟩) 1 1) (.slice none 0 0) (.slice none 0 0) (.slice none 0 0) (.slice none 0 0) (.slice none 0 0) (.slice none 0 0) (.slice none 0 0)
  have hPz : Pz w2 pj (.slice none 0 0) (.slice (some ⟨w1.heap.size + 1, 0, none⟩) 1 1) (.slice none 0 0) (.slice none 0 0) (.slice none 0 0) (.slice none 0 0) (.slice none 0 0) (.slice none 0 0) (.slice none 0 0) := ⟨⟨.inl ⟨rfl, _, _, rfl⟩⟩, hAs.on h2b, ⟨.inl ⟨rfl, _, _, rfl⟩⟩, ⟨.inl ⟨rfl, _, _, rfl⟩⟩, ⟨.inl ⟨rfl, _, _, rfl⟩⟩, ⟨.inl ⟨rfl, _, _, rfl⟩⟩, ⟨.inl ⟨rfl, _, _, rfl⟩⟩, ⟨.inl ⟨rfl, _, _, rfl⟩⟩, ⟨.inl ⟨rfl, _, _, rfl⟩⟩⟩
  have k2 : Below w.heap.size w w2 := bon (bon (bon k1 hab) hbb) h2b
  rw [← hwa, ← hwb, ← hw2]
  have HPb := Lib.hid hPb
  have HPz := Lib.hid hPz
  have HK2 := Lib.hid k2
  clear hwa hwb hw2 ha1 hab hah hb1 hbb hbh hAs h2b hPb hPz
  have c2 := read_dig 50 w2 (by decide) (HT.out _ k2) (fun W h => HT.out W (bon k2 h))
  go_wp2_with fail
  refine c2.mono ?_
  rintro x w3 ⟨rfl, k3⟩
  have k3' := bon k2 k3
  have c3 := read_dig 50 w3 (by decide) (HT.out _ k3') (fun W h => HT.out W (bon k3' h))
  clear c2
  go_wp2_with fail
  refine c3.mono ?_
  rintro x w4 ⟨rfl, k4'⟩
  have k4 := bon k3 k4'
  clear c3 k4' k3'
  apply_assumption
  refine wpList_plain rfl fun K hK => ?_
  unfold Oper.wp
  simp [go_sem]
  refine hK _ _ ?_
  clear hK K
  refine wpList_plain rfl fun K hK => ?_
  unfold Oper.wp
  simp [go_sem]
  refine hK _ _ ?_
  clear hK K
  refine wpList_plain rfl fun K hK => ?_
  unfold Oper.wp
  simp [go_sem]
  refine hK _ _ ?_
  clear hK K
  refine wpList_store_new rfl 60 _ _ rfl _ _ rfl rfl (by kernel_rfl) (by rfl) (by first | rfl | simp [Value.oneCell']) ?_
  go_frame
  have hk5 := b1c w4 (kno 60 kj (.slice none 0 0) (.slice none 0 0) (.slice none 0 0) (.slice none 0 0) (.slice none 0 0) (.slice none 0 0) (.slice none 0 0) (.slice none 0 0) (.slice none 0 0) (.slice none 0 0) (.slice none 0 0))
  have hK5 := k20_new w4 60 kj (.slice none 0 0) (.slice none 0 0) (.slice none 0 0) (.slice none 0 0) (.slice none 0 0) (.slice none 0 0) (.slice none 0 0) (.slice none 0 0) (.slice none 0 0) (.slice none 0 0) (.slice none 0 0)
  obtain ⟨w5, hw5⟩ : ∃ w5, w5 = w4.alloc (kno 60 kj (.slice none 0 0) (.slice none 0 0) (.slice none 0 0) (.slice none 0 0) (.slice none 0 0) (.slice none 0 0) (.slice none 0 0) (.slice none 0 0) (.slice none 0 0) (.slice none 0 0) (.slice none 0 0)) := ⟨_, rfl⟩
  rw [← hw5] at hk5 hK5
  show wpList _ _ _ _ _ (w4.alloc (kno 60 kj (.slice none 0 0) (.slice none 0 0) (.slice none 0 0) (.slice none 0 0) (.slice none 0 0) (.slice none 0 0) (.slice none 0 0) (.slice none 0 0) (.slice none 0 0) (.slice none 0 0) (.slice none 0 0)))
  rw [← hw5]
  clear hw5
  have k5 := bon k4 hk5
  have HK5 := Lib.hid hK5
  have hP5 := (HPb.out.on k5).range
  have c9 := unpack_any (.slice none 0 0) [] pj (.slice none 0 0) (.slice (some ⟨w1.heap.size + 1, 0, none⟩) 1 1) (.slice none 0 0) (.slice none 0 0) (.slice none 0 0) (.slice none 0 0) (.slice none 0 0) (.slice none 0 0) (.slice none 0 0) w5 ⟨.inl ⟨rfl, _, _, rfl⟩⟩ (HPz.out.on k5) (by simp) (fun k hk => by cases hk) sokp
  rw [up0] at c9
  have K5 := Lib.hid k5
  clear hk5 hK5 k4 k5 k3
  go_upto_region 3 with fail
  refine wp_region_lit ?_
  refine wpList_load_mid rfl 30 _ rfl (w1.heap.size + 1 + 1) 0 rfl _ _ hP5 Tryz.underlying30 rfl (by kernel_rfl) ?_
  go_frame
  go_wp2_with fail
  refine c9.mono ?_
  rintro x w6 ⟨z6, rfl, hE6, k6⟩
  rcases hE6.is with ⟨h0, _, _⟩ | ⟨h0, _⟩ | ⟨b6, rfl, hc6, _⟩
  · simp at h0
  · simp at h0
  have K6 := Lib.hid (bon K5.out k6)
  have c61 := tell_at 7 b6 w6 (HE.out.on (bon k2 K6.out)) hc6
  have HK6 := Lib.hid (HK5.out.on k6)
  clear c9 hE6 hc6 hP5 k6
  go_wp2_with fail
  refine c61.mono ?_
  rintro x w7 ⟨rfl, k7⟩
  have K7 := Lib.hid (bon K6.out k7)
  have hr7 := (HK6.out.on k7).range
  have hp7 := (HPb.out.on K7.out).range
  clear c61
  apply_assumption
  refine wpList_plain rfl fun K hK => ?_
  unfold Oper.wp
  simp [go_sem]
  refine hK _ _ ?_
  clear hK K
  refine wpList_plain rfl fun K hK => ?_
  unfold Oper.wp
  simp [go_sem]
  refine hK _ _ ?_
  clear hK K
  refine wpList_load_midg (by kernel_rfl) 60 _ rfl w4.heap.size 0 rfl _ _ hr7 Tryz.underlying60 rfl (by kernel_rfl) ?_
  go_frame
  refine BigFrame.wpList_want (by kernel_rfl) fun K hK => ?_
  unfold Oper.wp
  simp [go_sem]
  refine hK _ _ ?_
  clear hK K
  obtain ⟨w8, hw8⟩ : ∃ w8, w8 = w7.alloc (kno 60 kj (.slice none 0 0) (.slice none 0 0) (.slice none 0 0) (.slice none 0 0) (.slice none 0 0) (.slice none 0 0) (.slice none 0 0) (.slice none 0 0) (.slice none 0 0) (.slice none 0 0) (.slice none 0 0)) := ⟨_, rfl⟩
  have hk8 : Below w7.heap.size w7 w8 := by rw [hw8]; exact b1c _ _
  have hK8 : K20 w8 w7.heap.size kj (.slice none 0 0) (.slice none 0 0) (.slice none 0 0) (.slice none 0 0) (.slice none 0 0) (.slice none 0 0) (.slice none 0 0) (.slice none 0 0) (.slice none 0 0) (.slice none 0 0) (.slice none 0 0) := by rw [hw8]; exact k20_new w7 60 kj (.slice none 0 0) (.slice none 0 0) (.slice none 0 0) (.slice none 0 0) (.slice none 0 0) (.slice none 0 0) (.slice none 0 0) (.slice none 0 0) (.slice none 0 0) (.slice none 0 0) (.slice none 0 0)
  show wpList _ _ _ _ _ (w7.alloc (kno 60 kj (.slice none 0 0) (.slice none 0 0) (.slice none 0 0) (.slice none 0 0) (.slice none 0 0) (.slice none 0 0) (.slice none 0 0) (.slice none 0 0) (.slice none 0 0) (.slice none 0 0) (.slice none 0 0)))
  rw [← hw8]
  clear hw8
  have K8 := Lib.hid (bon K7.out hk8)
  have hp8 := (HPb.out.on K8.out).range
  have hKs : Ks w8 (.slice (some ⟨w7.heap.size, 0, none⟩) 1 1) [kj] := ⟨.inr ⟨w7.heap.size, 0, 1, rfl, kl_one hK8 ⟨⟨[], ⟨.inl ⟨rfl, _, _, rfl⟩⟩⟩, ⟨[], ⟨.inl ⟨rfl, _, _, rfl⟩⟩⟩, ⟨⟨.inl ⟨rfl, _, _, rfl⟩⟩, ⟨.inl ⟨rfl, _, _, rfl⟩⟩, ⟨.inl ⟨rfl, _, _, rfl⟩⟩, ⟨.inl ⟨rfl, _, _, rfl⟩⟩, ⟨.inl ⟨rfl, _, _, rfl⟩⟩, ⟨.inl ⟨rfl, _, _, rfl⟩⟩, ⟨.inl ⟨rfl, _, _, rfl⟩⟩, ⟨.inl ⟨rfl, _, _, rfl⟩⟩, ⟨.inl ⟨rfl, _, _, rfl⟩⟩⟩⟩⟩⟩
  have c9 := unpack_ok (.slice (some ⟨w7.heap.size, 0, none⟩) 1 1) [kj] pj (.slice none 0 0) (.slice (some ⟨w1.heap.size + 1, 0, none⟩) 1 1) (.slice none 0 0) (.slice none 0 0) (.slice none 0 0) (.slice none 0 0) (.slice none 0 0) (.slice none 0 0) (.slice none 0 0) w8 hKs (HPz.out.on K8.out) (by simp) (fun k hk => by rw [List.mem_singleton.1 hk]; exact sokk) sokp
  clear hKs hK8 hk8 hr7 hp7 k7
  refine wpList_load_midg (by kernel_rfl) 30 _ rfl (w1.heap.size + 1 + 1) 0 rfl _ _ hp8 Tryz.underlying30 rfl (by kernel_rfl) ?_
  go_frame
  refine BigFrame.wpList_want (by kernel_rfl) fun K hK => ?_
  unfold Oper.wp
  simp [go_sem]
  refine c9.mono ?_
  rintro x w9 ⟨z9, rfl, hE9, k9⟩
  obtain rfl := hE9 up1
  refine hK _ _ ?_
  have K9 := Lib.hid (bon HK2.out (bon K8.out k9))
  clear hK K c9 hp8 hE9 k9
  go_wp2_with fail
  go_ret
  exact ⟨rfl, K9.out⟩
end Go.Proofs.YthijccmiemlilaaGreatDoor.Kee
