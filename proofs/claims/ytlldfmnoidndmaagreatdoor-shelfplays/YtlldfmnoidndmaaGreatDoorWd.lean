/- The reference's Put walked. -/
import Derived.Test.YtlldfmnoidndmaaGreatDoorWx
import Derived.Test.YtlldfmnoidndmaaGreatDoorXe
import Derived.Test.YtlldfmnoidndmaaGreatDoorXr
namespace Go.Proofs.YtlldfmnoidndmaaGreatDoor.Dsk
open Go.RowKit Go.Sort Go.Maps

theorem con_up (SS : List (List UInt8)) (a : List UInt8) (j : Nat) (hj : j < SS.length) : (SS.take (j + 1)).contains a = ((SS.take j).contains a || (SS[j] == a)) := by
  rw [List.take_succ_eq_append_getElem hj]
  simp only [List.contains_eq_any_beq, List.any_append, List.any_cons, List.any_nil, Bool.or_false]
  rw [BEq.comm (a := a) (b := SS[j])]
theorem ck_drew (V : World) : Ck V V.drew := ⟨Nat.le_refl _, fun _ _ _ h => h⟩
theorem rx_set {W : World} {r mw md ms g i : Nat} {A D S : Kv (List UInt8)} {v : Value} (h : RX W r mw md ms A D S) (hg : ¬ (g = r ∨ RM mw md ms g)) : RX (W.setCell ⟨g, i, none⟩ v) r mw md ms A D S :=
  h.keep fun j hj => Below.heap_setCell W ⟨g, i, none⟩ _ j (fun e => hg (by have e2 : j = g := e; exact e2 ▸ hj))
section
variable {W : World} {r mw md ms : Nat} {A D S : Kv (List UInt8)}
/-- What Put answers, and leaves. -/
inductive Rpu (W : World) (r mw md ms : Nat) (A D S : Kv (List UInt8)) (p : Pck) (t : List UInt8) (aw : List Bool) : Ending → World → Prop where
  | arg (W2 : World) : aok p = false → RX W2 r mw md ms A D S → Below W.heap.size W W2 → Rpu W r mw md ms A D S p t aw (.returned (.agg #[.int .i64 1, .int .i64 (-1)])) W2
  | two (W2 : World) (i : Nat) (m : List UInt8) : aok p = true → Rcl A p.o.n (tkf t) p.F i m → RX W2 r mw md ms A D S → Below W.heap.size W W2 → Rpu W r mw md ms A D S p t aw (.returned (.agg #[.int .i64 9, .int .i64 i])) W2
  | ok (W2 : World) (A' D' S' : Kv (List UInt8)) : aok p = true → Rcl A p.o.n (tkf t) p.F (-1) [] → Rpl A D S p.o.n p.S p.F (rcm D S p.S p.F aw) A' D' S' → RX W2 r mw md ms A' D' S' → Kp (RM mw md ms) W W2 → Rpu W r mw md ms A D S p t aw (.returned (.agg #[.int .i64 0, .int .i64 (-1)])) W2
set_option maxRecDepth 100000 in
set_option maxHeartbeats 16000000 in
theorem rput_any (h : RX W r mw md ms A D S) (p : Pck) (vD vA vG vB vR vP vS vL vF va : Value) (bx : Nat) (t : List UInt8) (aw : List Bool)
    (hz : Pz W p vD vA vG vB vR vP vS vL vF) (hp : Pg p) (hT : Tab W) (hFi : Fi W) (hAn : An W va aw)
    (hA : A.length ≤ 100000) (hD : D.length ≤ 100000) (hS : S.length ≤ 100000) (hAq : ∀ p m, lkL p A = some m → p.length ≤ 900 ∧ m.length ≤ 1000) (hbx : W.cell? ⟨bx, 14, none⟩ = some (.string ⟨t.toArray⟩)) :
    Calls Tryz.prog 15 #[.pointer (some ⟨r, 0, none⟩), pkv p.o.n p.o.e p.o.u p.o.r vD vA vG vB vR vP vS vL vF, .func (.func 10) #[] #[.pointer (some ⟨bx, 0, none⟩)], va] W fun x W2 => Rpu W r mw md ms A D S p t aw x W2 := by
  obtain ⟨F1, F2, hvF⟩ := fs_sl hz.F
  obtain ⟨S1, S2, hvS⟩ := ss_sl hz.S
  obtain ⟨D1, D2, hvD⟩ := as_sl hz.D
  obtain ⟨A1, A2, hvA⟩ := as_sl hz.A
  obtain ⟨G1, G2, hvG⟩ := ts_sl hz.G
  obtain ⟨Q1, Q2, hvB⟩ := ts_sl hz.B
  obtain ⟨R1, R2, hvR⟩ := ts_sl hz.R
  obtain ⟨P1, P2, hvP⟩ := ts_sl hz.P
  obtain ⟨L1, L2, hvL⟩ := ss_sl hz.L
  obtain ⟨ap, an, ac, hva⟩ : ∃ ap an ac, va = .slice ap an ac := by
    rcases hAn.is with ⟨_, _, _, h⟩ | ⟨b, o, c, h, _⟩
    · exact ⟨_, _, _, h⟩
    · exact ⟨_, _, _, h⟩
  have c0 := b1c W (pko p.o.n p.o.e p.o.u p.o.r vD vA vG vB vR vP vS vL vF)
  have B0 := pb_new W p vD vA vG vB vR vP vS vL vF
  have c1 := c0.alloc c0.size (.cells #[.int .i64 0, .int .i64 0] 54)
  have B1 := B0.on ((Below.refl _ _).alloc (Nat.le_refl _) (.cells #[.int .i64 0, .int .i64 0] 54))
  have K1 := k2_new (W.alloc (pko p.o.n p.o.e p.o.u p.o.r vD vA vG vB vR vP vS vL vF))
  rw [World.size_alloc] at K1
  obtain ⟨V0, hV0⟩ : ∃ V0, V0 = (W.alloc (pko p.o.n p.o.e p.o.u p.o.r vD vA vG vB vR vP vS vL vF)).alloc (.cells #[.int .i64 0, .int .i64 0] 54) := ⟨_, rfl⟩
  rw [← hV0] at c1 B1 K1
  have cR := xarch_any p vD vA vG vB vR vP vS vL vF V0 (hz.on c1) hp (tab_on hT c1)
  have hlt := h.lt
  have hFS : fls p.F = true := hp.F
  have HFl := Lib.hid (fls_p hp.F)
  have HSl := Lib.hid (txs_p hp.S)
  have hF30 := HFl.out.1
  have hS40 := HSl.out.1
  have hnl : p.o.n.length ≤ 60 := hp.n
  have HX := Lib.hid h
  have HZ := Lib.hid hz
  have HFi := Lib.hid hFi
  have HAn := Lib.hid hAn
  have HAQ := Lib.hid hAq
  have HBX := Lib.hid hbx
  have HB1 := Lib.hid c1
  have HPB := Lib.hid B1
  have HK := Lib.hid K1
  obtain ⟨bp, hbp⟩ : ∃ bp, bp = W.heap.size := ⟨_, rfl⟩
  obtain ⟨br, hbr⟩ : ∃ br, br = W.heap.size + 1 := ⟨_, rfl⟩
  rw [← hbp] at HPB
  rw [← hbr] at HK
  have hbrX : ¬ (br = r ∨ RM mw md ms br) := by
    rintro (e | e | e | e) <;> omega
  have hbrW : W.heap.size ≤ br := by omega
  subst hvF hvS hvD hvA hvG hvB hvR hvP hvL hva
  clear h hz hT hFi hAn hAq hbx c0 B0 c1 B1 K1 hFS
  go_enter Tryz.func15, Tryz.ntmps15
  go_upto_region 1 with fail
  rw [← hV0, ← hbr, ← hbp]
  clear hV0 hbp hbr
  obtain ⟨q0, q1, q2, q3, q4, q5, q6, q7, q8, q9, q10, q11, q12⟩ := HPB.out
  have hbpl := block_lt_of_cell q0
  go_wp2_with fail
  refine cR.mono ?_
  rintro x V1 ⟨rfl, b1⟩
  have HB2 := Lib.hid (HB1.out.trans (b1.mono HB1.out.size))
  have HPB2 := Lib.hid (HPB.out.on b1)
  have HK2 := Lib.hid (HK.out.on b1)
  clear cR b1 HB1 HPB HK q0 q1 q2 q3 q4 q5 q6 q7 q8 q9 q10 q11 q12 hbpl
  cases hok : aok p with
  | false =>
    obtain ⟨kl, k0, k1, f0, f1⟩ := HK2.out
    have cF := fun V => bareF_any 1 V
    go_wp2_with fail
    refine (cF _).mono ?_
    rintro x V2 ⟨rfl, b2⟩
    obtain ⟨kl, k0, k1, f0, f1⟩ := HK2.out.on b2
    have hb := HB2.out.trans (b2.mono HB2.out.size)
    have HF := Lib.hid (rx_set (i := 1) (v := .int .i64 (-1)) (rx_set (i := 0) (v := .int .i64 1) (HX.out.on hb) hbrX) hbrX)
    go_wp2_with fail
    exact bodyPost_ret (v := .agg #[.int .i64 1, .int .i64 (-1)]) (by simp [results, Tryz.results15, go_sem, k0, k1]) rfl (.arg _ hok HF.out ((hb.setCell hbrW _).setCell hbrW _))
  | true =>
  have cC := rclash_any (HX.out.on HB2.out) (by omega) HAQ.out p.o.n p.o.e p.o.u p.o.r (.slice D1 p.D.length D2) (.slice A1 p.A.length A2) (.slice G1 p.G.length G2) (.slice Q1 p.B.length Q2) (.slice R1 p.R.length R2) (.slice P1 p.o.P.length P2) (.slice S1 p.S.length S2) (.slice L1 p.L.length L2) (.slice F1 p.F.length F2) bx t p.F (HZ.out.F.on HB2.out) (by omega) (fun f hf => by have := (HFl.out.2 f hf).1; omega) ((HB2.out.cell (p := ⟨bx, 14, none⟩) (block_lt_of_cell HBX.out)).trans HBX.out)
  obtain ⟨q0, q1, q2, q3, q4, q5, q6, q7, q8, q9, q10, q11, q12⟩ := HPB2.out
  have hbpl := block_lt_of_cell q0
  go_wp2_with fail
  refine cC.mono ?_
  rintro x V2 ⟨⟨ci, cn, rfl, hcl⟩, b2⟩
  have HB3 := Lib.hid (HB2.out.trans (b2.mono HB2.out.size))
  have HPB3 := Lib.hid (HPB2.out.on b2)
  have HK3 := Lib.hid (HK2.out.on b2)
  have HCl := Lib.hid hcl
  clear cC b2 HB2 HPB2 HK2 q0 q1 q2 q3 q4 q5 q6 q7 q8 q9 q10 q11 q12 hbpl
  cases hcl with
  | yes i hi j hj h1 h2 h3 =>
    obtain ⟨kl, k0, k1, f0, f1⟩ := HK3.out
    obtain ⟨nm, hnm⟩ : ∃ nm, nm = (rown A)[j] := ⟨_, rfl⟩
    rw [← hnm] at HCl
    rw [← hnm]
    have hige : (0 : Int) ≤ (i : Int) := by omega
    have HF := Lib.hid (rx_set (i := 1) (v := .int .i64 i) (rx_set (i := 0) (v := .int .i64 9) (HX.out.on HB3.out) hbrX) hbrX)
    clear h1 h2 h3 hnm
    go_wp2_with fail
    exact bodyPost_ret (v := .agg #[.int .i64 9, .int .i64 i]) (by simp [results, Tryz.results15, go_sem, k0, k1]) rfl (.two _ i nm hok HCl.out HF.out ((HB3.out.setCell hbrW _).setCell hbrW _))
  | no hno =>
  clear hno
  have hnd := aok_nd hok
  have hmm := @run_makeMap Tryz.prog
  have hPS0 := ps_new (HX.out.on HB3.out)
  have b3 := (Below.refl V2.heap.size V2).alloc (Nat.le_refl _) (.map #[] 0)
  obtain ⟨mn, hmn⟩ : ∃ mn, mn = V2.heap.size := ⟨_, rfl⟩
  obtain ⟨V3, hV3⟩ : ∃ V3, V3 = V2.alloc (.map #[] 0) := ⟨_, rfl⟩
  rw [← hV3, ← hmn] at hPS0
  rw [← hV3] at b3
  have HP0 := Lib.hid hPS0
  have HB4 := Lib.hid (HB3.out.trans (b3.mono HB3.out.size))
  have HPB4 := Lib.hid (HPB3.out.on b3)
  have HK4 := Lib.hid (HK3.out.on b3)
  have HFs := Lib.hid (HZ.out.F.on HB4.out)
  have HSs := Lib.hid (HZ.out.S.on HB4.out)
  have HFi4 := Lib.hid (HFi.out.on HB4.out)
  have HAn4 := Lib.hid (HAn.out.on HB4.out)
  have HSRT := Lib.hid (And.intro HX.out.sa (And.intro HX.out.sd HX.out.ss))
  have hmnW : W.heap.size ≤ mn := by rw [hmn]; exact HB3.out.size
  have hbrm : br < mn := by rw [hmn]; exact HK3.out.lt
  have hmn3 : mn < V3.heap.size := mv_lt HP0.out.mv
  clear hPS0 b3 HB3 HPB3 HK3 HZ HFi HAn
  go_upto_region 7 with fail
  rw [← hV3, ← hmn]
  clear hV3 hmn hmm
  have q12 := HPB4.out.c12
  have hbpl := block_lt_of_cell q12
  go_wp2_with fail
  go_loopw [3, 43] (fun av iv Y => ∃ k : Nat, k ≤ p.F.length ∧ iv = .int .i64 k ∧ Hid (∃ E1 T1 M out aw1, PS V3 r mw md ms mn A E1 T1 M Y ∧ Pf D S p.S p.F aw k E1 T1 out aw1 ∧ Cc ((p.F.take k).map (·.1)) k M ∧ An Y av aw1)) (fun _ iv _ => p.F.length - (intOf iv).toNat)
  case atStart => exact ⟨0, Nat.zero_le _, rfl, D, S, [], [], aw, HP0.out, pf_nil HSRT.out.2.1 HSRT.out.2.2 _ _ _, cc_nil, HAn4.out⟩
  case round =>
    clear HP0 HAn4 q12 hbpl
    obtain ⟨k, hk, rfl, HQ⟩ := hrel
    obtain ⟨E1, T1, M, out, aw1, hPS, hPf, hCc, hAn⟩ := HQ.out
    clear HQ
    by_cases hlt2 : k < p.F.length
    · obtain ⟨fb, fo, rfl, f0, f1⟩ := fs_at (fs_ck HFs.out hPS.ck) k hlt2
      have hfl := block_lt_of_cell f0
      have hpa : p.F[k].1.length ≤ 100 := (HFl.out.2 _ (List.getElem_mem hlt2)).1
      have HST : Hid (∀ y aw2, cmr D S p.S (out, aw1) p.F[k] = (out ++ [y], aw2) → Pf D S p.S p.F aw (k + 1) (if y = true then putL p.F[k].1 p.F[k].2 E1 else E1) (if p.S.contains p.F[k].1 = true then putL p.F[k].1 p.F[k].2 T1 else delL p.F[k].1 T1) (out ++ [y]) aw2) := fun y aw2 hc => hPf.step hnd hlt2 y hc
      have HRC : Hid (∀ tt, rch E1 T1 p.F[k].1 tt = rch D S p.F[k].1 tt) := fun tt => hPf.rch hnd hlt2 tt
      have HCE : Hid ((p.F.take (k + 1)).map (·.1) = (p.F.take k).map (·.1) ++ [p.F[k].1]) := by
        show _ = _
        rw [List.take_succ_eq_append_getElem hlt2, List.map_append]
        rfl
      have hEl : E1.length ≤ 200000 := by have := hPf.ln.1; omega
      have hTl : T1.length ≤ 200000 := by have := hPf.ln.2; omega
      generalize p.F[k] = f at f0 f1 hpa HST HRC HCE
      obtain ⟨a, tt⟩ := f
      dsimp only at f0 f1 hpa HST HRC HCE
      have hb4 := (Below.refl wr.heap.size wr).alloc (Nat.le_refl _) (.cells #[.string ⟨a.toArray⟩, .string ⟨tt.toArray⟩] 73)
      have hx4 := nb0 wr (.cells #[.string ⟨a.toArray⟩, .string ⟨tt.toArray⟩] 73)
      have hP4 := hPS.up hb4
      have hA4 := hAn.on hb4
      obtain ⟨bf, hbf⟩ : ∃ bf, bf = wr.heap.size := ⟨_, rfl⟩
      obtain ⟨V4, hV4⟩ : ∃ V4, V4 = wr.alloc (.cells #[.string ⟨a.toArray⟩, .string ⟨tt.toArray⟩] 73) := ⟨_, rfl⟩
      rw [← hV4] at hb4 hx4 hP4 hA4
      rw [← hbf] at hx4
      have g0 : V4.cell? ⟨bf, 0, none⟩ = some (.string ⟨a.toArray⟩) := by simp [World.cell?, hx4]
      have g1 : V4.cell? ⟨bf, 1, none⟩ = some (.string ⟨tt.toArray⟩) := by simp [World.cell?, hx4]
      have hbfl4 := block_lt_of_cell g0
      obtain ⟨c, hcl, hci, _⟩ := hCc.at a
      have hlook := milook hP4.mv a (by omega)
      rw [hci] at hlook
      obtain ⟨V5, hrun, hP5, ck5⟩ := hP4.putM a ((c : Int) + 1) (by omega) (by have := hCc.n; omega)
      have hC5 := hCc.put a c hci
      rw [← HCE.out] at hC5
      have hc1 : c ≤ 1000000 := by omega
      have g50 := ck5.c _ _ _ g0
      have g51 := ck5.c _ _ _ g1
      have hbfl5 := block_lt_of_cell g50
      have q10 : V5.cell? ⟨bp, 10, none⟩ = some (.slice S1 p.S.length S2) := hP5.ck.c _ _ _ HPB4.out.c10
      have hbp5 := block_lt_of_cell q10
      have HP5 := Lib.hid hP5
      have HC5 := Lib.hid hC5
      have HA5 := Lib.hid (an_ck hA4 ck5)
      have HG5 := Lib.hid (And.intro g50 g51)
      have HS5 := Lib.hid (ss_ck HSs.out hP5.ck)
      have hrl := hP5.rx.lt.1
      clear hPS hPf hCc hAn hb4 hx4 hP4 hA4 hci hP5 ck5 hC5 g51 HCE g1
      go_upto_region 10 with fail
      rw [← hV4, ← hbf]
      clear hV4 hbf f0 f1 hfl
      go_wp2_with fail
      go_loopw [14, 55] (fun sv iv Y => ∃ j : Nat, j ≤ p.S.length ∧ iv = .int .i64 j ∧ sv = .bool ((p.S.take j).contains a) ∧ Y = V5) (fun _ iv _ => p.S.length - (intOf iv).toNat)
      case atStart => exact ⟨0, Nat.zero_le _, rfl, rfl, rfl⟩
      case round =>
        obtain ⟨j, hj, rfl, rfl, hY⟩ := hrel
        rw [hY]
        clear hY
        by_cases hjt : j < p.S.length
        · obtain ⟨sb, so, rfl, s0⟩ := ss_at HS5.out j hjt
          have hsl := block_lt_of_cell s0
          have HE := Lib.hid (con_up p.S a j hjt)
          generalize p.S[j] = s at s0 HE
          have HGo : Hid (∀ y, (p.S.take (j + 1)).contains a = y → Value.bool y = .bool ((p.S.take (j + 1)).contains a)) := fun y e => by rw [e]
          generalize (p.S.take j).contains a = y1 at HE
          cases y1 with
          | true =>
            have HF := Lib.hid (HGo.out true (by rw [HE.out]; rfl))
            clear HE HGo
            go_wp2_with fail
            exact ⟨⟨j + 1, hjt, by go_num, HF.out, trivial⟩, by simp [intOf]; omega⟩
          | false =>
            rcases Bool.eq_false_or_eq_true (s == a) with hsa | hsa
            · have HF := Lib.hid (HGo.out true (by rw [HE.out, hsa]; rfl))
              clear HE HGo
              go_wp2_with fail
              exact ⟨⟨j + 1, hjt, by go_num, HF.out, trivial⟩, by simp [intOf]; omega⟩
            · have HF := Lib.hid (HGo.out false (by rw [HE.out, hsa]; rfl))
              clear HE HGo
              go_wp2_with fail
              exact ⟨⟨j + 1, hjt, by go_num, HF.out, trivial⟩, by simp [intOf]; omega⟩
        · have hje : j = p.S.length := by omega
          rw [hje, List.take_length]
          clear hj hjt hje j q10 hbp5 hlook hrun g0 hbfl4
          cases hst : p.S.contains a with
          | false =>
            obtain ⟨V6, r6, hP6, ck6⟩ := HP5.out.drew.putD a tt (by omega) (by omega)
            obtain ⟨V7, r7, hP7, ck7⟩ := hP6.drew.delS a (by omega)
            have c1 : V5.drew.cell? ⟨r, 1, none⟩ = some (.map (some md)) := HP5.out.drew.cl.2.1
            have d0 : V5.drew.cell? ⟨bf, 0, none⟩ = some (.string ⟨a.toArray⟩) := HG5.out.1
            have d1 : V5.drew.cell? ⟨bf, 1, none⟩ = some (.string ⟨tt.toArray⟩) := HG5.out.2
            have c2 : V6.drew.cell? ⟨r, 2, none⟩ = some (.map (some ms)) := hP6.drew.cl.2.2
            have e0 : V6.drew.cell? ⟨bf, 0, none⟩ = some (.string ⟨a.toArray⟩) := ck6.c _ _ _ d0
            have HF : Hid (∃ E1 T1 M out aw1, PS V3 r mw md ms mn A E1 T1 M V7 ∧ Pf D S p.S p.F aw (k + 1) E1 T1 out aw1 ∧ Cc ((p.F.take (k + 1)).map (·.1)) (k + 1) M ∧ An V7 u3 aw1) := by
              have := HST.out true aw1 (by unfold cmr; rw [hst]; rfl)
              rw [if_pos rfl, hst, if_neg (by simp)] at this
              exact ⟨_, _, _, _, _, hP7, this, HC5.out, an_ck HA5.out ((((ck_drew V5).trans ck6).trans (ck_drew V6)).trans ck7)⟩
            clear hP6 hP7 ck6 ck7 HST HRC hst HP5 HC5 HA5 HG5 g50
            go_wp2_with (go_region)
            exact ⟨⟨k + 1, hlt2, by go_num, HF⟩, by simp [intOf]; omega⟩
          | true =>
            have HCR : Hid (cmr D S p.S (out, aw1) (a, tt) = (if rch D S a tt = 0 then (out ++ [true], aw1) else if rch D S a tt = 2 then (out ++ [aw1.headD false], aw1.tail) else (out ++ [false], aw1))) := by show _ = _; unfold cmr; rw [if_pos hst]
            have HS2 : Hid (∀ y aw2, cmr D S p.S (out, aw1) (a, tt) = (out ++ [y], aw2) → Pf D S p.S p.F aw (k + 1) (if y = true then putL a tt E1 else E1) (putL a tt T1) (out ++ [y]) aw2) := fun y aw2 hc => by
              have := HST.out y aw2 hc
              rwa [if_pos hst] at this
            clear HST hst
            have hb6 := (Below.refl V5.heap.size V5).alloc (Nat.le_refl _) (.cells #[.string ⟨tt.toArray⟩] 9)
            have hx6 := nb0 V5 (.cells #[.string ⟨tt.toArray⟩] 9)
            have hP6 := HP5.out.up hb6
            have hA6 := HA5.out.on hb6
            obtain ⟨bd, hbd⟩ : ∃ bd, bd = V5.heap.size := ⟨_, rfl⟩
            obtain ⟨V6, hV6⟩ : ∃ V6, V6 = V5.alloc (.cells #[.string ⟨tt.toArray⟩] 9) := ⟨_, rfl⟩
            rw [← hV6] at hb6 hx6 hP6 hA6
            rw [← hbd] at hx6
            have g51 := HG5.out.2
            have LD : V6.drew.cell? ⟨bd, 0, none⟩ = some (.string ⟨tt.toArray⟩) := by show V6.cell? ⟨bd, 0, none⟩ = _; simp [World.cell?, hx6]
            have LC : V6.drew.cell? ⟨bf, 0, none⟩ = some (.string ⟨a.toArray⟩) ∧ V6.drew.cell? ⟨r, 1, none⟩ = some (.map (some md)) ∧ V6.drew.cell? ⟨r, 2, none⟩ = some (.map (some ms)) := ⟨(hb6.cell (p := ⟨bf, 0, none⟩) hbfl5).trans g50, hP6.cl.2.1, hP6.cl.2.2⟩
            have hP6d := hP6.drew
            have cT1 := rat_any hP6d.rx.s a (by omega)
            have HP6 := Lib.hid hP6
            have HA6 := Lib.hid hA6
            have hcr := HRC.out tt
            clear hx6 hP6 hA6 HP5 HA5 HG5 HRC hb6
            go_upto_region 21 with fail
            rw [← hV6, ← hbd]
            clear hV6 hbd g50 g51 hbfl5
            refine wp_region_held (S := fun V => V.cell? ⟨bf, 0, none⟩ = some (.string ⟨a.toArray⟩) ∧ V.cell? ⟨r, 1, none⟩ = some (.map (some md)) ∧ V.cell? ⟨r, 2, none⟩ = some (.map (some ms))) (by kernel_rfl) ?_
            refine take_d (some 85) (i := 0) (v := .pointer (some ⟨r, 0, none⟩)) rfl rfl (by as_aux_lemma => kernel_rfl) (by as_aux_lemma => kernel_rfl) (by as_aux_lemma => kernel_rfl) (fun _ _ _ h => h) (.inl ⟨by kernel_rfl, fun w' hw => by simp [go_sem]⟩) LC ?_
            refine take_d (some 86) (i := 1) (v := .pointer (some ⟨r, 0, none⟩)) rfl rfl (by as_aux_lemma => kernel_rfl) (by as_aux_lemma => kernel_rfl) (by as_aux_lemma => kernel_rfl) (fun _ _ _ h => h) (.inl ⟨by kernel_rfl, fun w' hw => by simp [go_sem]⟩) LC ?_
            refine take_d (some 87) (i := 2) (v := .pointer (some ⟨r, 2, none⟩)) rfl rfl (by as_aux_lemma => kernel_rfl) (by as_aux_lemma => kernel_rfl) (by as_aux_lemma => kernel_rfl) (fun _ _ _ h => h) (.inl ⟨by kernel_rfl, fun w' hw => by simp [go_sem]⟩) LC ?_
            refine take_d (some 88) (i := 3) (v := .map (some ms)) rfl rfl (by as_aux_lemma => kernel_rfl) (by as_aux_lemma => kernel_rfl) (by as_aux_lemma => kernel_rfl) (fun _ _ _ h => h) (.inl ⟨by kernel_rfl, fun w' hw => by simp [go_sem, hw.2.2]⟩) LC ?_
            refine take_d (some 89) (i := 4) (v := .pointer (some ⟨bf, 0, none⟩)) rfl rfl (by as_aux_lemma => kernel_rfl) (by as_aux_lemma => kernel_rfl) (by as_aux_lemma => kernel_rfl) (fun _ _ _ h => h) (.inl ⟨by kernel_rfl, fun w' hw => by simp [go_sem]⟩) LC ?_
            refine take_d (some 90) (i := 5) (v := .string ⟨a.toArray⟩) rfl rfl (by as_aux_lemma => kernel_rfl) (by as_aux_lemma => kernel_rfl) (by as_aux_lemma => kernel_rfl) (fun _ _ _ h => h) (.inl ⟨by kernel_rfl, fun w' hw => by simp [go_sem, hw.1]⟩) LC ?_
            refine take_d (some 92) (i := 7) (v := .pointer (some ⟨r, 0, none⟩)) rfl rfl (by as_aux_lemma => kernel_rfl) (by as_aux_lemma => kernel_rfl) (by as_aux_lemma => kernel_rfl) (fun _ _ _ h => h) (.inl ⟨by kernel_rfl, fun w' hw => by simp [go_sem]⟩) LC ?_
            refine take_d (some 93) (i := 8) (v := .pointer (some ⟨r, 0, none⟩)) rfl rfl (by as_aux_lemma => kernel_rfl) (by as_aux_lemma => kernel_rfl) (by as_aux_lemma => kernel_rfl) (fun _ _ _ h => h) (.inl ⟨by kernel_rfl, fun w' hw => by simp [go_sem]⟩) LC ?_
            refine take_d (some 94) (i := 9) (v := .pointer (some ⟨r, 1, none⟩)) rfl rfl (by as_aux_lemma => kernel_rfl) (by as_aux_lemma => kernel_rfl) (by as_aux_lemma => kernel_rfl) (fun _ _ _ h => h) (.inl ⟨by kernel_rfl, fun w' hw => by simp [go_sem]⟩) LC ?_
            refine take_d (some 95) (i := 10) (v := .map (some md)) rfl rfl (by as_aux_lemma => kernel_rfl) (by as_aux_lemma => kernel_rfl) (by as_aux_lemma => kernel_rfl) (fun _ _ _ h => h) (.inl ⟨by kernel_rfl, fun w' hw => by simp [go_sem, hw.2.1]⟩) LC ?_
            refine take_d (some 96) (i := 11) (v := .pointer (some ⟨bf, 0, none⟩)) rfl rfl (by as_aux_lemma => kernel_rfl) (by as_aux_lemma => kernel_rfl) (by as_aux_lemma => kernel_rfl) (fun _ _ _ h => h) (.inl ⟨by kernel_rfl, fun w' hw => by simp [go_sem]⟩) LC ?_
            refine take_d (some 97) (i := 12) (v := .string ⟨a.toArray⟩) rfl rfl (by as_aux_lemma => kernel_rfl) (by as_aux_lemma => kernel_rfl) (by as_aux_lemma => kernel_rfl) (fun _ _ _ h => h) (.inl ⟨by kernel_rfl, fun w' hw => by simp [go_sem, hw.1]⟩) LC ?_
            try simp only [Act.put, List.setIfInBounds_toArray, List.set_cons_succ, List.set_cons_zero]
            refine wpAnyH_all (rs := [6]) (by as_aux_lemma => kernel_rfl) (by simp) fun j hj => ?_
            obtain rfl : j = 6 := by simpa using hj
            refine wpOp_want rfl (by kernel_rfl) ?_
            unfold Oper.wp
            simp [go_sem]
            refine cT1.mono ?_
            rintro z W7 ⟨v7, rfl, hT7, b7⟩
            have hP7 := hP6d.up b7
            replace LC : W7.cell? ⟨bf, 0, none⟩ = some (.string ⟨a.toArray⟩) ∧ W7.cell? ⟨r, 1, none⟩ = some (.map (some md)) ∧ W7.cell? ⟨r, 2, none⟩ = some (.map (some ms)) := ⟨(Ck.of b7).c _ _ _ LC.1, hP7.cl.2.1, hP7.cl.2.2⟩
            replace LD : W7.cell? ⟨bd, 0, none⟩ = some (.string ⟨tt.toArray⟩) := (Ck.of b7).c _ _ _ LD
            have cT2 := rat_any hP7.rx.d a (by omega)
            refine ⟨LC, ?_⟩
            try simp only [Act.put, List.setIfInBounds_toArray, List.set_cons_succ, List.set_cons_zero]
            refine wpAnyH_all (rs := [13]) (by as_aux_lemma => kernel_rfl) (by simp) fun j hj => ?_
            obtain rfl : j = 13 := by simpa using hj
            refine wpOp_want rfl (by kernel_rfl) ?_
            unfold Oper.wp
            simp [go_sem]
            refine cT2.mono ?_
            rintro z W8 ⟨v8, rfl, hT8, b8⟩
            have hP8 := hP7.up b8
            replace LC : W8.cell? ⟨bf, 0, none⟩ = some (.string ⟨a.toArray⟩) ∧ W8.cell? ⟨r, 1, none⟩ = some (.map (some md)) ∧ W8.cell? ⟨r, 2, none⟩ = some (.map (some ms)) := ⟨(Ck.of b8).c _ _ _ LC.1, hP8.cl.2.1, hP8.cl.2.2⟩
            replace LD : W8.cell? ⟨bd, 0, none⟩ = some (.string ⟨tt.toArray⟩) := (Ck.of b8).c _ _ _ LD
            have cH := Cho.rchoice_any v7 v8 (.pointer (some ⟨bd, 0, none⟩)) _ _ (some (ba tt)) W8 (hT7.on b8) hT8 ⟨.inr ⟨⟨bd, 0, none⟩, ba tt, rfl, rfl, LD⟩⟩
            refine ⟨LC, ?_⟩
            try simp only [Act.put, List.setIfInBounds_toArray, List.set_cons_succ, List.set_cons_zero]
            refine wpAnyH_all (rs := [14]) (by as_aux_lemma => kernel_rfl) (by simp) fun j hj => ?_
            obtain rfl : j = 14 := by simpa using hj
            refine wpOp_want rfl (by kernel_rfl) ?_
            unfold Oper.wp
            simp [go_sem]
            refine cH.mono ?_
            rintro z W9 ⟨rfl, b9⟩
            have hP9 := hP8.up b9
            replace LC : W9.cell? ⟨bf, 0, none⟩ = some (.string ⟨a.toArray⟩) ∧ W9.cell? ⟨r, 1, none⟩ = some (.map (some md)) ∧ W9.cell? ⟨r, 2, none⟩ = some (.map (some ms)) := ⟨(Ck.of b9).c _ _ _ LC.1, hP9.cl.2.1, hP9.cl.2.2⟩
            replace LD : W9.cell? ⟨bd, 0, none⟩ = some (.string ⟨tt.toArray⟩) := (Ck.of b9).c _ _ _ LD
            refine ⟨LC, ?_⟩
            have hch : Cho.cho ((lkL a T1).map ba) ((lkL a E1).map ba) (some (ba tt)) = rch D S a tt := hcr
            rw [hch]
            have hor : rch D S a tt = 0 ∨ rch D S a tt = 1 ∨ rch D S a tt = 2 := cho_or _ _ _
            have hcm := HCR.out
            generalize rch D S a tt = c at hor hcm ⊢
            refine take_d (some 18) (i := 15) (v := .int .i64 c) rfl rfl (by as_aux_lemma => kernel_rfl) (by as_aux_lemma => kernel_rfl) (by as_aux_lemma => kernel_rfl) (fun _ _ _ h => h) (.inl ⟨by kernel_rfl, fun w' _ => by simp [go_sem]⟩) LC ?_
            try simp only [Act.put, List.setIfInBounds_toArray, List.set_cons_succ, List.set_cons_zero]
            refine wpAnyH_done (by as_aux_lemma => kernel_rfl) ?_ _
            have hA9 := an_ck HA6.out ((ck_drew V6).trans (((Ck.of b7).trans (Ck.of b8)).trans (Ck.of b9)))
            have hrl9 := hP9.rx.lt.1
            have hbl9 := block_lt_of_cell LC.1
            have hbd9 := block_lt_of_cell LD
            have HP9 := Lib.hid hP9
            have HL9 := Lib.hid (And.intro LC LD)
            have HCM := Lib.hid hcm
            clear LC LD cT1 cT2 cH hT7 hT8 b7 b8 b9 hch hcm hcr hP6d hP7 hP8 hP9 HP6 HA6 HCR
            obtain ⟨Wa, ra, hPa, cka⟩ := HP9.out.drew.putD a tt (by omega) (by omega)
            obtain ⟨Wb, rb, hPb, ckb⟩ := hPa.drew.putS a tt (by omega) (by omega)
            obtain ⟨Wc, rc, hPc, ckc⟩ := HP9.out.drew.putS a tt (by omega) (by omega)
            have x1 : W9.drew.cell? ⟨r, 1, none⟩ = some (.map (some md)) := HL9.out.1.2.1
            have x2 : W9.drew.cell? ⟨r, 2, none⟩ = some (.map (some ms)) := HL9.out.1.2.2
            have x3 : W9.drew.cell? ⟨bf, 0, none⟩ = some (.string ⟨a.toArray⟩) := HL9.out.1.1
            have x4 : W9.drew.cell? ⟨bd, 0, none⟩ = some (.string ⟨tt.toArray⟩) := HL9.out.2
            have y2 : Wa.drew.cell? ⟨r, 2, none⟩ = some (.map (some ms)) := hPa.drew.cl.2.2
            have y3 : Wa.drew.cell? ⟨bf, 0, none⟩ = some (.string ⟨a.toArray⟩) := cka.c _ _ _ x3
            have y4 : Wa.drew.cell? ⟨bd, 0, none⟩ = some (.string ⟨tt.toArray⟩) := cka.c _ _ _ x4
            have HY : Hid (∀ v aw2, cmr D S p.S (out, aw1) (a, tt) = (out ++ [true], aw2) → An W9 v aw2 → ∃ E1 T1 M out aw1, PS V3 r mw md ms mn A E1 T1 M Wb ∧ Pf D S p.S p.F aw (k + 1) E1 T1 out aw1 ∧ Cc ((p.F.take (k + 1)).map (·.1)) (k + 1) M ∧ An Wb v aw1) := fun v aw2 h1 h2 => by
              have := HS2.out true aw2 h1
              rw [if_pos rfl] at this
              exact ⟨_, _, _, _, _, hPb, this, HC5.out, an_ck h2 ((((ck_drew W9).trans cka).trans (ck_drew Wa)).trans ckb)⟩
            have HN : Hid (∀ v aw2, cmr D S p.S (out, aw1) (a, tt) = (out ++ [false], aw2) → An W9 v aw2 → ∃ E1 T1 M out aw1, PS V3 r mw md ms mn A E1 T1 M Wc ∧ Pf D S p.S p.F aw (k + 1) E1 T1 out aw1 ∧ Cc ((p.F.take (k + 1)).map (·.1)) (k + 1) M ∧ An Wc v aw1) := fun v aw2 h1 h2 => by
              have := HS2.out false aw2 h1
              rw [if_neg (by simp)] at this
              exact ⟨_, _, _, _, _, hPc, this, HC5.out, an_ck h2 ((ck_drew W9).trans ckc)⟩
            clear hPa hPb hPc cka ckb ckc HS2 HC5 HP9 HL9
            rcases hor with rfl | rfl | rfl
            · have HF := Lib.hid (HY.out _ aw1 (by rw [HCM.out]; rfl) hA9)
              clear HY HN HCM hA9
              go_wp2_with (go_region)
              exact ⟨⟨k + 1, hlt2, by go_num, HF⟩, by simp [intOf]; omega⟩
            · have HF := Lib.hid (HN.out _ aw1 (by rw [HCM.out]; rfl) hA9)
              clear HY HN HCM hA9
              go_wp2_with (go_region)
              exact ⟨⟨k + 1, hlt2, by go_num, HF⟩, by simp [intOf]; omega⟩
            · rcases hA9.is with ⟨rfl, Az, az, hu3⟩ | ⟨ab, ao, az, hu3, hz2, hab, hz4⟩
              · have HF := Lib.hid (HN.out _ [] (by rw [HCM.out]; rfl) hA9)
                subst hu3
                clear HY HN HCM hA9
                go_wp2_with (go_region)
                exact ⟨⟨k + 1, hlt2, by go_num, HF⟩, by simp [intOf]; omega⟩
              · cases aw1 with
                | nil =>
                  have HF := Lib.hid (HN.out _ [] (by rw [HCM.out]; rfl) hA9)
                  subst hu3
                  clear HY HN HCM hA9 hz4 hz2
                  go_wp2_with (go_region)
                  exact ⟨⟨k + 1, hlt2, by go_num, HF⟩, by simp [intOf]; omega⟩
                | cons y rs =>
                  subst hu3
                  have k0 := hz4 0 (by simp)
                  simp only [Nat.add_zero, List.getElem_cons_zero] at k0
                  have HH4 := Lib.hid hz4
                  simp only [List.length_cons] at *
                  have HAF : Hid (∀ v, (v = .slice (some ⟨ab, ao + 1, none⟩) rs.length (az - 1) ∨ (rs.length = 0 ∧ ∃ A c, v = .slice A 0 c)) → An W9 v rs) := fun v hv => by
                    rcases hv with rfl | ⟨h0, A, c', rfl⟩
                    · refine ⟨.inr ⟨ab, ao + 1, az - 1, rfl, by omega, hab, fun i hi => ?_⟩⟩
                      have := HH4.out (i + 1) (by omega)
                      simp only [List.getElem_cons_succ] at this
                      rw [show ao + 1 + i = ao + (i + 1) by omega]
                      exact this
                    · exact ⟨.inl ⟨List.length_eq_zero_iff.1 h0, A, c', rfl⟩⟩
                  clear hz4 HH4 hA9
                  by_cases hcc : az = 1
                  · subst hcc
                    have ht0 : rs.length = 0 := by omega
                    have HT0 := Lib.hid ht0
                    rw [ht0]
                    clear hz2 ht0
                    cases y with
                    | true =>
                      have HF : Hid (∀ v, An W9 v rs → _) := fun v => HY.out v rs (by rw [HCM.out]; rfl)
                      clear HY HN HCM
                      go_wp2_with (go_region)
                      exact ⟨⟨k + 1, hlt2, by go_num, HF.out _ (HAF.out _ (.inr ⟨HT0.out, _, _, rfl⟩))⟩, by simp [intOf]; omega⟩
                    | false =>
                      have HF : Hid (∀ v, An W9 v rs → _) := fun v => HN.out v rs (by rw [HCM.out]; rfl)
                      clear HY HN HCM
                      go_wp2_with (go_region)
                      exact ⟨⟨k + 1, hlt2, by go_num, HF.out _ (HAF.out _ (.inr ⟨HT0.out, _, _, rfl⟩))⟩, by simp [intOf]; omega⟩
                  · cases y with
                    | true =>
                      have HF : Hid (∀ v, An W9 v rs → _) := fun v => HY.out v rs (by rw [HCM.out]; rfl)
                      clear HY HN HCM
                      go_wp2_with (go_region)
                      exact ⟨⟨k + 1, hlt2, by go_num, HF.out _ (HAF.out _ (.inl (by simp)))⟩, by simp [intOf]; omega⟩
                    | false =>
                      have HF : Hid (∀ v, An W9 v rs → _) := fun v => HN.out v rs (by rw [HCM.out]; rfl)
                      clear HY HN HCM
                      go_wp2_with (go_region)
                      exact ⟨⟨k + 1, hlt2, by go_num, HF.out _ (HAF.out _ (.inl (by simp)))⟩, by simp [intOf]; omega⟩
    · have hke : k = p.F.length := by omega
      subst hke
      rw [List.take_length] at hCc
      have cP := rpaths_any hPS.rx p.o.n (by omega)
      have q0 : wr.cell? ⟨bp, 0, none⟩ = some (.string ⟨p.o.n.toArray⟩) := hPS.ck.c _ _ _ HPB4.out.c0
      have hbp0 := block_lt_of_cell q0
      have hMl : M.length ≤ 1000 := by have := hCc.n; omega
      have HPS := Lib.hid hPS
      have HPf := Lib.hid hPf
      have HCc := Lib.hid hCc
      have HPL : Hid (∀ x ∈ rpt A p.o.n, x.length ≤ 900) := fun x hx => (HAQ.out x p.o.n ((mem_rpt HSRT.out.1).1 hx)).1
      have hpl : (rpt A p.o.n).length ≤ 100000 := by
        unfold rpt
        rw [List.length_map]
        exact Nat.le_trans (List.length_filter_le _ _) hA
      obtain ⟨ps, hps⟩ : ∃ ps, ps = rpt A p.o.n := ⟨_, rfl⟩
      have HPSE := Lib.hid hps
      rw [← hps] at cP HPL hpl
      clear hPS hPf hCc hAn hps hk hlt2
      go_wp2_with fail
      refine cP.mono ?_
      rintro x V6 ⟨v, rfl, hTx, b6⟩
      obtain ⟨PA, pc, rfl, hTp⟩ := tr_tx hTx
      have HTp := Lib.hid hTp
      have HP6 := Lib.hid (HPS.out.up b6)
      clear cP hTx hTp b6 HPS q0 hbp0
      go_wp2_with fail
      go_loopw [134] (fun iv Y => ∃ j : Nat, j ≤ ps.length ∧ iv = .int .i64 j ∧ Hid (∃ A2 D2, PS V3 r mw md ms mn A2 D2 T1 M Y ∧ Dsk.P2 A E1 (gn2 p.F T1) (ps.take j) A2 D2 ∧ Ck V6 Y)) (fun iv _ => ps.length - (intOf iv).toNat)
      case atStart => exact ⟨0, Nat.zero_le _, rfl, A, E1, HP6.out, p2_nil HSRT.out.1 HPf.out.sd _, Ck.refl _⟩
      case round =>
        clear HP6
        obtain ⟨j, hj, rfl, HJ⟩ := hrel
        obtain ⟨A2, D2, hPS, hP2, hck⟩ := HJ.out
        clear HJ
        by_cases hjt : j < ps.length
        · obtain ⟨g, rfl, _, hg2, hgc0⟩ := HTp.out.c j hjt
          have hgc := hck.c _ _ _ hgc0
          have hgr := block_lt_of_cell hgc
          have hql := HPL.out _ (List.getElem_mem hjt)
          have HPN : Hid (Dsk.P2 A E1 (gn2 p.F T1) (ps.take (j + 1)) (if gn2 p.F T1 ps[j] = true then delL ps[j] A2 else A2) (if gn2 p.F T1 ps[j] = true then delL ps[j] D2 else D2)) := by
            have := hP2.step ps[j]
            rwa [← List.take_succ_eq_append_getElem hjt] at this
          generalize ps[j] = q at hgc0 hgc hql HPN
          have hl2 := mtlook2 hPS.rx.s q (by omega)
          have hlm := milook hPS.mv q (by omega)
          obtain ⟨c, hcl, hci, hc0⟩ := HCc.out.at q
          rw [hci] at hlm
          obtain ⟨_, c1, c2⟩ := hPS.cl
          have hrl := hPS.rx.lt.1
          generalize tat q T1 = tq at hl2
          have HPS := Lib.hid hPS
          have HCk := Lib.hid hck
          clear hPS hP2 hck hgc0 hci hg2
          have HG : Hid (gn2 p.F T1 q = (!((p.F.map (·.1)).contains q) && !(lkL q T1).isSome)) := rfl
          by_cases hc : c = 0
          · have hnc : (p.F.map (·.1)).contains q = false := by
              rw [← Bool.not_eq_true, List.contains_iff_mem]
              exact hc0.1 hc
            subst hc
            cases hs : (lkL q T1).isSome with
            | false =>
              rw [hs] at hl2
              have e : gn2 p.F T1 q = true := by rw [HG.out, hnc, hs]; rfl
              have hPN := HPN.out
              rw [if_pos e, if_pos e] at hPN
              obtain ⟨Wa, ra, hPa, cka⟩ := HPS.out.delD q (by omega)
              obtain ⟨Wb, rb, hPb, ckb⟩ := hPa.delA q (by omega)
              have c0a := hPa.cl.1
              have hra := hPa.rx.lt.1
              have HF : Hid (∃ A2 D2, PS V3 r mw md ms mn A2 D2 T1 M Wb ∧ Dsk.P2 A E1 (gn2 p.F T1) (ps.take (j + 1)) A2 D2 ∧ Ck V6 Wb) := ⟨_, _, hPb, hPN, (HCk.out.trans cka).trans ckb⟩
              clear hPa hPb cka ckb hPN e HPN HPS HCk HG hs hnc hc0
              go_wp2_with fail
              exact ⟨⟨j + 1, hjt, by go_num, HF⟩, by simp [intOf]; omega⟩
            | true =>
              rw [hs] at hl2
              have e : ¬ gn2 p.F T1 q = true := by rw [HG.out, hs]; simp
              have hPN := HPN.out
              rw [if_neg e, if_neg e] at hPN
              have HF : Hid (∃ A2 D2, PS V3 r mw md ms mn A2 D2 T1 M wr ∧ Dsk.P2 A E1 (gn2 p.F T1) (ps.take (j + 1)) A2 D2 ∧ Ck V6 wr) := ⟨_, _, HPS.out, hPN, HCk.out⟩
              clear hPN e HPN HPS HCk HG hs hnc hc0
              go_wp2_with fail
              exact ⟨⟨j + 1, hjt, by go_num, HF⟩, by simp [intOf]; omega⟩
          · have hnc : (p.F.map (·.1)).contains q = true := by
              rw [List.contains_iff_mem]
              exact Classical.byContradiction fun h => hc (hc0.2 h)
            have e : ¬ gn2 p.F T1 q = true := by rw [HG.out, hnc]; simp
            have hPN := HPN.out
            rw [if_neg e, if_neg e] at hPN
            have HF : Hid (∃ A2 D2, PS V3 r mw md ms mn A2 D2 T1 M wr ∧ Dsk.P2 A E1 (gn2 p.F T1) (ps.take (j + 1)) A2 D2 ∧ Ck V6 wr) := ⟨_, _, HPS.out, hPN, HCk.out⟩
            have hz1 : ¬ ((c : Int) = 0) := by omega
            have hz2 : ((c : Int) == 0) = false := beq_eq_false_iff_ne.2 hz1
            clear hPN e HPN HPS HCk HG hnc hc0 hc
            generalize (lkL q T1).isSome = yy at hl2
            go_wp2_with fail
            exact ⟨⟨j + 1, hjt, by go_num, HF⟩, by simp [intOf]; omega⟩
        · have hje : j = ps.length := by omega
          rw [hje, List.take_length] at hP2
          have hown := hPS.mv
          have hml := mv_lt hown
          have hsz : Maps.size (toD (fun v : Value => v) M) = M.length := toD_size _ _
          have hA2l : A2.length ≤ 100000 := Nat.le_trans hP2.ln hA
          have h3r := hPS.kp.size
          have HPS := Lib.hid hPS
          have HP2 := Lib.hid hP2
          clear hPS hP2 hck hje
          go_wp2_with (first | (at_range; refine wpList_range_own _ rfl _ 107 rfl 9 3 law9 Tryz.underlying107 Rv mn M.length _ rfl hown ?_; intro w1 hrg1 hg1 hs1))
          have hb1 := gr_below hg1
          have HR1 : Hid (w1.ranges Tryz.prog 9 Rv mn wr.heap.size M.length (toD (fun v : Value => v) M) (Maps.has (toD (fun v : Value => v) M)) (Maps.size (toD (fun v : Value => v) M)) ∧ PS V3 r mw md ms mn A2 D2 T1 M w1) := ⟨hrg1, HPS.out.up hb1⟩
          have hr1 : V3.heap.size ≤ wr.heap.size := h3r
          generalize wr.heap.size = r1 at HR1 hr1 ⊢
          clear hg1 hs1 hrg1 hb1 hown HPS hml h3r
          go_frame
          go_loopw [23] (fun _ Y => ∃ (left : Lit → Bool) (cnt : Nat) (A3 : Kv (List UInt8)), Hid (Y.ranges Tryz.prog 9 Rv mn r1 M.length (toD (fun v : Value => v) M) left cnt ∧ PS V3 r mw md ms mn A3 D2 T1 M Y ∧ P3 A2 p.o.n M left A3 ∧ A3.length + cnt ≤ A2.length + M.length)) (fun _ Y => Y.rangeLeft mn r1)
          case atStart =>
            refine ⟨_, _, A2, HR1.out.1, HR1.out.2, ⟨HP2.out.sa, fun q h1 h2 => ?_, fun _ _ => rfl⟩, by rw [hsz]; exact Nat.le_refl _⟩
            rw [toD_has] at h2
            cases hl : lkL q M with
            | none => exact absurd hl h1
            | some e => rw [hl] at h2; simp at h2
          case round =>
            clear HR1
            obtain ⟨left, cnt, A3, HQ⟩ := hrel
            have hrg := HQ.out.1
            go_wp2_with (first | (at_next; refine next_vals _ rfl _ rfl mn r1 M.length _ _ _ rfl hrg ?_ ?_))
            · intro hl0
              have HRpl := Lib.hid (rpl_of HSRT.out.1 HPf.out (by rw [← HPSE.out]; exact HP2.out) HCc.out HQ.out.2.2.1 hl0)
              have hPS := HQ.out.2.1
              have hbrN : ¬ RN mw md ms mn br := by
                rintro (e | e)
                · exact hbrX (.inr e)
                · omega
              obtain ⟨kl, k0, k1, f0, f1⟩ := HK4.out.same hPS.kp.size (hPS.kp.block br HK4.out.lt hbrN)
              obtain ⟨g0, g1⟩ := HFi4.out.ck hPS.ck
              have HFX := Lib.hid (rx_set (i := 1) (v := .int .i64 (-1)) (rx_set (i := 0) (v := .int .i64 0) hPS.rx hbrX) hbrX)
              have hk2 : Kp (fun k => RM mw md ms k ∨ W.heap.size ≤ k) W wr := (Kp.of HB4.out).trans hPS.kp fun i hi hr => by
                rcases hr with hr | hr
                · exact .inl hr
                · omega
              have hk3 := (hk2.set (p := ⟨br, 0, none⟩) (.inr hbrW) (.int .i64 0)).set (p := ⟨br, 1, none⟩) (.inr hbrW) (.int .i64 (-1))
              have HKP : Hid (Kp (RM mw md ms) W ((wr.setCell ⟨br, 0, none⟩ (.int .i64 0)).setCell ⟨br, 1, none⟩ (.int .i64 (-1)))) := ⟨hk3.os, hk3.tape, hk3.output, hk3.size, fun i hi hx => hk3.block i hi (by
                rintro (e | e)
                · exact hx e
                · omega)⟩
              clear hrg HQ hl0 hPS hk2 hk3
              go_wp2_with fail
              exact bodyPost_ret (v := .agg #[.int .i64 0, .int .i64 (-1)]) (by simp [results, Tryz.results15, go_sem, k0, k1]) rfl (.ok _ _ _ _ hok HCl.out HRpl.out HFX.out HKP.out)
            · intro q m w2 cnt2 hlx hlk hrg2 hlt hg2 hs2 hen
              have hPS := HQ.out.2.1
              have hrX := hPS.rx.lt
              have hlr := rg_lt hrg
              have hlt3 : ∀ i, (i = r ∨ RM mw md ms i ∨ i = mn) → i < V3.heap.size := fun i hi => by
                have h3 := HX.out.lt
                have h4 := HB4.out.size
                rcases hi with rfl | (rfl | rfl | rfl) | rfl
                · omega
                · omega
                · omega
                · omega
                · exact hmn3
              have hne1 : ∀ i, (i = r ∨ RM mw md ms i ∨ i = mn) → i ≠ r1 := fun i hi => by have := hlt3 i hi; omega
              have hP2 : PS V3 r mw md ms mn A3 D2 T1 M w2 := ⟨hPS.rx.keep fun i hi => hg2.block i (Nat.lt_of_lt_of_le (hlt3 i (by rcases hi with h | h; exact .inl h; exact .inr (.inl h))) hPS.kp.size) (fun e => hne1 i (by rcases hi with h | h; exact .inl h; exact .inr (.inl h)) (by cases e; rfl)), mv_on hPS.mv (hg2.block mn (mv_lt hPS.mv) (fun e => hne1 mn (.inr (.inr rfl)) (by cases e; rfl))), hPS.kp.trans (Kp.grown (X := fun i => i = r1) hg2 fun j hj => by cases hj; rfl) (fun i hi e => by omega), hPS.ne, hPS.mp⟩
              have hql : q.length ≤ 1000 := by
                rcases HCc.out.v q with ⟨h1, _⟩ | ⟨_, _, _, _, h1⟩
                · rw [hlk] at h1; cases h1
                · obtain ⟨f, hf, rfl⟩ := List.mem_map.1 h1
                  have := (HFl.out.2 f hf).1
                  omega
              obtain ⟨w3, r3, x3, k3⟩ := hP2.drew.rx.putA q p.o.n (by omega) (by have := HQ.out.2.2.2; omega)
              have hP3 := hP2.drew.set x3 k3
              have hrg3 := rg_kp (w' := w3) hrg2 (k3.block mn (rg_lt hrg2).1 hP2.ne) (k3.block r1 (rg_lt hrg2).2 (fun e => hne1 r1 (.inr (.inl e)) rfl))
              have d0 : w2.drew.cell? ⟨r, 0, none⟩ = some (.map (some mw)) := hP2.cl.1
              have d1 : w2.drew.cell? ⟨bp, 0, none⟩ = some (.string ⟨p.o.n.toArray⟩) := hP2.ck.c _ _ _ HPB4.out.c0
              have hle := hrg.left_eq
              have hle3 := hrg3.left_eq
              have hrl2 := hP2.rx.lt.1
              have hbp2 : bp < w2.heap.size := block_lt_of_cell d1
              have HF : Hid ((w3.ranges Tryz.prog 9 Rv mn r1 M.length (toD (fun v : Value => v) M) (fun z => left z && !z.sameKey (.string q)) cnt2 ∧ PS V3 r mw md ms mn (putL q p.o.n A3) D2 T1 M w3 ∧ P3 A2 p.o.n M (fun z => left z && !z.sameKey (.string q)) (putL q p.o.n A3) ∧ (putL q p.o.n A3).length + cnt2 ≤ A2.length + M.length) ∧ w3.rangeLeft mn r1 < wr.rangeLeft mn r1) := ⟨⟨hrg3, hP3, HQ.out.2.2.1.step q (by rw [hlk]; simp), by have := putL_len q p.o.n A3; have := HQ.out.2.2.2; omega⟩, by rw [hle, hle3]; exact hlt⟩
              clear hrg hrg2 hPS hP2 hP3 x3 k3 hrg3 hle hle3 hlx hlk HQ hg2 hs2 hrX hlr hlt3 hne1 hlt
              go_wp2_with (go_region)
              exact ⟨⟨_, cnt2, _, HF.out.1⟩, HF.out.2⟩
end
end Go.Proofs.YtlldfmnoidndmaaGreatDoor.Dsk
