/- The walk of the reference's Says. -/
import Derived.Test.YtmlmdncepgcimaaGreatDoorZat
namespace Go.Proofs.YtmlmdncepgcimaaGreatDoor
open Go.RowKit Go.Shelf Go.Sort

theorem txs_f {l : List (List UInt8)} (h : txs l = true) : l.length ≤ 1000 ∧ ∀ s ∈ l, s.length ≤ 1000 := by
  unfold txs at h
  simp only [Bool.and_eq_true, decide_eq_true_eq, List.all_eq_true] at h
  exact ⟨by omega, fun s hs => by have := h.2 s hs; omega⟩
theorem al4 {W : World} {v0 v1 v2 v3 : Value} {x0 x1 x2 x3 : List Tm} (h0 : Ts W v0 x0) (h1 : Ts W v1 x1) (h2 : Ts W v2 x2) (h3 : Ts W v3 x3) : Al (W.alloc (.cells #[v0, v1, v2, v3] 25)) W.heap.size 0 [x0, x1, x2, x3] :=
  ⟨by simp, fun i hi => by
    have hb := bA1 W (.cells #[v0, v1, v2, v3] 25)
    match i, hi with
    | 0, _ => exact ⟨v0, by simp, h0.on hb⟩
    | 1, _ => exact ⟨v1, by simp, h1.on hb⟩
    | 2, _ => exact ⟨v2, by simp, h2.on hb⟩
    | 3, _ => exact ⟨v3, by simp, h3.on hb⟩⟩
/-- What the reference asks, in its order. -/
def ch6 (p : Pck) : Bool := nmo p.o.n && (Vm.rt p.o.e p.o.u p.o.r && (ask p.D && (ask p.A && (pths p.S && pths p.L))))
def l4 (p : Pck) : List (List Tm) := [p.G, p.B, p.R, p.o.P]
def pv3 (t : Tm) : Bool := decide (t.o = 0) || decide (t.o = 3)
theorem vg_pv (t : Tm) : vg t = !pv3 t := by unfold vg pv3; simp
theorem says_eq (p : Pck) : rok p = ((ch6 p && (l4 p).all fun x => ask (sing x)) && p.o.P.all pv3) := by
  unfold rok ch6 l4
  rw [show (!(p.o.P.any vg)) = p.o.P.all pv3 from by
    rw [Bool.eq_iff_iff]; simp [List.any_eq_false, vg_pv]]
  simp only [List.all_cons, List.all_nil, Bool.and_true]
  cases nmo p.o.n <;> cases Vm.rt p.o.e p.o.u p.o.r <;> cases ask p.D <;> cases ask p.A <;> cases ask (sing p.G) <;> cases ask (sing p.B) <;> cases ask (sing p.R) <;> cases ask (sing p.o.P) <;> cases p.o.P.all pv3 <;> cases pths p.S <;> cases pths p.L <;> rfl

theorem l4_asx {p : Pck} (h : Pg p) (k : Nat) (hk : k < (l4 p).length) : Asx (sing (l4 p)[k]) := by
  match k, hk with
  | 0, _ => exact h.G
  | 1, _ => exact h.B
  | 2, _ => exact h.R
  | 3, _ => exact h.P
theorem all_up {α : Type} (f : α → Bool) (l : List α) (k : Nat) (hk : k < l.length) (c : Bool) : (c && (l.take (k + 1)).all f) = ((c && (l.take k).all f) && f l[k]) := by
  rw [List.take_succ_eq_append_getElem hk, List.all_append]; simp [Bool.and_assoc]
theorem sing_le {m : List Tm} (h : Asx (sing m)) : m.length ≤ 40 := by have := h.n; simpa [sing] using this

set_option maxHeartbeats 12800000 in
set_option maxRecDepth 100000 in
theorem xsays_any (p : Pck) (vD vA vG vB vR vP vS vL vF : Value) (w : World) (hz : Pz w p vD vA vG vB vR vP vS vL vF) (hp : Pg p) (hT : Tab w) : Calls Tryz.prog 15 #[pkv p.o.n p.o.e p.o.u p.o.r vD vA vG vB vR vP vS vL vF] w fun x w' => x = .returned (.bool (rok p)) ∧ Below w.heap.size w w' := by
  have c0 := b1c w (pko p.o.n p.o.e p.o.u p.o.r vD vA vG vB vR vP vS vL vF)
  have B0 := Lib.hid (pb_new w p vD vA vG vB vR vP vS vL vF)
  have Z0 := Lib.hid (hz.on c0)
  have HT := Lib.hid hT
  have HG := Lib.hid hp
  obtain ⟨r, hr⟩ : ∃ r, r = rok p := ⟨_, rfl⟩
  rw [← hr]
  obtain ⟨cc, hcc⟩ : ∃ cc, cc = ch6 p := ⟨_, rfl⟩
  have HS : Hid (r = ((cc && (l4 p).all fun x => ask (sing x)) && p.o.P.all pv3)) := by show r = _; rw [hr, says_eq, hcc]
  have HR : Hid (cc = (nmo p.o.n && (Vm.rt p.o.e p.o.u p.o.r && (ask p.D && (ask p.A && (pths p.S && pths p.L)))))) := hcc
  have cN := fun W => xname_any p.o.n W (by have := HG.out.n; omega)
  have q9 : ∃ P1 P2, vP = .slice P1 p.o.P.length P2 := ts_sl Z0.out.P
  obtain ⟨P1, P2, rfl⟩ := q9
  obtain ⟨G1, G2, rfl⟩ := ts_sl Z0.out.G
  obtain ⟨B1, B2, rfl⟩ := ts_sl Z0.out.B
  obtain ⟨R1, R2, rfl⟩ := ts_sl Z0.out.R
  clear hz hr hT hp hcc
  go_enter Tryz.func15, Tryz.ntmps15
  generalize nmo p.o.n = y at HR cN
  go_wp2_with fail
  refine (cN _).mono ?_
  rintro x w1 ⟨rfl, rfl⟩
  have bw := Below.refl (w.alloc (pko p.o.n p.o.e p.o.u p.o.r vD vA (.slice G1 p.G.length G2) (.slice B1 p.B.length B2) (.slice R1 p.R.length R2) (.slice P1 p.o.P.length P2) vS vL vF)).heap.size (w.alloc (pko p.o.n p.o.e p.o.u p.o.r vD vA (.slice G1 p.G.length G2) (.slice B1 p.B.length B2) (.slice R1 p.R.length R2) (.slice P1 p.o.P.length P2) vS vL vF))
  clear cN
  generalize (w.alloc (pko p.o.n p.o.e p.o.u p.o.r vD vA (.slice G1 p.G.length G2) (.slice B1 p.B.length B2) (.slice R1 p.R.length R2) (.slice P1 p.o.P.length P2) vS vL vF)) = w1 at B0 Z0 c0 bw ⊢
  cases y
  case' false =>
    have HC : Hid (false = cc) := Lib.hid (Eq.symm (show cc = false from HR.out))
    clear HR
    have BX := Lib.hid (B0.out.on bw)
    have ZX := Lib.hid (Z0.out.on bw)
    have cX := bon c0 bw
    clear B0 Z0 bw c0
    have k6 := BX.out.c6
    have k7 := BX.out.c7
    have k8 := BX.out.c8
    have k9 := BX.out.c9
    generalize w1 = wX at BX ZX cX k6 k7 k8 k9 ⊢
    go_wp2_with fail
  case' true =>
    replace HR : Hid (cc = (Vm.rt p.o.e p.o.u p.o.r && (ask p.D && (ask p.A && (pths p.S && (pths p.L)))))) := HR
    have c1 := bon c0 bw
    have B1 := Lib.hid (B0.out.on bw)
    have Z1 := Lib.hid (Z0.out.on bw)
    clear B0 Z0 bw c0
    have k1 := B1.out.c1
    have k2 := B1.out.c2
    have k3 := B1.out.c3
    have cT := Lib.hid (xright_any p.o.e p.o.u p.o.r w1 HG.out.e0 HG.out.e1 (by have := HG.out.u; omega) (by have := HG.out.r; omega) (tab_on HT.out c1))
    generalize Vm.rt p.o.e p.o.u p.o.r = y at HR cT
    go_wp2_with fail
    refine cT.out.mono ?_
    rintro x w2 ⟨rfl, bw⟩
    clear cT k1 k2 k3
    cases y
    case' false =>
      have HC : Hid (false = cc) := Lib.hid (Eq.symm (show cc = false from HR.out))
      clear HR
      have BX := Lib.hid (B1.out.on bw)
      have ZX := Lib.hid (Z1.out.on bw)
      have cX := bon c1 bw
      clear B1 Z1 bw c1
      have k6 := BX.out.c6
      have k7 := BX.out.c7
      have k8 := BX.out.c8
      have k9 := BX.out.c9
      generalize w2 = wX at BX ZX cX k6 k7 k8 k9 ⊢
      go_wp2_with fail
    case' true =>
      replace HR : Hid (cc = (ask p.D && (ask p.A && (pths p.S && (pths p.L))))) := HR
      have c2 := bon c1 bw
      have B2 := Lib.hid (B1.out.on bw)
      have Z2 := Lib.hid (Z1.out.on bw)
      clear B1 Z1 bw c1
      have k4 := B2.out.c4
      have cT := Lib.hid (xasked_any vD p.D w2 Z2.out.D HG.out.D (tab_on HT.out c2))
      generalize ask p.D = y at HR cT
      go_wp2_with fail
      refine cT.out.mono ?_
      rintro x w3 ⟨rfl, bw⟩
      clear cT k4
      cases y
      case' false =>
        have HC : Hid (false = cc) := Lib.hid (Eq.symm (show cc = false from HR.out))
        clear HR
        have BX := Lib.hid (B2.out.on bw)
        have ZX := Lib.hid (Z2.out.on bw)
        have cX := bon c2 bw
        clear B2 Z2 bw c2
        have k6 := BX.out.c6
        have k7 := BX.out.c7
        have k8 := BX.out.c8
        have k9 := BX.out.c9
        generalize w3 = wX at BX ZX cX k6 k7 k8 k9 ⊢
        go_wp2_with fail
      case' true =>
        replace HR : Hid (cc = (ask p.A && (pths p.S && (pths p.L)))) := HR
        have c3 := bon c2 bw
        have B3 := Lib.hid (B2.out.on bw)
        have Z3 := Lib.hid (Z2.out.on bw)
        clear B2 Z2 bw c2
        have k5 := B3.out.c5
        have cT := Lib.hid (xasked_any vA p.A w3 Z3.out.A HG.out.A (tab_on HT.out c3))
        generalize ask p.A = y at HR cT
        go_wp2_with fail
        refine cT.out.mono ?_
        rintro x w4 ⟨rfl, bw⟩
        clear cT k5
        cases y
        case' false =>
          have HC : Hid (false = cc) := Lib.hid (Eq.symm (show cc = false from HR.out))
          clear HR
          have BX := Lib.hid (B3.out.on bw)
          have ZX := Lib.hid (Z3.out.on bw)
          have cX := bon c3 bw
          clear B3 Z3 bw c3
          have k6 := BX.out.c6
          have k7 := BX.out.c7
          have k8 := BX.out.c8
          have k9 := BX.out.c9
          generalize w4 = wX at BX ZX cX k6 k7 k8 k9 ⊢
          go_wp2_with fail
        case' true =>
          replace HR : Hid (cc = (pths p.S && (pths p.L))) := HR
          have c4 := bon c3 bw
          have B4 := Lib.hid (B3.out.on bw)
          have Z4 := Lib.hid (Z3.out.on bw)
          clear B3 Z3 bw c3
          have k10 := B4.out.c10
          have cT := Lib.hid (xpaths_any vS p.S w4 Z4.out.S (txs_f HG.out.S).1 (txs_f HG.out.S).2)
          generalize pths p.S = y at HR cT
          go_wp2_with fail
          refine cT.out.mono ?_
          rintro x w5 ⟨rfl, rfl⟩
          have bw := Below.refl w5.heap.size w5
          clear cT k10
          cases y
          case' false =>
            have HC : Hid (false = cc) := Lib.hid (Eq.symm (show cc = false from HR.out))
            clear HR
            have BX := Lib.hid (B4.out.on bw)
            have ZX := Lib.hid (Z4.out.on bw)
            have cX := bon c4 bw
            clear B4 Z4 bw c4
            have k6 := BX.out.c6
            have k7 := BX.out.c7
            have k8 := BX.out.c8
            have k9 := BX.out.c9
            generalize w5 = wX at BX ZX cX k6 k7 k8 k9 ⊢
            go_wp2_with fail
          case' true =>
            replace HR : Hid (cc = (pths p.L)) := HR
            have c5 := bon c4 bw
            have B5 := Lib.hid (B4.out.on bw)
            have Z5 := Lib.hid (Z4.out.on bw)
            clear B4 Z4 bw c4
            have k11 := B5.out.c11
            have cT := Lib.hid (xpaths_any vL p.L w5 Z5.out.L (txs_f HG.out.L).1 (txs_f HG.out.L).2)
            generalize pths p.L = y at HR cT
            go_wp2_with fail
            refine cT.out.mono ?_
            rintro x w6 ⟨rfl, rfl⟩
            have bw := Below.refl w6.heap.size w6
            clear cT k11
            have HC : Hid (y = cc) := Lib.hid (Eq.symm (show cc = y from HR.out))
            clear HR
            have BX := Lib.hid (B5.out.on bw)
            have ZX := Lib.hid (Z5.out.on bw)
            have cX := bon c5 bw
            clear B5 Z5 bw c5
            have k6 := BX.out.c6
            have k7 := BX.out.c7
            have k8 := BX.out.c8
            have k9 := BX.out.c9
            generalize w6 = wX at BX ZX cX k6 k7 k8 k9 ⊢
            go_wp2_with fail
  all_goals
    have hAl := al4 ZX.out.G ZX.out.B ZX.out.R ZX.out.P
    have bX4 := bA1 wX (.cells #[.slice G1 p.G.length G2, .slice B1 p.B.length B2, .slice R1 p.R.length R2, .slice P1 p.o.P.length P2] 25)
    have KX := Lib.hid (BX.out.on bX4)
    have TP := Lib.hid (ZX.out.P.on bX4)
    have cX4 := bon cX bX4
    have HA : Hid (Al (wX.alloc (.cells #[.slice G1 p.G.length G2, .slice B1 p.B.length B2, .slice R1 p.R.length R2, .slice P1 p.o.P.length P2] 25)) wX.heap.size 0 (l4 p)) := hAl
    have hl4 : (l4 p).length = 4 := rfl
    have hPl := sing_le HG.out.P
    clear hAl bX4 BX ZX cX k6 k7 k8 k9
    generalize wX.alloc (.cells #[.slice G1 p.G.length G2, .slice B1 p.B.length B2, .slice R1 p.R.length R2, .slice P1 p.o.P.length P2] 25) = w4 at KX TP cX4 HA ⊢
    generalize wX.heap.size = bX at HA ⊢
    go_loopw [3, 46] (fun ok i W => ∃ (k : Nat) (z : Bool), k ≤ 4 ∧ i = .int .i64 k ∧ ok = .bool z ∧ Below w4.heap.size w4 W ∧ Hid (z = (cc && ((l4 p).take k).all fun x => ask (sing x)))) (fun _ i _ => 4 - (intOf i).toNat)
    case atStart => exact ⟨0, _, by omega, rfl, rfl, Below.refl _ _, by show _ = _; rw [← HC.out]; simp⟩
    case round =>
      obtain ⟨k, z, hk, rfl, rfl, hW, HY⟩ := hrel
      by_cases hlt : k < 4
      · obtain ⟨xv, c0, hx⟩ := (HA.out.on hW).c k (by rw [hl4]; exact hlt)
        have hAx := l4_asx HG.out k (by rw [hl4]; exact hlt)
        have HU := Lib.hid (all_up (fun x => ask (sing x)) (l4 p) k (by rw [hl4]; exact hlt) cc)
        generalize (l4 p)[k]'(by rw [hl4]; exact hlt) = x at hx hAx HU
        obtain ⟨X1, X2, rfl⟩ := ts_sl hx
        have hx40 := sing_le hAx
        rw [Nat.zero_add] at c0
        cases z with
        | false =>
          have HY2 : Hid (false = (cc && ((l4 p).take (k + 1)).all fun x => ask (sing x))) := by show _ = _; rw [HU.out, ← HY.out]; rfl
          clear hx hAx HU HY
          go_wp2_with fail
          exact ⟨⟨k + 1, false, hlt, by go_num, rfl, hW, HY2⟩, by simp [intOf]; omega⟩
        | true =>
          have HY2 : Hid (ask (sing x) = (cc && ((l4 p).take (k + 1)).all fun x => ask (sing x))) := by show _ = _; rw [HU.out, ← HY.out]; rfl
          have cS := xsing_any _ x wr hx (by omega)
          have cA := fun S W (hS : As W S (sing x)) (hV : Below w4.heap.size w4 W) => xasked_any S (sing x) W hS hAx (tab_on HT.out (bon cX4 hV))
          clear hx hAx HU HY
          generalize ask (sing x) = q at HY2 cA
          go_wp2_with fail
          refine cS.mono ?_
          rintro e w5 ⟨S, rfl, hS, b5⟩
          have hW5 := bon hW b5
          have cA' := cA S w5 hS hW5
          obtain ⟨S1, S2, rfl⟩ := as_sl hS
          clear hS cA cS b5
          go_wp2_with fail
          refine cA'.mono ?_
          rintro e w6 ⟨rfl, b6⟩
          have hW6 := bon hW5 b6
          clear cA' b6
          go_wp2_with fail
          exact ⟨⟨k + 1, q, hlt, by go_num, rfl, hW6, HY2⟩, by simp [intOf]; omega⟩
      · obtain rfl : k = 4 := by omega
        have k9 := (KX.out.on hW).c9
        have TP2 := Lib.hid (TP.out.on hW)
        have cW := bon cX4 hW
        have HZ : Hid (r = (z && p.o.P.all pv3)) := by show _ = _; rw [HS.out, HY.out, show (l4 p).take 4 = l4 p from rfl]
        clear HY HA TP KX hW
        generalize wr = wV at *
        go_wp2_with fail
        go_loopw [3, 60] (fun ok i W => ∃ (m : Nat) (y : Bool), m ≤ p.o.P.length ∧ i = .int .i64 m ∧ ok = .bool y ∧ Below wV.heap.size wV W ∧ Hid (y = (z && (p.o.P.take m).all pv3))) (fun _ i _ => p.o.P.length - (intOf i).toNat)
        case atStart => exact ⟨0, _, by omega, rfl, rfl, Below.refl _ _, by show _ = _; simp⟩
        case round =>
          obtain ⟨m, y, hm, rfl, rfl, hU, HY⟩ := hrel
          by_cases hml : m < p.o.P.length
          · obtain ⟨bx, ox, rfl, t0, t1, t2, t3, t4⟩ := ts_at (TP2.out.on hU) m hml
            have HU2 := Lib.hid (all_up pv3 p.o.P m hml z)
            generalize p.o.P[m] = t at t0 t1 t2 t3 t4 HU2
            have HV := Lib.hid (bon hU (bA1 wr (.cells #[.string ⟨t.n.toArray⟩, .int .i64 t.o, .int .i64 t.e, .string ⟨t.u.toArray⟩, .string ⟨t.r.toArray⟩] 83)))
            cases y with
            | false =>
              have HY2 : Hid (false = (z && (p.o.P.take (m + 1)).all pv3)) := by show _ = _; rw [HU2.out, ← HY.out]; rfl
              clear HU2 HY
              go_wp2_with fail
              exact ⟨⟨m + 1, false, hml, by go_num, rfl, HV.out, HY2⟩, by simp [intOf]; omega⟩
            | true =>
              have HY2 : Hid (pv3 t = (z && (p.o.P.take (m + 1)).all pv3)) := by show _ = _; rw [HU2.out, ← HY.out]; rfl
              clear HU2 HY
              by_cases o0 : t.o = 0
              · have o0' : (t.o == 0) = true := by simp [o0]
                have HY3 : Hid (true = (z && (p.o.P.take (m + 1)).all pv3)) := by show _ = _; rw [← HY2.out]; unfold pv3; rw [decide_eq_true o0]; rfl
                clear o0
                go_wp2_with fail
                exact ⟨⟨m + 1, true, hml, by go_num, rfl, HV.out, HY3⟩, by simp [intOf]; omega⟩
              · have o0' : (t.o == 0) = false := by rw [beq_eq_false_iff_ne]; exact o0
                have HY3 : Hid ((t.o == 3) = (z && (p.o.P.take (m + 1)).all pv3)) := by show _ = _; rw [← HY2.out]; unfold pv3; rw [decide_eq_false o0, Bool.eq_iff_iff]; simp
                clear o0
                go_wp2_with fail
                exact ⟨⟨m + 1, _, hml, by go_num, rfl, HV.out, HY3⟩, by simp [intOf]; omega⟩
          · obtain rfl : m = p.o.P.length := by omega
            have hr : r = y := by rw [HZ.out, HY.out, List.take_length]
            subst hr
            have cE := bon cW hU
            go_wp2_with fail
            go_ret
            exact ⟨rfl, cE⟩
end Go.Proofs.YtmlmdncepgcimaaGreatDoor
