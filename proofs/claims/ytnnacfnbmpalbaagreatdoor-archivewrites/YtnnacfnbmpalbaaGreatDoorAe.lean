/- The walk of the reference's Archive. -/
import Derived.Test.YtnnacfnbmpalbaaGreatDoorAd
namespace Go.Proofs.YtnnacfnbmpalbaaGreatDoor
open Go.RowKit Go.Shelf Go.Sort

theorem fs_at {W : World} {A : Option Addr} {n c : Nat} {l : List Fl2} (h : Fs W (.slice A n c) l) (k : Nat) (hk : k < l.length) : ∃ b o, A = some ⟨b, o, none⟩ ∧ W.cell? ⟨b, o + k * 2, none⟩ = some (.string ⟨l[k].1.toArray⟩) ∧ W.cell? ⟨b, o + k * 2 + 1, none⟩ = some (.string ⟨l[k].2.toArray⟩) := by
  rcases h.is with ⟨rfl, _⟩ | ⟨b, o, c', h1, _, h2⟩
  · exact absurd hk (Nat.not_lt_zero _)
  · cases h1; exact ⟨b, o, rfl, h2.c0 k hk, h2.c1 k hk⟩
theorem any_up (F : List Fl2) (s : List UInt8) (k : Nat) (hk : k < F.length) : ((F.take (k + 1)).any fun f => decide (f.1 = s)) = (((F.take k).any fun f => decide (f.1 = s)) || decide (F[k].1 = s)) := by
  rw [List.take_succ_eq_append_getElem hk, List.any_append]; simp

set_option maxHeartbeats 12800000 in
set_option maxRecDepth 100000 in
theorem xarch_any (p : Pck) (vD vA vG vB vR vP vS vL vF : Value) (w : World) (hz : Pz w p vD vA vG vB vR vP vS vL vF) (hp : Pg p) (hT : Tab w) : Calls Tryz.prog 29 #[pkv p.o.n p.o.e p.o.u p.o.r vD vA vG vB vR vP vS vL vF] w fun x w' => x = .returned (.bool (aok p)) ∧ Below w.heap.size w w' := by
  have c0 := b1c w (pko p.o.n p.o.e p.o.u p.o.r vD vA vG vB vR vP vS vL vF)
  have B0 := Lib.hid (pb_new w p vD vA vG vB vR vP vS vL vF)
  have cR := xsays_any p vD vA vG vB vR vP vS vL vF _ (hz.on c0) hp (tab_on hT c0)
  obtain ⟨r, hr⟩ : ∃ r, r = aok p := ⟨_, rfl⟩
  rw [← hr]
  have HR : Hid (r = (rok p && (fk p.F && stg p.F p.S))) := hr
  have HZ := Lib.hid hz
  have HFl := Lib.hid (fls_p hp.F)
  have HTx := Lib.hid (txs_p hp.S)
  have hF30 := HFl.out.1
  have hS40 := HTx.out.1
  obtain ⟨F1, F2, hvF⟩ := fs_sl hz.F
  obtain ⟨S1, S2, hvS⟩ := ss_sl hz.S
  obtain ⟨D1, D2, hvD⟩ := as_sl hz.D
  obtain ⟨A1, A2, hvA⟩ := as_sl hz.A
  obtain ⟨G1, G2, hvG⟩ := ts_sl hz.G
  obtain ⟨Q1, Q2, hvB⟩ := ts_sl hz.B
  obtain ⟨R1, R2, hvR⟩ := ts_sl hz.R
  obtain ⟨P1, P2, hvP⟩ := ts_sl hz.P
  obtain ⟨L1, L2, hvL⟩ := ss_sl hz.L
  subst hvF hvS hvD hvA hvG hvB hvR hvP hvL
  clear hz hp hT hr
  go_enter Tryz.func29, Tryz.ntmps29
  go_wp2_with fail
  refine cR.mono ?_
  rintro x w1 ⟨rfl, b1⟩
  have k1 := bon c0 b1
  have B1 := Lib.hid (B0.out.on b1)
  have q12 := B1.out.c12
  have hlt1 : w.heap.size < w1.heap.size := block_lt_of_cell q12
  clear cR B0 b1 c0
  cases hrk : rok p with
  | false =>
    rw [hrk] at HR
    have hr0 : r = false := HR.out
    subst hr0
    go_wp2_with fail
    go_ret
    exact ⟨rfl, k1⟩
  | true =>
    rw [hrk] at HR
    have HR2 : Hid (r = (fk p.F && stg p.F p.S)) := HR
    clear HR
    by_cases hn : p.F.length ≤ 20
    · have HFs := Lib.hid (HZ.out.F.on k1)
      have HSs := Lib.hid (HZ.out.S.on k1)
      go_wp2_with fail
      go_loopw [24] (fun v W => ∃ i : Nat, i ≤ p.F.length ∧ v = .int .i64 i ∧ Below w1.heap.size w1 W ∧ Hid (∀ j (hj : j < p.F.length), j < i → pth p.F[j].1 = true ∧ ∀ m, m < p.F.length → xki p.F j m = false)) (fun v _ => p.F.length - (intOf v).toNat)
      case atStart => exact ⟨0, Nat.zero_le _, rfl, Below.refl _ _, fun j _ h => absurd h (Nat.not_lt_zero _)⟩
      case round =>
        obtain ⟨i, hi, rfl, hW, HP⟩ := hrel
        by_cases hlt : i < p.F.length
        · obtain ⟨fb, fo, rfl, f0, f1⟩ := fs_at (HFs.out.on hW) i hlt
          have hfl := (HFl.out.2 p.F[i] (List.getElem_mem hlt)).1
          have HPth : Hid (pth p.F[i].1 = false → r = false) := fun hh => by rw [HR2.out, fk_path hlt hh]; rfl
          have HSt : Hid (pth p.F[i].1 = true → (∀ m, m < p.F.length → xki p.F i m = false) → ∀ j (hj : j < p.F.length), j < i + 1 → pth p.F[j].1 = true ∧ ∀ m, m < p.F.length → xki p.F j m = false) := fun h1 h2 j hj hjl => by
            by_cases e : j = i
            · subst e; exact ⟨h1, h2⟩
            · exact HP.out j hj (by omega)
          have HBad : Hid (∀ m (hm : m < p.F.length), xki p.F i m = true → r = false) := fun m hm hh => by rw [HR2.out, fk_bad hlt hm hh]; rfl
          have HXk : Hid (∀ m (hm : m < p.F.length), xki p.F i m = (!decide (i = m) && (decide (p.F[i].1 = p.F[m].1) || bnt p.F[m].1 p.F[i].1))) := fun m hm => xki_at hlt hm
          generalize p.F[i] = f at f0 f1 hfl HPth HSt HXk
          have hb1 := bA1 wr (flo f)
          have cP := xpath_any f.1 (wr.alloc (flo f)) (by omega)
          have q12 := (B1.out.on hW).c12
          have hltw : w.heap.size < wr.heap.size := Nat.lt_of_lt_of_le hlt1 hW.size
          have HW1 := Lib.hid (hW.trans (hb1.mono hW.size))
          have HX1 : Hid ((wr.alloc (flo f)).cell? ⟨wr.heap.size, 0, none⟩ = some (.string ⟨f.1.toArray⟩)) := by show _ = _; simp
          have hltx : wr.heap.size < (wr.alloc (flo f)).heap.size := by simp
          clear hb1 HP hW
          cases hpp : pth f.1 with
          | false =>
            rw [hpp] at cP
            have hr0 : r = false := HPth.out hpp
            subst hr0
            have hfin := bon k1 HW1.out
            go_wp2_with fail
            refine cP.mono ?_
            rintro x w2 ⟨rfl, rfl⟩
            go_wp2_with fail
            go_ret
            exact ⟨rfl, hfin⟩
          | true =>
            rw [hpp] at cP
            have HSt2 := Lib.hid (HSt.out hpp)
            clear HSt HPth
            go_wp2_with fail
            refine cP.mono ?_
            rintro x w2 ⟨rfl, rfl⟩
            clear cP
            go_wp2_with fail
            generalize wr.alloc (flo f) = W2 at HW1 HX1 hltx ⊢
            generalize wr.heap.size = bx at HX1 hltx hltw ⊢
            go_loopw [36] (fun v W => ∃ m : Nat, m ≤ p.F.length ∧ v = .int .i64 m ∧ Below W2.heap.size W2 W ∧ Hid (∀ j, j < m → xki p.F i j = false)) (fun v _ => p.F.length - (intOf v).toNat)
            case atStart => exact ⟨0, Nat.zero_le _, rfl, Below.refl _ _, fun j h => absurd h (Nat.not_lt_zero _)⟩
            case round =>
              obtain ⟨m, hm, rfl, hV, HJ⟩ := hrel
              have hWV := HW1.out.trans (hV.mono HW1.out.size)
              by_cases hml : m < p.F.length
              · obtain ⟨fb', fo', hfe, g0, g1⟩ := fs_at (HFs.out.on hWV) m hml
                cases hfe
                have hgl := (HFl.out.2 p.F[m] (List.getElem_mem hml)).1
                have HK := Lib.hid (HXk.out m hml)
                have HB := Lib.hid (HBad.out m hml)
                have HS3 : Hid (xki p.F i m = false → ∀ j, j < m + 1 → xki p.F i j = false) := fun h1 j hj => by
                  by_cases e : j = m
                  · subst e; exact h1
                  · exact HJ.out j (by omega)
                generalize p.F[m] = g at g0 g1 hgl HK
                have hx0 := (hV.cell (p := ⟨bx, 0, none⟩) hltx).trans HX1.out
                have hltv : bx < wr.heap.size := Nat.lt_of_lt_of_le hltx hV.size
                have hb3 := bA1 wr (flo g)
                have HV3 := Lib.hid (hV.trans (hb3.mono hV.size))
                have cH : ∀ W, Calls Tryz.prog 106 #[.string ⟨g.1.toArray⟩, .string (ByteArray.mk f.1.toArray ++ ⟨#[47]⟩)] W fun e w' => e = .returned (.bool (bnt g.1 f.1)) ∧ w' = W := fun W => by
                  have := Tryz.strings_HasPrefix ⟨g.1.toArray⟩ (ByteArray.mk f.1.toArray ++ ⟨#[47]⟩) W
                  refine this.mono fun e w' ⟨h1, h2⟩ => ⟨by rw [h1]; unfold bnt Lib.hasPrefix; simp, h2⟩
                clear HJ hb3
                by_cases him : i = m
                · have him2 : (i : Int) = (m : Int) := by omega
                  have hk0 : xki p.F i m = false := by rw [HK.out, decide_eq_true him]; rfl
                  have HN := Lib.hid (HS3.out hk0)
                  clear HS3 HB HK hk0
                  go_wp2_with fail
                  exact ⟨⟨m + 1, hml, by go_num, HV3.out, HN⟩, by simp [intOf]; omega⟩
                · have him3 : ¬ (i : Int) = (m : Int) := by omega
                  have HK2 : Hid (xki p.F i m = (decide (f.1 = g.1) || bnt g.1 f.1)) := by show _ = _; rw [HK.out, decide_eq_false him]; rfl
                  by_cases hfg : f.1 = g.1
                  · have hfg' : (f.1 == g.1) = true := by simpa using hfg
                    have hr0 : r = false := HB.out (by rw [HK2.out, decide_eq_true hfg]; rfl)
                    subst hr0
                    have hfin := bon k1 (HW1.out.trans (HV3.out.mono HW1.out.size))
                    clear HS3 HB HK HK2 hfg
                    go_wp2_with fail
                    go_ret
                    exact ⟨rfl, hfin⟩
                  · have hfg' : (f.1 == g.1) = false := by simpa using hfg
                    have HK3 : Hid (xki p.F i m = bnt g.1 f.1) := by show _ = _; rw [HK2.out, decide_eq_false hfg]; rfl
                    clear HK HK2
                    cases hbn : bnt g.1 f.1 with
                    | true =>
                      rw [hbn] at cH
                      have hr0 : r = false := HB.out (by rw [HK3.out, hbn])
                      subst hr0
                      have hfin := bon k1 (HW1.out.trans (HV3.out.mono HW1.out.size))
                      clear HS3 HB HK3 hfg
                      go_wp2_with fail
                      refine (cH _).mono ?_
                      rintro x w3 ⟨rfl, rfl⟩
                      go_wp2_with fail
                      go_ret
                      exact ⟨rfl, hfin⟩
                    | false =>
                      rw [hbn] at cH
                      have HN := Lib.hid (HS3.out (by rw [HK3.out, hbn]))
                      clear HS3 HB HK3 hfg
                      go_wp2_with fail
                      refine (cH _).mono ?_
                      rintro x w3 ⟨rfl, rfl⟩
                      go_wp2_with fail
                      exact ⟨⟨m + 1, hml, by go_num, HV3.out, HN⟩, by simp [intOf]; omega⟩
              · have HN := Lib.hid (HSt2.out fun j hj => HJ.out j (by omega))
                clear HSt2 HBad HXk HJ
                go_wp2_with fail
                exact ⟨⟨i + 1, hlt, by go_num, hWV, HN⟩, by simp [intOf]; omega⟩
        · have hfk : fk p.F = true := by
            rw [fk_good (fun j hj => (HP.out j hj (by omega)).1) (fun j m hj hm => (HP.out j hj (by omega)).2 m hm)]; simpa using hn
          have HR3 : Hid (r = stg p.F p.S) := by show _ = _; rw [HR2.out, hfk]; rfl
          have q10 := (B1.out.on hW).c10
          have hltw : w.heap.size < wr.heap.size := Nat.lt_of_lt_of_le hlt1 hW.size
          have HWa := Lib.hid hW
          clear HP HR2 hfk hW
          go_wp2_with fail
          generalize wr = Wa at HWa hltw ⊢
          go_loopw [64] (fun v W => ∃ a : Nat, a ≤ p.S.length ∧ v = .int .i64 a ∧ Below Wa.heap.size Wa W ∧ Hid (∀ j (hj : j < p.S.length), j < a → (p.F.any fun f => decide (f.1 = p.S[j])) = true)) (fun v _ => p.S.length - (intOf v).toNat)
          case atStart => exact ⟨0, Nat.zero_le _, rfl, Below.refl _ _, fun j _ h => absurd h (Nat.not_lt_zero _)⟩
          case round =>
            obtain ⟨a, ha, rfl, hV, HJ⟩ := hrel
            have hWV := HWa.out.trans (hV.mono HWa.out.size)
            by_cases hal : a < p.S.length
            · obtain ⟨sb, so, rfl, s0⟩ := ss_at (HSs.out.on hWV) a hal
              have q12 := (B1.out.on hWV).c12
              have hltv : w.heap.size < wr.heap.size := Nat.lt_of_lt_of_le hltw hV.size
              have HNo : Hid ((p.F.any fun f => decide (f.1 = p.S[a])) = false → r = false) := fun hh => by rw [HR3.out, stg_no hal hh]
              have HYes : Hid ((p.F.any fun f => decide (f.1 = p.S[a])) = true → ∀ j (hj : j < p.S.length), j < a + 1 → (p.F.any fun f => decide (f.1 = p.S[j])) = true) := fun h1 j hj hjl => by
                by_cases e : j = a
                · subst e; exact h1
                · exact HJ.out j hj (by omega)
              generalize p.S[a] = s at s0 HNo HYes
              have HVb := Lib.hid hV
              have HWb := Lib.hid hWV
              clear HJ hV hWV
              go_wp2_with fail
              generalize wr = Wb at HVb HWb hltv ⊢
              go_loopw [9, 71] (fun ov kv W => ∃ m : Nat, m ≤ p.F.length ∧ kv = .int .i64 m ∧ ov = .bool ((p.F.take m).any fun f => decide (f.1 = s)) ∧ Below Wb.heap.size Wb W) (fun _ kv _ => p.F.length - (intOf kv).toNat)
              case atStart => exact ⟨0, Nat.zero_le _, rfl, by simp, Below.refl _ _⟩
              case round =>
                obtain ⟨m, hm, rfl, rfl, hU⟩ := hrel
                have hWU := HWb.out.trans (hU.mono HWb.out.size)
                by_cases hml : m < p.F.length
                · obtain ⟨gb, go, rfl, g0, g1⟩ := fs_at (HFs.out.on hWU) m hml
                  have HUp := Lib.hid (any_up p.F s m hml)
                  generalize p.F[m] = g at g0 g1 HUp
                  have hb3 := bA1 wr (flo g)
                  have HU3 := Lib.hid (hU.trans (hb3.mono hU.size))
                  generalize ((p.F.take m).any fun f => decide (f.1 = s)) = y at HUp ⊢
                  clear hb3
                  cases y with
                  | true =>
                    have HUp2 : Hid (((p.F.take (m + 1)).any fun f => decide (f.1 = s)) = true) := HUp
                    clear HUp
                    go_wp2_with fail
                    exact ⟨⟨m + 1, hml, by go_num, by rw [HUp2.out], HU3.out⟩, by simp [intOf]; omega⟩
                  | false =>
                    have HUp2 : Hid (((p.F.take (m + 1)).any fun f => decide (f.1 = s)) = (g.1 == s)) := by show _ = _; rw [HUp.out, Bool.eq_iff_iff]; simp
                    clear HUp
                    go_wp2_with fail
                    exact ⟨⟨m + 1, hml, by go_num, by rw [HUp2.out], HU3.out⟩, by simp [intOf]; omega⟩
                · obtain rfl : m = p.F.length := by omega
                  rw [List.take_length]
                  generalize hy : (p.F.any fun f => decide (f.1 = s)) = y at HNo HYes ⊢
                  clear hy
                  have HV4 := Lib.hid (HVb.out.trans (hU.mono HVb.out.size))
                  cases y with
                  | true =>
                    have HN := Lib.hid (HYes.out rfl)
                    clear HNo HYes
                    go_wp2_with fail
                    exact ⟨⟨a + 1, hal, by go_num, HV4.out, HN⟩, by simp [intOf]; omega⟩
                  | false =>
                    have hr0 : r = false := HNo.out rfl
                    subst hr0
                    have hfin := bon k1 hWU
                    clear HNo HYes
                    go_wp2_with fail
                    go_ret
                    exact ⟨rfl, hfin⟩
            · have hr0 : r = true := by rw [HR3.out]; exact stg_yes fun j hj => HJ.out j hj (by omega)
              subst hr0
              have hfin := bon k1 hWV
              go_wp2_with fail
              go_ret
              exact ⟨rfl, hfin⟩
    · have hr0 : r = false := by rw [HR2.out]; unfold fk; rw [decide_eq_false hn]; rfl
      subst hr0
      go_wp2_with fail
      go_ret
      exact ⟨rfl, k1⟩
end Go.Proofs.YtnnacfnbmpalbaaGreatDoor
