/- The reference's ParseStatus: its walk. -/
import Derived.Test.YtoojbpldhhbkbaaGreatDoorHk
namespace Go.Proofs.YtoojbpldhhbkbaaGreatDoor
open Go.RowKit Go.Shelf Go.Sort

theorem xparse_v (s : List UInt8) (w : World) (ht : Tab w) : Calls Tryz.prog 37 #[.string ⟨s.toArray⟩] w fun x w' => (∃ k, x = .returned (.tuple #[.agg #[.int .i64 ((Vm.pv s).getD (0, [], [])).1, .string ⟨((Vm.pv s).getD (0, [], [])).2.1.toArray⟩, .string ⟨((Vm.pv s).getD (0, [], [])).2.2.toArray⟩], .int .i64 k])) ∧ Below w.heap.size w w' := by
  refine (xparse_any s w ht).mono fun x w' h => ⟨?_, h.2⟩
  cases hp : Vm.pv s with
  | none => exact ⟨3, by rw [h.1, hp]; rfl⟩
  | some v => obtain ⟨e, u, r⟩ := v; exact ⟨0, by rw [h.1, hp]; rfl⟩
theorem ss_nil (W : World) : Ss W (.slice none 0 0) [] := ⟨Or.inl ⟨rfl, _, _, rfl⟩⟩
theorem new_none {n : Nat} : NewA none n := fun _ h => by cases h
theorem Ss.setq {W : World} {q : Nat} {A : Option Addr} {n c : Nat} {l : List (List UInt8)} (h : Ss W (.slice A n c) l) (hN : NewA A (q + 1)) (i : Nat) (y : Value) : Ss (W.setCell ⟨q, i, none⟩ y) (.slice A n c) l := by
  rcases h.is with ⟨rfl, A', c', e⟩ | ⟨b, o, c', e, hc, hs⟩
  · exact ⟨Or.inl ⟨rfl, A', c', e⟩⟩
  · have := hN ⟨b, o, none⟩ (by cases e; rfl)
    exact ⟨Or.inr ⟨b, o, c', e, hc, sr_set hs (by simp at this; omega)⟩⟩
set_option maxRecDepth 100000 in
set_option maxHeartbeats 40000000 in
theorem xp_walk (s w0 w1 w2 w3 w4 : List UInt8) (hs : s.length ≤ 400) (hw : spk 32 (s.count 32) s = [w0, w1, w2, w3, w4]) (w : World) (ht : Tab w) (g : Gb w) : Calls Tryz.prog 11 #[.string ⟨s.toArray⟩] w fun e w' => XPar s e w w' := by
  have hsm := spk_small 32 (s.count 32) s
  rw [hw] at hsm
  have l3 := hsm w3 (by simp)
  have l4 := hsm w4 (by simp)
  have b0 := bA1 w (stz 26)
  have kR := k7_new w 26
  have cS := split_any s 32 (by omega) _ (g.on b0)
  rw [hw] at cS
  have HB := Lib.hid b0
  have HTab := Lib.hid ht
  have HG := Lib.hid g
  clear b0 g ht
  simp only [List.length_cons, List.length_nil] at cS
  go_enter Tryz.func11, Tryz.ntmps11
  go_wp2_with fail
  refine cS.mono ?_
  rintro e W1 ⟨⟨A, k, rfl, hS, hN⟩, b1⟩
  clear cS
  obtain ⟨b, o, rfl, hr⟩ : ∃ b o, A = some ⟨b, o, none⟩ ∧ Sr W1 b o [w0, w1, w2, w3, w4] := by
    rcases hS.is with ⟨h0, _⟩ | ⟨b, o, c, e, _, h⟩
    · cases h0
    · cases e; exact ⟨b, o, rfl, h⟩
  have c0 := num1_any w0 (W1.alloc (stz 26))
  have bx := bA1 W1 (stz 26)
  have hC : Cx w (W1.alloc (stz 26)) W1.heap.size b o [w0, w1, w2, w3, w4] 0 0 [] [] false (.slice none 0 0) (.slice none 0 0) :=
    ⟨(kR.on b1).lt, by have := hr.lt; omega, ⟨⟨by simp, by simp, by simp, by simp, by simp, by simp, by simp⟩, by simp, by simp⟩, (kR.on b1).on bx, hr.on bx, bt2 (bt2 HB.out b1) bx⟩
  have HC := Lib.hid hC
  have r0 := hC.sr.c 0 (by simp)
  simp only [List.getElem_cons_zero, Nat.add_zero] at r0
  rw [onv_eq] at c0
  have HRD := Lib.hid (rdsR hw ((one w0).getD 0) rfl)
  generalize (one w0).getD 0 = n at c0 HRD
  generalize (one w0).isSome = okb at c0 HRD
  clear hS hN hr kR b1 bx hC hw hsm
  go_wp2_with fail
  with_reducible refine c0.mono ?_
  rintro e W2 ⟨rfl, rfl⟩
  clear c0 r0
  have hX : ∃ X, X = W1.alloc (stz 26) := ⟨_, rfl⟩
  obtain ⟨X, hX⟩ := hX
  rw [← hX] at HC
  have hX' : W1.alloc (.cells #[.int .i64 0, .int .i64 0, .string ⟨#[]⟩, .string ⟨#[]⟩, .bool false, .slice none 0 0, .slice none 0 0] 26) = X := hX.symm
  rw [hX']
  clear hX hX'
  generalize W1.heap.size = q at *
  have hbq : ¬ b = q := HC.out.hb
  have hqb : ¬ q = b := fun h => hbq h.symm
  have hwq : ¬ w.heap.size = q := by have := HC.out.hq; omega
  have hqw : ¬ q = w.heap.size := fun h => hwq h.symm
  obtain ⟨⟨x0, x1, x2, x3, x4, x5, x6⟩, xl, xf⟩ := HC.out.sx
  have r2 := HC.out.sr.c 2 (by simp)
  simp only [List.getElem_cons_succ, List.getElem_cons_zero] at r2
  go_wp2
  go_region
  have HC1 := Lib.hid ((HC.out.set0 n).set4 (w2 == [104, 101, 108, 100])).drew
  clear x0 x1 x2 x3 x4 x5 x6 xl xf r2 HC
  generalize hX1 : ((X.setCell ⟨q, 0, none⟩ (.int .i64 n)).setCell ⟨q, 4, none⟩ (.bool (w2 == [104, 101, 108, 100]))).drew = X1 at *
  clear hX1
  obtain ⟨hh, hhe⟩ : ∃ hh, hh = (w2 == [104, 101, 108, 100]) := ⟨_, rfl⟩
  rw [← hhe] at HC1 ⊢
  have HH := Lib.hid hhe
  clear hhe
  clear X
  have r1 := HC1.out.sr.c 1 (by simp)
  simp only [List.getElem_cons_succ, List.getElem_cons_zero] at r1
  cases h1 : w1 == [45] with
  | true =>
    have hv : rvR w1 = (0, [], []) := by unfold rvR; rw [if_pos (by simpa using h1)]
    have r3 := HC1.out.sr.c 3 (by simp)
    simp only [List.getElem_cons_succ, List.getElem_cons_zero] at r3
    cases h3 : w3 == [45] with
    | true =>
      have hl3 : rlR w3 = [] := by unfold rlR; rw [if_pos (by simpa using h3)]
      have r4 := HC1.out.sr.c 4 (by simp)
      simp only [List.getElem_cons_succ, List.getElem_cons_zero] at r4
      cases h4 : w4 == [45] with
      | true =>
        have hl4 : rlR w4 = [] := by unfold rlR; rw [if_pos (by simpa using h4)]
        have hRD : rdR n w1 w2 w3 w4 = ⟨n, 0, [], [], hh, [], []⟩ := by
          unfold rdR
          rw [hv, hl3, hl4, HH.out]
        have hSg : Sg ⟨n, 0, [], [], hh, [], []⟩ := by
          have h1 := rvR_small w1
          have h3 := rlR_le w3 (by omega)
          have h4 := rlR_le w4 (by omega)
          rw [hv] at h1
          rw [hl3] at h3
          rw [hl4] at h4
          exact ⟨⟨by dsimp only at h1 ⊢; omega, by dsimp only at h1 ⊢; omega⟩, by dsimp only at h1 ⊢; omega, by dsimp only at h1 ⊢; omega, h3.1, h4.1, h3.2, h4.2⟩
        have cP := xprints_any ⟨n, 0, [], [], hh, [], []⟩ _ _ _ (ss_nil _) (ss_nil _) hSg (tab_on HTab.out HC1.out.bl)
        have HF := Lib.hid HC1.out
        rw [hRD] at HRD
        clear hRD hSg
        obtain ⟨⟨x0, x1, x2, x3, x4, x5, x6⟩, xl, xf⟩ := HC1.out.sx
        dsimp only at cP
        unfold xprv at cP
        go_wp2_with fail
        refine cP.mono ?_
        rintro z X9 ⟨rfl, b9⟩
        clear cP x0 x1 x2 x3 x4 x5 x6 xl xf
        have HC9 := Lib.hid (HF.out.on b9)
        have HW9 := Lib.hid (ss_nil X9)
        have HT9 := Lib.hid (ss_nil X9)
        clear HF b9
        cases hok : okb with
        | false =>
          have HR := Lib.hid (HRD.out.trans (by rw [hok]))
          clear HRD
          subst hok
          cases hx : sok ⟨n, 0, [], [], hh, [], []⟩ with
          | false =>
            simp only [Bool.false_eq_true, if_false]
            have kT := HC9.out.k7
            obtain ⟨kl, k0, k1, k2, k3, k4, k5, k6, kf⟩ := HC9.out.k7
            go_wp2
            exact rets11 (res7 kT (.int .i64 0) (.int .i64 0) (.string ⟨#[]⟩) (.string ⟨#[]⟩) (.bool false) (.slice none 0 0) (.slice none 0 0)) rfl rfl rfl ⟨Or.inl ⟨rfl, HR.out⟩, set7_below HC9.out.bl (Nat.le_refl _) _ _ _ _ _ _ _⟩
          | true =>
            simp only [if_true]
            generalize stx ⟨n, 0, [], [], hh, [], []⟩ = tx
            have kT := HC9.out.k7
            obtain ⟨kl, k0, k1, k2, k3, k4, k5, k6, kf⟩ := HC9.out.k7
            go_wp2
            exact rets11 (res7 kT (.int .i64 0) (.int .i64 0) (.string ⟨#[]⟩) (.string ⟨#[]⟩) (.bool false) (.slice none 0 0) (.slice none 0 0)) rfl rfl rfl ⟨Or.inl ⟨rfl, HR.out⟩, set7_below HC9.out.bl (Nat.le_refl _) _ _ _ _ _ _ _⟩
        | true =>
          subst hok
          cases hx : sok ⟨n, 0, [], [], hh, [], []⟩ with
          | false =>
            have HR := Lib.hid (HRD.out.trans (by rw [hx]))
            clear HRD
            simp only [Bool.false_eq_true, if_false]
            have kT := HC9.out.k7
            obtain ⟨kl, k0, k1, k2, k3, k4, k5, k6, kf⟩ := HC9.out.k7
            go_wp2
            exact rets11 (res7 kT (.int .i64 0) (.int .i64 0) (.string ⟨#[]⟩) (.string ⟨#[]⟩) (.bool false) (.slice none 0 0) (.slice none 0 0)) rfl rfl rfl ⟨Or.inl ⟨rfl, HR.out⟩, set7_below HC9.out.bl (Nat.le_refl _) _ _ _ _ _ _ _⟩
          | true =>
            cases he : stx ⟨n, 0, [], [], hh, [], []⟩ == s with
            | false =>
              have HR := Lib.hid (HRD.out.trans (by rw [hx, he]))
              clear HRD
              simp only [if_true]
              generalize stx ⟨n, 0, [], [], hh, [], []⟩ = tx at he
              have kT := HC9.out.k7
              obtain ⟨kl, k0, k1, k2, k3, k4, k5, k6, kf⟩ := HC9.out.k7
              go_wp2
              exact rets11 (res7 kT (.int .i64 0) (.int .i64 0) (.string ⟨#[]⟩) (.string ⟨#[]⟩) (.bool false) (.slice none 0 0) (.slice none 0 0)) rfl rfl rfl ⟨Or.inl ⟨rfl, HR.out⟩, set7_below HC9.out.bl (Nat.le_refl _) _ _ _ _ _ _ _⟩
            | true =>
              have HR := Lib.hid (HRD.out.trans (by rw [hx, he]))
              clear HRD
              simp only [if_true]
              generalize stx ⟨n, 0, [], [], hh, [], []⟩ = tx at he
              have kT := HC9.out.k7
              obtain ⟨kl, k0, k1, k2, k3, k4, k5, k6, kf⟩ := HC9.out.k7
              obtain ⟨⟨x0, x1, x2, x3, x4, x5, x6⟩, xl, xf⟩ := HC9.out.sx
              go_wp2
              exact rets11 (res7 kT (.int .i64 n) (.int .i64 0) (.string ⟨[].toArray⟩) (.string ⟨[].toArray⟩) (.bool hh) (.slice none 0 0) (.slice none 0 0)) rfl rfl rfl ⟨Or.inr ⟨⟨n, 0, [], [], hh, [], []⟩, _, _, _, _, _, _, rfl, HW9.out.set7 new_none _ _ _ _ _ _ _, HT9.out.set7 new_none _ _ _ _ _ _ _, HR.out⟩, set7_below HC9.out.bl (Nat.le_refl _) _ _ _ _ _ _ _⟩
      | false =>
        have hl4 : rlR w4 = spk 44 (w4.count 44) w4 := by unfold rlR; rw [if_neg (by simpa using h4)]
        have cS4 := split_any w4 44 (by omega) _ (HG.out.on HC1.out.bl)
        generalize spk 44 (w4.count 44) w4 = L4 at hl4 cS4
        obtain ⟨⟨x0, x1, x2, x3, x4, x5, x6⟩, xl, xf⟩ := HC1.out.sx
        go_wp2_with fail
        refine cS4.mono ?_
        rintro z X4 ⟨⟨A4, kc4, rfl, hS4, hN4⟩, b4⟩
        clear cS4 r4 x0 x1 x2 x3 x4 x5 x6
        have hN4' := hN4.le (show q + 1 ≤ _ from xl)
        clear hN4 xl xf
        have HC4 := Lib.hid ((HC1.out.on b4).set6 (.slice A4 L4.length kc4))
        have HS4 := Lib.hid (hS4.setq hN4' 6 (.slice A4 L4.length kc4))
        obtain ⟨⟨x0, x1, x2, x3, x4, x5, x6⟩, xl, xf⟩ := (HC1.out.on b4).sx
        have hRD : rdR n w1 w2 w3 w4 = ⟨n, 0, [], [], hh, [], L4⟩ := by
          unfold rdR
          rw [hv, hl3, hl4, HH.out]
        have hSg : Sg ⟨n, 0, [], [], hh, [], L4⟩ := by
          have h1 := rvR_small w1
          have h3 := rlR_le w3 (by omega)
          have h4 := rlR_le w4 (by omega)
          rw [hv] at h1
          rw [hl3] at h3
          rw [hl4] at h4
          exact ⟨⟨by dsimp only at h1 ⊢; omega, by dsimp only at h1 ⊢; omega⟩, by dsimp only at h1 ⊢; omega, by dsimp only at h1 ⊢; omega, h3.1, h4.1, h3.2, h4.2⟩
        have cP := xprints_any ⟨n, 0, [], [], hh, [], L4⟩ _ _ _ (ss_nil _) HS4.out hSg (tab_on HTab.out HC4.out.bl)
        have HF := Lib.hid HC4.out
        rw [hRD] at HRD
        clear hRD hSg
        obtain ⟨⟨x0, x1, x2, x3, x4, x5, x6⟩, xl, xf⟩ := HC4.out.sx
        dsimp only at cP
        unfold xprv at cP
        go_wp2_with fail
        refine cP.mono ?_
        rintro z X9 ⟨rfl, b9⟩
        clear cP x0 x1 x2 x3 x4 x5 x6 xl xf
        have HC9 := Lib.hid (HF.out.on b9)
        have HW9 := Lib.hid (ss_nil X9)
        have HT9 := Lib.hid (HS4.out.on b9)
        clear HF b9
        cases hok : okb with
        | false =>
          have HR := Lib.hid (HRD.out.trans (by rw [hok]))
          clear HRD
          subst hok
          cases hx : sok ⟨n, 0, [], [], hh, [], L4⟩ with
          | false =>
            simp only [Bool.false_eq_true, if_false]
            have kT := HC9.out.k7
            obtain ⟨kl, k0, k1, k2, k3, k4, k5, k6, kf⟩ := HC9.out.k7
            go_wp2
            exact rets11 (res7 kT (.int .i64 0) (.int .i64 0) (.string ⟨#[]⟩) (.string ⟨#[]⟩) (.bool false) (.slice none 0 0) (.slice none 0 0)) rfl rfl rfl ⟨Or.inl ⟨rfl, HR.out⟩, set7_below HC9.out.bl (Nat.le_refl _) _ _ _ _ _ _ _⟩
          | true =>
            simp only [if_true]
            generalize stx ⟨n, 0, [], [], hh, [], L4⟩ = tx
            have kT := HC9.out.k7
            obtain ⟨kl, k0, k1, k2, k3, k4, k5, k6, kf⟩ := HC9.out.k7
            go_wp2
            exact rets11 (res7 kT (.int .i64 0) (.int .i64 0) (.string ⟨#[]⟩) (.string ⟨#[]⟩) (.bool false) (.slice none 0 0) (.slice none 0 0)) rfl rfl rfl ⟨Or.inl ⟨rfl, HR.out⟩, set7_below HC9.out.bl (Nat.le_refl _) _ _ _ _ _ _ _⟩
        | true =>
          subst hok
          cases hx : sok ⟨n, 0, [], [], hh, [], L4⟩ with
          | false =>
            have HR := Lib.hid (HRD.out.trans (by rw [hx]))
            clear HRD
            simp only [Bool.false_eq_true, if_false]
            have kT := HC9.out.k7
            obtain ⟨kl, k0, k1, k2, k3, k4, k5, k6, kf⟩ := HC9.out.k7
            go_wp2
            exact rets11 (res7 kT (.int .i64 0) (.int .i64 0) (.string ⟨#[]⟩) (.string ⟨#[]⟩) (.bool false) (.slice none 0 0) (.slice none 0 0)) rfl rfl rfl ⟨Or.inl ⟨rfl, HR.out⟩, set7_below HC9.out.bl (Nat.le_refl _) _ _ _ _ _ _ _⟩
          | true =>
            cases he : stx ⟨n, 0, [], [], hh, [], L4⟩ == s with
            | false =>
              have HR := Lib.hid (HRD.out.trans (by rw [hx, he]))
              clear HRD
              simp only [if_true]
              generalize stx ⟨n, 0, [], [], hh, [], L4⟩ = tx at he
              have kT := HC9.out.k7
              obtain ⟨kl, k0, k1, k2, k3, k4, k5, k6, kf⟩ := HC9.out.k7
              go_wp2
              exact rets11 (res7 kT (.int .i64 0) (.int .i64 0) (.string ⟨#[]⟩) (.string ⟨#[]⟩) (.bool false) (.slice none 0 0) (.slice none 0 0)) rfl rfl rfl ⟨Or.inl ⟨rfl, HR.out⟩, set7_below HC9.out.bl (Nat.le_refl _) _ _ _ _ _ _ _⟩
            | true =>
              have HR := Lib.hid (HRD.out.trans (by rw [hx, he]))
              clear HRD
              simp only [if_true]
              generalize stx ⟨n, 0, [], [], hh, [], L4⟩ = tx at he
              have kT := HC9.out.k7
              obtain ⟨kl, k0, k1, k2, k3, k4, k5, k6, kf⟩ := HC9.out.k7
              obtain ⟨⟨x0, x1, x2, x3, x4, x5, x6⟩, xl, xf⟩ := HC9.out.sx
              go_wp2
              exact rets11 (res7 kT (.int .i64 n) (.int .i64 0) (.string ⟨[].toArray⟩) (.string ⟨[].toArray⟩) (.bool hh) (.slice none 0 0) (.slice A4 L4.length kc4)) rfl rfl rfl ⟨Or.inr ⟨⟨n, 0, [], [], hh, [], L4⟩, _, _, _, _, _, _, rfl, HW9.out.set7 new_none _ _ _ _ _ _ _, HT9.out.set7 (hN4'.le (by have := HC4.out.hq; omega)) _ _ _ _ _ _ _, HR.out⟩, set7_below HC9.out.bl (Nat.le_refl _) _ _ _ _ _ _ _⟩
    | false =>
      have hl3 : rlR w3 = spk 44 (w3.count 44) w3 := by unfold rlR; rw [if_neg (by simpa using h3)]
      have cS3 := split_any w3 44 (by omega) _ (HG.out.on HC1.out.bl)
      generalize spk 44 (w3.count 44) w3 = L3 at hl3 cS3
      obtain ⟨⟨x0, x1, x2, x3, x4, x5, x6⟩, xl, xf⟩ := HC1.out.sx
      go_wp2_with fail
      refine cS3.mono ?_
      rintro z X3 ⟨⟨A3, kc3, rfl, hS3, hN3⟩, b3⟩
      clear cS3 r3 x0 x1 x2 x3 x4 x5 x6
      have hN3' := hN3.le (show q + 1 ≤ _ from xl)
      clear hN3 xl xf
      have HC3 := Lib.hid ((HC1.out.on b3).set5 (.slice A3 L3.length kc3))
      have HS3 := Lib.hid (hS3.setq hN3' 5 (.slice A3 L3.length kc3))
      obtain ⟨⟨x0, x1, x2, x3, x4, x5, x6⟩, xl, xf⟩ := (HC1.out.on b3).sx
      have r4 := HC3.out.sr.c 4 (by simp)
      simp only [List.getElem_cons_succ, List.getElem_cons_zero] at r4
      cases h4 : w4 == [45] with
      | true =>
        have hl4 : rlR w4 = [] := by unfold rlR; rw [if_pos (by simpa using h4)]
        have hRD : rdR n w1 w2 w3 w4 = ⟨n, 0, [], [], hh, L3, []⟩ := by
          unfold rdR
          rw [hv, hl3, hl4, HH.out]
        have hSg : Sg ⟨n, 0, [], [], hh, L3, []⟩ := by
          have h1 := rvR_small w1
          have h3 := rlR_le w3 (by omega)
          have h4 := rlR_le w4 (by omega)
          rw [hv] at h1
          rw [hl3] at h3
          rw [hl4] at h4
          exact ⟨⟨by dsimp only at h1 ⊢; omega, by dsimp only at h1 ⊢; omega⟩, by dsimp only at h1 ⊢; omega, by dsimp only at h1 ⊢; omega, h3.1, h4.1, h3.2, h4.2⟩
        have cP := xprints_any ⟨n, 0, [], [], hh, L3, []⟩ _ _ _ HS3.out (ss_nil _) hSg (tab_on HTab.out HC3.out.bl)
        have HF := Lib.hid HC3.out
        rw [hRD] at HRD
        clear hRD hSg
        obtain ⟨⟨x0, x1, x2, x3, x4, x5, x6⟩, xl, xf⟩ := HC3.out.sx
        dsimp only at cP
        unfold xprv at cP
        go_wp2_with fail
        refine cP.mono ?_
        rintro z X9 ⟨rfl, b9⟩
        clear cP x0 x1 x2 x3 x4 x5 x6 xl xf
        have HC9 := Lib.hid (HF.out.on b9)
        have HW9 := Lib.hid (HS3.out.on b9)
        have HT9 := Lib.hid (ss_nil X9)
        clear HF b9
        cases hok : okb with
        | false =>
          have HR := Lib.hid (HRD.out.trans (by rw [hok]))
          clear HRD
          subst hok
          cases hx : sok ⟨n, 0, [], [], hh, L3, []⟩ with
          | false =>
            simp only [Bool.false_eq_true, if_false]
            have kT := HC9.out.k7
            obtain ⟨kl, k0, k1, k2, k3, k4, k5, k6, kf⟩ := HC9.out.k7
            go_wp2
            exact rets11 (res7 kT (.int .i64 0) (.int .i64 0) (.string ⟨#[]⟩) (.string ⟨#[]⟩) (.bool false) (.slice none 0 0) (.slice none 0 0)) rfl rfl rfl ⟨Or.inl ⟨rfl, HR.out⟩, set7_below HC9.out.bl (Nat.le_refl _) _ _ _ _ _ _ _⟩
          | true =>
            simp only [if_true]
            generalize stx ⟨n, 0, [], [], hh, L3, []⟩ = tx
            have kT := HC9.out.k7
            obtain ⟨kl, k0, k1, k2, k3, k4, k5, k6, kf⟩ := HC9.out.k7
            go_wp2
            exact rets11 (res7 kT (.int .i64 0) (.int .i64 0) (.string ⟨#[]⟩) (.string ⟨#[]⟩) (.bool false) (.slice none 0 0) (.slice none 0 0)) rfl rfl rfl ⟨Or.inl ⟨rfl, HR.out⟩, set7_below HC9.out.bl (Nat.le_refl _) _ _ _ _ _ _ _⟩
        | true =>
          subst hok
          cases hx : sok ⟨n, 0, [], [], hh, L3, []⟩ with
          | false =>
            have HR := Lib.hid (HRD.out.trans (by rw [hx]))
            clear HRD
            simp only [Bool.false_eq_true, if_false]
            have kT := HC9.out.k7
            obtain ⟨kl, k0, k1, k2, k3, k4, k5, k6, kf⟩ := HC9.out.k7
            go_wp2
            exact rets11 (res7 kT (.int .i64 0) (.int .i64 0) (.string ⟨#[]⟩) (.string ⟨#[]⟩) (.bool false) (.slice none 0 0) (.slice none 0 0)) rfl rfl rfl ⟨Or.inl ⟨rfl, HR.out⟩, set7_below HC9.out.bl (Nat.le_refl _) _ _ _ _ _ _ _⟩
          | true =>
            cases he : stx ⟨n, 0, [], [], hh, L3, []⟩ == s with
            | false =>
              have HR := Lib.hid (HRD.out.trans (by rw [hx, he]))
              clear HRD
              simp only [if_true]
              generalize stx ⟨n, 0, [], [], hh, L3, []⟩ = tx at he
              have kT := HC9.out.k7
              obtain ⟨kl, k0, k1, k2, k3, k4, k5, k6, kf⟩ := HC9.out.k7
              go_wp2
              exact rets11 (res7 kT (.int .i64 0) (.int .i64 0) (.string ⟨#[]⟩) (.string ⟨#[]⟩) (.bool false) (.slice none 0 0) (.slice none 0 0)) rfl rfl rfl ⟨Or.inl ⟨rfl, HR.out⟩, set7_below HC9.out.bl (Nat.le_refl _) _ _ _ _ _ _ _⟩
            | true =>
              have HR := Lib.hid (HRD.out.trans (by rw [hx, he]))
              clear HRD
              simp only [if_true]
              generalize stx ⟨n, 0, [], [], hh, L3, []⟩ = tx at he
              have kT := HC9.out.k7
              obtain ⟨kl, k0, k1, k2, k3, k4, k5, k6, kf⟩ := HC9.out.k7
              obtain ⟨⟨x0, x1, x2, x3, x4, x5, x6⟩, xl, xf⟩ := HC9.out.sx
              go_wp2
              exact rets11 (res7 kT (.int .i64 n) (.int .i64 0) (.string ⟨[].toArray⟩) (.string ⟨[].toArray⟩) (.bool hh) (.slice A3 L3.length kc3) (.slice none 0 0)) rfl rfl rfl ⟨Or.inr ⟨⟨n, 0, [], [], hh, L3, []⟩, _, _, _, _, _, _, rfl, HW9.out.set7 (hN3'.le (by have := HC3.out.hq; omega)) _ _ _ _ _ _ _, HT9.out.set7 new_none _ _ _ _ _ _ _, HR.out⟩, set7_below HC9.out.bl (Nat.le_refl _) _ _ _ _ _ _ _⟩
      | false =>
        have hl4 : rlR w4 = spk 44 (w4.count 44) w4 := by unfold rlR; rw [if_neg (by simpa using h4)]
        have cS4 := split_any w4 44 (by omega) _ (HG.out.on HC3.out.bl)
        generalize spk 44 (w4.count 44) w4 = L4 at hl4 cS4
        obtain ⟨⟨x0, x1, x2, x3, x4, x5, x6⟩, xl, xf⟩ := HC3.out.sx
        go_wp2_with fail
        refine cS4.mono ?_
        rintro z X4 ⟨⟨A4, kc4, rfl, hS4, hN4⟩, b4⟩
        clear cS4 r4 x0 x1 x2 x3 x4 x5 x6
        have hN4' := hN4.le (show q + 1 ≤ _ from xl)
        clear hN4 xl xf
        have HC4 := Lib.hid ((HC3.out.on b4).set6 (.slice A4 L4.length kc4))
        have HS4 := Lib.hid (hS4.setq hN4' 6 (.slice A4 L4.length kc4))
        have HS3b := Lib.hid ((HS3.out.on b4).setq hN3' 6 (.slice A4 L4.length kc4))
        obtain ⟨⟨x0, x1, x2, x3, x4, x5, x6⟩, xl, xf⟩ := (HC3.out.on b4).sx
        have hRD : rdR n w1 w2 w3 w4 = ⟨n, 0, [], [], hh, L3, L4⟩ := by
          unfold rdR
          rw [hv, hl3, hl4, HH.out]
        have hSg : Sg ⟨n, 0, [], [], hh, L3, L4⟩ := by
          have h1 := rvR_small w1
          have h3 := rlR_le w3 (by omega)
          have h4 := rlR_le w4 (by omega)
          rw [hv] at h1
          rw [hl3] at h3
          rw [hl4] at h4
          exact ⟨⟨by dsimp only at h1 ⊢; omega, by dsimp only at h1 ⊢; omega⟩, by dsimp only at h1 ⊢; omega, by dsimp only at h1 ⊢; omega, h3.1, h4.1, h3.2, h4.2⟩
        have cP := xprints_any ⟨n, 0, [], [], hh, L3, L4⟩ _ _ _ HS3b.out HS4.out hSg (tab_on HTab.out HC4.out.bl)
        have HF := Lib.hid HC4.out
        rw [hRD] at HRD
        clear hRD hSg
        obtain ⟨⟨x0, x1, x2, x3, x4, x5, x6⟩, xl, xf⟩ := HC4.out.sx
        dsimp only at cP
        unfold xprv at cP
        go_wp2_with fail
        refine cP.mono ?_
        rintro z X9 ⟨rfl, b9⟩
        clear cP x0 x1 x2 x3 x4 x5 x6 xl xf
        have HC9 := Lib.hid (HF.out.on b9)
        have HW9 := Lib.hid (HS3b.out.on b9)
        have HT9 := Lib.hid (HS4.out.on b9)
        clear HF b9
        cases hok : okb with
        | false =>
          have HR := Lib.hid (HRD.out.trans (by rw [hok]))
          clear HRD
          subst hok
          cases hx : sok ⟨n, 0, [], [], hh, L3, L4⟩ with
          | false =>
            simp only [Bool.false_eq_true, if_false]
            have kT := HC9.out.k7
            obtain ⟨kl, k0, k1, k2, k3, k4, k5, k6, kf⟩ := HC9.out.k7
            go_wp2
            exact rets11 (res7 kT (.int .i64 0) (.int .i64 0) (.string ⟨#[]⟩) (.string ⟨#[]⟩) (.bool false) (.slice none 0 0) (.slice none 0 0)) rfl rfl rfl ⟨Or.inl ⟨rfl, HR.out⟩, set7_below HC9.out.bl (Nat.le_refl _) _ _ _ _ _ _ _⟩
          | true =>
            simp only [if_true]
            generalize stx ⟨n, 0, [], [], hh, L3, L4⟩ = tx
            have kT := HC9.out.k7
            obtain ⟨kl, k0, k1, k2, k3, k4, k5, k6, kf⟩ := HC9.out.k7
            go_wp2
            exact rets11 (res7 kT (.int .i64 0) (.int .i64 0) (.string ⟨#[]⟩) (.string ⟨#[]⟩) (.bool false) (.slice none 0 0) (.slice none 0 0)) rfl rfl rfl ⟨Or.inl ⟨rfl, HR.out⟩, set7_below HC9.out.bl (Nat.le_refl _) _ _ _ _ _ _ _⟩
        | true =>
          subst hok
          cases hx : sok ⟨n, 0, [], [], hh, L3, L4⟩ with
          | false =>
            have HR := Lib.hid (HRD.out.trans (by rw [hx]))
            clear HRD
            simp only [Bool.false_eq_true, if_false]
            have kT := HC9.out.k7
            obtain ⟨kl, k0, k1, k2, k3, k4, k5, k6, kf⟩ := HC9.out.k7
            go_wp2
            exact rets11 (res7 kT (.int .i64 0) (.int .i64 0) (.string ⟨#[]⟩) (.string ⟨#[]⟩) (.bool false) (.slice none 0 0) (.slice none 0 0)) rfl rfl rfl ⟨Or.inl ⟨rfl, HR.out⟩, set7_below HC9.out.bl (Nat.le_refl _) _ _ _ _ _ _ _⟩
          | true =>
            cases he : stx ⟨n, 0, [], [], hh, L3, L4⟩ == s with
            | false =>
              have HR := Lib.hid (HRD.out.trans (by rw [hx, he]))
              clear HRD
              simp only [if_true]
              generalize stx ⟨n, 0, [], [], hh, L3, L4⟩ = tx at he
              have kT := HC9.out.k7
              obtain ⟨kl, k0, k1, k2, k3, k4, k5, k6, kf⟩ := HC9.out.k7
              go_wp2
              exact rets11 (res7 kT (.int .i64 0) (.int .i64 0) (.string ⟨#[]⟩) (.string ⟨#[]⟩) (.bool false) (.slice none 0 0) (.slice none 0 0)) rfl rfl rfl ⟨Or.inl ⟨rfl, HR.out⟩, set7_below HC9.out.bl (Nat.le_refl _) _ _ _ _ _ _ _⟩
            | true =>
              have HR := Lib.hid (HRD.out.trans (by rw [hx, he]))
              clear HRD
              simp only [if_true]
              generalize stx ⟨n, 0, [], [], hh, L3, L4⟩ = tx at he
              have kT := HC9.out.k7
              obtain ⟨kl, k0, k1, k2, k3, k4, k5, k6, kf⟩ := HC9.out.k7
              obtain ⟨⟨x0, x1, x2, x3, x4, x5, x6⟩, xl, xf⟩ := HC9.out.sx
              go_wp2
              exact rets11 (res7 kT (.int .i64 n) (.int .i64 0) (.string ⟨[].toArray⟩) (.string ⟨[].toArray⟩) (.bool hh) (.slice A3 L3.length kc3) (.slice A4 L4.length kc4)) rfl rfl rfl ⟨Or.inr ⟨⟨n, 0, [], [], hh, L3, L4⟩, _, _, _, _, _, _, rfl, HW9.out.set7 (hN3'.le (by have := HC3.out.hq; omega)) _ _ _ _ _ _ _, HT9.out.set7 (hN4'.le (by have := HC4.out.hq; omega)) _ _ _ _ _ _ _, HR.out⟩, set7_below HC9.out.bl (Nat.le_refl _) _ _ _ _ _ _ _⟩
  | false =>
    have hv : rvR w1 = (Vm.pv w1).getD (0, [], []) := by unfold rvR; rw [if_neg (by simpa using h1)]
    have cV := xparse_v w1 X1 (tab_on HTab.out HC1.out.bl)
    obtain ⟨⟨ve, vu, vr⟩, hvv⟩ : ∃ v, v = (Vm.pv w1).getD (0, [], []) := ⟨_, rfl⟩
    rw [← hvv] at hv cV
    clear hvv
    dsimp only at cV
    obtain ⟨⟨x0, x1, x2, x3, x4, x5, x6⟩, xl, xf⟩ := HC1.out.sx
    go_wp2_with fail
    refine cV.mono ?_
    rintro z X2 ⟨⟨vk, rfl⟩, b2⟩
    clear cV r1 x0 x1 x2 x3 x4 x5 x6 xl xf
    have HC2 := Lib.hid ((((HC1.out.on b2).set1 ve).set2 vu).set3 vr)
    obtain ⟨⟨x0, x1, x2, x3, x4, x5, x6⟩, xl, xf⟩ := (HC1.out.on b2).sx
    have r3 := HC2.out.sr.c 3 (by simp)
    simp only [List.getElem_cons_succ, List.getElem_cons_zero] at r3
    cases h3 : w3 == [45] with
    | true =>
      have hl3 : rlR w3 = [] := by unfold rlR; rw [if_pos (by simpa using h3)]
      have r4 := HC2.out.sr.c 4 (by simp)
      simp only [List.getElem_cons_succ, List.getElem_cons_zero] at r4
      cases h4 : w4 == [45] with
      | true =>
        have hl4 : rlR w4 = [] := by unfold rlR; rw [if_pos (by simpa using h4)]
        have hRD : rdR n w1 w2 w3 w4 = ⟨n, ve, vu, vr, hh, [], []⟩ := by
          unfold rdR
          rw [hv, hl3, hl4, HH.out]
        have hSg : Sg ⟨n, ve, vu, vr, hh, [], []⟩ := by
          have h1 := rvR_small w1
          have h3 := rlR_le w3 (by omega)
          have h4 := rlR_le w4 (by omega)
          rw [hv] at h1
          rw [hl3] at h3
          rw [hl4] at h4
          exact ⟨⟨by dsimp only at h1 ⊢; omega, by dsimp only at h1 ⊢; omega⟩, by dsimp only at h1 ⊢; omega, by dsimp only at h1 ⊢; omega, h3.1, h4.1, h3.2, h4.2⟩
        have cP := xprints_any ⟨n, ve, vu, vr, hh, [], []⟩ _ _ _ (ss_nil _) (ss_nil _) hSg (tab_on HTab.out HC2.out.bl)
        have HF := Lib.hid HC2.out
        rw [hRD] at HRD
        clear hRD hSg
        obtain ⟨⟨x0, x1, x2, x3, x4, x5, x6⟩, xl, xf⟩ := HC2.out.sx
        dsimp only at cP
        unfold xprv at cP
        go_wp2_with fail
        refine cP.mono ?_
        rintro z X9 ⟨rfl, b9⟩
        clear cP x0 x1 x2 x3 x4 x5 x6 xl xf
        have HC9 := Lib.hid (HF.out.on b9)
        have HW9 := Lib.hid (ss_nil X9)
        have HT9 := Lib.hid (ss_nil X9)
        clear HF b9
        cases hok : okb with
        | false =>
          have HR := Lib.hid (HRD.out.trans (by rw [hok]))
          clear HRD
          subst hok
          cases hx : sok ⟨n, ve, vu, vr, hh, [], []⟩ with
          | false =>
            simp only [Bool.false_eq_true, if_false]
            have kT := HC9.out.k7
            obtain ⟨kl, k0, k1, k2, k3, k4, k5, k6, kf⟩ := HC9.out.k7
            go_wp2
            exact rets11 (res7 kT (.int .i64 0) (.int .i64 0) (.string ⟨#[]⟩) (.string ⟨#[]⟩) (.bool false) (.slice none 0 0) (.slice none 0 0)) rfl rfl rfl ⟨Or.inl ⟨rfl, HR.out⟩, set7_below HC9.out.bl (Nat.le_refl _) _ _ _ _ _ _ _⟩
          | true =>
            simp only [if_true]
            generalize stx ⟨n, ve, vu, vr, hh, [], []⟩ = tx
            have kT := HC9.out.k7
            obtain ⟨kl, k0, k1, k2, k3, k4, k5, k6, kf⟩ := HC9.out.k7
            go_wp2
            exact rets11 (res7 kT (.int .i64 0) (.int .i64 0) (.string ⟨#[]⟩) (.string ⟨#[]⟩) (.bool false) (.slice none 0 0) (.slice none 0 0)) rfl rfl rfl ⟨Or.inl ⟨rfl, HR.out⟩, set7_below HC9.out.bl (Nat.le_refl _) _ _ _ _ _ _ _⟩
        | true =>
          subst hok
          cases hx : sok ⟨n, ve, vu, vr, hh, [], []⟩ with
          | false =>
            have HR := Lib.hid (HRD.out.trans (by rw [hx]))
            clear HRD
            simp only [Bool.false_eq_true, if_false]
            have kT := HC9.out.k7
            obtain ⟨kl, k0, k1, k2, k3, k4, k5, k6, kf⟩ := HC9.out.k7
            go_wp2
            exact rets11 (res7 kT (.int .i64 0) (.int .i64 0) (.string ⟨#[]⟩) (.string ⟨#[]⟩) (.bool false) (.slice none 0 0) (.slice none 0 0)) rfl rfl rfl ⟨Or.inl ⟨rfl, HR.out⟩, set7_below HC9.out.bl (Nat.le_refl _) _ _ _ _ _ _ _⟩
          | true =>
            cases he : stx ⟨n, ve, vu, vr, hh, [], []⟩ == s with
            | false =>
              have HR := Lib.hid (HRD.out.trans (by rw [hx, he]))
              clear HRD
              simp only [if_true]
              generalize stx ⟨n, ve, vu, vr, hh, [], []⟩ = tx at he
              have kT := HC9.out.k7
              obtain ⟨kl, k0, k1, k2, k3, k4, k5, k6, kf⟩ := HC9.out.k7
              go_wp2
              exact rets11 (res7 kT (.int .i64 0) (.int .i64 0) (.string ⟨#[]⟩) (.string ⟨#[]⟩) (.bool false) (.slice none 0 0) (.slice none 0 0)) rfl rfl rfl ⟨Or.inl ⟨rfl, HR.out⟩, set7_below HC9.out.bl (Nat.le_refl _) _ _ _ _ _ _ _⟩
            | true =>
              have HR := Lib.hid (HRD.out.trans (by rw [hx, he]))
              clear HRD
              simp only [if_true]
              generalize stx ⟨n, ve, vu, vr, hh, [], []⟩ = tx at he
              have kT := HC9.out.k7
              obtain ⟨kl, k0, k1, k2, k3, k4, k5, k6, kf⟩ := HC9.out.k7
              obtain ⟨⟨x0, x1, x2, x3, x4, x5, x6⟩, xl, xf⟩ := HC9.out.sx
              go_wp2
              exact rets11 (res7 kT (.int .i64 n) (.int .i64 ve) (.string ⟨vu.toArray⟩) (.string ⟨vr.toArray⟩) (.bool hh) (.slice none 0 0) (.slice none 0 0)) rfl rfl rfl ⟨Or.inr ⟨⟨n, ve, vu, vr, hh, [], []⟩, _, _, _, _, _, _, rfl, HW9.out.set7 new_none _ _ _ _ _ _ _, HT9.out.set7 new_none _ _ _ _ _ _ _, HR.out⟩, set7_below HC9.out.bl (Nat.le_refl _) _ _ _ _ _ _ _⟩
      | false =>
        have hl4 : rlR w4 = spk 44 (w4.count 44) w4 := by unfold rlR; rw [if_neg (by simpa using h4)]
        have cS4 := split_any w4 44 (by omega) _ (HG.out.on HC2.out.bl)
        generalize spk 44 (w4.count 44) w4 = L4 at hl4 cS4
        obtain ⟨⟨x0, x1, x2, x3, x4, x5, x6⟩, xl, xf⟩ := HC2.out.sx
        go_wp2_with fail
        refine cS4.mono ?_
        rintro z X4 ⟨⟨A4, kc4, rfl, hS4, hN4⟩, b4⟩
        clear cS4 r4 x0 x1 x2 x3 x4 x5 x6
        have hN4' := hN4.le (show q + 1 ≤ _ from xl)
        clear hN4 xl xf
        have HC4 := Lib.hid ((HC2.out.on b4).set6 (.slice A4 L4.length kc4))
        have HS4 := Lib.hid (hS4.setq hN4' 6 (.slice A4 L4.length kc4))
        obtain ⟨⟨x0, x1, x2, x3, x4, x5, x6⟩, xl, xf⟩ := (HC2.out.on b4).sx
        have hRD : rdR n w1 w2 w3 w4 = ⟨n, ve, vu, vr, hh, [], L4⟩ := by
          unfold rdR
          rw [hv, hl3, hl4, HH.out]
        have hSg : Sg ⟨n, ve, vu, vr, hh, [], L4⟩ := by
          have h1 := rvR_small w1
          have h3 := rlR_le w3 (by omega)
          have h4 := rlR_le w4 (by omega)
          rw [hv] at h1
          rw [hl3] at h3
          rw [hl4] at h4
          exact ⟨⟨by dsimp only at h1 ⊢; omega, by dsimp only at h1 ⊢; omega⟩, by dsimp only at h1 ⊢; omega, by dsimp only at h1 ⊢; omega, h3.1, h4.1, h3.2, h4.2⟩
        have cP := xprints_any ⟨n, ve, vu, vr, hh, [], L4⟩ _ _ _ (ss_nil _) HS4.out hSg (tab_on HTab.out HC4.out.bl)
        have HF := Lib.hid HC4.out
        rw [hRD] at HRD
        clear hRD hSg
        obtain ⟨⟨x0, x1, x2, x3, x4, x5, x6⟩, xl, xf⟩ := HC4.out.sx
        dsimp only at cP
        unfold xprv at cP
        go_wp2_with fail
        refine cP.mono ?_
        rintro z X9 ⟨rfl, b9⟩
        clear cP x0 x1 x2 x3 x4 x5 x6 xl xf
        have HC9 := Lib.hid (HF.out.on b9)
        have HW9 := Lib.hid (ss_nil X9)
        have HT9 := Lib.hid (HS4.out.on b9)
        clear HF b9
        cases hok : okb with
        | false =>
          have HR := Lib.hid (HRD.out.trans (by rw [hok]))
          clear HRD
          subst hok
          cases hx : sok ⟨n, ve, vu, vr, hh, [], L4⟩ with
          | false =>
            simp only [Bool.false_eq_true, if_false]
            have kT := HC9.out.k7
            obtain ⟨kl, k0, k1, k2, k3, k4, k5, k6, kf⟩ := HC9.out.k7
            go_wp2
            exact rets11 (res7 kT (.int .i64 0) (.int .i64 0) (.string ⟨#[]⟩) (.string ⟨#[]⟩) (.bool false) (.slice none 0 0) (.slice none 0 0)) rfl rfl rfl ⟨Or.inl ⟨rfl, HR.out⟩, set7_below HC9.out.bl (Nat.le_refl _) _ _ _ _ _ _ _⟩
          | true =>
            simp only [if_true]
            generalize stx ⟨n, ve, vu, vr, hh, [], L4⟩ = tx
            have kT := HC9.out.k7
            obtain ⟨kl, k0, k1, k2, k3, k4, k5, k6, kf⟩ := HC9.out.k7
            go_wp2
            exact rets11 (res7 kT (.int .i64 0) (.int .i64 0) (.string ⟨#[]⟩) (.string ⟨#[]⟩) (.bool false) (.slice none 0 0) (.slice none 0 0)) rfl rfl rfl ⟨Or.inl ⟨rfl, HR.out⟩, set7_below HC9.out.bl (Nat.le_refl _) _ _ _ _ _ _ _⟩
        | true =>
          subst hok
          cases hx : sok ⟨n, ve, vu, vr, hh, [], L4⟩ with
          | false =>
            have HR := Lib.hid (HRD.out.trans (by rw [hx]))
            clear HRD
            simp only [Bool.false_eq_true, if_false]
            have kT := HC9.out.k7
            obtain ⟨kl, k0, k1, k2, k3, k4, k5, k6, kf⟩ := HC9.out.k7
            go_wp2
            exact rets11 (res7 kT (.int .i64 0) (.int .i64 0) (.string ⟨#[]⟩) (.string ⟨#[]⟩) (.bool false) (.slice none 0 0) (.slice none 0 0)) rfl rfl rfl ⟨Or.inl ⟨rfl, HR.out⟩, set7_below HC9.out.bl (Nat.le_refl _) _ _ _ _ _ _ _⟩
          | true =>
            cases he : stx ⟨n, ve, vu, vr, hh, [], L4⟩ == s with
            | false =>
              have HR := Lib.hid (HRD.out.trans (by rw [hx, he]))
              clear HRD
              simp only [if_true]
              generalize stx ⟨n, ve, vu, vr, hh, [], L4⟩ = tx at he
              have kT := HC9.out.k7
              obtain ⟨kl, k0, k1, k2, k3, k4, k5, k6, kf⟩ := HC9.out.k7
              go_wp2
              exact rets11 (res7 kT (.int .i64 0) (.int .i64 0) (.string ⟨#[]⟩) (.string ⟨#[]⟩) (.bool false) (.slice none 0 0) (.slice none 0 0)) rfl rfl rfl ⟨Or.inl ⟨rfl, HR.out⟩, set7_below HC9.out.bl (Nat.le_refl _) _ _ _ _ _ _ _⟩
            | true =>
              have HR := Lib.hid (HRD.out.trans (by rw [hx, he]))
              clear HRD
              simp only [if_true]
              generalize stx ⟨n, ve, vu, vr, hh, [], L4⟩ = tx at he
              have kT := HC9.out.k7
              obtain ⟨kl, k0, k1, k2, k3, k4, k5, k6, kf⟩ := HC9.out.k7
              obtain ⟨⟨x0, x1, x2, x3, x4, x5, x6⟩, xl, xf⟩ := HC9.out.sx
              go_wp2
              exact rets11 (res7 kT (.int .i64 n) (.int .i64 ve) (.string ⟨vu.toArray⟩) (.string ⟨vr.toArray⟩) (.bool hh) (.slice none 0 0) (.slice A4 L4.length kc4)) rfl rfl rfl ⟨Or.inr ⟨⟨n, ve, vu, vr, hh, [], L4⟩, _, _, _, _, _, _, rfl, HW9.out.set7 new_none _ _ _ _ _ _ _, HT9.out.set7 (hN4'.le (by have := HC4.out.hq; omega)) _ _ _ _ _ _ _, HR.out⟩, set7_below HC9.out.bl (Nat.le_refl _) _ _ _ _ _ _ _⟩
    | false =>
      have hl3 : rlR w3 = spk 44 (w3.count 44) w3 := by unfold rlR; rw [if_neg (by simpa using h3)]
      have cS3 := split_any w3 44 (by omega) _ (HG.out.on HC2.out.bl)
      generalize spk 44 (w3.count 44) w3 = L3 at hl3 cS3
      obtain ⟨⟨x0, x1, x2, x3, x4, x5, x6⟩, xl, xf⟩ := HC2.out.sx
      go_wp2_with fail
      refine cS3.mono ?_
      rintro z X3 ⟨⟨A3, kc3, rfl, hS3, hN3⟩, b3⟩
      clear cS3 r3 x0 x1 x2 x3 x4 x5 x6
      have hN3' := hN3.le (show q + 1 ≤ _ from xl)
      clear hN3 xl xf
      have HC3 := Lib.hid ((HC2.out.on b3).set5 (.slice A3 L3.length kc3))
      have HS3 := Lib.hid (hS3.setq hN3' 5 (.slice A3 L3.length kc3))
      obtain ⟨⟨x0, x1, x2, x3, x4, x5, x6⟩, xl, xf⟩ := (HC2.out.on b3).sx
      have r4 := HC3.out.sr.c 4 (by simp)
      simp only [List.getElem_cons_succ, List.getElem_cons_zero] at r4
      cases h4 : w4 == [45] with
      | true =>
        have hl4 : rlR w4 = [] := by unfold rlR; rw [if_pos (by simpa using h4)]
        have hRD : rdR n w1 w2 w3 w4 = ⟨n, ve, vu, vr, hh, L3, []⟩ := by
          unfold rdR
          rw [hv, hl3, hl4, HH.out]
        have hSg : Sg ⟨n, ve, vu, vr, hh, L3, []⟩ := by
          have h1 := rvR_small w1
          have h3 := rlR_le w3 (by omega)
          have h4 := rlR_le w4 (by omega)
          rw [hv] at h1
          rw [hl3] at h3
          rw [hl4] at h4
          exact ⟨⟨by dsimp only at h1 ⊢; omega, by dsimp only at h1 ⊢; omega⟩, by dsimp only at h1 ⊢; omega, by dsimp only at h1 ⊢; omega, h3.1, h4.1, h3.2, h4.2⟩
        have cP := xprints_any ⟨n, ve, vu, vr, hh, L3, []⟩ _ _ _ HS3.out (ss_nil _) hSg (tab_on HTab.out HC3.out.bl)
        have HF := Lib.hid HC3.out
        rw [hRD] at HRD
        clear hRD hSg
        obtain ⟨⟨x0, x1, x2, x3, x4, x5, x6⟩, xl, xf⟩ := HC3.out.sx
        dsimp only at cP
        unfold xprv at cP
        go_wp2_with fail
        refine cP.mono ?_
        rintro z X9 ⟨rfl, b9⟩
        clear cP x0 x1 x2 x3 x4 x5 x6 xl xf
        have HC9 := Lib.hid (HF.out.on b9)
        have HW9 := Lib.hid (HS3.out.on b9)
        have HT9 := Lib.hid (ss_nil X9)
        clear HF b9
        cases hok : okb with
        | false =>
          have HR := Lib.hid (HRD.out.trans (by rw [hok]))
          clear HRD
          subst hok
          cases hx : sok ⟨n, ve, vu, vr, hh, L3, []⟩ with
          | false =>
            simp only [Bool.false_eq_true, if_false]
            have kT := HC9.out.k7
            obtain ⟨kl, k0, k1, k2, k3, k4, k5, k6, kf⟩ := HC9.out.k7
            go_wp2
            exact rets11 (res7 kT (.int .i64 0) (.int .i64 0) (.string ⟨#[]⟩) (.string ⟨#[]⟩) (.bool false) (.slice none 0 0) (.slice none 0 0)) rfl rfl rfl ⟨Or.inl ⟨rfl, HR.out⟩, set7_below HC9.out.bl (Nat.le_refl _) _ _ _ _ _ _ _⟩
          | true =>
            simp only [if_true]
            generalize stx ⟨n, ve, vu, vr, hh, L3, []⟩ = tx
            have kT := HC9.out.k7
            obtain ⟨kl, k0, k1, k2, k3, k4, k5, k6, kf⟩ := HC9.out.k7
            go_wp2
            exact rets11 (res7 kT (.int .i64 0) (.int .i64 0) (.string ⟨#[]⟩) (.string ⟨#[]⟩) (.bool false) (.slice none 0 0) (.slice none 0 0)) rfl rfl rfl ⟨Or.inl ⟨rfl, HR.out⟩, set7_below HC9.out.bl (Nat.le_refl _) _ _ _ _ _ _ _⟩
        | true =>
          subst hok
          cases hx : sok ⟨n, ve, vu, vr, hh, L3, []⟩ with
          | false =>
            have HR := Lib.hid (HRD.out.trans (by rw [hx]))
            clear HRD
            simp only [Bool.false_eq_true, if_false]
            have kT := HC9.out.k7
            obtain ⟨kl, k0, k1, k2, k3, k4, k5, k6, kf⟩ := HC9.out.k7
            go_wp2
            exact rets11 (res7 kT (.int .i64 0) (.int .i64 0) (.string ⟨#[]⟩) (.string ⟨#[]⟩) (.bool false) (.slice none 0 0) (.slice none 0 0)) rfl rfl rfl ⟨Or.inl ⟨rfl, HR.out⟩, set7_below HC9.out.bl (Nat.le_refl _) _ _ _ _ _ _ _⟩
          | true =>
            cases he : stx ⟨n, ve, vu, vr, hh, L3, []⟩ == s with
            | false =>
              have HR := Lib.hid (HRD.out.trans (by rw [hx, he]))
              clear HRD
              simp only [if_true]
              generalize stx ⟨n, ve, vu, vr, hh, L3, []⟩ = tx at he
              have kT := HC9.out.k7
              obtain ⟨kl, k0, k1, k2, k3, k4, k5, k6, kf⟩ := HC9.out.k7
              go_wp2
              exact rets11 (res7 kT (.int .i64 0) (.int .i64 0) (.string ⟨#[]⟩) (.string ⟨#[]⟩) (.bool false) (.slice none 0 0) (.slice none 0 0)) rfl rfl rfl ⟨Or.inl ⟨rfl, HR.out⟩, set7_below HC9.out.bl (Nat.le_refl _) _ _ _ _ _ _ _⟩
            | true =>
              have HR := Lib.hid (HRD.out.trans (by rw [hx, he]))
              clear HRD
              simp only [if_true]
              generalize stx ⟨n, ve, vu, vr, hh, L3, []⟩ = tx at he
              have kT := HC9.out.k7
              obtain ⟨kl, k0, k1, k2, k3, k4, k5, k6, kf⟩ := HC9.out.k7
              obtain ⟨⟨x0, x1, x2, x3, x4, x5, x6⟩, xl, xf⟩ := HC9.out.sx
              go_wp2
              exact rets11 (res7 kT (.int .i64 n) (.int .i64 ve) (.string ⟨vu.toArray⟩) (.string ⟨vr.toArray⟩) (.bool hh) (.slice A3 L3.length kc3) (.slice none 0 0)) rfl rfl rfl ⟨Or.inr ⟨⟨n, ve, vu, vr, hh, L3, []⟩, _, _, _, _, _, _, rfl, HW9.out.set7 (hN3'.le (by have := HC3.out.hq; omega)) _ _ _ _ _ _ _, HT9.out.set7 new_none _ _ _ _ _ _ _, HR.out⟩, set7_below HC9.out.bl (Nat.le_refl _) _ _ _ _ _ _ _⟩
      | false =>
        have hl4 : rlR w4 = spk 44 (w4.count 44) w4 := by unfold rlR; rw [if_neg (by simpa using h4)]
        have cS4 := split_any w4 44 (by omega) _ (HG.out.on HC3.out.bl)
        generalize spk 44 (w4.count 44) w4 = L4 at hl4 cS4
        obtain ⟨⟨x0, x1, x2, x3, x4, x5, x6⟩, xl, xf⟩ := HC3.out.sx
        go_wp2_with fail
        refine cS4.mono ?_
        rintro z X4 ⟨⟨A4, kc4, rfl, hS4, hN4⟩, b4⟩
        clear cS4 r4 x0 x1 x2 x3 x4 x5 x6
        have hN4' := hN4.le (show q + 1 ≤ _ from xl)
        clear hN4 xl xf
        have HC4 := Lib.hid ((HC3.out.on b4).set6 (.slice A4 L4.length kc4))
        have HS4 := Lib.hid (hS4.setq hN4' 6 (.slice A4 L4.length kc4))
        have HS3b := Lib.hid ((HS3.out.on b4).setq hN3' 6 (.slice A4 L4.length kc4))
        obtain ⟨⟨x0, x1, x2, x3, x4, x5, x6⟩, xl, xf⟩ := (HC3.out.on b4).sx
        have hRD : rdR n w1 w2 w3 w4 = ⟨n, ve, vu, vr, hh, L3, L4⟩ := by
          unfold rdR
          rw [hv, hl3, hl4, HH.out]
        have hSg : Sg ⟨n, ve, vu, vr, hh, L3, L4⟩ := by
          have h1 := rvR_small w1
          have h3 := rlR_le w3 (by omega)
          have h4 := rlR_le w4 (by omega)
          rw [hv] at h1
          rw [hl3] at h3
          rw [hl4] at h4
          exact ⟨⟨by dsimp only at h1 ⊢; omega, by dsimp only at h1 ⊢; omega⟩, by dsimp only at h1 ⊢; omega, by dsimp only at h1 ⊢; omega, h3.1, h4.1, h3.2, h4.2⟩
        have cP := xprints_any ⟨n, ve, vu, vr, hh, L3, L4⟩ _ _ _ HS3b.out HS4.out hSg (tab_on HTab.out HC4.out.bl)
        have HF := Lib.hid HC4.out
        rw [hRD] at HRD
        clear hRD hSg
        obtain ⟨⟨x0, x1, x2, x3, x4, x5, x6⟩, xl, xf⟩ := HC4.out.sx
        dsimp only at cP
        unfold xprv at cP
        go_wp2_with fail
        refine cP.mono ?_
        rintro z X9 ⟨rfl, b9⟩
        clear cP x0 x1 x2 x3 x4 x5 x6 xl xf
        have HC9 := Lib.hid (HF.out.on b9)
        have HW9 := Lib.hid (HS3b.out.on b9)
        have HT9 := Lib.hid (HS4.out.on b9)
        clear HF b9
        cases hok : okb with
        | false =>
          have HR := Lib.hid (HRD.out.trans (by rw [hok]))
          clear HRD
          subst hok
          cases hx : sok ⟨n, ve, vu, vr, hh, L3, L4⟩ with
          | false =>
            simp only [Bool.false_eq_true, if_false]
            have kT := HC9.out.k7
            obtain ⟨kl, k0, k1, k2, k3, k4, k5, k6, kf⟩ := HC9.out.k7
            go_wp2
            exact rets11 (res7 kT (.int .i64 0) (.int .i64 0) (.string ⟨#[]⟩) (.string ⟨#[]⟩) (.bool false) (.slice none 0 0) (.slice none 0 0)) rfl rfl rfl ⟨Or.inl ⟨rfl, HR.out⟩, set7_below HC9.out.bl (Nat.le_refl _) _ _ _ _ _ _ _⟩
          | true =>
            simp only [if_true]
            generalize stx ⟨n, ve, vu, vr, hh, L3, L4⟩ = tx
            have kT := HC9.out.k7
            obtain ⟨kl, k0, k1, k2, k3, k4, k5, k6, kf⟩ := HC9.out.k7
            go_wp2
            exact rets11 (res7 kT (.int .i64 0) (.int .i64 0) (.string ⟨#[]⟩) (.string ⟨#[]⟩) (.bool false) (.slice none 0 0) (.slice none 0 0)) rfl rfl rfl ⟨Or.inl ⟨rfl, HR.out⟩, set7_below HC9.out.bl (Nat.le_refl _) _ _ _ _ _ _ _⟩
        | true =>
          subst hok
          cases hx : sok ⟨n, ve, vu, vr, hh, L3, L4⟩ with
          | false =>
            have HR := Lib.hid (HRD.out.trans (by rw [hx]))
            clear HRD
            simp only [Bool.false_eq_true, if_false]
            have kT := HC9.out.k7
            obtain ⟨kl, k0, k1, k2, k3, k4, k5, k6, kf⟩ := HC9.out.k7
            go_wp2
            exact rets11 (res7 kT (.int .i64 0) (.int .i64 0) (.string ⟨#[]⟩) (.string ⟨#[]⟩) (.bool false) (.slice none 0 0) (.slice none 0 0)) rfl rfl rfl ⟨Or.inl ⟨rfl, HR.out⟩, set7_below HC9.out.bl (Nat.le_refl _) _ _ _ _ _ _ _⟩
          | true =>
            cases he : stx ⟨n, ve, vu, vr, hh, L3, L4⟩ == s with
            | false =>
              have HR := Lib.hid (HRD.out.trans (by rw [hx, he]))
              clear HRD
              simp only [if_true]
              generalize stx ⟨n, ve, vu, vr, hh, L3, L4⟩ = tx at he
              have kT := HC9.out.k7
              obtain ⟨kl, k0, k1, k2, k3, k4, k5, k6, kf⟩ := HC9.out.k7
              go_wp2
              exact rets11 (res7 kT (.int .i64 0) (.int .i64 0) (.string ⟨#[]⟩) (.string ⟨#[]⟩) (.bool false) (.slice none 0 0) (.slice none 0 0)) rfl rfl rfl ⟨Or.inl ⟨rfl, HR.out⟩, set7_below HC9.out.bl (Nat.le_refl _) _ _ _ _ _ _ _⟩
            | true =>
              have HR := Lib.hid (HRD.out.trans (by rw [hx, he]))
              clear HRD
              simp only [if_true]
              generalize stx ⟨n, ve, vu, vr, hh, L3, L4⟩ = tx at he
              have kT := HC9.out.k7
              obtain ⟨kl, k0, k1, k2, k3, k4, k5, k6, kf⟩ := HC9.out.k7
              obtain ⟨⟨x0, x1, x2, x3, x4, x5, x6⟩, xl, xf⟩ := HC9.out.sx
              go_wp2
              exact rets11 (res7 kT (.int .i64 n) (.int .i64 ve) (.string ⟨vu.toArray⟩) (.string ⟨vr.toArray⟩) (.bool hh) (.slice A3 L3.length kc3) (.slice A4 L4.length kc4)) rfl rfl rfl ⟨Or.inr ⟨⟨n, ve, vu, vr, hh, L3, L4⟩, _, _, _, _, _, _, rfl, HW9.out.set7 (hN3'.le (by have := HC3.out.hq; omega)) _ _ _ _ _ _ _, HT9.out.set7 (hN4'.le (by have := HC4.out.hq; omega)) _ _ _ _ _ _ _, HR.out⟩, set7_below HC9.out.bl (Nat.le_refl _) _ _ _ _ _ _ _⟩
end Go.Proofs.YtoojbpldhhbkbaaGreatDoor
