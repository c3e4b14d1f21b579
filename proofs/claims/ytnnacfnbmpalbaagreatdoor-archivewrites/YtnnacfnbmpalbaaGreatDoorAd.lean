/- The walks of ContainsFunc over texts, of archive's Right. -/
import Derived.Test.YtnnacfnbmpalbaaGreatDoorAc
namespace Go.Proofs.YtnnacfnbmpalbaaGreatDoor
open Go.RowKit Go.Shelf Go.Sort

theorem sr_on {W w' : World} {b o : Nat} {l : List (List UInt8)} (h : Sr W b o l) (k : Below W.heap.size W w') : Sr w' b o l := ⟨Nat.lt_of_lt_of_le h.lt k.size, fun i hi => by rw [k.cell (p := ⟨b, _, none⟩) h.lt]; exact h.c i hi⟩
set_option maxHeartbeats 1600000 in
set_option maxRecDepth 100000 in
theorem idxS102_row (bb : Nat) (b o c : Nat) (l : List (List UInt8)) (q : List UInt8 → Bool) (w : World) (h : Sr w b o l) (hn : l.length ≤ 1000000) (hq : ∀ i (hi : i < l.length) W, Below w.heap.size w W → Calls Tryz.prog 102 #[.string ⟨l[i].toArray⟩, .pointer (some ⟨bb, 0, none⟩)] W fun e w' => e = .returned (.bool (q l[i])) ∧ Below W.heap.size W w') :
    Calls Tryz.prog 157 #[.slice (some ⟨b, o, none⟩) l.length c, .func (Fn.func 102) #[] #[.pointer (some ⟨bb, 0, none⟩)]] w fun e w' => e = .returned (.int .i64 (fx (l.findIdx? q))) ∧ Below w.heap.size w w' := by
  obtain ⟨r, hr⟩ : ∃ r, r = fx (l.findIdx? q) := ⟨_, rfl⟩
  have HR := Lib.hid hr
  rw [← hr]
  clear hr
  have HQ := Lib.hid hq
  have HF := Lib.hid h
  clear hq h
  go_enter Tryz.func157, Tryz.ntmps157
  go_wp2
  go_loopw [8] (fun i W => ∃ k : Nat, k ≤ l.length ∧ i = .int .i64 k ∧ Below w.heap.size w W ∧ Hid (∀ j (hj : j < l.length), j < k → q l[j] = false)) (fun i _ => l.length - (intOf i).toNat)
  case atStart => exact ⟨0, Nat.zero_le _, rfl, Below.refl _ _, fun j _ h => absurd h (Nat.not_lt_zero _)⟩
  case round =>
    obtain ⟨k, hk, rfl, hW, HP⟩ := hrel
    by_cases hlt : k < l.length
    · have hT := sr_on HF.out hW
      have c0 := hT.c k hlt
      have cC := HQ.out k hlt wr hW
      clear hT
      cases hq : q l[k] with
      | true =>
        rw [hq] at cC
        have HG : Hid (r = k) := by show r = _; rw [HR.out, fi_yes k hlt hq (fun j hj h => HP.out j hj h)]; rfl
        go_wp2_with fail
        refine cC.mono ?_
        rintro e w1 ⟨rfl, b1⟩
        go_wp2_with fail
        go_ret
        exact ⟨reti HG.out.symm, bon hW b1⟩
      | false =>
        rw [hq] at cC
        have HN : Hid (∀ j (hj : j < l.length), j < k + 1 → q l[j] = false) := fun j hj h => by
          by_cases e : j = k
          · subst e; exact hq
          · exact HP.out j hj (by omega)
        go_wp2_with fail
        refine cC.mono ?_
        rintro e w1 ⟨rfl, b1⟩
        go_wp2_with fail
        exact ⟨⟨k + 1, hlt, by go_num, bon hW b1, HN⟩, by simp [intOf]; omega⟩
    · go_wp2
      go_ret
      exact ⟨reti (by rw [HR.out, fi_no (fun j hj => HP.out j hj (by omega))]; rfl), hW⟩
theorem idxS102_nil (bb : Nat) (A : Option Addr) (c : Nat) (w : World) : Calls Tryz.prog 157 #[.slice A 0 c, .func (Fn.func 102) #[] #[.pointer (some ⟨bb, 0, none⟩)]] w fun e w' => e = .returned (.int .i64 (-1)) ∧ w' = w := by
  go_enter Tryz.func157, Tryz.ntmps157
  go_wp2
  refine wp_loop_rounds 1 ?_
  rw [rounds_succ]
  go_wp2
  go_ret
  exact ⟨rfl, rfl⟩
theorem idxS102_any (bb : Nat) (v : Value) (l : List (List UInt8)) (q : List UInt8 → Bool) (w : World) (h : Ss w v l) (hn : l.length ≤ 1000000) (hq : ∀ i (hi : i < l.length) W, Below w.heap.size w W → Calls Tryz.prog 102 #[.string ⟨l[i].toArray⟩, .pointer (some ⟨bb, 0, none⟩)] W fun e w' => e = .returned (.bool (q l[i])) ∧ Below W.heap.size W w') :
    Calls Tryz.prog 157 #[v, .func (Fn.func 102) #[] #[.pointer (some ⟨bb, 0, none⟩)]] w fun e w' => e = .returned (.int .i64 (fx (l.findIdx? q))) ∧ Below w.heap.size w w' := by
  rcases h.is with ⟨rfl, A, c, rfl⟩ | ⟨b, o, c, rfl, hc, hf⟩
  · exact (idxS102_nil bb A c w).mono fun x w' ⟨h1, h2⟩ => ⟨h1, by rw [h2]; exact Below.refl _ _⟩
  · exact idxS102_row bb b o c l q w hf hn hq
theorem conS102_any (bb : Nat) (v : Value) (l : List (List UInt8)) (q : List UInt8 → Bool) (w : World) (h : Ss w v l) (hn : l.length ≤ 1000000) (hq : ∀ i (hi : i < l.length) W, Below w.heap.size w W → Calls Tryz.prog 102 #[.string ⟨l[i].toArray⟩, .pointer (some ⟨bb, 0, none⟩)] W fun e w' => e = .returned (.bool (q l[i])) ∧ Below W.heap.size W w') :
    Calls Tryz.prog 105 #[v, .func (Fn.func 102) #[] #[.pointer (some ⟨bb, 0, none⟩)]] w fun e w' => e = .returned (.bool (l.any q)) ∧ Below w.heap.size w w' := by
  have cI := idxS102_any bb v l q w h hn hq
  have HE := Lib.hid (fx_any q l)
  generalize fx (l.findIdx? q) = z at cI HE
  clear hq h
  go_enter Tryz.func105, Tryz.ntmps105
  go_wp2_with fail
  refine cI.mono ?_
  rintro e w1 ⟨rfl, b1⟩
  go_wp2
  all_goals go_ret
  all_goals exact ⟨retb (by rw [← HE.out]), b1⟩

/-- A package that may be with its files. -/
def aok (p : Pck) : Bool := rok p && (fk p.F && stg p.F p.S)
theorem stg_any (F : List Fl2) (S : List (List UInt8)) : (!(S.any fun s => !(F.any fun f => decide (f.1 = s)))) = stg F S := by
  unfold stg
  rw [Bool.eq_iff_iff]
  simp [List.all_eq_true]

set_option maxHeartbeats 3200000 in
set_option maxRecDepth 100000 in
theorem aright_any (p : Pck) (vD vA vG vB vR vP vS vL vF : Value) (w : World) (hz : Pz w p vD vA vG vB vR vP vS vL vF) (hp : Pg p) (hT : Tab w) (hM : MaxN w) : Calls Tryz.prog 28 #[pkv p.o.n p.o.e p.o.u p.o.r vD vA vG vB vR vP vS vL vF] w fun x w' => x = .returned (.bool (aok p)) ∧ Below w.heap.size w w' := by
  have c0 := b1c w (pko p.o.n p.o.e p.o.u p.o.r vD vA vG vB vR vP vS vL vF)
  have B0 := Lib.hid (pb_new w p vD vA vG vB vR vP vS vL vF)
  have cR := recright_any p vD vA vG vB vR vP vS vL vF _ (hz.on c0) hp (tab_on hT c0) (hM.on c0)
  obtain ⟨r, hr⟩ : ∃ r, r = aok p := ⟨_, rfl⟩
  rw [← hr]
  have HR : Hid (r = (rok p && (fk p.F && stg p.F p.S))) := hr
  have HZ := Lib.hid hz
  have HM := Lib.hid hM
  have hfl := fls_p hp.F
  have htx := txs_p hp.S
  obtain ⟨F1, F2, hvF⟩ := fs_sl hz.F
  obtain ⟨S1, S2, hvS⟩ := ss_sl hz.S
  obtain ⟨D1, D2, hvD⟩ := as_sl hz.D
  obtain ⟨A1, A2, hvA⟩ := as_sl hz.A
  obtain ⟨G1, G2, hvG⟩ := ts_sl hz.G
  obtain ⟨Q1, Q2, hvB⟩ := ts_sl hz.B
  obtain ⟨R1, R2, hvR⟩ := ts_sl hz.R
  obtain ⟨P1, P2, hvP⟩ := ts_sl hz.P
  obtain ⟨L1, L2, hvL⟩ := ss_sl hz.L
  subst hvF hvS hvD hvA hvG hvB hvR hvP hvL
  clear hz hp hT hM hr
  go_enter Tryz.func28, Tryz.ntmps28
  go_wp2_with fail
  refine cR.mono ?_
  rintro x w1 ⟨rfl, b1⟩
  have k1 := bon c0 b1
  have B1 := Lib.hid (B0.out.on b1)
  have q12 := B1.out.c12
  have hlt1 : w.heap.size < w1.heap.size := block_lt_of_cell q12
  clear cR B0 b1 c0
  cases hrk : rok p with
  | false =>
    rw [hrk] at HR
    have hr0 : r = false := HR.out
    subst hr0
    go_wp2_with fail
    go_ret
    exact ⟨rfl, k1⟩
  | true =>
    rw [hrk] at HR
    have HR2 : Hid (r = (fk p.F && stg p.F p.S)) := HR
    have cF := rfiles_any _ p.F w1 (HZ.out.F.on k1) (fun f hf => (hfl.2 f hf).1) (HM.out.on k1)
    clear HR
    go_wp2_with fail
    refine cF.mono ?_
    rintro x w2 ⟨rfl, b2⟩
    have k2 := bon k1 b2
    have B2 := Lib.hid (B1.out.on b2)
    have q10 := B2.out.c10
    clear cF B1 b2 k1 q12
    cases hfk : fk p.F with
    | false =>
      rw [hfk] at HR2
      have hr0 : r = false := HR2.out
      subst hr0
      go_wp2_with fail
      go_ret
      exact ⟨rfl, k2⟩
    | true =>
      rw [hfk] at HR2
      have hr0 : r = !(p.S.any fun s => !(p.F.any fun f => decide (f.1 = s))) := by rw [stg_any]; exact HR2.out
      have cS := conS102_any w.heap.size _ p.S (fun s => !(p.F.any fun f => decide (f.1 = s))) w2 (HZ.out.S.on k2) (by omega) (fun j hj W hW => strange_any p.S[j] w.heap.size p _ _ _ _ _ _ _ _ _ W (B2.out.on hW) ((HZ.out.F.on k2).on hW) (by omega))
      have HR0 := Lib.hid hr0
      generalize (p.S.any fun s => !(p.F.any fun f => decide (f.1 = s))) = y at cS HR0
      clear hr0 HR2
      go_wp2_with fail
      refine cS.mono ?_
      rintro x w3 ⟨rfl, b3⟩
      have k3 := bon k2 b3
      go_wp2_with fail
      go_ret
      exact ⟨by rw [HR0.out]; rfl, k3⟩
end Go.Proofs.YtnnacfnbmpalbaaGreatDoor
