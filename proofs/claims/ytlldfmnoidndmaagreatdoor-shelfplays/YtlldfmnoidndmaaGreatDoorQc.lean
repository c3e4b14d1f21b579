/- A shelf: clear walked. -/
import Derived.Test.YtlldfmnoidndmaaGreatDoorQq
import Derived.Test.YtlldfmnoidndmaaGreatDoorAx
namespace Go.Proofs.YtlldfmnoidndmaaGreatDoor
open Go.RowKit Go.Shelf Go.Sort

set_option maxHeartbeats 1600000 in
set_option maxRecDepth 100000 in
theorem idxF99_row (bb : Nat) (b o c : Nat) (l : List Fl2) (q : Fl2 → Bool) (w : World) (h : Fr w b o l) (hn : l.length ≤ 1000000) (hq : ∀ i (hi : i < l.length) W, Below w.heap.size w W → Calls Tryz.prog 99 #[flv l[i], .pointer (some ⟨bb, 0, none⟩)] W fun e w' => e = .returned (.bool (q l[i])) ∧ Below W.heap.size W w') :
    Calls Tryz.prog 134 #[.slice (some ⟨b, o, none⟩) l.length c, .func (Fn.func 99) #[] #[.pointer (some ⟨bb, 0, none⟩)]] w fun e w' => e = .returned (.int .i64 (fx (l.findIdx? q))) ∧ Below w.heap.size w w' := by
  obtain ⟨r, hr⟩ : ∃ r, r = fx (l.findIdx? q) := ⟨_, rfl⟩
  have HR := Lib.hid hr
  rw [← hr]
  clear hr
  have HQ := Lib.hid hq
  have HF := Lib.hid h
  clear hq h
  go_enter Tryz.func134, Tryz.ntmps134
  go_wp2
  go_loopw [8] (fun i W => ∃ k : Nat, k ≤ l.length ∧ i = .int .i64 k ∧ Below w.heap.size w W ∧ Hid (∀ j (hj : j < l.length), j < k → q l[j] = false)) (fun i _ => l.length - (intOf i).toNat)
  case atStart => exact ⟨0, Nat.zero_le _, rfl, Below.refl _ _, fun j _ h => absurd h (Nat.not_lt_zero _)⟩
  case round =>
    obtain ⟨k, hk, rfl, hW, HP⟩ := hrel
    by_cases hlt : k < l.length
    · have hT := HF.out.on hW
      have c0 := hT.c0 k hlt
      have c1 := hT.c1 k hlt
      have cC := HQ.out k hlt wr hW
      clear hT
      cases hq : q l[k] with
      | true =>
        rw [hq] at cC
        have HG : Hid (r = k) := by show r = _; rw [HR.out, fi_yes k hlt hq (fun j hj h => HP.out j hj h)]; rfl
        go_wp2_with fail
        refine cC.mono ?_
        rintro e w1 ⟨rfl, b1⟩
        go_wp2_with fail
        go_ret
        exact ⟨reti HG.out.symm, bon hW b1⟩
      | false =>
        rw [hq] at cC
        have HN : Hid (∀ j (hj : j < l.length), j < k + 1 → q l[j] = false) := fun j hj h => by
          by_cases e : j = k
          · subst e; exact hq
          · exact HP.out j hj (by omega)
        go_wp2_with fail
        refine cC.mono ?_
        rintro e w1 ⟨rfl, b1⟩
        go_wp2_with fail
        exact ⟨⟨k + 1, hlt, by go_num, bon hW b1, HN⟩, by simp [intOf]; omega⟩
    · go_wp2
      go_ret
      exact ⟨reti (by rw [HR.out, fi_no (fun j hj => HP.out j hj (by omega))]; rfl), hW⟩
theorem idxF99_nil (bb : Nat) (A : Option Addr) (c : Nat) (w : World) : Calls Tryz.prog 134 #[.slice A 0 c, .func (Fn.func 99) #[] #[.pointer (some ⟨bb, 0, none⟩)]] w fun e w' => e = .returned (.int .i64 (-1)) ∧ w' = w := by
  go_enter Tryz.func134, Tryz.ntmps134
  go_wp2
  refine wp_loop_rounds 1 ?_
  rw [rounds_succ]
  go_wp2
  go_ret
  exact ⟨rfl, rfl⟩
theorem idxF99_any (bb : Nat) (v : Value) (l : List Fl2) (q : Fl2 → Bool) (w : World) (h : Fs w v l) (hn : l.length ≤ 1000000) (hq : ∀ i (hi : i < l.length) W, Below w.heap.size w W → Calls Tryz.prog 99 #[flv l[i], .pointer (some ⟨bb, 0, none⟩)] W fun e w' => e = .returned (.bool (q l[i])) ∧ Below W.heap.size W w') :
    Calls Tryz.prog 134 #[v, .func (Fn.func 99) #[] #[.pointer (some ⟨bb, 0, none⟩)]] w fun e w' => e = .returned (.int .i64 (fx (l.findIdx? q))) ∧ Below w.heap.size w w' := by
  rcases h.is with ⟨rfl, A, c, rfl⟩ | ⟨b, o, c, rfl, hc, hf⟩
  · exact (idxF99_nil bb A c w).mono fun x w' ⟨h1, h2⟩ => ⟨h1, by rw [h2]; exact Below.refl _ _⟩
  · exact idxF99_row bb b o c l q w hf hn hq
theorem conF99_any (bb : Nat) (v : Value) (l : List Fl2) (q : Fl2 → Bool) (w : World) (h : Fs w v l) (hn : l.length ≤ 1000000) (hq : ∀ i (hi : i < l.length) W, Below w.heap.size w W → Calls Tryz.prog 99 #[flv l[i], .pointer (some ⟨bb, 0, none⟩)] W fun e w' => e = .returned (.bool (q l[i])) ∧ Below W.heap.size W w') :
    Calls Tryz.prog 91 #[v, .func (Fn.func 99) #[] #[.pointer (some ⟨bb, 0, none⟩)]] w fun e w' => e = .returned (.bool (l.any q)) ∧ Below w.heap.size w w' := by
  have cI := idxF99_any bb v l q w h hn hq
  have HE := Lib.hid (fx_any q l)
  generalize fx (l.findIdx? q) = z at cI HE
  clear hq h
  go_enter Tryz.func91, Tryz.ntmps91
  go_wp2_with fail
  refine cI.mono ?_
  rintro e w1 ⟨rfl, b1⟩
  go_wp2
  all_goals go_ret
  all_goals exact ⟨retb (by rw [← HE.out]), b1⟩
theorem lies99_any (g : Fl2) (s : List UInt8) (bb : Nat) (w : World) (h0 : w.cell? ⟨bb, 0, none⟩ = some (.string ⟨s.toArray⟩)) : Calls Tryz.prog 99 #[flv g, .pointer (some ⟨bb, 0, none⟩)] w fun e w' => e = .returned (.bool (decide (g.1 = s))) ∧ Below w.heap.size w w' := by
  have hlt : bb < w.heap.size := block_lt_of_cell h0
  have b0 := bA1 w (flo g)
  go_enter Tryz.func99, Tryz.ntmps99
  go_wp2_with fail
  go_ret
  exact ⟨ret_bool (by rw [Bool.eq_iff_iff]; simp), b0⟩
end Go.Proofs.YtlldfmnoidndmaaGreatDoor
namespace Go.Proofs.YtlldfmnoidndmaaGreatDoor.Dsk
open Go.RowKit Go.Sort Go.Maps

/-- Files that lie in a zone. -/
structure Fz (Z : Nat → Prop) (W : World) (v : Value) (l : List (List UInt8 × List UInt8)) : Prop where
  fs : Fs W v l
  lo : ∀ b o n c, v = .slice (some ⟨b, o, none⟩) n c → l ≠ [] → Z b
section
variable {w W W2 : World} {s d : Nat} {Z Z' : Nat → Prop} {L : Kv Ent}
theorem Fz.zn {v : Value} {l : List (List UInt8 × List UInt8)} (h : Fz Z W v l) (hz : Zn Z W W2) (hs : ∀ k, Z k → k < W2.heap.size) : Fz Z W2 v l := by
  refine ⟨?_, h.lo⟩
  rcases h.fs.is with h1 | ⟨b, o, c, h1, h2, h3⟩
  · exact ⟨.inl h1⟩
  · by_cases hl : l = []
    · subst hl
      exact ⟨.inl ⟨rfl, _, _, h1⟩⟩
    · have h4 := h.lo b o _ c h1 hl
      exact ⟨.inr ⟨b, o, c, h1, h2, hs b h4, fun i hi' => (hz.cell h4).trans (h3.c0 i hi'), fun i hi' => (hz.cell h4).trans (h3.c1 i hi')⟩⟩
theorem Fz.up {v : Value} {l : List (List UInt8 × List UInt8)} (h : Fz Z W v l) (hb : Below W.heap.size W W2) : Fz Z W2 v l := ⟨h.fs.on hb, h.lo⟩
theorem Fz.more {v : Value} {l : List (List UInt8 × List UInt8)} (h : Fz Z W v l) (hz : ∀ k, Z k → Z' k) : Fz Z' W v l := ⟨h.fs, fun b o n c h1 h2 => hz b (h.lo b o n c h1 h2)⟩
/-- What clear does with a path. -/
def cst (F : List (List UInt8 × List UInt8)) (L : Kv Ent) (p : List UInt8) : Kv Ent := if (lkL ([99, 47] ++ p) L).isSome = true then L else if (F.any fun f => decide (f.1 = p)) = true then L else frgt L p
def clL (F : List (List UInt8 × List UInt8)) (L : Kv Ent) (n : List UInt8) : Kv Ent := (pts L n).foldl (cst F) L
theorem cst_all {L : Kv Ent} (h : Srt L) (F : List (List UInt8 × List UInt8)) (p : List UInt8) : Srt (cst F L p) ∧ tot nl (cst F L p) ≤ tot nl L ∧ (cst F L p).length ≤ L.length := by
  unfold cst
  split
  · exact ⟨h, Nat.le_refl _, Nat.le_refl _⟩
  · split
    · exact ⟨h, Nat.le_refl _, Nat.le_refl _⟩
    · exact frgt_all h p
theorem csts_all {L : Kv Ent} (h : Srt L) (F : List (List UInt8 × List UInt8)) : ∀ ps : List (List UInt8), Srt (ps.foldl (cst F) L) ∧ tot nl (ps.foldl (cst F) L) ≤ tot nl L ∧ (ps.foldl (cst F) L).length ≤ L.length := fun ps => by
  induction ps generalizing L with
  | nil => exact ⟨h, Nat.le_refl _, Nat.le_refl _⟩
  | cons p ps ih =>
    obtain ⟨h1, h2, h3⟩ := cst_all h F p
    obtain ⟨k1, k2, k3⟩ := ih h1
    exact ⟨k1, Nat.le_trans k2 h2, Nat.le_trans k3 h3⟩
set_option maxRecDepth 100000 in
set_option maxHeartbeats 8000000 in
theorem clear_gen (h : SJ w s d L Z W) (hO : Osm L) (n : List UInt8) (hnl : n.length ≤ 1000) (e : Int) (u r : List UInt8) (vD vA vG vB vR vP vS vL vF : Value) (F : List (List UInt8 × List UInt8)) (hF : Fz Z W vF F) (hFl : F.length ≤ 1000) (hps : ∀ p ∈ pts L n, p.length ≤ 900) (hT : tot nl L ≤ 990000) (hn : L.length ≤ 4900) :
    Calls Tryz.prog 54 #[.pointer (some ⟨s, 0, none⟩), pkv n e u r vD vA vG vB vR vP vS vL vF] W fun x W2 => x = .returned .nilIface ∧ Zn Z W W2 ∧ SJ w s d (clL F L n) Z W2 := by
  have bA := (Below.refl W.heap.size W).alloc (Nat.le_refl _) (pko n e u r vD vA vG vB vR vP vS vL vF)
  have x0 := nb0 W (pko n e u r vD vA vG vB vR vP vS vL vF)
  have cP := paths_gen (h.up bA) hn hO n hnl
  have HS := Lib.hid (fun ps => csts_all h.srt F ps)
  have HJ := Lib.hid h
  have HB := Lib.hid bA
  have HX0 := Lib.hid x0
  have HF := Lib.hid hF
  have HD : Hid (clL F L n = (pts L n).foldl (cst F) L) := rfl
  obtain ⟨DL, hDL⟩ : ∃ DL, DL = clL F L n := ⟨_, rfl⟩
  rw [← hDL] at HD ⊢
  have hpl : (pts L n).length ≤ 4900 := Nat.le_trans (ptf_len L _ n) (by rw [List.length_map]; exact hn)
  generalize pts L n = ps at cP hps HD hpl
  have HPS := Lib.hid hps
  clear h bA x0 hF hO hps hDL
  go_enter Tryz.func54, Tryz.ntmps54
  go_upto_region 1 with fail
  obtain ⟨bp, hbp⟩ : ∃ bp, bp = W.heap.size := ⟨_, rfl⟩
  rw [← hbp] at HX0
  rw [← hbp]
  have hbpW : W.heap.size ≤ bp := by omega
  clear hbp
  generalize W.alloc (pko n e u r vD vA vG vB vR vP vS vL vF) = V0 at cP HB HX0 ⊢
  have p0 : V0.cell? ⟨bp, 0, none⟩ = some (.string ⟨n.toArray⟩) := by simp [World.cell?, HX0.out]
  have hlt : bp < V0.heap.size := (Array.getElem?_eq_some_iff.1 HX0.out).1
  go_wp2_with fail
  refine cP.mono ?_
  rintro x V ⟨v, rfl, hr, b1⟩
  obtain ⟨A, c, rfl, hA⟩ := own_tx hr
  have hB1 := HB.out.trans (b1.mono HB.out.size)
  have hx1 := (b1.block bp hlt).trans HX0.out
  have HA := Lib.hid hA
  have HJ1 := Lib.hid (HJ.out.add hB1)
  have HZ1 := Lib.hid (Zn.below hB1 HJ.out.hs)
  have HF1 := Lib.hid ((HF.out.up hB1).more (Z' := Zu Z W.heap.size V.heap.size) fun _ => .inl)
  have HX1 := Lib.hid hx1
  have hgW : W.heap.size ≤ V0.heap.size := HB.out.size
  have hbz : Hid (Zu Z W.heap.size V.heap.size bp) := .inr ⟨by omega, (Array.getElem?_eq_some_iff.1 hx1).1⟩
  obtain ⟨g0, hg0⟩ : ∃ g0, g0 = W.heap.size := ⟨_, rfl⟩
  rw [← hg0] at HJ1 HF1 hbz hgW
  clear hr hA b1 cP HJ hg0 hB1 hx1 p0 hlt HB HX0 HF hbpW
  go_wp2_with fail
  go_loopw [14] (fun iv Y => ∃ k : Nat, k ≤ ps.length ∧ iv = .int .i64 k ∧ Hid (Zn (Zu Z g0 V.heap.size) V Y ∧ SJ w s d ((ps.take k).foldl (cst F) L) (Zu Z g0 V.heap.size) Y)) (fun iv _ => ps.length - (intOf iv).toNat)
  case atStart => exact ⟨0, Nat.zero_le _, rfl, Zn.refl _ _, HJ1.out⟩
  case round =>
    obtain ⟨k, hk, rfl, HK⟩ := hrel
    by_cases hlt : k < ps.length
    · obtain ⟨g, rfl, hg1, hg2, hgc⟩ := HA.out k hlt
      have hgz : Zu Z g0 V.heap.size g := .inr ⟨by omega, hg2⟩
      have c0 := (HK.out.1.cell hgz (i := k)).trans hgc
      have hgr : g < wr.heap.size := HK.out.2.hs g hgz
      have ha := HS.out (ps.take k)
      have hpk := HPS.out _ (List.getElem_mem hlt)
      have HFT : Hid ((ps.take (k + 1)).foldl (cst F) L = cst F ((ps.take k).foldl (cst F) L) ps[k]) := fold_take _ _ _ _ hlt
      have HJN : Hid (∀ Y2, Zn (Zu Z g0 V.heap.size) wr Y2 → SJ w s d (cst F ((ps.take k).foldl (cst F) L) ps[k]) (Zu Z g0 V.heap.size) Y2 → Zn (Zu Z g0 V.heap.size) V Y2 ∧ SJ w s d ((ps.take (k + 1)).foldl (cst F) L) (Zu Z g0 V.heap.size) Y2) := fun Y2 hz hJ => ⟨HK.out.1.trans hz, by rw [HFT.out]; exact hJ⟩
      generalize (ps.take k).foldl (cst F) L = Lk at HK ha HJN
      generalize ps[k] = p at c0 hpk HJN hgc
      have bS := (Below.refl wr.heap.size wr).alloc (Nat.le_refl _) (.cells #[.string ⟨p.toArray⟩] 9)
      have hxs := nb0 wr (.cells #[.string ⟨p.toArray⟩] 9)
      obtain ⟨bs, hbs⟩ : ∃ bs, bs = wr.heap.size := ⟨_, rfl⟩
      obtain ⟨VS, hVS⟩ : ∃ VS, VS = wr.alloc (.cells #[.string ⟨p.toArray⟩] 9) := ⟨_, rfl⟩
      rw [← hbs, ← hVS] at hxs
      rw [← hVS] at bS
      have cs0 : VS.cell? ⟨bs, 0, none⟩ = some (.string ⟨p.toArray⟩) := by simp [World.cell?, hxs]
      have hbsl : bs < VS.heap.size := block_lt_of_cell cs0
      have hxp := (bS.block bp (HK.out.2.hs bp hbz.out)).trans ((HK.out.1 bp hbz.out).trans HX1.out)
      have p12 : VS.cell? ⟨bp, 12, none⟩ = some vF := by simp [World.cell?, hxp]
      have hbpl : bp < VS.heap.size := (Array.getElem?_eq_some_iff.1 hxp).1
      have hFY := ((HF1.out.zn HK.out.1 HK.out.2.hs).up bS).fs
      have hJS := HK.out.2.up bS
      have cS := setting_any hJS p (by omega)
      have HCN : Hid (∀ Y, Below VS.heap.size VS Y → Calls Tryz.prog 91 #[vF, .func (Fn.func 99) #[] #[.pointer (some ⟨bs, 0, none⟩)]] Y fun z w' => z = .returned (.bool (F.any fun f => decide (f.1 = p))) ∧ Below Y.heap.size Y w') := fun Y hY => by
        have c1 : Y.cell? ⟨bs, 0, none⟩ = some (.string ⟨p.toArray⟩) := (hY.cell (p := ⟨bs, 0, none⟩) hbsl).trans cs0
        exact conF99_any bs vF F (fun g => decide (g.1 = p)) Y (hFY.on hY) (by omega) (fun i hi Y2 hb => lies99_any _ p bs Y2 ((hb.cell (p := ⟨bs, 0, none⟩) (block_lt_of_cell c1)).trans c1))
      have HCF : Hid (∀ Y, Below VS.heap.size VS Y → _) := fun Y (hb : Below VS.heap.size VS Y) => forget_any (hJS.up hb) p hpk (by omega) (by omega)
      have HZS : Hid (∀ Y, Below VS.heap.size VS Y → Zn (Zu Z g0 V.heap.size) wr Y ∧ SJ w s d Lk (Zu Z g0 V.heap.size) Y) := fun Y hY => ⟨Zn.below (bS.trans (hY.mono bS.size)) HK.out.2.hs, hJS.up hY⟩
      clear HK ha HFT hgc hFY hJS hxp bS hxs
      go_upto_region 4 with fail
      rw [← hVS, ← hbs]
      clear hVS hbs c0 hgr
      cases hq : (lkL ([99, 47] ++ p) Lk).isSome with
      | true =>
        rw [hq] at cS
        have HQ := Lib.hid hq
        clear hq
        go_wp2_with fail
        refine cS.mono ?_
        rintro z Y2 ⟨rfl, b2⟩
        have HE := Lib.hid (HZS.out Y2 b2)
        have HF2 := Lib.hid (HJN.out Y2 HE.out.1 (by unfold cst; rw [if_pos HQ.out]; exact HE.out.2))
        clear cS b2 HJN HCN HCF HZS HE
        go_wp2_with fail
        exact ⟨⟨k + 1, by omega, by go_num, HF2⟩, by simp [intOf]; omega⟩
      | false =>
        rw [hq] at cS
        have HQ := Lib.hid hq
        clear hq
        go_wp2_with fail
        refine cS.mono ?_
        rintro z Y2 ⟨rfl, b2⟩
        have cN2 := HCN.out Y2 b2
        have p122 := (b2.cell (p := ⟨bp, 12, none⟩) hbpl).trans p12
        have cs2 := (b2.cell (p := ⟨bs, 0, none⟩) hbsl).trans cs0
        have hlt2 : bp < Y2.heap.size := Nat.lt_of_lt_of_le hbpl b2.size
        have HB2 := Lib.hid b2
        clear cS b2 HCN p12 hbpl cs0
        cases hq2 : F.any (fun f => decide (f.1 = p)) with
        | true =>
          rw [hq2] at cN2
          have HQ2 := Lib.hid hq2
          clear hq2
          go_wp2_with fail
          refine cN2.mono ?_
          rintro z Y3 ⟨rfl, b3⟩
          have HE := Lib.hid (HZS.out Y3 (HB2.out.trans (b3.mono HB2.out.size)))
          have HF2 := Lib.hid (HJN.out Y3 HE.out.1 (by unfold cst; rw [if_neg (by rw [HQ.out]; simp), if_pos HQ2.out]; exact HE.out.2))
          clear cN2 b3 HJN HCF HZS HE
          go_wp2_with fail
          exact ⟨⟨k + 1, by omega, by go_num, HF2⟩, by simp [intOf]; omega⟩
        | false =>
          rw [hq2] at cN2
          have HQ2 := Lib.hid hq2
          have hbl2 : bs < Y2.heap.size := block_lt_of_cell cs2
          clear hq2
          go_wp2_with fail
          refine cN2.mono ?_
          rintro z Y3 ⟨rfl, b3⟩
          have hb3 := HB2.out.trans (b3.mono HB2.out.size)
          have cF := HCF.out Y3 hb3
          have cs3 := (b3.cell (p := ⟨bs, 0, none⟩) hbl2).trans cs2
          have HE := Lib.hid (HZS.out Y3 hb3).1
          clear cN2 b3 hb3 HCF HZS cs2 p122 hlt2 hbl2
          go_wp2_with fail
          refine cF.mono ?_
          rintro z Y4 ⟨rfl, hz4, hJ4⟩
          have HF2 := Lib.hid (HJN.out Y4 (HE.out.trans hz4) (by unfold cst; rw [if_neg (by rw [HQ.out]; simp), if_neg (by rw [HQ2.out]; simp)]; exact hJ4))
          clear cF hz4 hJ4 HJN HE cs3
          go_wp2_with fail
          exact ⟨⟨k + 1, by omega, by go_num, HF2⟩, by simp [intOf]; omega⟩
    · obtain rfl : k = ps.length := by omega
      have HFF : Hid (Zn Z W wr ∧ SJ w s d DL Z wr) := ⟨HZ1.out.trans (HK.out.1.mono fun _ => .inl), by
        rw [HD.out]
        have := HK.out.2
        rw [List.take_length] at this
        exact this.less fun _ => .inl⟩
      clear HK
      go_wp2
      go_ret
      exact ⟨rfl, HFF.out.1, HFF.out.2⟩
end
end Go.Proofs.YtlldfmnoidndmaaGreatDoor.Dsk
