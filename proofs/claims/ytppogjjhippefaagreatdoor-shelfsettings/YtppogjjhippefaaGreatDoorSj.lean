/- A shelf: clear walked, where what a package had it has. -/
import Derived.Test.YtppogjjhippefaaGreatDoorSg
import Derived.Test.YtppogjjhippefaaGreatDoorAx
namespace Go.Proofs.YtppogjjhippefaaGreatDoor
open Go.RowKit Go.Shelf Go.Sort

set_option maxHeartbeats 1600000 in
set_option maxRecDepth 100000 in
theorem idxF99_row (bb : Nat) (b o c : Nat) (l : List Fl2) (q : Fl2 → Bool) (w : World) (h : Fr w b o l) (hn : l.length ≤ 1000000) (hq : ∀ i (hi : i < l.length) W, Below w.heap.size w W → Calls Tryz.prog 99 #[flv l[i], .pointer (some ⟨bb, 0, none⟩)] W fun e w' => e = .returned (.bool (q l[i])) ∧ Below W.heap.size W w') :
    Calls Tryz.prog 134 #[.slice (some ⟨b, o, none⟩) l.length c, .func (Fn.func 99) #[] #[.pointer (some ⟨bb, 0, none⟩)]] w fun e w' => e = .returned (.int .i64 (fx (l.findIdx? q))) ∧ Below w.heap.size w w' := by
  obtain ⟨r, hr⟩ : ∃ r, r = fx (l.findIdx? q) := ⟨_, rfl⟩
  have HR := Lib.hid hr
  rw [← hr]
  clear hr
  have HQ := Lib.hid hq
  have HF := Lib.hid h
  clear hq h
  go_enter Tryz.func134, Tryz.ntmps134
  go_wp2
  go_loopw [8] (fun i W => ∃ k : Nat, k ≤ l.length ∧ i = .int .i64 k ∧ Below w.heap.size w W ∧ Hid (∀ j (hj : j < l.length), j < k → q l[j] = false)) (fun i _ => l.length - (intOf i).toNat)
  case atStart => exact ⟨0, Nat.zero_le _, rfl, Below.refl _ _, fun j _ h => absurd h (Nat.not_lt_zero _)⟩
  case round =>
    obtain ⟨k, hk, rfl, hW, HP⟩ := hrel
    by_cases hlt : k < l.length
    · have hT := HF.out.on hW
      have c0 := hT.c0 k hlt
      have c1 := hT.c1 k hlt
      have cC := HQ.out k hlt wr hW
      clear hT
      cases hq : q l[k] with
      | true =>
        rw [hq] at cC
        have HG : Hid (r = k) := by show r = _; rw [HR.out, fi_yes k hlt hq (fun j hj h => HP.out j hj h)]; rfl
        go_wp2_with fail
        refine cC.mono ?_
        rintro e w1 ⟨rfl, b1⟩
        go_wp2_with fail
        go_ret
        exact ⟨reti HG.out.symm, bon hW b1⟩
      | false =>
        rw [hq] at cC
        have HN : Hid (∀ j (hj : j < l.length), j < k + 1 → q l[j] = false) := fun j hj h => by
          by_cases e : j = k
          · subst e; exact hq
          · exact HP.out j hj (by omega)
        go_wp2_with fail
        refine cC.mono ?_
        rintro e w1 ⟨rfl, b1⟩
        go_wp2_with fail
        exact ⟨⟨k + 1, hlt, by go_num, bon hW b1, HN⟩, by simp [intOf]; omega⟩
    · go_wp2
      go_ret
      exact ⟨reti (by rw [HR.out, fi_no (fun j hj => HP.out j hj (by omega))]; rfl), hW⟩
theorem idxF99_nil (bb : Nat) (A : Option Addr) (c : Nat) (w : World) : Calls Tryz.prog 134 #[.slice A 0 c, .func (Fn.func 99) #[] #[.pointer (some ⟨bb, 0, none⟩)]] w fun e w' => e = .returned (.int .i64 (-1)) ∧ w' = w := by
  go_enter Tryz.func134, Tryz.ntmps134
  go_wp2
  refine wp_loop_rounds 1 ?_
  rw [rounds_succ]
  go_wp2
  go_ret
  exact ⟨rfl, rfl⟩
theorem idxF99_any (bb : Nat) (v : Value) (l : List Fl2) (q : Fl2 → Bool) (w : World) (h : Fs w v l) (hn : l.length ≤ 1000000) (hq : ∀ i (hi : i < l.length) W, Below w.heap.size w W → Calls Tryz.prog 99 #[flv l[i], .pointer (some ⟨bb, 0, none⟩)] W fun e w' => e = .returned (.bool (q l[i])) ∧ Below W.heap.size W w') :
    Calls Tryz.prog 134 #[v, .func (Fn.func 99) #[] #[.pointer (some ⟨bb, 0, none⟩)]] w fun e w' => e = .returned (.int .i64 (fx (l.findIdx? q))) ∧ Below w.heap.size w w' := by
  rcases h.is with ⟨rfl, A, c, rfl⟩ | ⟨b, o, c, rfl, hc, hf⟩
  · exact (idxF99_nil bb A c w).mono fun x w' ⟨h1, h2⟩ => ⟨h1, by rw [h2]; exact Below.refl _ _⟩
  · exact idxF99_row bb b o c l q w hf hn hq
theorem conF99_any (bb : Nat) (v : Value) (l : List Fl2) (q : Fl2 → Bool) (w : World) (h : Fs w v l) (hn : l.length ≤ 1000000) (hq : ∀ i (hi : i < l.length) W, Below w.heap.size w W → Calls Tryz.prog 99 #[flv l[i], .pointer (some ⟨bb, 0, none⟩)] W fun e w' => e = .returned (.bool (q l[i])) ∧ Below W.heap.size W w') :
    Calls Tryz.prog 91 #[v, .func (Fn.func 99) #[] #[.pointer (some ⟨bb, 0, none⟩)]] w fun e w' => e = .returned (.bool (l.any q)) ∧ Below w.heap.size w w' := by
  have cI := idxF99_any bb v l q w h hn hq
  have HE := Lib.hid (fx_any q l)
  generalize fx (l.findIdx? q) = z at cI HE
  clear hq h
  go_enter Tryz.func91, Tryz.ntmps91
  go_wp2_with fail
  refine cI.mono ?_
  rintro e w1 ⟨rfl, b1⟩
  go_wp2
  all_goals go_ret
  all_goals exact ⟨retb (by rw [← HE.out]), b1⟩
theorem lies99_any (g : Fl2) (s : List UInt8) (bb : Nat) (w : World) (h0 : w.cell? ⟨bb, 0, none⟩ = some (.string ⟨s.toArray⟩)) : Calls Tryz.prog 99 #[flv g, .pointer (some ⟨bb, 0, none⟩)] w fun e w' => e = .returned (.bool (decide (g.1 = s))) ∧ Below w.heap.size w w' := by
  have hlt : bb < w.heap.size := block_lt_of_cell h0
  have b0 := bA1 w (flo g)
  go_enter Tryz.func99, Tryz.ntmps99
  go_wp2_with fail
  go_ret
  exact ⟨ret_bool (by rw [Bool.eq_iff_iff]; simp), b0⟩
end Go.Proofs.YtppogjjhippefaaGreatDoor
namespace Go.Proofs.YtppogjjhippefaaGreatDoor.Dsk
open Go.RowKit Go.Sort Go.Maps

section
variable {w W W2 : World} {s d lo hi hi' : Nat} {L : Kv Ent}
set_option maxRecDepth 100000 in
set_option maxHeartbeats 8000000 in
theorem clear_any (h : SJ w s d L lo hi W) (hn : L.length ≤ 1000) (n : List UInt8) (o : Option (List UInt8)) (hO : Ow L n o) (e : Int) (u r : List UInt8) (vD vA vG vB vR vP vS vL vF : Value) (pa da : List UInt8) (hF : Fs W vF [(pa, da)]) (ho : o = none ∨ o = some pa) (hpa : pa.length ≤ 1000) :
    Calls Tryz.prog 54 #[.pointer (some ⟨s, 0, none⟩), pkv n e u r vD vA vG vB vR vP vS vL vF] W fun x W2 => x = .returned .nilIface ∧ Below W.heap.size W W2 := by
  have bA := (Below.refl W.heap.size W).alloc (Nat.le_refl _) (pko n e u r vD vA vG vB vR vP vS vL vF)
  have x0 := nb0 W (pko n e u r vD vA vG vB vR vP vS vL vF)
  have cP := paths_any (h.up bA) hn hO
  have HJ := Lib.hid h
  have HB := Lib.hid bA
  have HX0 := Lib.hid x0
  have HF := Lib.hid hF
  clear h bA x0 hF hO
  go_enter Tryz.func54, Tryz.ntmps54
  go_upto_region 1 with fail
  obtain ⟨bp, hbp⟩ : ∃ bp, bp = W.heap.size := ⟨_, rfl⟩
  rw [← hbp] at HX0
  rw [← hbp]
  have hbpW : W.heap.size ≤ bp := by omega
  clear hbp
  generalize W.alloc (pko n e u r vD vA vG vB vR vP vS vL vF) = V at cP HB HX0 ⊢
  have p0 : V.cell? ⟨bp, 0, none⟩ = some (.string ⟨n.toArray⟩) := by simp [World.cell?, HX0.out]
  have hlt : bp < V.heap.size := (Array.getElem?_eq_some_iff.1 HX0.out).1
  go_wp2_with fail
  refine cP.mono ?_
  rintro x V1 ⟨v, rfl, hT, b1⟩
  have hB1 := HB.out.trans (b1.mono HB.out.size)
  have hx1 := (b1.block bp hlt).trans HX0.out
  have HB1 := Lib.hid hB1
  have HX1 := Lib.hid hx1
  clear cP b1 hB1 hx1 p0 hlt HB HX0
  rcases hT.is with ⟨ho1, rfl⟩ | ⟨p, g, c, ho1, rfl, _, hgl, hgc⟩
  · clear hT ho1
    go_wp2_with fail
    refine wp_loop_rounds 1 ?_
    rw [rounds_succ]
    go_wp2
    go_ret
    exact ⟨rfl, HB1.out⟩
  · obtain rfl : p = pa := by
      rcases ho with h1 | h1
      · rw [h1] at ho1; cases ho1
      · rw [h1] at ho1; cases ho1; rfl
    have HGC : Hid (g < V1.heap.size ∧ V1.cell? ⟨g, 0, none⟩ = some (.string ⟨p.toArray⟩)) := ⟨hgl, hgc⟩
    clear hT ho1 ho hgl hgc
    go_wp2_with fail
    go_loopw [14] (fun iv Y => (iv = .int .i64 0 ∧ Y = V1) ∨ (iv = .int .i64 1 ∧ Below W.heap.size W Y)) (fun iv _ => 1 - (intOf iv).toNat)
    case atStart => exact .inl ⟨rfl, rfl⟩
    case round =>
      rcases hrel with ⟨rfl, rfl⟩ | ⟨rfl, hY⟩
      · obtain ⟨hgl, hgc⟩ := HGC.out
        have bS := HB1.out.alloc HB1.out.size (.cells #[.string ⟨p.toArray⟩] 9)
        have hxs := nb0 wr (.cells #[.string ⟨p.toArray⟩] 9)
        have bws := (Below.refl wr.heap.size wr).alloc (Nat.le_refl _) (.cells #[.string ⟨p.toArray⟩] 9)
        have cS := setting_any (HJ.out.up bS) p hpa
        have hlt1 : bp < wr.heap.size := (Array.getElem?_eq_some_iff.1 HX1.out).1
        have hx12 := (bws.block bp hlt1).trans HX1.out
        have p12 : (wr.alloc (.cells #[.string ⟨p.toArray⟩] 9)).cell? ⟨bp, 12, none⟩ = some vF := by simp [World.cell?, hx12]
        have hltS : bp < (wr.alloc (.cells #[.string ⟨p.toArray⟩] 9)).heap.size := Nat.lt_of_lt_of_le hlt1 bws.size
        have c0s : (wr.alloc (.cells #[.string ⟨p.toArray⟩] 9)).cell? ⟨wr.heap.size, 0, none⟩ = some (.string ⟨p.toArray⟩) := by simp
        have hF2 := HF.out.on bS
        have cN : ∀ Y, Below (wr.alloc (.cells #[.string ⟨p.toArray⟩] 9)).heap.size (wr.alloc (.cells #[.string ⟨p.toArray⟩] 9)) Y → Calls Tryz.prog 91 #[vF, .func (Fn.func 99) #[] #[.pointer (some ⟨wr.heap.size, 0, none⟩)]] Y fun z w' => z = .returned (.bool true) ∧ Below Y.heap.size Y w' := fun Y hY => by
          have c1 : Y.cell? ⟨wr.heap.size, 0, none⟩ = some (.string ⟨p.toArray⟩) := (hY.cell (p := ⟨wr.heap.size, 0, none⟩) (by simp)).trans c0s
          have := conF99_any wr.heap.size vF [(p, da)] (fun g => decide (g.1 = p)) Y (hF2.on hY) (by simp) (fun i hi Y2 hb => lies99_any _ p wr.heap.size Y2 ((hb.cell (p := ⟨wr.heap.size, 0, none⟩) (block_lt_of_cell c1)).trans c1))
          simpa using this
        have HCN := Lib.hid cN
        have HBS := Lib.hid bS
        obtain ⟨bs, hbs⟩ : ∃ bs, bs = wr.heap.size := ⟨_, rfl⟩
        clear bws hx12 hF2 cN bS
        cases hq : (lkL ([99, 47] ++ p) L).isSome with
        | true =>
          rw [hq] at cS
          clear hq
          go_wp2_with fail
          refine cS.mono ?_
          rintro z Y2 ⟨rfl, b2⟩
          have HF2 := Lib.hid (HBS.out.trans (b2.mono HBS.out.size))
          clear cS b2
          go_wp2_with fail
          exact ⟨.inr ⟨by go_num, HF2.out⟩, by simp [intOf]⟩
        | false =>
          rw [hq] at cS
          clear hq
          go_wp2_with fail
          refine cS.mono ?_
          rintro z Y2 ⟨rfl, b2⟩
          have cN2 := HCN.out Y2 b2
          have p122 := (b2.cell (p := ⟨bp, 12, none⟩) hltS).trans p12
          have hlt2 : bp < Y2.heap.size := Nat.lt_of_lt_of_le hltS b2.size
          have HB2 := Lib.hid (HBS.out.trans (b2.mono HBS.out.size))
          clear cS b2 HCN p12 hltS c0s
          go_wp2_with fail
          refine cN2.mono ?_
          rintro z Y3 ⟨rfl, b3⟩
          have HF2 := Lib.hid (HB2.out.trans (b3.mono HB2.out.size))
          clear cN2 b3
          go_wp2_with fail
          exact ⟨.inr ⟨by go_num, HF2.out⟩, by simp [intOf]⟩
      · have HY := Lib.hid hY
        clear hY
        go_wp2
        go_ret
        exact ⟨rfl, HY.out⟩
end
end Go.Proofs.YtppogjjhippefaaGreatDoor.Dsk
