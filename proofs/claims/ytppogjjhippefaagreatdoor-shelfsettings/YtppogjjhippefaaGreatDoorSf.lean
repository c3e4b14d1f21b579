/- A shelf: comes walked, of a package of one file. -/
import Derived.Test.YtppogjjhippefaaGreatDoorSe
namespace Go.Proofs.YtppogjjhippefaaGreatDoor.Dsk
open Go.RowKit Go.Sort Go.Maps

theorem cho_or (o n x : Option ByteArray) : Cho.cho o n x = 0 ∨ Cho.cho o n x = 1 ∨ Cho.cho o n x = 2 := by
  unfold Cho.cho
  repeat' split
  all_goals simp
section
variable {w W : World} {s d lo hi : Nat} {L : Kv Ent}
/-- The answer lies there. -/
structure Cy (W : World) (g : Nat) (y : Bool) (V : World) : Prop where
  bl : Below W.heap.size W V
  lt : g < V.heap.size
  c : V.cell? ⟨g, 0, none⟩ = some (.bool y)
set_option maxRecDepth 100000 in
set_option maxHeartbeats 8000000 in
theorem comes_one (h : SJ w s d L lo hi W) (n : List UInt8) (e : Int) (u r : List UInt8) (vD vA vG vB vR vP vS vL vF va : Value) (pa da : List UInt8) (st : Bool) (o : Option Bool) (hS : Ss W vS (stS st pa)) (hF : Fs W vF [(pa, da)]) (hA : An W va o) (hpa : pa.length ≤ 1000) (_hda : da.length ≤ 1000) :
    Calls Tryz.prog 51 #[.pointer (some ⟨s, 0, none⟩), pkv n e u r vD vA vG vB vR vP vS vL vF, va] W fun x W2 => ∃ g, x = .returned (.slice (some ⟨g, 0, none⟩) 1 1) ∧ W.heap.size ≤ g ∧ Cy W g (cmy st L pa da o) W2 := by
  obtain ⟨fb, fo, fc, rfl, hFr⟩ : ∃ fb fo fc, vF = .slice (some ⟨fb, fo, none⟩) 1 fc ∧ Fr W fb fo [(pa, da)] := by
    rcases hF.is with ⟨h1, _⟩ | ⟨b, o, c, h1, _, h3⟩
    · cases h1
    · exact ⟨b, o, c, h1, h3⟩
  obtain ⟨ap, an, ac, rfl⟩ : ∃ ap an ac, va = .slice ap an ac := by
    rcases hA.is with ⟨_, rfl⟩ | ⟨b, y, _, rfl, _⟩
    · exact ⟨_, _, _, rfl⟩
    · exact ⟨_, _, _, rfl⟩
  have bA := (Below.refl W.heap.size W).alloc (Nat.le_refl _) (pko n e u r vD vA vG vB vR vP vS vL (.slice (some ⟨fb, fo, none⟩) 1 fc))
  have bB := bA.alloc bA.size (.cells #[.slice ap an ac] 44)
  have x0 : ((W.alloc (pko n e u r vD vA vG vB vR vP vS vL (.slice (some ⟨fb, fo, none⟩) 1 fc))).alloc (.cells #[.slice ap an ac] 44)).heap[W.heap.size]? = some (pko n e u r vD vA vG vB vR vP vS vL (.slice (some ⟨fb, fo, none⟩) 1 fc)) := by
    rw [Below.heap_alloc _ _ W.heap.size (by simp)]
    exact nb0 _ _
  have x1 : ((W.alloc (pko n e u r vD vA vG vB vR vP vS vL (.slice (some ⟨fb, fo, none⟩) 1 fc))).alloc (.cells #[.slice ap an ac] 44)).heap[W.heap.size + 1]? = some (.cells #[.slice ap an ac] 44 (0, 0)) := by
    have := nb0 (W.alloc (pko n e u r vD vA vG vB vR vP vS vL (.slice (some ⟨fb, fo, none⟩) 1 fc))) (.cells #[.slice ap an ac] 44)
    rwa [World.size_alloc] at this
  have HJ := Lib.hid h
  have HB := Lib.hid bB
  have HX0 := Lib.hid x0
  have HX1 := Lib.hid x1
  have HS := Lib.hid hS
  have HA := Lib.hid hA
  have HFr := Lib.hid hFr
  obtain ⟨i0, hi0, hz0, hz1, hz2⟩ := infoQ info4
  clear h bA bB x0 x1 hS hA hFr hF
  go_enter Tryz.func51, Tryz.ntmps51
  go_upto_region 3 with (at_make; refine wpList_make_full _ rfl _ _ 44 rfl W.heap.size 4 i0 _ 1 Tryz.underlying44 hi0 hz0 hz1 _ _ _ _ 1 rfl rfl rfl rfl (by rw [hz2]; omega) (by unfold maxLen; omega) (by simp; omega) ?_; intro w1 hown hgrow; go_frame)
  have hb1 : Below W.heap.size W w1 := HB.out.grown hgrow (by simp; omega) (fun j e => by cases e)
  have hx0 := (hgrow.block W.heap.size (by simp; omega) (by simp)).trans HX0.out
  have hx1 := (hgrow.block (W.heap.size + 1) (by simp) (by simp)).trans HX1.out
  have hgs : ((W.alloc (pko n e u r vD vA vG vB vR vP vS vL (.slice (some ⟨fb, fo, none⟩) 1 fc))).alloc (.cells #[.slice ap an ac] 44)).heap.size = W.heap.size + 2 := by simp
  obtain ⟨g, hg⟩ : ∃ g, g = ((W.alloc (pko n e u r vD vA vG vB vR vP vS vL (.slice (some ⟨fb, fo, none⟩) 1 fc))).alloc (.cells #[.slice ap an ac] 44)).heap.size := ⟨_, rfl⟩
  rw [← hg] at hown hgs
  rw [← hg]
  have hg0 : w1.cell? ⟨g, 0, none⟩ = some (.bool false) := by
    have := World.ownsRow.cellAt hown 0 (by omega)
    simp [madeCells] at this
    exact this
  have hgf := World.ownsRow.frozenAt hown 0
  have hgl : g < w1.heap.size := block_lt_of_cell hg0
  have p12 : w1.cell? ⟨W.heap.size, 12, none⟩ = some (.slice (some ⟨fb, fo, none⟩) 1 fc) := by simp [World.cell?, hx0]
  have hl0 : W.heap.size < w1.heap.size := (Array.getElem?_eq_some_iff.1 hx0).1
  have hgn : W.heap.size + 1 ≠ g := by omega
  have hgn2 : W.heap.size ≤ g := by omega
  have HX0' := Lib.hid hx0
  have HX1' := Lib.hid hx1
  have HB1 := Lib.hid hb1
  have HG : Hid (w1.cell? ⟨g, 0, none⟩ = some (.bool false) ∧ w1.frozen? ⟨g, 0, none⟩ = false ∧ g < w1.heap.size) := ⟨hg0, hgf, hgl⟩
  have hfb := HFr.out.lt
  have hfc0 := HFr.out.c0 0 (by simp)
  have hfc1 := HFr.out.c1 0 (by simp)
  simp at hfc0 hfc1
  have f0 := (hb1.cell (p := ⟨fb, fo, none⟩) hfb).trans hfc0
  have f1 := (hb1.cell (p := ⟨fb, fo + 1, none⟩) hfb).trans hfc1
  have hfl : fb < w1.heap.size := Nat.lt_of_lt_of_le hfb hb1.size
  clear hown hgrow hx0 hx1 hg hg0 hgf hgl HB HX0 HX1 hgs HFr hfc0 hfc1 hb1 hz0 hz1 hz2 hi0
  go_wp2_with fail
  go_loopw [20] (fun iv V => (iv = .int .i64 0 ∧ V = w1) ∨ (iv = .int .i64 1 ∧ Cy W g (cmy st L pa da o) V)) (fun iv _ => 1 - (intOf iv).toNat)
  case atStart => exact .inl ⟨rfl, rfl⟩
  case round =>
    rcases hrel with ⟨rfl, rfl⟩ | ⟨rfl, hY⟩
    · have bF := HB1.out.alloc HB1.out.size (.cells #[.string ⟨pa.toArray⟩, .string ⟨da.toArray⟩] 73)
      have cC := contains_st (HS.out.on bF)
      have hxF := nb0 wr (.cells #[.string ⟨pa.toArray⟩, .string ⟨da.toArray⟩] 73)
      have p10 : (wr.alloc (.cells #[.string ⟨pa.toArray⟩, .string ⟨da.toArray⟩] 73)).cell? ⟨W.heap.size, 10, none⟩ = some vS := by
        rw [World.cell?_of_block (w := wr) (Below.heap_alloc _ _ W.heap.size hl0)]
        simp [World.cell?, HX0'.out]
      have HBF := Lib.hid bF
      have HXF := Lib.hid hxF
      clear bF hxF
      go_wp2_with fail
      refine cC.mono ?_
      rintro x w2 ⟨rfl, hw⟩
      rw [hw]
      clear hw cC w2
      have bwF := (Below.refl wr.heap.size wr).alloc (Nat.le_refl _) (.cells #[.string ⟨pa.toArray⟩, .string ⟨da.toArray⟩] 73)
      have gc : (wr.alloc (.cells #[.string ⟨pa.toArray⟩, .string ⟨da.toArray⟩] 73)).cell? ⟨g, 0, none⟩ = some (.bool false) := (bwF.cell (p := ⟨g, 0, none⟩) HG.out.2.2).trans HG.out.1
      have gf : (wr.alloc (.cells #[.string ⟨pa.toArray⟩, .string ⟨da.toArray⟩] 73)).frozen? ⟨g, 0, none⟩ = false := (bwF.frozen (p := ⟨g, 0, none⟩) HG.out.2.2).trans HG.out.2.1
      have gl : g < (wr.alloc (.cells #[.string ⟨pa.toArray⟩, .string ⟨da.toArray⟩] 73)).heap.size := Nat.lt_of_lt_of_le HG.out.2.2 bwF.size
      have hx1F := (bwF.block _ (Array.getElem?_eq_some_iff.1 HX1'.out).1).trans HX1'.out
      have HXA := Lib.hid hx1F
      obtain ⟨bf, hbf⟩ : ∃ bf, bf = wr.heap.size := ⟨_, rfl⟩
      rw [← hbf] at HXF
      rw [← hbf]
      generalize wr.alloc (.cells #[.string ⟨pa.toArray⟩, .string ⟨da.toArray⟩] 73) = WF at HBF HXF gc gf gl HXA p10 ⊢
      clear bwF hx1F HX0' HX1' HB1 HG f0 f1 hfl p12 hl0 hbf
      cases st with
      | false =>
        have HC : Hid (Cy W g true (WF.setCell ⟨g, 0, none⟩ (.bool true))) := ⟨HBF.out.setCell (p := ⟨g, 0, none⟩) hgn2 _, by simpa using gl, World.cell?_setCell_same' _ _ _ (by rw [gc]; rfl)⟩
        clear HBF HXF HXA
        go_wp2_with fail
        exact ⟨.inr ⟨by go_num, HC.out⟩, by simp [intOf]⟩
      | true =>
        have LC : WF.drew.cell? ⟨bf, 0, none⟩ = some (.string ⟨pa.toArray⟩) := by show WF.cell? ⟨bf, 0, none⟩ = _; simp [World.cell?, HXF.out]
        have LD : WF.drew.cell? ⟨bf, 1, none⟩ = some (.string ⟨da.toArray⟩) := by show WF.cell? ⟨bf, 1, none⟩ = _; simp [World.cell?, HXF.out]
        have hbfl : bf < WF.drew.heap.size := block_lt_of_cell LC
        have bD := (Below.refl WF.heap.size WF).drew
        have hJF := (HJ.out.up HBF.out).up bD
        have cT1 := text_any hJF ([99, 47] ++ pa) (by simp; omega)
        have HJF := Lib.hid hJF
        clear hJF
        go_wp2_with fail
        refine wp_region_held (S := fun V => V.cell? ⟨bf, 0, none⟩ = some (.string ⟨pa.toArray⟩)) (by kernel_rfl) ?_
        refine take_d (some 30) (i := 0) (v := .pointer (some ⟨s, 0, none⟩)) rfl rfl (by as_aux_lemma => kernel_rfl) (by as_aux_lemma => kernel_rfl) (by as_aux_lemma => kernel_rfl) (fun _ _ _ h => h) (.inl ⟨by kernel_rfl, fun w' _ => by simp [go_sem]⟩) LC ?_
        refine take_d (some 31) (i := 1) (v := .pointer (some ⟨bf, 0, none⟩)) rfl rfl (by as_aux_lemma => kernel_rfl) (by as_aux_lemma => kernel_rfl) (by as_aux_lemma => kernel_rfl) (fun _ _ _ h => h) (.inl ⟨by kernel_rfl, fun w' _ => by simp [go_sem]⟩) LC ?_
        refine take_d (some 32) (i := 2) (v := .string ⟨pa.toArray⟩) rfl rfl (by as_aux_lemma => kernel_rfl) (by as_aux_lemma => kernel_rfl) (by as_aux_lemma => kernel_rfl) (fun _ _ _ h => h) (.inl ⟨by kernel_rfl, fun w' hw => by simp [go_sem, hw]⟩) LC ?_
        refine take_d (some 33) (i := 3) (v := .string ⟨([99, 47] ++ pa).toArray⟩) rfl rfl (by as_aux_lemma => kernel_rfl) (by as_aux_lemma => kernel_rfl) (by as_aux_lemma => kernel_rfl) (fun _ _ _ h => h) (.inl ⟨by kernel_rfl, fun w' _ => by simp [go_sem]; rw [if_neg (by omega), show (⟨#[99, 47]⟩ : ByteArray) = ⟨[99, 47].toArray⟩ from rfl, cat2]; simp⟩) LC ?_
        refine take_d (some 35) (i := 5) (v := .pointer (some ⟨s, 0, none⟩)) rfl rfl (by as_aux_lemma => kernel_rfl) (by as_aux_lemma => kernel_rfl) (by as_aux_lemma => kernel_rfl) (fun _ _ _ h => h) (.inl ⟨by kernel_rfl, fun w' _ => by simp [go_sem]⟩) LC ?_
        refine take_d (some 36) (i := 6) (v := .pointer (some ⟨bf, 0, none⟩)) rfl rfl (by as_aux_lemma => kernel_rfl) (by as_aux_lemma => kernel_rfl) (by as_aux_lemma => kernel_rfl) (fun _ _ _ h => h) (.inl ⟨by kernel_rfl, fun w' _ => by simp [go_sem]⟩) LC ?_
        refine take_d (some 37) (i := 7) (v := .string ⟨pa.toArray⟩) rfl rfl (by as_aux_lemma => kernel_rfl) (by as_aux_lemma => kernel_rfl) (by as_aux_lemma => kernel_rfl) (fun _ _ _ h => h) (.inl ⟨by kernel_rfl, fun w' hw => by simp [go_sem, hw]⟩) LC ?_
        refine take_d (some 38) (i := 8) (v := .string ⟨([100, 47] ++ pa).toArray⟩) rfl rfl (by as_aux_lemma => kernel_rfl) (by as_aux_lemma => kernel_rfl) (by as_aux_lemma => kernel_rfl) (fun _ _ _ h => h) (.inl ⟨by kernel_rfl, fun w' _ => by simp [go_sem]; rw [if_neg (by omega), show (⟨#[100, 47]⟩ : ByteArray) = ⟨[100, 47].toArray⟩ from rfl, cat2]; simp⟩) LC ?_
        refine take_d (some 40) (i := 10) (v := .pointer (some ⟨bf, 1, none⟩)) rfl rfl (by as_aux_lemma => kernel_rfl) (by as_aux_lemma => kernel_rfl) (by as_aux_lemma => kernel_rfl) (fun _ _ _ h => h) (.inl ⟨by kernel_rfl, fun w' _ => by simp [go_sem]⟩) LC ?_
        try simp only [Act.put, List.setIfInBounds_toArray, List.set_cons_succ, List.set_cons_zero]
        refine wpAnyH_all (rs := [4]) (by as_aux_lemma => kernel_rfl) (by simp) fun j hj => ?_
        obtain rfl : j = 4 := by simpa using hj
        refine wpOp_want rfl (by kernel_rfl) ?_
        unfold Oper.wp
        simp [go_sem]
        refine cT1.mono ?_
        rintro z W3 ⟨v3, rfl, hT3, b3⟩
        replace LC : W3.cell? ⟨bf, 0, none⟩ = some (.string ⟨pa.toArray⟩) := (b3.cell (p := ⟨bf, 0, none⟩) hbfl).trans LC
        replace LD : W3.cell? ⟨bf, 1, none⟩ = some (.string ⟨da.toArray⟩) := (b3.cell (p := ⟨bf, 1, none⟩) hbfl).trans LD
        have hbfl3 : bf < W3.heap.size := block_lt_of_cell LC
        have cT2 := text_any (HJF.out.up b3) ([100, 47] ++ pa) (by simp; omega)
        refine ⟨LC, ?_⟩
        try simp only [Act.put, List.setIfInBounds_toArray, List.set_cons_succ, List.set_cons_zero]
        refine wpAnyH_all (rs := [9]) (by as_aux_lemma => kernel_rfl) (by simp) fun j hj => ?_
        obtain rfl : j = 9 := by simpa using hj
        refine wpOp_want rfl (by kernel_rfl) ?_
        unfold Oper.wp
        simp [go_sem]
        refine cT2.mono ?_
        rintro z W4 ⟨v4, rfl, hT4, b4⟩
        replace LC : W4.cell? ⟨bf, 0, none⟩ = some (.string ⟨pa.toArray⟩) := (b4.cell (p := ⟨bf, 0, none⟩) hbfl3).trans LC
        replace LD : W4.cell? ⟨bf, 1, none⟩ = some (.string ⟨da.toArray⟩) := (b4.cell (p := ⟨bf, 1, none⟩) hbfl3).trans LD
        have cH := Cho.choice_any v3 v4 (.pointer (some ⟨bf, 1, none⟩)) _ _ (some (ba da)) W4 (tp_ba (hT3.on b4)) (tp_ba hT4) ⟨.inr ⟨⟨bf, 1, none⟩, ba da, rfl, rfl, LD⟩⟩
        refine ⟨LC, ?_⟩
        try simp only [Act.put, List.setIfInBounds_toArray, List.set_cons_succ, List.set_cons_zero]
        refine wpAnyH_all (rs := [11]) (by as_aux_lemma => kernel_rfl) (by simp) fun j hj => ?_
        obtain rfl : j = 11 := by simpa using hj
        refine wpOp_want rfl (by kernel_rfl) ?_
        unfold Oper.wp
        simp [go_sem]
        refine cH.mono ?_
        rintro z W5 ⟨rfl, b5⟩
        have hbl5 : bf < W4.heap.size := block_lt_of_cell LC
        replace LC : W5.cell? ⟨bf, 0, none⟩ = some (.string ⟨pa.toArray⟩) := (b5.cell (p := ⟨bf, 0, none⟩) hbl5).trans LC
        refine ⟨LC, ?_⟩
        have hch : Cho.cho (((lkL ([99, 47] ++ pa) L).map Ent.now).map ba) (((lkL ([100, 47] ++ pa) L).map Ent.now).map ba) (some (ba da)) = chl L pa da := rfl
        rw [hch]
        have hor : chl L pa da = 0 ∨ chl L pa da = 1 ∨ chl L pa da = 2 := cho_or _ _ _
        have hcm : cmy true L pa da o = (decide (chl L pa da = 0) || (decide (chl L pa da = 2) && o.getD false)) := rfl
        generalize chl L pa da = c at hor hcm ⊢
        refine take_d (some 11) (i := 12) (v := .int .i64 c) rfl rfl (by as_aux_lemma => kernel_rfl) (by as_aux_lemma => kernel_rfl) (by as_aux_lemma => kernel_rfl) (fun _ _ _ h => h) (.inl ⟨by kernel_rfl, fun w' _ => by simp [go_sem]⟩) LC ?_
        try simp only [Act.put, List.setIfInBounds_toArray, List.set_cons_succ, List.set_cons_zero]
        refine wpAnyH_done (by as_aux_lemma => kernel_rfl) ?_ _
        have bF5 : Below WF.heap.size WF W5 := ((bD.trans (b3.mono bD.size)).trans (b4.mono (Nat.le_trans bD.size b3.size))).trans (b5.mono (Nat.le_trans (Nat.le_trans bD.size b3.size) b4.size))
        have gc5 := (bF5.cell (p := ⟨g, 0, none⟩) gl).trans gc
        have gf5 := (bF5.frozen (p := ⟨g, 0, none⟩) gl).trans gf
        have gl5 : g < W5.heap.size := Nat.lt_of_lt_of_le gl bF5.size
        have hxA5 := (bF5.block _ (Array.getElem?_eq_some_iff.1 HXA.out).1).trans HXA.out
        have hB5 := HBF.out.trans (bF5.mono HBF.out.size)
        have HCM := Lib.hid hcm
        have HB5 := Lib.hid hB5
        have HXA5 := Lib.hid hxA5
        have HA5 := Lib.hid (HA.out.on hB5)
        clear LC LD hbfl hbfl3 hbl5 bD cT1 HJF cT2 cH hT3 hT4 b3 b4 b5 hch hcm bF5 hxA5 hB5 gc gf gl HXA HXF HBF p10 HA
        rcases hor with rfl | rfl | rfl
        · have HC : Hid (Cy W g (cmy true L pa da o) (W5.setCell ⟨g, 0, none⟩ (.bool true))) := by rw [show cmy true L pa da o = true by rw [HCM.out]; simp]; exact ⟨HB5.out.setCell (p := ⟨g, 0, none⟩) hgn2 _, by simpa using gl5, World.cell?_setCell_same' _ _ _ (by rw [gc5]; rfl)⟩
          clear HB5 HXA5 HCM
          go_wp2_with fail
          exact ⟨.inr ⟨by go_num, HC.out⟩, by simp [intOf]⟩
        · have HC : Hid (Cy W g (cmy true L pa da o) (W5.setCell ⟨g, 0, none⟩ (.bool false))) := by rw [show cmy true L pa da o = false by rw [HCM.out]; simp]; exact ⟨HB5.out.setCell (p := ⟨g, 0, none⟩) hgn2 _, by simpa using gl5, World.cell?_setCell_same' _ _ _ (by rw [gc5]; rfl)⟩
          clear HB5 HXA5 HCM
          go_wp2_with fail
          exact ⟨.inr ⟨by go_num, HC.out⟩, by simp [intOf]⟩
        · have cN := next_any (W.heap.size + 1) (.slice ap an ac) o W5 HA5.out HXA5.out
          go_wp2_with fail
          refine cN.mono ?_
          rintro z W6 ⟨rfl, hw⟩
          have h6 : Below W.heap.size W W6 ∧ W6.cell? ⟨g, 0, none⟩ = some (.bool false) ∧ W6.frozen? ⟨g, 0, none⟩ = false ∧ g < W6.heap.size := by
            rcases hw with rfl | ⟨v, rfl⟩
            · exact ⟨HB5.out, gc5, gf5, gl5⟩
            · have hk := Below.heap_setCell W5 ⟨W.heap.size + 1, 0, none⟩ v g (by simpa using hgn.symm)
              exact ⟨HB5.out.setCell (p := ⟨W.heap.size + 1, 0, none⟩) (Nat.le_succ _) _, (World.cell?_of_block hk).trans gc5, (World.frozen?_of_block hk).trans gf5, by simpa using gl5⟩
          obtain ⟨b6, gc6, gf6, gl6⟩ := h6
          have HC : Hid (Cy W g (cmy true L pa da o) (W6.setCell ⟨g, 0, none⟩ (.bool (o.getD false)))) := by rw [show cmy true L pa da o = o.getD false by rw [HCM.out]; simp]; exact ⟨b6.setCell (p := ⟨g, 0, none⟩) hgn2 _, by simpa using gl6, World.cell?_setCell_same' _ _ _ (by rw [gc6]; rfl)⟩
          clear HB5 HXA5 HCM cN hw b6 gc5 gf5 gl5 HA5
          generalize o.getD false = yy at HC ⊢
          go_wp2_with fail
          exact ⟨.inr ⟨by go_num, HC.out⟩, by simp [intOf]⟩
    · have HY := Lib.hid hY
      clear hY
      go_wp2
      go_ret
      exact ⟨g, rfl, hgn2, HY.out⟩
end
end Go.Proofs.YtppogjjhippefaaGreatDoor.Dsk
