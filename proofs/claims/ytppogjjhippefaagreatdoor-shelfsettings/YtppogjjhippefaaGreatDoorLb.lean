/- The law ShelfSettings: a round's package. -/
import Derived.Test.YtppogjjhippefaaGreatDoorSx
import Derived.Deep.CutRange
import Derived.Deep.CutBlock
namespace Go.Proofs.YtppogjjhippefaaGreatDoor.Dsk
open Go.RowKit Go.Sort Go.Maps

/-- What a number picks. -/
def pkf (x y : Int) : Int := if 0 ≤ x then x % y else (IntKind.u64.wrap x).tmod y
set_option maxRecDepth 100000 in
theorem pick_fn (x y : Int) (w : World) (hx : -9223372036854775808 ≤ x) (hx' : x ≤ 9223372036854775807) (hy : 0 < y) (hy' : y ≤ 9223372036854775807) : Calls Tryz.prog 26 #[.int .i64 x, .int .i64 y] w fun e w' => e = .returned (.int .i64 (pkf x y)) ∧ w' = w := by
  have e2 : ∀ z : Int, wrap64 (z % y) = z % y := fun z => by
    have h1 := Int.emod_nonneg z (show y ≠ 0 by omega)
    have h2 := Int.emod_lt_of_pos z hy
    unfold wrap64
    omega
  by_cases h0 : 0 ≤ x
  · have e1 := e2 x
    have hp : pkf x y = x % y := if_pos h0
    rw [hp]
    clear hp
    go_enter Tryz.func26, Tryz.ntmps26
    go_wp2
    go_ret
    exact ⟨by simp [e1], rfl⟩
  · have hw : 0 ≤ IntKind.u64.wrap x := by unfold IntKind.wrap; simp [IntKind.signed, IntKind.bits]; omega
    have h1 := Int.tmod_nonneg y hw
    have h2 := Int.tmod_lt_of_pos (IntKind.u64.wrap x) hy
    have e1 : wrap64 ((IntKind.u64.wrap x).tmod y) = (IntKind.u64.wrap x).tmod y := by unfold wrap64; omega
    have hp : pkf x y = (IntKind.u64.wrap x).tmod y := if_neg h0
    rw [hp]
    clear h1 h2 hw hp
    go_enter Tryz.func26, Tryz.ntmps26
    go_wp2
    go_ret
    exact ⟨by simp, rfl⟩
theorem SJ.base {w w1 V : World} {s d lo hi : Nat} {L : Kv Ent} (h : SJ w1 s d L lo hi V) (hb : Below w.heap.size w w1) : SJ w s d L lo hi V := by
  obtain ⟨mb, hX⟩ := h
  have hs := hb.size
  exact ⟨mb, hb.trans (hX.bl.mono hs), hX.blk, hX.pd, hX.sp, fun k hk => Nat.le_trans hs (hX.hx k hk), hX.hz, hX.hs⟩
theorem SJ.free {w V : World} {s d lo hi : Nat} {L : Kv Ent} (h : SJ w s d L lo hi V) : SJ w s d L 0 0 V := by
  obtain ⟨mb, hX⟩ := h
  exact ⟨mb, hX.bl, hX.blk, hX.pd, hX.sp, hX.hx, fun k _ => .inr (Nat.zero_le _), Nat.zero_le _⟩
theorem pk_all (Z : World) (b : Nat) (h : Z.heap[b]? = some (.cells #[.string ⟨#[]⟩, .int .i64 0, .string ⟨#[]⟩, .string ⟨#[]⟩, .slice none 0 0, .slice none 0 0, .slice none 0 0, .slice none 0 0, .slice none 0 0, .slice none 0 0, .slice none 0 0, .slice none 0 0, .slice none 0 0] 43 (0, 0))) (v0 v1 v2 v3 v4 v5 v6 v7 v8 v9 v10 v11 v12 : Value) : (∀ k, k ≠ b → ((((((((((((((Z.setCell ⟨b, 0, none⟩ (v0)).setCell ⟨b, 1, none⟩ (v1)).setCell ⟨b, 2, none⟩ (v2)).setCell ⟨b, 3, none⟩ (v3)).setCell ⟨b, 4, none⟩ (v4)).setCell ⟨b, 5, none⟩ (v5)).setCell ⟨b, 6, none⟩ (v6)).setCell ⟨b, 7, none⟩ (v7)).setCell ⟨b, 8, none⟩ (v8)).setCell ⟨b, 9, none⟩ (v9)).setCell ⟨b, 10, none⟩ (v10)).setCell ⟨b, 11, none⟩ (v11)).setCell ⟨b, 12, none⟩ (v12))).heap[k]? = Z.heap[k]?) ∧ ((((((((((((((Z.setCell ⟨b, 0, none⟩ (v0)).setCell ⟨b, 1, none⟩ (v1)).setCell ⟨b, 2, none⟩ (v2)).setCell ⟨b, 3, none⟩ (v3)).setCell ⟨b, 4, none⟩ (v4)).setCell ⟨b, 5, none⟩ (v5)).setCell ⟨b, 6, none⟩ (v6)).setCell ⟨b, 7, none⟩ (v7)).setCell ⟨b, 8, none⟩ (v8)).setCell ⟨b, 9, none⟩ (v9)).setCell ⟨b, 10, none⟩ (v10)).setCell ⟨b, 11, none⟩ (v11)).setCell ⟨b, 12, none⟩ (v12))).heap[b]? = some (.cells #[v0, v1, v2, v3, v4, v5, v6, v7, v8, v9, v10, v11, v12] 43 (0, 0)) ∧ ∀ B (A : World), Below B A Z → B ≤ b → Below B A ((((((((((((((Z.setCell ⟨b, 0, none⟩ (v0)).setCell ⟨b, 1, none⟩ (v1)).setCell ⟨b, 2, none⟩ (v2)).setCell ⟨b, 3, none⟩ (v3)).setCell ⟨b, 4, none⟩ (v4)).setCell ⟨b, 5, none⟩ (v5)).setCell ⟨b, 6, none⟩ (v6)).setCell ⟨b, 7, none⟩ (v7)).setCell ⟨b, 8, none⟩ (v8)).setCell ⟨b, 9, none⟩ (v9)).setCell ⟨b, 10, none⟩ (v10)).setCell ⟨b, 11, none⟩ (v11)).setCell ⟨b, 12, none⟩ (v12))) := by
  refine ⟨fun k hk => ?_, ?_, fun B A hb hB => ?_⟩
  · iterate 13 rw [Below.heap_setCell _ ⟨b, _, none⟩ _ k hk]
  · have hh := (heap_set (i := 12) (u := v12) (heap_set (i := 11) (u := v11) (heap_set (i := 10) (u := v10) (heap_set (i := 9) (u := v9) (heap_set (i := 8) (u := v8) (heap_set (i := 7) (u := v7) (heap_set (i := 6) (u := v6) (heap_set (i := 5) (u := v5) (heap_set (i := 4) (u := v4) (heap_set (i := 3) (u := v3) (heap_set (i := 2) (u := v2) (heap_set (i := 1) (u := v1) (heap_set (i := 0) (u := v0) h)))))))))))))
    simpa using hh
  · exact (Below.setCell (Below.setCell (Below.setCell (Below.setCell (Below.setCell (Below.setCell (Below.setCell (Below.setCell (Below.setCell (Below.setCell (Below.setCell (Below.setCell (Below.setCell hb (p := ⟨b, 0, none⟩) hB v0) (p := ⟨b, 1, none⟩) hB v1) (p := ⟨b, 2, none⟩) hB v2) (p := ⟨b, 3, none⟩) hB v3) (p := ⟨b, 4, none⟩) hB v4) (p := ⟨b, 5, none⟩) hB v5) (p := ⟨b, 6, none⟩) hB v6) (p := ⟨b, 7, none⟩) hB v7) (p := ⟨b, 8, none⟩) hB v8) (p := ⟨b, 9, none⟩) hB v9) (p := ⟨b, 10, none⟩) hB v10) (p := ⟨b, 11, none⟩) hB v11) (p := ⟨b, 12, none⟩) hB v12)
/-- How all stands between two rounds. -/
structure LS (W : World) (s d : Nat) (pa : List UInt8) (pk : Int) (k : Nat) (ch : Bool) (nw : List UInt8) (V : World) : Prop where
  pk : ch = true → pk < k
  is : (k = 0 ∧ ch = false ∧ SJ W s d [] 0 0 V) ∨ ∃ C, SJ W s d (st3 pa nw C) 0 0 V ∧ (ch = false → C = nw) ∧ (ch = true → C ≠ nw) ∧ nw.length ≤ 100 ∧ C.length ≤ 100
theorem LS.bl {W : World} {s d : Nat} {pa : List UInt8} {pk : Int} {k : Nat} {ch : Bool} {nw : List UInt8} {V : World} (h : LS W s d pa pk k ch nw V) : Below W.heap.size W V := by
  rcases h.is with ⟨_, _, h1⟩ | ⟨C, h1, _⟩
  · exact h1.bl
  · exact h1.bl
theorem ls_step {W : World} {s d : Nat} {pa : List UInt8} {pk : Int} {k : Nat} {ch : Bool} {nw : List UInt8} {V : World} (h : LS W s d pa pk k ch nw V) (t : List UInt8) (y : Bool) (hpa : pa.length ≤ 1000) (ht : t.length ≤ 100) :
    ∃ L q D, SJ W s d L 0 0 V ∧ Ow L aa q ∧ ptL L aa pa t true (some y) = st3 pa D t ∧ tot nl L ≤ 40000 ∧ L.length ≤ 400 ∧ D.length ≤ 100 ∧ (ch = false → D = t) ∧ (ch = true → y = false → D = nw) := by
  rcases h.is with ⟨_, h1, h2⟩ | ⟨C, h1, h2, h3, h4, h5⟩
  · exact ⟨[], none, t, h2, ow_nil aa (by decide), ptL_new pa t (some y), by decide, by decide, ht, fun _ => rfl, fun h => by rw [h1] at h; cases h⟩
  · have hs := step3 pa nw C t y
    refine ⟨st3 pa nw C, some pa, _, h1, ow_3 pa nw C hpa, ptL_again pa nw C t (some y), by rw [tot3]; omega, by show 3 ≤ 400; omega, ?_, fun h => hs.1 (h2 h), fun h hy => hs.2 (h3 h) hy⟩
    split <;> omega
/-- Four blocks were laid, in whatever order. -/
structure TF (wr : World) (db x : Nat) (pa t : List UInt8) (Z : World) (b2 b9 b11 : Nat) : Prop where
  lc : Z.cell? ⟨db, x, none⟩ = some (.string ⟨t.toArray⟩)
  bz : Below wr.heap.size wr Z
  n2 : Z.heap[b2]? = some (.cells #[.string ⟨pa.toArray⟩] 9 (0, 0))
  n9 : Z.heap[b9]? = some (.cells #[.string ⟨pa.toArray⟩, .string ⟨t.toArray⟩] 73 (0, 0))
  n11 : Z.heap[b11]? = some (.cells #[.string ⟨#[]⟩, .int .i64 0, .string ⟨#[]⟩, .string ⟨#[]⟩, .slice none 0 0, .slice none 0 0, .slice none 0 0, .slice none 0 0, .slice none 0 0, .slice none 0 0, .slice none 0 0, .slice none 0 0, .slice none 0 0] 43 (0, 0))
  h2 : wr.heap.size ≤ b2
  h9 : wr.heap.size ≤ b9
  h11 : wr.heap.size ≤ b11
theorem suf_tail {F P : World → Nat → Nat → Nat → Prop} {G : Prop} (main : (∀ Z a b c, F Z a b c → P Z a b c) → G) (tl : ∀ Z a b c, F Z a b c → P Z a b c) : G := main tl
theorem wpAnyH_cast {P : Program} {md : Region.Mode} {ops : Array Oper} {Q : Exit → Act → World → Prop} {S : World → Prop} {f : Nat} {l1 l2 : Array Bool} {a : Act} {w : World} (h : l1 = l2) (k : wpAnyH P md ops Q S f l2 a w) : wpAnyH P md ops Q S f l1 a w := h ▸ k
/-- A package that lies there. -/
structure PX (B : Nat) (V : World) (bp bS bF : Nat) (pa t : List UInt8) : Prop where
  p : V.heap[bp]? = some (pko aa 0 [49] [] (.slice none 0 0) (.slice none 0 0) (.slice none 0 0) (.slice none 0 0) (.slice none 0 0) (.slice none 0 0) (.slice (some ⟨bS, 0, none⟩) 1 1) (.slice none 0 0) (.slice (some ⟨bF, 0, none⟩) 1 1))
  s : V.heap[bS]? = some (.cells #[.string ⟨pa.toArray⟩] 9 (0, 0))
  f : V.heap[bF]? = some (.cells #[.string ⟨pa.toArray⟩, .string ⟨t.toArray⟩] 73 (0, 0))
  bS : B ≤ bS
  bF : B ≤ bF
set_option maxHeartbeats 16000000 in
set_option maxRecDepth 100000 in
theorem settings_row (pa : List UInt8) (vd : Value) (ds : List (List UInt8)) (mine : List UInt8) (at_ : Int) (yes : Bool) (W : World) (hd : Ss W vd ds) (hT : Tab W) (hM : MaxN W) (hpa : pa.length ≤ 60) (hds : ds.length ≤ 12) (hmi : mine.length ≤ 100) (ha : -9223372036854775808 ≤ at_) (ha' : at_ ≤ 9223372036854775807) : Calls Tryz.prog 5 #[.string ⟨pa.toArray⟩, vd, .string ⟨mine.toArray⟩, .int .i64 at_, .bool yes] W fun x W2 => x = .returned (.bool true) ∧ Below W.heap.size W W2 := by
  obtain ⟨dp, dc, rfl, hds2⟩ : ∃ dp dc, vd = .slice dp ds.length dc ∧ (ds = [] ∨ ∃ b o, dp = some ⟨b, o, none⟩ ∧ Sr W b o ds) := by
    rcases hd.is with ⟨h, A, c, h1⟩ | ⟨b, o, c, h1, _, h3⟩
    · rw [h]; exact ⟨_, _, h1, .inl rfl⟩
    · exact ⟨_, _, h1, .inr ⟨b, o, rfl, h3⟩⟩
  have HD := Lib.hid hds2
  have HT := Lib.hid hT
  have HM := Lib.hid hM
  have cS := shelved_any W hT hM
  clear hd hds2 hT hM
  go_enter Tryz.func5, Tryz.ntmps5
  go_wp2_with fail
  refine cS.mono ?_
  rintro x W1 ⟨rfl, b1⟩
  have cO := over_any W1
  clear cS
  go_wp2_with fail
  refine cO.mono ?_
  rintro x W2 ⟨s, rfl, hJ⟩
  have HJ := Lib.hid (hJ.base b1)
  have cP := path_any pa W2 (HM.out.on HJ.out.bl)
  have HB2 := Lib.hid HJ.out.bl
  obtain ⟨d, hd⟩ : ∃ d, d = W1.heap.size := ⟨_, rfl⟩
  rw [← hd] at HJ
  clear cO hJ b1 hd
  cases hp : pth pa with
  | false =>
    rw [hp] at cP
    clear hp
    go_wp2_with fail
    refine cP.mono ?_
    rintro x W3 ⟨rfl, hw⟩
    rw [hw]
    clear hw cP W3
    go_wp2
    go_ret
    exact ⟨rfl, HB2.out⟩
  | true =>
    rw [hp] at cP
    have HPT := Lib.hid hp
    have hpa1 : 1 ≤ pa.length := by
      have h := hp
      unfold pth at h
      simp only [Bool.and_eq_true, decide_eq_true_eq] at h
      omega
    clear hp
    go_wp2_with fail
    refine cP.mono ?_
    rintro x W3 ⟨rfl, hw⟩
    rw [hw]
    clear hw cP W3 HB2
    go_wp2_with fail
    go_loopw [13, 14, 15] (fun cv nv iv V => ∃ (k : Nat) (ch : Bool) (nw : List UInt8), k ≤ ds.length ∧ cv = .bool ch ∧ nv = .string ⟨nw.toArray⟩ ∧ iv = .int .i64 k ∧ LS W s d pa (pkf at_ 12) k ch nw V) (fun _ _ iv _ => ds.length - (intOf iv).toNat)
    case atStart => exact ⟨0, false, [], Nat.zero_le _, rfl, rfl, rfl, ⟨fun h => (by cases h), .inl ⟨rfl, rfl, HJ.out⟩⟩⟩
    case round =>
      obtain ⟨k, ch, nw, hk, rfl, rfl, rfl, hLS⟩ := hrel
      by_cases hlt : k < ds.length
      · obtain ⟨db, d0, rfl, hSr⟩ : ∃ db d0, dp = some ⟨db, d0, none⟩ ∧ Sr W db d0 ds := by
          rcases HD.out with h | h
          · rw [h] at hlt; simp at hlt
          · exact h
        have hc := (hLS.bl.cell (p := ⟨db, d0 + k, none⟩) hSr.lt).trans (hSr.c k hlt)
        have hdl : db < wr.heap.size := Nat.lt_of_lt_of_le hSr.lt hLS.bl.size
        generalize ds[k] = t at hc
        have HL := Lib.hid hLS
        have hSrW : db < W.heap.size ∧ W.cell? ⟨db, d0 + k, none⟩ = some (.string ⟨t.toArray⟩) := ⟨hSr.lt, by rw [← hc]; exact (hLS.bl.cell (p := ⟨db, d0 + k, none⟩) hSr.lt).symm⟩
        clear hLS hSr HJ
        by_cases htl : t.length ≤ 100
        · go_upto_region 15 with fail
          go_cut [16] from 53 to 152 (fun bv V => ∃ bp bS bF, bv = .pointer (some ⟨bp, 0, none⟩) ∧ Below wr.heap.size wr V ∧ PX wr.heap.size V bp bS bF pa t)
          case first =>
            have LC : wr.drew.cell? ⟨db, d0 + k, none⟩ = some (.string ⟨t.toArray⟩) := hc
            have bZ : Below wr.heap.size wr wr.drew := (Below.refl wr.heap.size wr).drew
            have hWr := HL.out.bl
            go_wp2_with fail
            refine wp_region_held (S := fun V => V.cell? ⟨db, d0 + k, none⟩ = some (.string ⟨t.toArray⟩)) (by kernel_rfl) ?_
            refine take_d (some 66) (i := 1) (v := .string ⟨pa.toArray⟩) rfl rfl (by as_aux_lemma => kernel_rfl) (by as_aux_lemma => kernel_rfl) (by as_aux_lemma => kernel_rfl) (fun _ _ _ h => h) (.inl ⟨by kernel_rfl, fun w' _ => by simp [go_sem]⟩) LC ?_
            refine take_d (some 68) (i := 3) (v := .string ⟨pa.toArray⟩) rfl rfl (by as_aux_lemma => kernel_rfl) (by as_aux_lemma => kernel_rfl) (by as_aux_lemma => kernel_rfl) (fun _ _ _ h => h) (.inl ⟨by kernel_rfl, fun w' _ => by simp [go_sem]⟩) LC ?_
            refine take_d (some 69) (i := 4) (v := .slice (some ⟨db, d0, none⟩) ds.length dc) rfl rfl (by as_aux_lemma => kernel_rfl) (by as_aux_lemma => kernel_rfl) (by as_aux_lemma => kernel_rfl) (fun _ _ _ h => h) (.inl ⟨by kernel_rfl, fun w' _ => by simp [go_sem]⟩) LC ?_
            refine take_d (some 70) (i := 5) (v := .int .i64 k) rfl rfl (by as_aux_lemma => kernel_rfl) (by as_aux_lemma => kernel_rfl) (by as_aux_lemma => kernel_rfl) (fun _ _ _ h => h) (.inl ⟨by kernel_rfl, fun w' _ => by simp [go_sem]⟩) LC ?_
            refine take_d (some 71) (i := 6) (v := .pointer (some ⟨db, d0 + k, none⟩)) rfl rfl (by as_aux_lemma => kernel_rfl) (by as_aux_lemma => kernel_rfl) (by as_aux_lemma => kernel_rfl) (fun _ _ _ h => h) (.inl ⟨by kernel_rfl, fun w' _ => by simp [go_sem, hlt]⟩) LC ?_
            refine take_d (some 72) (i := 7) (v := .string ⟨t.toArray⟩) rfl rfl (by as_aux_lemma => kernel_rfl) (by as_aux_lemma => kernel_rfl) (by as_aux_lemma => kernel_rfl) (fun _ _ _ h => h) (.inl ⟨by kernel_rfl, fun w' hw => by simp [go_sem, hw]⟩) LC ?_
            refine take_d (some 73) (i := 8) (v := .agg #[.string ⟨pa.toArray⟩, .string ⟨t.toArray⟩]) rfl rfl (by as_aux_lemma => kernel_rfl) (by as_aux_lemma => kernel_rfl) (by as_aux_lemma => kernel_rfl) (fun _ _ _ h => h) (.inl ⟨by kernel_rfl, fun w' _ => by simp [go_sem]⟩) LC ?_
            rw [show ({ heap := wr.heap, tape := wr.tape, drawn := wr.drawn + 1, os := wr.os, output := wr.output } : World) = wr.drew from rfl]
            generalize wr.drew = Z0 at LC bZ ⊢
            apply suf_tail (F := TF wr db (d0 + k) pa t)
            · intro tail
              try simp only [Act.put, List.setIfInBounds_toArray, List.set_cons_succ, List.set_cons_zero]
              refine wpAnyH_all (rs := [0, 2, 9, 11]) (by as_aux_lemma => kernel_rfl) (by simp) fun j hj => ?_
              have hj : j = 0 ∨ j = 2 ∨ j = 9 ∨ j = 11 := by simpa using hj
              rcases hj with rfl | rfl | rfl | rfl
              · have cV := read1_any Z0 (tab_on HT.out (hWr.trans (bZ.mono hWr.size)))
                refine wpOp_want rfl (by kernel_rfl) ?_
                unfold Oper.wp
                simp [go_sem]
                refine cV.mono ?_
                rintro z Z1 ⟨rfl, bz⟩
                clear cV
                replace LC : Z1.cell? ⟨db, d0 + k, none⟩ = some (.string ⟨t.toArray⟩) := (bz.cell (p := ⟨db, d0 + k, none⟩) (block_lt_of_cell LC)).trans LC
                replace bZ := bZ.trans (bz.mono bZ.size)
                clear bz
                refine ⟨LC, ?_⟩
                try simp only [Act.put, List.setIfInBounds_toArray, List.set_cons_succ, List.set_cons_zero]
                refine wpAnyH_all (rs := [2, 9, 11]) (by as_aux_lemma => kernel_rfl) (by simp) fun j hj => ?_
                have hj : j = 2 ∨ j = 9 ∨ j = 11 := by simpa using hj
                rcases hj with rfl | rfl | rfl
                · refine wpOp_want rfl (by kernel_rfl) ?_
                  unfold Oper.wp
                  simp [go_sem]
                  have bz := (Below.refl Z1.heap.size Z1).alloc (Nat.le_refl _) (.cells #[.string ⟨pa.toArray⟩] 9)
                  have hn2 := nb0 Z1 (.cells #[.string ⟨pa.toArray⟩] 9)
                  have hb2 := bZ.size
                  obtain ⟨b2, hb2e⟩ : ∃ b2, b2 = Z1.heap.size := ⟨_, rfl⟩
                  rw [← hb2e] at hn2 hb2
                  rw [← hb2e]
                  generalize Z1.alloc (.cells #[.string ⟨pa.toArray⟩] 9) = Z2 at bz hn2 ⊢
                  replace LC : Z2.cell? ⟨db, d0 + k, none⟩ = some (.string ⟨t.toArray⟩) := (bz.cell (p := ⟨db, d0 + k, none⟩) (block_lt_of_cell LC)).trans LC
                  replace bZ := bZ.trans (bz.mono bZ.size)
                  clear bz
                  refine ⟨LC, ?_⟩
                  try simp only [Act.put, List.setIfInBounds_toArray, List.set_cons_succ, List.set_cons_zero]
                  refine wpAnyH_all (rs := [9, 11]) (by as_aux_lemma => kernel_rfl) (by simp) fun j hj => ?_
                  have hj : j = 9 ∨ j = 11 := by simpa using hj
                  rcases hj with rfl | rfl
                  · refine wpOp_want rfl (by kernel_rfl) ?_
                    unfold Oper.wp
                    simp [go_sem]
                    have bz := (Below.refl Z2.heap.size Z2).alloc (Nat.le_refl _) (.cells #[.string ⟨pa.toArray⟩, .string ⟨t.toArray⟩] 73)
                    have hn9 := nb0 Z2 (.cells #[.string ⟨pa.toArray⟩, .string ⟨t.toArray⟩] 73)
                    have hb9 := bZ.size
                    obtain ⟨b9, hb9e⟩ : ∃ b9, b9 = Z2.heap.size := ⟨_, rfl⟩
                    rw [← hb9e] at hn9 hb9
                    rw [← hb9e]
                    generalize Z2.alloc (.cells #[.string ⟨pa.toArray⟩, .string ⟨t.toArray⟩] 73) = Z3 at bz hn9 ⊢
                    replace LC : Z3.cell? ⟨db, d0 + k, none⟩ = some (.string ⟨t.toArray⟩) := (bz.cell (p := ⟨db, d0 + k, none⟩) (block_lt_of_cell LC)).trans LC
                    replace bZ := bZ.trans (bz.mono bZ.size)
                    replace hn2 := (bz.block _ (Array.getElem?_eq_some_iff.1 hn2).1).trans hn2
                    clear bz
                    refine ⟨LC, ?_⟩
                    try simp only [Act.put, List.setIfInBounds_toArray, List.set_cons_succ, List.set_cons_zero]
                    refine take_d (some 75) (i := 10) (v := .agg #[.string ⟨#[97, 97]⟩, .int .i64 0, .string ⟨#[49]⟩, .string ⟨#[]⟩, .slice none 0 0, .slice none 0 0, .slice none 0 0, .slice none 0 0, .slice none 0 0, .slice none 0 0, .slice (some ⟨b2, 0, none⟩) 1 1, .slice none 0 0, .slice (some ⟨b9, 0, none⟩) 1 1]) rfl rfl (by as_aux_lemma => kernel_rfl) (by as_aux_lemma => kernel_rfl) (by as_aux_lemma => kernel_rfl) (fun _ _ _ h => h) (.inl ⟨by kernel_rfl, fun w' _ => by simp [go_sem]⟩) LC ?_
                    try simp only [Act.put, List.setIfInBounds_toArray, List.set_cons_succ, List.set_cons_zero]
                    refine wpAnyH_all (rs := [11]) (by as_aux_lemma => kernel_rfl) (by simp) fun j hj => ?_
                    obtain rfl : j = 11 := by simpa using hj
                    refine wpOp_want rfl (by kernel_rfl) ?_
                    unfold Oper.wp
                    simp [go_sem]
                    have bz := (Below.refl Z3.heap.size Z3).alloc (Nat.le_refl _) (.cells #[.string ⟨#[]⟩, .int .i64 0, .string ⟨#[]⟩, .string ⟨#[]⟩, .slice none 0 0, .slice none 0 0, .slice none 0 0, .slice none 0 0, .slice none 0 0, .slice none 0 0, .slice none 0 0, .slice none 0 0, .slice none 0 0] 43)
                    have hn11 := nb0 Z3 (.cells #[.string ⟨#[]⟩, .int .i64 0, .string ⟨#[]⟩, .string ⟨#[]⟩, .slice none 0 0, .slice none 0 0, .slice none 0 0, .slice none 0 0, .slice none 0 0, .slice none 0 0, .slice none 0 0, .slice none 0 0, .slice none 0 0] 43)
                    have hb11 := bZ.size
                    obtain ⟨b11, hb11e⟩ : ∃ b11, b11 = Z3.heap.size := ⟨_, rfl⟩
                    rw [← hb11e] at hn11 hb11
                    rw [← hb11e]
                    generalize Z3.alloc (.cells #[.string ⟨#[]⟩, .int .i64 0, .string ⟨#[]⟩, .string ⟨#[]⟩, .slice none 0 0, .slice none 0 0, .slice none 0 0, .slice none 0 0, .slice none 0 0, .slice none 0 0, .slice none 0 0, .slice none 0 0, .slice none 0 0] 43) = Z4 at bz hn11 ⊢
                    replace LC : Z4.cell? ⟨db, d0 + k, none⟩ = some (.string ⟨t.toArray⟩) := (bz.cell (p := ⟨db, d0 + k, none⟩) (block_lt_of_cell LC)).trans LC
                    replace bZ := bZ.trans (bz.mono bZ.size)
                    replace hn2 := (bz.block _ (Array.getElem?_eq_some_iff.1 hn2).1).trans hn2
                    replace hn9 := (bz.block _ (Array.getElem?_eq_some_iff.1 hn9).1).trans hn9
                    clear bz
                    refine ⟨LC, ?_⟩
                    try simp only [Act.put, List.setIfInBounds_toArray, List.set_cons_succ, List.set_cons_zero]
                    refine wpAnyH_cast (l2 := #[true, true, true, true, true, true, true, true, true, true, true, true, false]) (by kernel_rfl) ?_
                    exact tail Z4 b2 b9 b11 ⟨LC, bZ, hn2, hn9, hn11, hb2, hb9, hb11⟩
                  · refine wpOp_want rfl (by kernel_rfl) ?_
                    unfold Oper.wp
                    simp [go_sem]
                    have bz := (Below.refl Z2.heap.size Z2).alloc (Nat.le_refl _) (.cells #[.string ⟨#[]⟩, .int .i64 0, .string ⟨#[]⟩, .string ⟨#[]⟩, .slice none 0 0, .slice none 0 0, .slice none 0 0, .slice none 0 0, .slice none 0 0, .slice none 0 0, .slice none 0 0, .slice none 0 0, .slice none 0 0] 43)
                    have hn11 := nb0 Z2 (.cells #[.string ⟨#[]⟩, .int .i64 0, .string ⟨#[]⟩, .string ⟨#[]⟩, .slice none 0 0, .slice none 0 0, .slice none 0 0, .slice none 0 0, .slice none 0 0, .slice none 0 0, .slice none 0 0, .slice none 0 0, .slice none 0 0] 43)
                    have hb11 := bZ.size
                    obtain ⟨b11, hb11e⟩ : ∃ b11, b11 = Z2.heap.size := ⟨_, rfl⟩
                    rw [← hb11e] at hn11 hb11
                    rw [← hb11e]
                    generalize Z2.alloc (.cells #[.string ⟨#[]⟩, .int .i64 0, .string ⟨#[]⟩, .string ⟨#[]⟩, .slice none 0 0, .slice none 0 0, .slice none 0 0, .slice none 0 0, .slice none 0 0, .slice none 0 0, .slice none 0 0, .slice none 0 0, .slice none 0 0] 43) = Z3 at bz hn11 ⊢
                    replace LC : Z3.cell? ⟨db, d0 + k, none⟩ = some (.string ⟨t.toArray⟩) := (bz.cell (p := ⟨db, d0 + k, none⟩) (block_lt_of_cell LC)).trans LC
                    replace bZ := bZ.trans (bz.mono bZ.size)
                    replace hn2 := (bz.block _ (Array.getElem?_eq_some_iff.1 hn2).1).trans hn2
                    clear bz
                    refine ⟨LC, ?_⟩
                    try simp only [Act.put, List.setIfInBounds_toArray, List.set_cons_succ, List.set_cons_zero]
                    refine wpAnyH_all (rs := [9]) (by as_aux_lemma => kernel_rfl) (by simp) fun j hj => ?_
                    obtain rfl : j = 9 := by simpa using hj
                    refine wpOp_want rfl (by kernel_rfl) ?_
                    unfold Oper.wp
                    simp [go_sem]
                    have bz := (Below.refl Z3.heap.size Z3).alloc (Nat.le_refl _) (.cells #[.string ⟨pa.toArray⟩, .string ⟨t.toArray⟩] 73)
                    have hn9 := nb0 Z3 (.cells #[.string ⟨pa.toArray⟩, .string ⟨t.toArray⟩] 73)
                    have hb9 := bZ.size
                    obtain ⟨b9, hb9e⟩ : ∃ b9, b9 = Z3.heap.size := ⟨_, rfl⟩
                    rw [← hb9e] at hn9 hb9
                    rw [← hb9e]
                    generalize Z3.alloc (.cells #[.string ⟨pa.toArray⟩, .string ⟨t.toArray⟩] 73) = Z4 at bz hn9 ⊢
                    replace LC : Z4.cell? ⟨db, d0 + k, none⟩ = some (.string ⟨t.toArray⟩) := (bz.cell (p := ⟨db, d0 + k, none⟩) (block_lt_of_cell LC)).trans LC
                    replace bZ := bZ.trans (bz.mono bZ.size)
                    replace hn2 := (bz.block _ (Array.getElem?_eq_some_iff.1 hn2).1).trans hn2
                    replace hn11 := (bz.block _ (Array.getElem?_eq_some_iff.1 hn11).1).trans hn11
                    clear bz
                    refine ⟨LC, ?_⟩
                    try simp only [Act.put, List.setIfInBounds_toArray, List.set_cons_succ, List.set_cons_zero]
                    refine take_d (some 75) (i := 10) (v := .agg #[.string ⟨#[97, 97]⟩, .int .i64 0, .string ⟨#[49]⟩, .string ⟨#[]⟩, .slice none 0 0, .slice none 0 0, .slice none 0 0, .slice none 0 0, .slice none 0 0, .slice none 0 0, .slice (some ⟨b2, 0, none⟩) 1 1, .slice none 0 0, .slice (some ⟨b9, 0, none⟩) 1 1]) rfl rfl (by as_aux_lemma => kernel_rfl) (by as_aux_lemma => kernel_rfl) (by as_aux_lemma => kernel_rfl) (fun _ _ _ h => h) (.inl ⟨by kernel_rfl, fun w' _ => by simp [go_sem]⟩) LC ?_
                    try simp only [Act.put, List.setIfInBounds_toArray, List.set_cons_succ, List.set_cons_zero]
                    refine wpAnyH_cast (l2 := #[true, true, true, true, true, true, true, true, true, true, true, true, false]) (by kernel_rfl) ?_
                    exact tail Z4 b2 b9 b11 ⟨LC, bZ, hn2, hn9, hn11, hb2, hb9, hb11⟩
                · refine wpOp_want rfl (by kernel_rfl) ?_
                  unfold Oper.wp
                  simp [go_sem]
                  have bz := (Below.refl Z1.heap.size Z1).alloc (Nat.le_refl _) (.cells #[.string ⟨pa.toArray⟩, .string ⟨t.toArray⟩] 73)
                  have hn9 := nb0 Z1 (.cells #[.string ⟨pa.toArray⟩, .string ⟨t.toArray⟩] 73)
                  have hb9 := bZ.size
                  obtain ⟨b9, hb9e⟩ : ∃ b9, b9 = Z1.heap.size := ⟨_, rfl⟩
                  rw [← hb9e] at hn9 hb9
                  rw [← hb9e]
                  generalize Z1.alloc (.cells #[.string ⟨pa.toArray⟩, .string ⟨t.toArray⟩] 73) = Z2 at bz hn9 ⊢
                  replace LC : Z2.cell? ⟨db, d0 + k, none⟩ = some (.string ⟨t.toArray⟩) := (bz.cell (p := ⟨db, d0 + k, none⟩) (block_lt_of_cell LC)).trans LC
                  replace bZ := bZ.trans (bz.mono bZ.size)
                  clear bz
                  refine ⟨LC, ?_⟩
                  try simp only [Act.put, List.setIfInBounds_toArray, List.set_cons_succ, List.set_cons_zero]
                  refine wpAnyH_all (rs := [2, 11]) (by as_aux_lemma => kernel_rfl) (by simp) fun j hj => ?_
                  have hj : j = 2 ∨ j = 11 := by simpa using hj
                  rcases hj with rfl | rfl
                  · refine wpOp_want rfl (by kernel_rfl) ?_
                    unfold Oper.wp
                    simp [go_sem]
                    have bz := (Below.refl Z2.heap.size Z2).alloc (Nat.le_refl _) (.cells #[.string ⟨pa.toArray⟩] 9)
                    have hn2 := nb0 Z2 (.cells #[.string ⟨pa.toArray⟩] 9)
                    have hb2 := bZ.size
                    obtain ⟨b2, hb2e⟩ : ∃ b2, b2 = Z2.heap.size := ⟨_, rfl⟩
                    rw [← hb2e] at hn2 hb2
                    rw [← hb2e]
                    generalize Z2.alloc (.cells #[.string ⟨pa.toArray⟩] 9) = Z3 at bz hn2 ⊢
                    replace LC : Z3.cell? ⟨db, d0 + k, none⟩ = some (.string ⟨t.toArray⟩) := (bz.cell (p := ⟨db, d0 + k, none⟩) (block_lt_of_cell LC)).trans LC
                    replace bZ := bZ.trans (bz.mono bZ.size)
                    replace hn9 := (bz.block _ (Array.getElem?_eq_some_iff.1 hn9).1).trans hn9
                    clear bz
                    refine ⟨LC, ?_⟩
                    try simp only [Act.put, List.setIfInBounds_toArray, List.set_cons_succ, List.set_cons_zero]
                    refine take_d (some 75) (i := 10) (v := .agg #[.string ⟨#[97, 97]⟩, .int .i64 0, .string ⟨#[49]⟩, .string ⟨#[]⟩, .slice none 0 0, .slice none 0 0, .slice none 0 0, .slice none 0 0, .slice none 0 0, .slice none 0 0, .slice (some ⟨b2, 0, none⟩) 1 1, .slice none 0 0, .slice (some ⟨b9, 0, none⟩) 1 1]) rfl rfl (by as_aux_lemma => kernel_rfl) (by as_aux_lemma => kernel_rfl) (by as_aux_lemma => kernel_rfl) (fun _ _ _ h => h) (.inl ⟨by kernel_rfl, fun w' _ => by simp [go_sem]⟩) LC ?_
                    try simp only [Act.put, List.setIfInBounds_toArray, List.set_cons_succ, List.set_cons_zero]
                    refine wpAnyH_all (rs := [11]) (by as_aux_lemma => kernel_rfl) (by simp) fun j hj => ?_
                    obtain rfl : j = 11 := by simpa using hj
                    refine wpOp_want rfl (by kernel_rfl) ?_
                    unfold Oper.wp
                    simp [go_sem]
                    have bz := (Below.refl Z3.heap.size Z3).alloc (Nat.le_refl _) (.cells #[.string ⟨#[]⟩, .int .i64 0, .string ⟨#[]⟩, .string ⟨#[]⟩, .slice none 0 0, .slice none 0 0, .slice none 0 0, .slice none 0 0, .slice none 0 0, .slice none 0 0, .slice none 0 0, .slice none 0 0, .slice none 0 0] 43)
                    have hn11 := nb0 Z3 (.cells #[.string ⟨#[]⟩, .int .i64 0, .string ⟨#[]⟩, .string ⟨#[]⟩, .slice none 0 0, .slice none 0 0, .slice none 0 0, .slice none 0 0, .slice none 0 0, .slice none 0 0, .slice none 0 0, .slice none 0 0, .slice none 0 0] 43)
                    have hb11 := bZ.size
                    obtain ⟨b11, hb11e⟩ : ∃ b11, b11 = Z3.heap.size := ⟨_, rfl⟩
                    rw [← hb11e] at hn11 hb11
                    rw [← hb11e]
                    generalize Z3.alloc (.cells #[.string ⟨#[]⟩, .int .i64 0, .string ⟨#[]⟩, .string ⟨#[]⟩, .slice none 0 0, .slice none 0 0, .slice none 0 0, .slice none 0 0, .slice none 0 0, .slice none 0 0, .slice none 0 0, .slice none 0 0, .slice none 0 0] 43) = Z4 at bz hn11 ⊢
                    replace LC : Z4.cell? ⟨db, d0 + k, none⟩ = some (.string ⟨t.toArray⟩) := (bz.cell (p := ⟨db, d0 + k, none⟩) (block_lt_of_cell LC)).trans LC
                    replace bZ := bZ.trans (bz.mono bZ.size)
                    replace hn9 := (bz.block _ (Array.getElem?_eq_some_iff.1 hn9).1).trans hn9
                    replace hn2 := (bz.block _ (Array.getElem?_eq_some_iff.1 hn2).1).trans hn2
                    clear bz
                    refine ⟨LC, ?_⟩
                    try simp only [Act.put, List.setIfInBounds_toArray, List.set_cons_succ, List.set_cons_zero]
                    refine wpAnyH_cast (l2 := #[true, true, true, true, true, true, true, true, true, true, true, true, false]) (by kernel_rfl) ?_
                    exact tail Z4 b2 b9 b11 ⟨LC, bZ, hn2, hn9, hn11, hb2, hb9, hb11⟩
                  · refine wpOp_want rfl (by kernel_rfl) ?_
                    unfold Oper.wp
                    simp [go_sem]
                    have bz := (Below.refl Z2.heap.size Z2).alloc (Nat.le_refl _) (.cells #[.string ⟨#[]⟩, .int .i64 0, .string ⟨#[]⟩, .string ⟨#[]⟩, .slice none 0 0, .slice none 0 0, .slice none 0 0, .slice none 0 0, .slice none 0 0, .slice none 0 0, .slice none 0 0, .slice none 0 0, .slice none 0 0] 43)
                    have hn11 := nb0 Z2 (.cells #[.string ⟨#[]⟩, .int .i64 0, .string ⟨#[]⟩, .string ⟨#[]⟩, .slice none 0 0, .slice none 0 0, .slice none 0 0, .slice none 0 0, .slice none 0 0, .slice none 0 0, .slice none 0 0, .slice none 0 0, .slice none 0 0] 43)
                    have hb11 := bZ.size
                    obtain ⟨b11, hb11e⟩ : ∃ b11, b11 = Z2.heap.size := ⟨_, rfl⟩
                    rw [← hb11e] at hn11 hb11
                    rw [← hb11e]
                    generalize Z2.alloc (.cells #[.string ⟨#[]⟩, .int .i64 0, .string ⟨#[]⟩, .string ⟨#[]⟩, .slice none 0 0, .slice none 0 0, .slice none 0 0, .slice none 0 0, .slice none 0 0, .slice none 0 0, .slice none 0 0, .slice none 0 0, .slice none 0 0] 43) = Z3 at bz hn11 ⊢
                    replace LC : Z3.cell? ⟨db, d0 + k, none⟩ = some (.string ⟨t.toArray⟩) := (bz.cell (p := ⟨db, d0 + k, none⟩) (block_lt_of_cell LC)).trans LC
                    replace bZ := bZ.trans (bz.mono bZ.size)
                    replace hn9 := (bz.block _ (Array.getElem?_eq_some_iff.1 hn9).1).trans hn9
                    clear bz
                    refine ⟨LC, ?_⟩
                    try simp only [Act.put, List.setIfInBounds_toArray, List.set_cons_succ, List.set_cons_zero]
                    refine wpAnyH_all (rs := [2]) (by as_aux_lemma => kernel_rfl) (by simp) fun j hj => ?_
                    obtain rfl : j = 2 := by simpa using hj
                    refine wpOp_want rfl (by kernel_rfl) ?_
                    unfold Oper.wp
                    simp [go_sem]
                    have bz := (Below.refl Z3.heap.size Z3).alloc (Nat.le_refl _) (.cells #[.string ⟨pa.toArray⟩] 9)
                    have hn2 := nb0 Z3 (.cells #[.string ⟨pa.toArray⟩] 9)
                    have hb2 := bZ.size
                    obtain ⟨b2, hb2e⟩ : ∃ b2, b2 = Z3.heap.size := ⟨_, rfl⟩
                    rw [← hb2e] at hn2 hb2
                    rw [← hb2e]
                    generalize Z3.alloc (.cells #[.string ⟨pa.toArray⟩] 9) = Z4 at bz hn2 ⊢
                    replace LC : Z4.cell? ⟨db, d0 + k, none⟩ = some (.string ⟨t.toArray⟩) := (bz.cell (p := ⟨db, d0 + k, none⟩) (block_lt_of_cell LC)).trans LC
                    replace bZ := bZ.trans (bz.mono bZ.size)
                    replace hn9 := (bz.block _ (Array.getElem?_eq_some_iff.1 hn9).1).trans hn9
                    replace hn11 := (bz.block _ (Array.getElem?_eq_some_iff.1 hn11).1).trans hn11
                    clear bz
                    refine ⟨LC, ?_⟩
                    try simp only [Act.put, List.setIfInBounds_toArray, List.set_cons_succ, List.set_cons_zero]
                    refine take_d (some 75) (i := 10) (v := .agg #[.string ⟨#[97, 97]⟩, .int .i64 0, .string ⟨#[49]⟩, .string ⟨#[]⟩, .slice none 0 0, .slice none 0 0, .slice none 0 0, .slice none 0 0, .slice none 0 0, .slice none 0 0, .slice (some ⟨b2, 0, none⟩) 1 1, .slice none 0 0, .slice (some ⟨b9, 0, none⟩) 1 1]) rfl rfl (by as_aux_lemma => kernel_rfl) (by as_aux_lemma => kernel_rfl) (by as_aux_lemma => kernel_rfl) (fun _ _ _ h => h) (.inl ⟨by kernel_rfl, fun w' _ => by simp [go_sem]⟩) LC ?_
                    try simp only [Act.put, List.setIfInBounds_toArray, List.set_cons_succ, List.set_cons_zero]
                    refine wpAnyH_cast (l2 := #[true, true, true, true, true, true, true, true, true, true, true, true, false]) (by kernel_rfl) ?_
                    exact tail Z4 b2 b9 b11 ⟨LC, bZ, hn2, hn9, hn11, hb2, hb9, hb11⟩
                · refine wpOp_want rfl (by kernel_rfl) ?_
                  unfold Oper.wp
                  simp [go_sem]
                  have bz := (Below.refl Z1.heap.size Z1).alloc (Nat.le_refl _) (.cells #[.string ⟨#[]⟩, .int .i64 0, .string ⟨#[]⟩, .string ⟨#[]⟩, .slice none 0 0, .slice none 0 0, .slice none 0 0, .slice none 0 0, .slice none 0 0, .slice none 0 0, .slice none 0 0, .slice none 0 0, .slice none 0 0] 43)
                  have hn11 := nb0 Z1 (.cells #[.string ⟨#[]⟩, .int .i64 0, .string ⟨#[]⟩, .string ⟨#[]⟩, .slice none 0 0, .slice none 0 0, .slice none 0 0, .slice none 0 0, .slice none 0 0, .slice none 0 0, .slice none 0 0, .slice none 0 0, .slice none 0 0] 43)
                  have hb11 := bZ.size
                  obtain ⟨b11, hb11e⟩ : ∃ b11, b11 = Z1.heap.size := ⟨_, rfl⟩
                  rw [← hb11e] at hn11 hb11
                  rw [← hb11e]
                  generalize Z1.alloc (.cells #[.string ⟨#[]⟩, .int .i64 0, .string ⟨#[]⟩, .string ⟨#[]⟩, .slice none 0 0, .slice none 0 0, .slice none 0 0, .slice none 0 0, .slice none 0 0, .slice none 0 0, .slice none 0 0, .slice none 0 0, .slice none 0 0] 43) = Z2 at bz hn11 ⊢
                  replace LC : Z2.cell? ⟨db, d0 + k, none⟩ = some (.string ⟨t.toArray⟩) := (bz.cell (p := ⟨db, d0 + k, none⟩) (block_lt_of_cell LC)).trans LC
                  replace bZ := bZ.trans (bz.mono bZ.size)
                  clear bz
                  refine ⟨LC, ?_⟩
                  try simp only [Act.put, List.setIfInBounds_toArray, List.set_cons_succ, List.set_cons_zero]
                  refine wpAnyH_all (rs := [2, 9]) (by as_aux_lemma => kernel_rfl) (by simp) fun j hj => ?_
                  have hj : j = 2 ∨ j = 9 := by simpa using hj
                  rcases hj with rfl | rfl
                  · refine wpOp_want rfl (by kernel_rfl) ?_
                    unfold Oper.wp
                    simp [go_sem]
                    have bz := (Below.refl Z2.heap.size Z2).alloc (Nat.le_refl _) (.cells #[.string ⟨pa.toArray⟩] 9)
                    have hn2 := nb0 Z2 (.cells #[.string ⟨pa.toArray⟩] 9)
                    have hb2 := bZ.size
                    obtain ⟨b2, hb2e⟩ : ∃ b2, b2 = Z2.heap.size := ⟨_, rfl⟩
                    rw [← hb2e] at hn2 hb2
                    rw [← hb2e]
                    generalize Z2.alloc (.cells #[.string ⟨pa.toArray⟩] 9) = Z3 at bz hn2 ⊢
                    replace LC : Z3.cell? ⟨db, d0 + k, none⟩ = some (.string ⟨t.toArray⟩) := (bz.cell (p := ⟨db, d0 + k, none⟩) (block_lt_of_cell LC)).trans LC
                    replace bZ := bZ.trans (bz.mono bZ.size)
                    replace hn11 := (bz.block _ (Array.getElem?_eq_some_iff.1 hn11).1).trans hn11
                    clear bz
                    refine ⟨LC, ?_⟩
                    try simp only [Act.put, List.setIfInBounds_toArray, List.set_cons_succ, List.set_cons_zero]
                    refine wpAnyH_all (rs := [9]) (by as_aux_lemma => kernel_rfl) (by simp) fun j hj => ?_
                    obtain rfl : j = 9 := by simpa using hj
                    refine wpOp_want rfl (by kernel_rfl) ?_
                    unfold Oper.wp
                    simp [go_sem]
                    have bz := (Below.refl Z3.heap.size Z3).alloc (Nat.le_refl _) (.cells #[.string ⟨pa.toArray⟩, .string ⟨t.toArray⟩] 73)
                    have hn9 := nb0 Z3 (.cells #[.string ⟨pa.toArray⟩, .string ⟨t.toArray⟩] 73)
                    have hb9 := bZ.size
                    obtain ⟨b9, hb9e⟩ : ∃ b9, b9 = Z3.heap.size := ⟨_, rfl⟩
                    rw [← hb9e] at hn9 hb9
                    rw [← hb9e]
                    generalize Z3.alloc (.cells #[.string ⟨pa.toArray⟩, .string ⟨t.toArray⟩] 73) = Z4 at bz hn9 ⊢
                    replace LC : Z4.cell? ⟨db, d0 + k, none⟩ = some (.string ⟨t.toArray⟩) := (bz.cell (p := ⟨db, d0 + k, none⟩) (block_lt_of_cell LC)).trans LC
                    replace bZ := bZ.trans (bz.mono bZ.size)
                    replace hn11 := (bz.block _ (Array.getElem?_eq_some_iff.1 hn11).1).trans hn11
                    replace hn2 := (bz.block _ (Array.getElem?_eq_some_iff.1 hn2).1).trans hn2
                    clear bz
                    refine ⟨LC, ?_⟩
                    try simp only [Act.put, List.setIfInBounds_toArray, List.set_cons_succ, List.set_cons_zero]
                    refine take_d (some 75) (i := 10) (v := .agg #[.string ⟨#[97, 97]⟩, .int .i64 0, .string ⟨#[49]⟩, .string ⟨#[]⟩, .slice none 0 0, .slice none 0 0, .slice none 0 0, .slice none 0 0, .slice none 0 0, .slice none 0 0, .slice (some ⟨b2, 0, none⟩) 1 1, .slice none 0 0, .slice (some ⟨b9, 0, none⟩) 1 1]) rfl rfl (by as_aux_lemma => kernel_rfl) (by as_aux_lemma => kernel_rfl) (by as_aux_lemma => kernel_rfl) (fun _ _ _ h => h) (.inl ⟨by kernel_rfl, fun w' _ => by simp [go_sem]⟩) LC ?_
                    try simp only [Act.put, List.setIfInBounds_toArray, List.set_cons_succ, List.set_cons_zero]
                    refine wpAnyH_cast (l2 := #[true, true, true, true, true, true, true, true, true, true, true, true, false]) (by kernel_rfl) ?_
                    exact tail Z4 b2 b9 b11 ⟨LC, bZ, hn2, hn9, hn11, hb2, hb9, hb11⟩
                  · refine wpOp_want rfl (by kernel_rfl) ?_
                    unfold Oper.wp
                    simp [go_sem]
                    have bz := (Below.refl Z2.heap.size Z2).alloc (Nat.le_refl _) (.cells #[.string ⟨pa.toArray⟩, .string ⟨t.toArray⟩] 73)
                    have hn9 := nb0 Z2 (.cells #[.string ⟨pa.toArray⟩, .string ⟨t.toArray⟩] 73)
                    have hb9 := bZ.size
                    obtain ⟨b9, hb9e⟩ : ∃ b9, b9 = Z2.heap.size := ⟨_, rfl⟩
                    rw [← hb9e] at hn9 hb9
                    rw [← hb9e]
                    generalize Z2.alloc (.cells #[.string ⟨pa.toArray⟩, .string ⟨t.toArray⟩] 73) = Z3 at bz hn9 ⊢
                    replace LC : Z3.cell? ⟨db, d0 + k, none⟩ = some (.string ⟨t.toArray⟩) := (bz.cell (p := ⟨db, d0 + k, none⟩) (block_lt_of_cell LC)).trans LC
                    replace bZ := bZ.trans (bz.mono bZ.size)
                    replace hn11 := (bz.block _ (Array.getElem?_eq_some_iff.1 hn11).1).trans hn11
                    clear bz
                    refine ⟨LC, ?_⟩
                    try simp only [Act.put, List.setIfInBounds_toArray, List.set_cons_succ, List.set_cons_zero]
                    refine wpAnyH_all (rs := [2]) (by as_aux_lemma => kernel_rfl) (by simp) fun j hj => ?_
                    obtain rfl : j = 2 := by simpa using hj
                    refine wpOp_want rfl (by kernel_rfl) ?_
                    unfold Oper.wp
                    simp [go_sem]
                    have bz := (Below.refl Z3.heap.size Z3).alloc (Nat.le_refl _) (.cells #[.string ⟨pa.toArray⟩] 9)
                    have hn2 := nb0 Z3 (.cells #[.string ⟨pa.toArray⟩] 9)
                    have hb2 := bZ.size
                    obtain ⟨b2, hb2e⟩ : ∃ b2, b2 = Z3.heap.size := ⟨_, rfl⟩
                    rw [← hb2e] at hn2 hb2
                    rw [← hb2e]
                    generalize Z3.alloc (.cells #[.string ⟨pa.toArray⟩] 9) = Z4 at bz hn2 ⊢
                    replace LC : Z4.cell? ⟨db, d0 + k, none⟩ = some (.string ⟨t.toArray⟩) := (bz.cell (p := ⟨db, d0 + k, none⟩) (block_lt_of_cell LC)).trans LC
                    replace bZ := bZ.trans (bz.mono bZ.size)
                    replace hn11 := (bz.block _ (Array.getElem?_eq_some_iff.1 hn11).1).trans hn11
                    replace hn9 := (bz.block _ (Array.getElem?_eq_some_iff.1 hn9).1).trans hn9
                    clear bz
                    refine ⟨LC, ?_⟩
                    try simp only [Act.put, List.setIfInBounds_toArray, List.set_cons_succ, List.set_cons_zero]
                    refine take_d (some 75) (i := 10) (v := .agg #[.string ⟨#[97, 97]⟩, .int .i64 0, .string ⟨#[49]⟩, .string ⟨#[]⟩, .slice none 0 0, .slice none 0 0, .slice none 0 0, .slice none 0 0, .slice none 0 0, .slice none 0 0, .slice (some ⟨b2, 0, none⟩) 1 1, .slice none 0 0, .slice (some ⟨b9, 0, none⟩) 1 1]) rfl rfl (by as_aux_lemma => kernel_rfl) (by as_aux_lemma => kernel_rfl) (by as_aux_lemma => kernel_rfl) (fun _ _ _ h => h) (.inl ⟨by kernel_rfl, fun w' _ => by simp [go_sem]⟩) LC ?_
                    try simp only [Act.put, List.setIfInBounds_toArray, List.set_cons_succ, List.set_cons_zero]
                    refine wpAnyH_cast (l2 := #[true, true, true, true, true, true, true, true, true, true, true, true, false]) (by kernel_rfl) ?_
                    exact tail Z4 b2 b9 b11 ⟨LC, bZ, hn2, hn9, hn11, hb2, hb9, hb11⟩
              · refine wpOp_want rfl (by kernel_rfl) ?_
                unfold Oper.wp
                simp [go_sem]
                have bz := (Below.refl Z0.heap.size Z0).alloc (Nat.le_refl _) (.cells #[.string ⟨pa.toArray⟩] 9)
                have hn2 := nb0 Z0 (.cells #[.string ⟨pa.toArray⟩] 9)
                have hb2 := bZ.size
                obtain ⟨b2, hb2e⟩ : ∃ b2, b2 = Z0.heap.size := ⟨_, rfl⟩
                rw [← hb2e] at hn2 hb2
                rw [← hb2e]
                generalize Z0.alloc (.cells #[.string ⟨pa.toArray⟩] 9) = Z1 at bz hn2 ⊢
                replace LC : Z1.cell? ⟨db, d0 + k, none⟩ = some (.string ⟨t.toArray⟩) := (bz.cell (p := ⟨db, d0 + k, none⟩) (block_lt_of_cell LC)).trans LC
                replace bZ := bZ.trans (bz.mono bZ.size)
                clear bz
                refine ⟨LC, ?_⟩
                try simp only [Act.put, List.setIfInBounds_toArray, List.set_cons_succ, List.set_cons_zero]
                refine wpAnyH_all (rs := [0, 9, 11]) (by as_aux_lemma => kernel_rfl) (by simp) fun j hj => ?_
                have hj : j = 0 ∨ j = 9 ∨ j = 11 := by simpa using hj
                rcases hj with rfl | rfl | rfl
                · have cV := read1_any Z1 (tab_on HT.out (hWr.trans (bZ.mono hWr.size)))
                  refine wpOp_want rfl (by kernel_rfl) ?_
                  unfold Oper.wp
                  simp [go_sem]
                  refine cV.mono ?_
                  rintro z Z2 ⟨rfl, bz⟩
                  clear cV
                  replace LC : Z2.cell? ⟨db, d0 + k, none⟩ = some (.string ⟨t.toArray⟩) := (bz.cell (p := ⟨db, d0 + k, none⟩) (block_lt_of_cell LC)).trans LC
                  replace bZ := bZ.trans (bz.mono bZ.size)
                  replace hn2 := (bz.block _ (Array.getElem?_eq_some_iff.1 hn2).1).trans hn2
                  clear bz
                  refine ⟨LC, ?_⟩
                  try simp only [Act.put, List.setIfInBounds_toArray, List.set_cons_succ, List.set_cons_zero]
                  refine wpAnyH_all (rs := [9, 11]) (by as_aux_lemma => kernel_rfl) (by simp) fun j hj => ?_
                  have hj : j = 9 ∨ j = 11 := by simpa using hj
                  rcases hj with rfl | rfl
                  · refine wpOp_want rfl (by kernel_rfl) ?_
                    unfold Oper.wp
                    simp [go_sem]
                    have bz := (Below.refl Z2.heap.size Z2).alloc (Nat.le_refl _) (.cells #[.string ⟨pa.toArray⟩, .string ⟨t.toArray⟩] 73)
                    have hn9 := nb0 Z2 (.cells #[.string ⟨pa.toArray⟩, .string ⟨t.toArray⟩] 73)
                    have hb9 := bZ.size
                    obtain ⟨b9, hb9e⟩ : ∃ b9, b9 = Z2.heap.size := ⟨_, rfl⟩
                    rw [← hb9e] at hn9 hb9
                    rw [← hb9e]
                    generalize Z2.alloc (.cells #[.string ⟨pa.toArray⟩, .string ⟨t.toArray⟩] 73) = Z3 at bz hn9 ⊢
                    replace LC : Z3.cell? ⟨db, d0 + k, none⟩ = some (.string ⟨t.toArray⟩) := (bz.cell (p := ⟨db, d0 + k, none⟩) (block_lt_of_cell LC)).trans LC
                    replace bZ := bZ.trans (bz.mono bZ.size)
                    replace hn2 := (bz.block _ (Array.getElem?_eq_some_iff.1 hn2).1).trans hn2
                    clear bz
                    refine ⟨LC, ?_⟩
                    try simp only [Act.put, List.setIfInBounds_toArray, List.set_cons_succ, List.set_cons_zero]
                    refine take_d (some 75) (i := 10) (v := .agg #[.string ⟨#[97, 97]⟩, .int .i64 0, .string ⟨#[49]⟩, .string ⟨#[]⟩, .slice none 0 0, .slice none 0 0, .slice none 0 0, .slice none 0 0, .slice none 0 0, .slice none 0 0, .slice (some ⟨b2, 0, none⟩) 1 1, .slice none 0 0, .slice (some ⟨b9, 0, none⟩) 1 1]) rfl rfl (by as_aux_lemma => kernel_rfl) (by as_aux_lemma => kernel_rfl) (by as_aux_lemma => kernel_rfl) (fun _ _ _ h => h) (.inl ⟨by kernel_rfl, fun w' _ => by simp [go_sem]⟩) LC ?_
                    try simp only [Act.put, List.setIfInBounds_toArray, List.set_cons_succ, List.set_cons_zero]
                    refine wpAnyH_all (rs := [11]) (by as_aux_lemma => kernel_rfl) (by simp) fun j hj => ?_
                    obtain rfl : j = 11 := by simpa using hj
                    refine wpOp_want rfl (by kernel_rfl) ?_
                    unfold Oper.wp
                    simp [go_sem]
                    have bz := (Below.refl Z3.heap.size Z3).alloc (Nat.le_refl _) (.cells #[.string ⟨#[]⟩, .int .i64 0, .string ⟨#[]⟩, .string ⟨#[]⟩, .slice none 0 0, .slice none 0 0, .slice none 0 0, .slice none 0 0, .slice none 0 0, .slice none 0 0, .slice none 0 0, .slice none 0 0, .slice none 0 0] 43)
                    have hn11 := nb0 Z3 (.cells #[.string ⟨#[]⟩, .int .i64 0, .string ⟨#[]⟩, .string ⟨#[]⟩, .slice none 0 0, .slice none 0 0, .slice none 0 0, .slice none 0 0, .slice none 0 0, .slice none 0 0, .slice none 0 0, .slice none 0 0, .slice none 0 0] 43)
                    have hb11 := bZ.size
                    obtain ⟨b11, hb11e⟩ : ∃ b11, b11 = Z3.heap.size := ⟨_, rfl⟩
                    rw [← hb11e] at hn11 hb11
                    rw [← hb11e]
                    generalize Z3.alloc (.cells #[.string ⟨#[]⟩, .int .i64 0, .string ⟨#[]⟩, .string ⟨#[]⟩, .slice none 0 0, .slice none 0 0, .slice none 0 0, .slice none 0 0, .slice none 0 0, .slice none 0 0, .slice none 0 0, .slice none 0 0, .slice none 0 0] 43) = Z4 at bz hn11 ⊢
                    replace LC : Z4.cell? ⟨db, d0 + k, none⟩ = some (.string ⟨t.toArray⟩) := (bz.cell (p := ⟨db, d0 + k, none⟩) (block_lt_of_cell LC)).trans LC
                    replace bZ := bZ.trans (bz.mono bZ.size)
                    replace hn2 := (bz.block _ (Array.getElem?_eq_some_iff.1 hn2).1).trans hn2
                    replace hn9 := (bz.block _ (Array.getElem?_eq_some_iff.1 hn9).1).trans hn9
                    clear bz
                    refine ⟨LC, ?_⟩
                    try simp only [Act.put, List.setIfInBounds_toArray, List.set_cons_succ, List.set_cons_zero]
                    refine wpAnyH_cast (l2 := #[true, true, true, true, true, true, true, true, true, true, true, true, false]) (by kernel_rfl) ?_
                    exact tail Z4 b2 b9 b11 ⟨LC, bZ, hn2, hn9, hn11, hb2, hb9, hb11⟩
                  · refine wpOp_want rfl (by kernel_rfl) ?_
                    unfold Oper.wp
                    simp [go_sem]
                    have bz := (Below.refl Z2.heap.size Z2).alloc (Nat.le_refl _) (.cells #[.string ⟨#[]⟩, .int .i64 0, .string ⟨#[]⟩, .string ⟨#[]⟩, .slice none 0 0, .slice none 0 0, .slice none 0 0, .slice none 0 0, .slice none 0 0, .slice none 0 0, .slice none 0 0, .slice none 0 0, .slice none 0 0] 43)
                    have hn11 := nb0 Z2 (.cells #[.string ⟨#[]⟩, .int .i64 0, .string ⟨#[]⟩, .string ⟨#[]⟩, .slice none 0 0, .slice none 0 0, .slice none 0 0, .slice none 0 0, .slice none 0 0, .slice none 0 0, .slice none 0 0, .slice none 0 0, .slice none 0 0] 43)
                    have hb11 := bZ.size
                    obtain ⟨b11, hb11e⟩ : ∃ b11, b11 = Z2.heap.size := ⟨_, rfl⟩
                    rw [← hb11e] at hn11 hb11
                    rw [← hb11e]
                    generalize Z2.alloc (.cells #[.string ⟨#[]⟩, .int .i64 0, .string ⟨#[]⟩, .string ⟨#[]⟩, .slice none 0 0, .slice none 0 0, .slice none 0 0, .slice none 0 0, .slice none 0 0, .slice none 0 0, .slice none 0 0, .slice none 0 0, .slice none 0 0] 43) = Z3 at bz hn11 ⊢
                    replace LC : Z3.cell? ⟨db, d0 + k, none⟩ = some (.string ⟨t.toArray⟩) := (bz.cell (p := ⟨db, d0 + k, none⟩) (block_lt_of_cell LC)).trans LC
                    replace bZ := bZ.trans (bz.mono bZ.size)
                    replace hn2 := (bz.block _ (Array.getElem?_eq_some_iff.1 hn2).1).trans hn2
                    clear bz
                    refine ⟨LC, ?_⟩
                    try simp only [Act.put, List.setIfInBounds_toArray, List.set_cons_succ, List.set_cons_zero]
                    refine wpAnyH_all (rs := [9]) (by as_aux_lemma => kernel_rfl) (by simp) fun j hj => ?_
                    obtain rfl : j = 9 := by simpa using hj
                    refine wpOp_want rfl (by kernel_rfl) ?_
                    unfold Oper.wp
                    simp [go_sem]
                    have bz := (Below.refl Z3.heap.size Z3).alloc (Nat.le_refl _) (.cells #[.string ⟨pa.toArray⟩, .string ⟨t.toArray⟩] 73)
                    have hn9 := nb0 Z3 (.cells #[.string ⟨pa.toArray⟩, .string ⟨t.toArray⟩] 73)
                    have hb9 := bZ.size
                    obtain ⟨b9, hb9e⟩ : ∃ b9, b9 = Z3.heap.size := ⟨_, rfl⟩
                    rw [← hb9e] at hn9 hb9
                    rw [← hb9e]
                    generalize Z3.alloc (.cells #[.string ⟨pa.toArray⟩, .string ⟨t.toArray⟩] 73) = Z4 at bz hn9 ⊢
                    replace LC : Z4.cell? ⟨db, d0 + k, none⟩ = some (.string ⟨t.toArray⟩) := (bz.cell (p := ⟨db, d0 + k, none⟩) (block_lt_of_cell LC)).trans LC
                    replace bZ := bZ.trans (bz.mono bZ.size)
                    replace hn2 := (bz.block _ (Array.getElem?_eq_some_iff.1 hn2).1).trans hn2
                    replace hn11 := (bz.block _ (Array.getElem?_eq_some_iff.1 hn11).1).trans hn11
                    clear bz
                    refine ⟨LC, ?_⟩
                    try simp only [Act.put, List.setIfInBounds_toArray, List.set_cons_succ, List.set_cons_zero]
                    refine take_d (some 75) (i := 10) (v := .agg #[.string ⟨#[97, 97]⟩, .int .i64 0, .string ⟨#[49]⟩, .string ⟨#[]⟩, .slice none 0 0, .slice none 0 0, .slice none 0 0, .slice none 0 0, .slice none 0 0, .slice none 0 0, .slice (some ⟨b2, 0, none⟩) 1 1, .slice none 0 0, .slice (some ⟨b9, 0, none⟩) 1 1]) rfl rfl (by as_aux_lemma => kernel_rfl) (by as_aux_lemma => kernel_rfl) (by as_aux_lemma => kernel_rfl) (fun _ _ _ h => h) (.inl ⟨by kernel_rfl, fun w' _ => by simp [go_sem]⟩) LC ?_
                    try simp only [Act.put, List.setIfInBounds_toArray, List.set_cons_succ, List.set_cons_zero]
                    refine wpAnyH_cast (l2 := #[true, true, true, true, true, true, true, true, true, true, true, true, false]) (by kernel_rfl) ?_
                    exact tail Z4 b2 b9 b11 ⟨LC, bZ, hn2, hn9, hn11, hb2, hb9, hb11⟩
                · refine wpOp_want rfl (by kernel_rfl) ?_
                  unfold Oper.wp
                  simp [go_sem]
                  have bz := (Below.refl Z1.heap.size Z1).alloc (Nat.le_refl _) (.cells #[.string ⟨pa.toArray⟩, .string ⟨t.toArray⟩] 73)
                  have hn9 := nb0 Z1 (.cells #[.string ⟨pa.toArray⟩, .string ⟨t.toArray⟩] 73)
                  have hb9 := bZ.size
                  obtain ⟨b9, hb9e⟩ : ∃ b9, b9 = Z1.heap.size := ⟨_, rfl⟩
                  rw [← hb9e] at hn9 hb9
                  rw [← hb9e]
                  generalize Z1.alloc (.cells #[.string ⟨pa.toArray⟩, .string ⟨t.toArray⟩] 73) = Z2 at bz hn9 ⊢
                  replace LC : Z2.cell? ⟨db, d0 + k, none⟩ = some (.string ⟨t.toArray⟩) := (bz.cell (p := ⟨db, d0 + k, none⟩) (block_lt_of_cell LC)).trans LC
                  replace bZ := bZ.trans (bz.mono bZ.size)
                  replace hn2 := (bz.block _ (Array.getElem?_eq_some_iff.1 hn2).1).trans hn2
                  clear bz
                  refine ⟨LC, ?_⟩
                  try simp only [Act.put, List.setIfInBounds_toArray, List.set_cons_succ, List.set_cons_zero]
                  refine wpAnyH_all (rs := [0, 11]) (by as_aux_lemma => kernel_rfl) (by simp) fun j hj => ?_
                  have hj : j = 0 ∨ j = 11 := by simpa using hj
                  rcases hj with rfl | rfl
                  · have cV := read1_any Z2 (tab_on HT.out (hWr.trans (bZ.mono hWr.size)))
                    refine wpOp_want rfl (by kernel_rfl) ?_
                    unfold Oper.wp
                    simp [go_sem]
                    refine cV.mono ?_
                    rintro z Z3 ⟨rfl, bz⟩
                    clear cV
                    replace LC : Z3.cell? ⟨db, d0 + k, none⟩ = some (.string ⟨t.toArray⟩) := (bz.cell (p := ⟨db, d0 + k, none⟩) (block_lt_of_cell LC)).trans LC
                    replace bZ := bZ.trans (bz.mono bZ.size)
                    replace hn2 := (bz.block _ (Array.getElem?_eq_some_iff.1 hn2).1).trans hn2
                    replace hn9 := (bz.block _ (Array.getElem?_eq_some_iff.1 hn9).1).trans hn9
                    clear bz
                    refine ⟨LC, ?_⟩
                    try simp only [Act.put, List.setIfInBounds_toArray, List.set_cons_succ, List.set_cons_zero]
                    refine take_d (some 75) (i := 10) (v := .agg #[.string ⟨#[97, 97]⟩, .int .i64 0, .string ⟨#[49]⟩, .string ⟨#[]⟩, .slice none 0 0, .slice none 0 0, .slice none 0 0, .slice none 0 0, .slice none 0 0, .slice none 0 0, .slice (some ⟨b2, 0, none⟩) 1 1, .slice none 0 0, .slice (some ⟨b9, 0, none⟩) 1 1]) rfl rfl (by as_aux_lemma => kernel_rfl) (by as_aux_lemma => kernel_rfl) (by as_aux_lemma => kernel_rfl) (fun _ _ _ h => h) (.inl ⟨by kernel_rfl, fun w' _ => by simp [go_sem]⟩) LC ?_
                    try simp only [Act.put, List.setIfInBounds_toArray, List.set_cons_succ, List.set_cons_zero]
                    refine wpAnyH_all (rs := [11]) (by as_aux_lemma => kernel_rfl) (by simp) fun j hj => ?_
                    obtain rfl : j = 11 := by simpa using hj
                    refine wpOp_want rfl (by kernel_rfl) ?_
                    unfold Oper.wp
                    simp [go_sem]
                    have bz := (Below.refl Z3.heap.size Z3).alloc (Nat.le_refl _) (.cells #[.string ⟨#[]⟩, .int .i64 0, .string ⟨#[]⟩, .string ⟨#[]⟩, .slice none 0 0, .slice none 0 0, .slice none 0 0, .slice none 0 0, .slice none 0 0, .slice none 0 0, .slice none 0 0, .slice none 0 0, .slice none 0 0] 43)
                    have hn11 := nb0 Z3 (.cells #[.string ⟨#[]⟩, .int .i64 0, .string ⟨#[]⟩, .string ⟨#[]⟩, .slice none 0 0, .slice none 0 0, .slice none 0 0, .slice none 0 0, .slice none 0 0, .slice none 0 0, .slice none 0 0, .slice none 0 0, .slice none 0 0] 43)
                    have hb11 := bZ.size
                    obtain ⟨b11, hb11e⟩ : ∃ b11, b11 = Z3.heap.size := ⟨_, rfl⟩
                    rw [← hb11e] at hn11 hb11
                    rw [← hb11e]
                    generalize Z3.alloc (.cells #[.string ⟨#[]⟩, .int .i64 0, .string ⟨#[]⟩, .string ⟨#[]⟩, .slice none 0 0, .slice none 0 0, .slice none 0 0, .slice none 0 0, .slice none 0 0, .slice none 0 0, .slice none 0 0, .slice none 0 0, .slice none 0 0] 43) = Z4 at bz hn11 ⊢
                    replace LC : Z4.cell? ⟨db, d0 + k, none⟩ = some (.string ⟨t.toArray⟩) := (bz.cell (p := ⟨db, d0 + k, none⟩) (block_lt_of_cell LC)).trans LC
                    replace bZ := bZ.trans (bz.mono bZ.size)
                    replace hn2 := (bz.block _ (Array.getElem?_eq_some_iff.1 hn2).1).trans hn2
                    replace hn9 := (bz.block _ (Array.getElem?_eq_some_iff.1 hn9).1).trans hn9
                    clear bz
                    refine ⟨LC, ?_⟩
                    try simp only [Act.put, List.setIfInBounds_toArray, List.set_cons_succ, List.set_cons_zero]
                    refine wpAnyH_cast (l2 := #[true, true, true, true, true, true, true, true, true, true, true, true, false]) (by kernel_rfl) ?_
                    exact tail Z4 b2 b9 b11 ⟨LC, bZ, hn2, hn9, hn11, hb2, hb9, hb11⟩
                  · refine wpOp_want rfl (by kernel_rfl) ?_
                    unfold Oper.wp
                    simp [go_sem]
                    have bz := (Below.refl Z2.heap.size Z2).alloc (Nat.le_refl _) (.cells #[.string ⟨#[]⟩, .int .i64 0, .string ⟨#[]⟩, .string ⟨#[]⟩, .slice none 0 0, .slice none 0 0, .slice none 0 0, .slice none 0 0, .slice none 0 0, .slice none 0 0, .slice none 0 0, .slice none 0 0, .slice none 0 0] 43)
                    have hn11 := nb0 Z2 (.cells #[.string ⟨#[]⟩, .int .i64 0, .string ⟨#[]⟩, .string ⟨#[]⟩, .slice none 0 0, .slice none 0 0, .slice none 0 0, .slice none 0 0, .slice none 0 0, .slice none 0 0, .slice none 0 0, .slice none 0 0, .slice none 0 0] 43)
                    have hb11 := bZ.size
                    obtain ⟨b11, hb11e⟩ : ∃ b11, b11 = Z2.heap.size := ⟨_, rfl⟩
                    rw [← hb11e] at hn11 hb11
                    rw [← hb11e]
                    generalize Z2.alloc (.cells #[.string ⟨#[]⟩, .int .i64 0, .string ⟨#[]⟩, .string ⟨#[]⟩, .slice none 0 0, .slice none 0 0, .slice none 0 0, .slice none 0 0, .slice none 0 0, .slice none 0 0, .slice none 0 0, .slice none 0 0, .slice none 0 0] 43) = Z3 at bz hn11 ⊢
                    replace LC : Z3.cell? ⟨db, d0 + k, none⟩ = some (.string ⟨t.toArray⟩) := (bz.cell (p := ⟨db, d0 + k, none⟩) (block_lt_of_cell LC)).trans LC
                    replace bZ := bZ.trans (bz.mono bZ.size)
                    replace hn2 := (bz.block _ (Array.getElem?_eq_some_iff.1 hn2).1).trans hn2
                    replace hn9 := (bz.block _ (Array.getElem?_eq_some_iff.1 hn9).1).trans hn9
                    clear bz
                    refine ⟨LC, ?_⟩
                    try simp only [Act.put, List.setIfInBounds_toArray, List.set_cons_succ, List.set_cons_zero]
                    refine wpAnyH_all (rs := [0]) (by as_aux_lemma => kernel_rfl) (by simp) fun j hj => ?_
                    obtain rfl : j = 0 := by simpa using hj
                    have cV := read1_any Z3 (tab_on HT.out (hWr.trans (bZ.mono hWr.size)))
                    refine wpOp_want rfl (by kernel_rfl) ?_
                    unfold Oper.wp
                    simp [go_sem]
                    refine cV.mono ?_
                    rintro z Z4 ⟨rfl, bz⟩
                    clear cV
                    replace LC : Z4.cell? ⟨db, d0 + k, none⟩ = some (.string ⟨t.toArray⟩) := (bz.cell (p := ⟨db, d0 + k, none⟩) (block_lt_of_cell LC)).trans LC
                    replace bZ := bZ.trans (bz.mono bZ.size)
                    replace hn2 := (bz.block _ (Array.getElem?_eq_some_iff.1 hn2).1).trans hn2
                    replace hn9 := (bz.block _ (Array.getElem?_eq_some_iff.1 hn9).1).trans hn9
                    replace hn11 := (bz.block _ (Array.getElem?_eq_some_iff.1 hn11).1).trans hn11
                    clear bz
                    refine ⟨LC, ?_⟩
                    try simp only [Act.put, List.setIfInBounds_toArray, List.set_cons_succ, List.set_cons_zero]
                    refine take_d (some 75) (i := 10) (v := .agg #[.string ⟨#[97, 97]⟩, .int .i64 0, .string ⟨#[49]⟩, .string ⟨#[]⟩, .slice none 0 0, .slice none 0 0, .slice none 0 0, .slice none 0 0, .slice none 0 0, .slice none 0 0, .slice (some ⟨b2, 0, none⟩) 1 1, .slice none 0 0, .slice (some ⟨b9, 0, none⟩) 1 1]) rfl rfl (by as_aux_lemma => kernel_rfl) (by as_aux_lemma => kernel_rfl) (by as_aux_lemma => kernel_rfl) (fun _ _ _ h => h) (.inl ⟨by kernel_rfl, fun w' _ => by simp [go_sem]⟩) LC ?_
                    try simp only [Act.put, List.setIfInBounds_toArray, List.set_cons_succ, List.set_cons_zero]
                    refine wpAnyH_cast (l2 := #[true, true, true, true, true, true, true, true, true, true, true, true, false]) (by kernel_rfl) ?_
                    exact tail Z4 b2 b9 b11 ⟨LC, bZ, hn2, hn9, hn11, hb2, hb9, hb11⟩
                · refine wpOp_want rfl (by kernel_rfl) ?_
                  unfold Oper.wp
                  simp [go_sem]
                  have bz := (Below.refl Z1.heap.size Z1).alloc (Nat.le_refl _) (.cells #[.string ⟨#[]⟩, .int .i64 0, .string ⟨#[]⟩, .string ⟨#[]⟩, .slice none 0 0, .slice none 0 0, .slice none 0 0, .slice none 0 0, .slice none 0 0, .slice none 0 0, .slice none 0 0, .slice none 0 0, .slice none 0 0] 43)
                  have hn11 := nb0 Z1 (.cells #[.string ⟨#[]⟩, .int .i64 0, .string ⟨#[]⟩, .string ⟨#[]⟩, .slice none 0 0, .slice none 0 0, .slice none 0 0, .slice none 0 0, .slice none 0 0, .slice none 0 0, .slice none 0 0, .slice none 0 0, .slice none 0 0] 43)
                  have hb11 := bZ.size
                  obtain ⟨b11, hb11e⟩ : ∃ b11, b11 = Z1.heap.size := ⟨_, rfl⟩
                  rw [← hb11e] at hn11 hb11
                  rw [← hb11e]
                  generalize Z1.alloc (.cells #[.string ⟨#[]⟩, .int .i64 0, .string ⟨#[]⟩, .string ⟨#[]⟩, .slice none 0 0, .slice none 0 0, .slice none 0 0, .slice none 0 0, .slice none 0 0, .slice none 0 0, .slice none 0 0, .slice none 0 0, .slice none 0 0] 43) = Z2 at bz hn11 ⊢
                  replace LC : Z2.cell? ⟨db, d0 + k, none⟩ = some (.string ⟨t.toArray⟩) := (bz.cell (p := ⟨db, d0 + k, none⟩) (block_lt_of_cell LC)).trans LC
                  replace bZ := bZ.trans (bz.mono bZ.size)
                  replace hn2 := (bz.block _ (Array.getElem?_eq_some_iff.1 hn2).1).trans hn2
                  clear bz
                  refine ⟨LC, ?_⟩
                  try simp only [Act.put, List.setIfInBounds_toArray, List.set_cons_succ, List.set_cons_zero]
                  refine wpAnyH_all (rs := [0, 9]) (by as_aux_lemma => kernel_rfl) (by simp) fun j hj => ?_
                  have hj : j = 0 ∨ j = 9 := by simpa using hj
                  rcases hj with rfl | rfl
                  · have cV := read1_any Z2 (tab_on HT.out (hWr.trans (bZ.mono hWr.size)))
                    refine wpOp_want rfl (by kernel_rfl) ?_
                    unfold Oper.wp
                    simp [go_sem]
                    refine cV.mono ?_
                    rintro z Z3 ⟨rfl, bz⟩
                    clear cV
                    replace LC : Z3.cell? ⟨db, d0 + k, none⟩ = some (.string ⟨t.toArray⟩) := (bz.cell (p := ⟨db, d0 + k, none⟩) (block_lt_of_cell LC)).trans LC
                    replace bZ := bZ.trans (bz.mono bZ.size)
                    replace hn2 := (bz.block _ (Array.getElem?_eq_some_iff.1 hn2).1).trans hn2
                    replace hn11 := (bz.block _ (Array.getElem?_eq_some_iff.1 hn11).1).trans hn11
                    clear bz
                    refine ⟨LC, ?_⟩
                    try simp only [Act.put, List.setIfInBounds_toArray, List.set_cons_succ, List.set_cons_zero]
                    refine wpAnyH_all (rs := [9]) (by as_aux_lemma => kernel_rfl) (by simp) fun j hj => ?_
                    obtain rfl : j = 9 := by simpa using hj
                    refine wpOp_want rfl (by kernel_rfl) ?_
                    unfold Oper.wp
                    simp [go_sem]
                    have bz := (Below.refl Z3.heap.size Z3).alloc (Nat.le_refl _) (.cells #[.string ⟨pa.toArray⟩, .string ⟨t.toArray⟩] 73)
                    have hn9 := nb0 Z3 (.cells #[.string ⟨pa.toArray⟩, .string ⟨t.toArray⟩] 73)
                    have hb9 := bZ.size
                    obtain ⟨b9, hb9e⟩ : ∃ b9, b9 = Z3.heap.size := ⟨_, rfl⟩
                    rw [← hb9e] at hn9 hb9
                    rw [← hb9e]
                    generalize Z3.alloc (.cells #[.string ⟨pa.toArray⟩, .string ⟨t.toArray⟩] 73) = Z4 at bz hn9 ⊢
                    replace LC : Z4.cell? ⟨db, d0 + k, none⟩ = some (.string ⟨t.toArray⟩) := (bz.cell (p := ⟨db, d0 + k, none⟩) (block_lt_of_cell LC)).trans LC
                    replace bZ := bZ.trans (bz.mono bZ.size)
                    replace hn2 := (bz.block _ (Array.getElem?_eq_some_iff.1 hn2).1).trans hn2
                    replace hn11 := (bz.block _ (Array.getElem?_eq_some_iff.1 hn11).1).trans hn11
                    clear bz
                    refine ⟨LC, ?_⟩
                    try simp only [Act.put, List.setIfInBounds_toArray, List.set_cons_succ, List.set_cons_zero]
                    refine take_d (some 75) (i := 10) (v := .agg #[.string ⟨#[97, 97]⟩, .int .i64 0, .string ⟨#[49]⟩, .string ⟨#[]⟩, .slice none 0 0, .slice none 0 0, .slice none 0 0, .slice none 0 0, .slice none 0 0, .slice none 0 0, .slice (some ⟨b2, 0, none⟩) 1 1, .slice none 0 0, .slice (some ⟨b9, 0, none⟩) 1 1]) rfl rfl (by as_aux_lemma => kernel_rfl) (by as_aux_lemma => kernel_rfl) (by as_aux_lemma => kernel_rfl) (fun _ _ _ h => h) (.inl ⟨by kernel_rfl, fun w' _ => by simp [go_sem]⟩) LC ?_
                    try simp only [Act.put, List.setIfInBounds_toArray, List.set_cons_succ, List.set_cons_zero]
                    refine wpAnyH_cast (l2 := #[true, true, true, true, true, true, true, true, true, true, true, true, false]) (by kernel_rfl) ?_
                    exact tail Z4 b2 b9 b11 ⟨LC, bZ, hn2, hn9, hn11, hb2, hb9, hb11⟩
                  · refine wpOp_want rfl (by kernel_rfl) ?_
                    unfold Oper.wp
                    simp [go_sem]
                    have bz := (Below.refl Z2.heap.size Z2).alloc (Nat.le_refl _) (.cells #[.string ⟨pa.toArray⟩, .string ⟨t.toArray⟩] 73)
                    have hn9 := nb0 Z2 (.cells #[.string ⟨pa.toArray⟩, .string ⟨t.toArray⟩] 73)
                    have hb9 := bZ.size
                    obtain ⟨b9, hb9e⟩ : ∃ b9, b9 = Z2.heap.size := ⟨_, rfl⟩
                    rw [← hb9e] at hn9 hb9
                    rw [← hb9e]
                    generalize Z2.alloc (.cells #[.string ⟨pa.toArray⟩, .string ⟨t.toArray⟩] 73) = Z3 at bz hn9 ⊢
                    replace LC : Z3.cell? ⟨db, d0 + k, none⟩ = some (.string ⟨t.toArray⟩) := (bz.cell (p := ⟨db, d0 + k, none⟩) (block_lt_of_cell LC)).trans LC
                    replace bZ := bZ.trans (bz.mono bZ.size)
                    replace hn2 := (bz.block _ (Array.getElem?_eq_some_iff.1 hn2).1).trans hn2
                    replace hn11 := (bz.block _ (Array.getElem?_eq_some_iff.1 hn11).1).trans hn11
                    clear bz
                    refine ⟨LC, ?_⟩
                    try simp only [Act.put, List.setIfInBounds_toArray, List.set_cons_succ, List.set_cons_zero]
                    refine wpAnyH_all (rs := [0]) (by as_aux_lemma => kernel_rfl) (by simp) fun j hj => ?_
                    obtain rfl : j = 0 := by simpa using hj
                    have cV := read1_any Z3 (tab_on HT.out (hWr.trans (bZ.mono hWr.size)))
                    refine wpOp_want rfl (by kernel_rfl) ?_
                    unfold Oper.wp
                    simp [go_sem]
                    refine cV.mono ?_
                    rintro z Z4 ⟨rfl, bz⟩
                    clear cV
                    replace LC : Z4.cell? ⟨db, d0 + k, none⟩ = some (.string ⟨t.toArray⟩) := (bz.cell (p := ⟨db, d0 + k, none⟩) (block_lt_of_cell LC)).trans LC
                    replace bZ := bZ.trans (bz.mono bZ.size)
                    replace hn2 := (bz.block _ (Array.getElem?_eq_some_iff.1 hn2).1).trans hn2
                    replace hn11 := (bz.block _ (Array.getElem?_eq_some_iff.1 hn11).1).trans hn11
                    replace hn9 := (bz.block _ (Array.getElem?_eq_some_iff.1 hn9).1).trans hn9
                    clear bz
                    refine ⟨LC, ?_⟩
                    try simp only [Act.put, List.setIfInBounds_toArray, List.set_cons_succ, List.set_cons_zero]
                    refine take_d (some 75) (i := 10) (v := .agg #[.string ⟨#[97, 97]⟩, .int .i64 0, .string ⟨#[49]⟩, .string ⟨#[]⟩, .slice none 0 0, .slice none 0 0, .slice none 0 0, .slice none 0 0, .slice none 0 0, .slice none 0 0, .slice (some ⟨b2, 0, none⟩) 1 1, .slice none 0 0, .slice (some ⟨b9, 0, none⟩) 1 1]) rfl rfl (by as_aux_lemma => kernel_rfl) (by as_aux_lemma => kernel_rfl) (by as_aux_lemma => kernel_rfl) (fun _ _ _ h => h) (.inl ⟨by kernel_rfl, fun w' _ => by simp [go_sem]⟩) LC ?_
                    try simp only [Act.put, List.setIfInBounds_toArray, List.set_cons_succ, List.set_cons_zero]
                    refine wpAnyH_cast (l2 := #[true, true, true, true, true, true, true, true, true, true, true, true, false]) (by kernel_rfl) ?_
                    exact tail Z4 b2 b9 b11 ⟨LC, bZ, hn2, hn9, hn11, hb2, hb9, hb11⟩
              · refine wpOp_want rfl (by kernel_rfl) ?_
                unfold Oper.wp
                simp [go_sem]
                have bz := (Below.refl Z0.heap.size Z0).alloc (Nat.le_refl _) (.cells #[.string ⟨pa.toArray⟩, .string ⟨t.toArray⟩] 73)
                have hn9 := nb0 Z0 (.cells #[.string ⟨pa.toArray⟩, .string ⟨t.toArray⟩] 73)
                have hb9 := bZ.size
                obtain ⟨b9, hb9e⟩ : ∃ b9, b9 = Z0.heap.size := ⟨_, rfl⟩
                rw [← hb9e] at hn9 hb9
                rw [← hb9e]
                generalize Z0.alloc (.cells #[.string ⟨pa.toArray⟩, .string ⟨t.toArray⟩] 73) = Z1 at bz hn9 ⊢
                replace LC : Z1.cell? ⟨db, d0 + k, none⟩ = some (.string ⟨t.toArray⟩) := (bz.cell (p := ⟨db, d0 + k, none⟩) (block_lt_of_cell LC)).trans LC
                replace bZ := bZ.trans (bz.mono bZ.size)
                clear bz
                refine ⟨LC, ?_⟩
                try simp only [Act.put, List.setIfInBounds_toArray, List.set_cons_succ, List.set_cons_zero]
                refine wpAnyH_all (rs := [0, 2, 11]) (by as_aux_lemma => kernel_rfl) (by simp) fun j hj => ?_
                have hj : j = 0 ∨ j = 2 ∨ j = 11 := by simpa using hj
                rcases hj with rfl | rfl | rfl
                · have cV := read1_any Z1 (tab_on HT.out (hWr.trans (bZ.mono hWr.size)))
                  refine wpOp_want rfl (by kernel_rfl) ?_
                  unfold Oper.wp
                  simp [go_sem]
                  refine cV.mono ?_
                  rintro z Z2 ⟨rfl, bz⟩
                  clear cV
                  replace LC : Z2.cell? ⟨db, d0 + k, none⟩ = some (.string ⟨t.toArray⟩) := (bz.cell (p := ⟨db, d0 + k, none⟩) (block_lt_of_cell LC)).trans LC
                  replace bZ := bZ.trans (bz.mono bZ.size)
                  replace hn9 := (bz.block _ (Array.getElem?_eq_some_iff.1 hn9).1).trans hn9
                  clear bz
                  refine ⟨LC, ?_⟩
                  try simp only [Act.put, List.setIfInBounds_toArray, List.set_cons_succ, List.set_cons_zero]
                  refine wpAnyH_all (rs := [2, 11]) (by as_aux_lemma => kernel_rfl) (by simp) fun j hj => ?_
                  have hj : j = 2 ∨ j = 11 := by simpa using hj
                  rcases hj with rfl | rfl
                  · refine wpOp_want rfl (by kernel_rfl) ?_
                    unfold Oper.wp
                    simp [go_sem]
                    have bz := (Below.refl Z2.heap.size Z2).alloc (Nat.le_refl _) (.cells #[.string ⟨pa.toArray⟩] 9)
                    have hn2 := nb0 Z2 (.cells #[.string ⟨pa.toArray⟩] 9)
                    have hb2 := bZ.size
                    obtain ⟨b2, hb2e⟩ : ∃ b2, b2 = Z2.heap.size := ⟨_, rfl⟩
                    rw [← hb2e] at hn2 hb2
                    rw [← hb2e]
                    generalize Z2.alloc (.cells #[.string ⟨pa.toArray⟩] 9) = Z3 at bz hn2 ⊢
                    replace LC : Z3.cell? ⟨db, d0 + k, none⟩ = some (.string ⟨t.toArray⟩) := (bz.cell (p := ⟨db, d0 + k, none⟩) (block_lt_of_cell LC)).trans LC
                    replace bZ := bZ.trans (bz.mono bZ.size)
                    replace hn9 := (bz.block _ (Array.getElem?_eq_some_iff.1 hn9).1).trans hn9
                    clear bz
                    refine ⟨LC, ?_⟩
                    try simp only [Act.put, List.setIfInBounds_toArray, List.set_cons_succ, List.set_cons_zero]
                    refine take_d (some 75) (i := 10) (v := .agg #[.string ⟨#[97, 97]⟩, .int .i64 0, .string ⟨#[49]⟩, .string ⟨#[]⟩, .slice none 0 0, .slice none 0 0, .slice none 0 0, .slice none 0 0, .slice none 0 0, .slice none 0 0, .slice (some ⟨b2, 0, none⟩) 1 1, .slice none 0 0, .slice (some ⟨b9, 0, none⟩) 1 1]) rfl rfl (by as_aux_lemma => kernel_rfl) (by as_aux_lemma => kernel_rfl) (by as_aux_lemma => kernel_rfl) (fun _ _ _ h => h) (.inl ⟨by kernel_rfl, fun w' _ => by simp [go_sem]⟩) LC ?_
                    try simp only [Act.put, List.setIfInBounds_toArray, List.set_cons_succ, List.set_cons_zero]
                    refine wpAnyH_all (rs := [11]) (by as_aux_lemma => kernel_rfl) (by simp) fun j hj => ?_
                    obtain rfl : j = 11 := by simpa using hj
                    refine wpOp_want rfl (by kernel_rfl) ?_
                    unfold Oper.wp
                    simp [go_sem]
                    have bz := (Below.refl Z3.heap.size Z3).alloc (Nat.le_refl _) (.cells #[.string ⟨#[]⟩, .int .i64 0, .string ⟨#[]⟩, .string ⟨#[]⟩, .slice none 0 0, .slice none 0 0, .slice none 0 0, .slice none 0 0, .slice none 0 0, .slice none 0 0, .slice none 0 0, .slice none 0 0, .slice none 0 0] 43)
                    have hn11 := nb0 Z3 (.cells #[.string ⟨#[]⟩, .int .i64 0, .string ⟨#[]⟩, .string ⟨#[]⟩, .slice none 0 0, .slice none 0 0, .slice none 0 0, .slice none 0 0, .slice none 0 0, .slice none 0 0, .slice none 0 0, .slice none 0 0, .slice none 0 0] 43)
                    have hb11 := bZ.size
                    obtain ⟨b11, hb11e⟩ : ∃ b11, b11 = Z3.heap.size := ⟨_, rfl⟩
                    rw [← hb11e] at hn11 hb11
                    rw [← hb11e]
                    generalize Z3.alloc (.cells #[.string ⟨#[]⟩, .int .i64 0, .string ⟨#[]⟩, .string ⟨#[]⟩, .slice none 0 0, .slice none 0 0, .slice none 0 0, .slice none 0 0, .slice none 0 0, .slice none 0 0, .slice none 0 0, .slice none 0 0, .slice none 0 0] 43) = Z4 at bz hn11 ⊢
                    replace LC : Z4.cell? ⟨db, d0 + k, none⟩ = some (.string ⟨t.toArray⟩) := (bz.cell (p := ⟨db, d0 + k, none⟩) (block_lt_of_cell LC)).trans LC
                    replace bZ := bZ.trans (bz.mono bZ.size)
                    replace hn9 := (bz.block _ (Array.getElem?_eq_some_iff.1 hn9).1).trans hn9
                    replace hn2 := (bz.block _ (Array.getElem?_eq_some_iff.1 hn2).1).trans hn2
                    clear bz
                    refine ⟨LC, ?_⟩
                    try simp only [Act.put, List.setIfInBounds_toArray, List.set_cons_succ, List.set_cons_zero]
                    refine wpAnyH_cast (l2 := #[true, true, true, true, true, true, true, true, true, true, true, true, false]) (by kernel_rfl) ?_
                    exact tail Z4 b2 b9 b11 ⟨LC, bZ, hn2, hn9, hn11, hb2, hb9, hb11⟩
                  · refine wpOp_want rfl (by kernel_rfl) ?_
                    unfold Oper.wp
                    simp [go_sem]
                    have bz := (Below.refl Z2.heap.size Z2).alloc (Nat.le_refl _) (.cells #[.string ⟨#[]⟩, .int .i64 0, .string ⟨#[]⟩, .string ⟨#[]⟩, .slice none 0 0, .slice none 0 0, .slice none 0 0, .slice none 0 0, .slice none 0 0, .slice none 0 0, .slice none 0 0, .slice none 0 0, .slice none 0 0] 43)
                    have hn11 := nb0 Z2 (.cells #[.string ⟨#[]⟩, .int .i64 0, .string ⟨#[]⟩, .string ⟨#[]⟩, .slice none 0 0, .slice none 0 0, .slice none 0 0, .slice none 0 0, .slice none 0 0, .slice none 0 0, .slice none 0 0, .slice none 0 0, .slice none 0 0] 43)
                    have hb11 := bZ.size
                    obtain ⟨b11, hb11e⟩ : ∃ b11, b11 = Z2.heap.size := ⟨_, rfl⟩
                    rw [← hb11e] at hn11 hb11
                    rw [← hb11e]
                    generalize Z2.alloc (.cells #[.string ⟨#[]⟩, .int .i64 0, .string ⟨#[]⟩, .string ⟨#[]⟩, .slice none 0 0, .slice none 0 0, .slice none 0 0, .slice none 0 0, .slice none 0 0, .slice none 0 0, .slice none 0 0, .slice none 0 0, .slice none 0 0] 43) = Z3 at bz hn11 ⊢
                    replace LC : Z3.cell? ⟨db, d0 + k, none⟩ = some (.string ⟨t.toArray⟩) := (bz.cell (p := ⟨db, d0 + k, none⟩) (block_lt_of_cell LC)).trans LC
                    replace bZ := bZ.trans (bz.mono bZ.size)
                    replace hn9 := (bz.block _ (Array.getElem?_eq_some_iff.1 hn9).1).trans hn9
                    clear bz
                    refine ⟨LC, ?_⟩
                    try simp only [Act.put, List.setIfInBounds_toArray, List.set_cons_succ, List.set_cons_zero]
                    refine wpAnyH_all (rs := [2]) (by as_aux_lemma => kernel_rfl) (by simp) fun j hj => ?_
                    obtain rfl : j = 2 := by simpa using hj
                    refine wpOp_want rfl (by kernel_rfl) ?_
                    unfold Oper.wp
                    simp [go_sem]
                    have bz := (Below.refl Z3.heap.size Z3).alloc (Nat.le_refl _) (.cells #[.string ⟨pa.toArray⟩] 9)
                    have hn2 := nb0 Z3 (.cells #[.string ⟨pa.toArray⟩] 9)
                    have hb2 := bZ.size
                    obtain ⟨b2, hb2e⟩ : ∃ b2, b2 = Z3.heap.size := ⟨_, rfl⟩
                    rw [← hb2e] at hn2 hb2
                    rw [← hb2e]
                    generalize Z3.alloc (.cells #[.string ⟨pa.toArray⟩] 9) = Z4 at bz hn2 ⊢
                    replace LC : Z4.cell? ⟨db, d0 + k, none⟩ = some (.string ⟨t.toArray⟩) := (bz.cell (p := ⟨db, d0 + k, none⟩) (block_lt_of_cell LC)).trans LC
                    replace bZ := bZ.trans (bz.mono bZ.size)
                    replace hn9 := (bz.block _ (Array.getElem?_eq_some_iff.1 hn9).1).trans hn9
                    replace hn11 := (bz.block _ (Array.getElem?_eq_some_iff.1 hn11).1).trans hn11
                    clear bz
                    refine ⟨LC, ?_⟩
                    try simp only [Act.put, List.setIfInBounds_toArray, List.set_cons_succ, List.set_cons_zero]
                    refine take_d (some 75) (i := 10) (v := .agg #[.string ⟨#[97, 97]⟩, .int .i64 0, .string ⟨#[49]⟩, .string ⟨#[]⟩, .slice none 0 0, .slice none 0 0, .slice none 0 0, .slice none 0 0, .slice none 0 0, .slice none 0 0, .slice (some ⟨b2, 0, none⟩) 1 1, .slice none 0 0, .slice (some ⟨b9, 0, none⟩) 1 1]) rfl rfl (by as_aux_lemma => kernel_rfl) (by as_aux_lemma => kernel_rfl) (by as_aux_lemma => kernel_rfl) (fun _ _ _ h => h) (.inl ⟨by kernel_rfl, fun w' _ => by simp [go_sem]⟩) LC ?_
                    try simp only [Act.put, List.setIfInBounds_toArray, List.set_cons_succ, List.set_cons_zero]
                    refine wpAnyH_cast (l2 := #[true, true, true, true, true, true, true, true, true, true, true, true, false]) (by kernel_rfl) ?_
                    exact tail Z4 b2 b9 b11 ⟨LC, bZ, hn2, hn9, hn11, hb2, hb9, hb11⟩
                · refine wpOp_want rfl (by kernel_rfl) ?_
                  unfold Oper.wp
                  simp [go_sem]
                  have bz := (Below.refl Z1.heap.size Z1).alloc (Nat.le_refl _) (.cells #[.string ⟨pa.toArray⟩] 9)
                  have hn2 := nb0 Z1 (.cells #[.string ⟨pa.toArray⟩] 9)
                  have hb2 := bZ.size
                  obtain ⟨b2, hb2e⟩ : ∃ b2, b2 = Z1.heap.size := ⟨_, rfl⟩
                  rw [← hb2e] at hn2 hb2
                  rw [← hb2e]
                  generalize Z1.alloc (.cells #[.string ⟨pa.toArray⟩] 9) = Z2 at bz hn2 ⊢
                  replace LC : Z2.cell? ⟨db, d0 + k, none⟩ = some (.string ⟨t.toArray⟩) := (bz.cell (p := ⟨db, d0 + k, none⟩) (block_lt_of_cell LC)).trans LC
                  replace bZ := bZ.trans (bz.mono bZ.size)
                  replace hn9 := (bz.block _ (Array.getElem?_eq_some_iff.1 hn9).1).trans hn9
                  clear bz
                  refine ⟨LC, ?_⟩
                  try simp only [Act.put, List.setIfInBounds_toArray, List.set_cons_succ, List.set_cons_zero]
                  refine wpAnyH_all (rs := [0, 11]) (by as_aux_lemma => kernel_rfl) (by simp) fun j hj => ?_
                  have hj : j = 0 ∨ j = 11 := by simpa using hj
                  rcases hj with rfl | rfl
                  · have cV := read1_any Z2 (tab_on HT.out (hWr.trans (bZ.mono hWr.size)))
                    refine wpOp_want rfl (by kernel_rfl) ?_
                    unfold Oper.wp
                    simp [go_sem]
                    refine cV.mono ?_
                    rintro z Z3 ⟨rfl, bz⟩
                    clear cV
                    replace LC : Z3.cell? ⟨db, d0 + k, none⟩ = some (.string ⟨t.toArray⟩) := (bz.cell (p := ⟨db, d0 + k, none⟩) (block_lt_of_cell LC)).trans LC
                    replace bZ := bZ.trans (bz.mono bZ.size)
                    replace hn9 := (bz.block _ (Array.getElem?_eq_some_iff.1 hn9).1).trans hn9
                    replace hn2 := (bz.block _ (Array.getElem?_eq_some_iff.1 hn2).1).trans hn2
                    clear bz
                    refine ⟨LC, ?_⟩
                    try simp only [Act.put, List.setIfInBounds_toArray, List.set_cons_succ, List.set_cons_zero]
                    refine take_d (some 75) (i := 10) (v := .agg #[.string ⟨#[97, 97]⟩, .int .i64 0, .string ⟨#[49]⟩, .string ⟨#[]⟩, .slice none 0 0, .slice none 0 0, .slice none 0 0, .slice none 0 0, .slice none 0 0, .slice none 0 0, .slice (some ⟨b2, 0, none⟩) 1 1, .slice none 0 0, .slice (some ⟨b9, 0, none⟩) 1 1]) rfl rfl (by as_aux_lemma => kernel_rfl) (by as_aux_lemma => kernel_rfl) (by as_aux_lemma => kernel_rfl) (fun _ _ _ h => h) (.inl ⟨by kernel_rfl, fun w' _ => by simp [go_sem]⟩) LC ?_
                    try simp only [Act.put, List.setIfInBounds_toArray, List.set_cons_succ, List.set_cons_zero]
                    refine wpAnyH_all (rs := [11]) (by as_aux_lemma => kernel_rfl) (by simp) fun j hj => ?_
                    obtain rfl : j = 11 := by simpa using hj
                    refine wpOp_want rfl (by kernel_rfl) ?_
                    unfold Oper.wp
                    simp [go_sem]
                    have bz := (Below.refl Z3.heap.size Z3).alloc (Nat.le_refl _) (.cells #[.string ⟨#[]⟩, .int .i64 0, .string ⟨#[]⟩, .string ⟨#[]⟩, .slice none 0 0, .slice none 0 0, .slice none 0 0, .slice none 0 0, .slice none 0 0, .slice none 0 0, .slice none 0 0, .slice none 0 0, .slice none 0 0] 43)
                    have hn11 := nb0 Z3 (.cells #[.string ⟨#[]⟩, .int .i64 0, .string ⟨#[]⟩, .string ⟨#[]⟩, .slice none 0 0, .slice none 0 0, .slice none 0 0, .slice none 0 0, .slice none 0 0, .slice none 0 0, .slice none 0 0, .slice none 0 0, .slice none 0 0] 43)
                    have hb11 := bZ.size
                    obtain ⟨b11, hb11e⟩ : ∃ b11, b11 = Z3.heap.size := ⟨_, rfl⟩
                    rw [← hb11e] at hn11 hb11
                    rw [← hb11e]
                    generalize Z3.alloc (.cells #[.string ⟨#[]⟩, .int .i64 0, .string ⟨#[]⟩, .string ⟨#[]⟩, .slice none 0 0, .slice none 0 0, .slice none 0 0, .slice none 0 0, .slice none 0 0, .slice none 0 0, .slice none 0 0, .slice none 0 0, .slice none 0 0] 43) = Z4 at bz hn11 ⊢
                    replace LC : Z4.cell? ⟨db, d0 + k, none⟩ = some (.string ⟨t.toArray⟩) := (bz.cell (p := ⟨db, d0 + k, none⟩) (block_lt_of_cell LC)).trans LC
                    replace bZ := bZ.trans (bz.mono bZ.size)
                    replace hn9 := (bz.block _ (Array.getElem?_eq_some_iff.1 hn9).1).trans hn9
                    replace hn2 := (bz.block _ (Array.getElem?_eq_some_iff.1 hn2).1).trans hn2
                    clear bz
                    refine ⟨LC, ?_⟩
                    try simp only [Act.put, List.setIfInBounds_toArray, List.set_cons_succ, List.set_cons_zero]
                    refine wpAnyH_cast (l2 := #[true, true, true, true, true, true, true, true, true, true, true, true, false]) (by kernel_rfl) ?_
                    exact tail Z4 b2 b9 b11 ⟨LC, bZ, hn2, hn9, hn11, hb2, hb9, hb11⟩
                  · refine wpOp_want rfl (by kernel_rfl) ?_
                    unfold Oper.wp
                    simp [go_sem]
                    have bz := (Below.refl Z2.heap.size Z2).alloc (Nat.le_refl _) (.cells #[.string ⟨#[]⟩, .int .i64 0, .string ⟨#[]⟩, .string ⟨#[]⟩, .slice none 0 0, .slice none 0 0, .slice none 0 0, .slice none 0 0, .slice none 0 0, .slice none 0 0, .slice none 0 0, .slice none 0 0, .slice none 0 0] 43)
                    have hn11 := nb0 Z2 (.cells #[.string ⟨#[]⟩, .int .i64 0, .string ⟨#[]⟩, .string ⟨#[]⟩, .slice none 0 0, .slice none 0 0, .slice none 0 0, .slice none 0 0, .slice none 0 0, .slice none 0 0, .slice none 0 0, .slice none 0 0, .slice none 0 0] 43)
                    have hb11 := bZ.size
                    obtain ⟨b11, hb11e⟩ : ∃ b11, b11 = Z2.heap.size := ⟨_, rfl⟩
                    rw [← hb11e] at hn11 hb11
                    rw [← hb11e]
                    generalize Z2.alloc (.cells #[.string ⟨#[]⟩, .int .i64 0, .string ⟨#[]⟩, .string ⟨#[]⟩, .slice none 0 0, .slice none 0 0, .slice none 0 0, .slice none 0 0, .slice none 0 0, .slice none 0 0, .slice none 0 0, .slice none 0 0, .slice none 0 0] 43) = Z3 at bz hn11 ⊢
                    replace LC : Z3.cell? ⟨db, d0 + k, none⟩ = some (.string ⟨t.toArray⟩) := (bz.cell (p := ⟨db, d0 + k, none⟩) (block_lt_of_cell LC)).trans LC
                    replace bZ := bZ.trans (bz.mono bZ.size)
                    replace hn9 := (bz.block _ (Array.getElem?_eq_some_iff.1 hn9).1).trans hn9
                    replace hn2 := (bz.block _ (Array.getElem?_eq_some_iff.1 hn2).1).trans hn2
                    clear bz
                    refine ⟨LC, ?_⟩
                    try simp only [Act.put, List.setIfInBounds_toArray, List.set_cons_succ, List.set_cons_zero]
                    refine wpAnyH_all (rs := [0]) (by as_aux_lemma => kernel_rfl) (by simp) fun j hj => ?_
                    obtain rfl : j = 0 := by simpa using hj
                    have cV := read1_any Z3 (tab_on HT.out (hWr.trans (bZ.mono hWr.size)))
                    refine wpOp_want rfl (by kernel_rfl) ?_
                    unfold Oper.wp
                    simp [go_sem]
                    refine cV.mono ?_
                    rintro z Z4 ⟨rfl, bz⟩
                    clear cV
                    replace LC : Z4.cell? ⟨db, d0 + k, none⟩ = some (.string ⟨t.toArray⟩) := (bz.cell (p := ⟨db, d0 + k, none⟩) (block_lt_of_cell LC)).trans LC
                    replace bZ := bZ.trans (bz.mono bZ.size)
                    replace hn9 := (bz.block _ (Array.getElem?_eq_some_iff.1 hn9).1).trans hn9
                    replace hn2 := (bz.block _ (Array.getElem?_eq_some_iff.1 hn2).1).trans hn2
                    replace hn11 := (bz.block _ (Array.getElem?_eq_some_iff.1 hn11).1).trans hn11
                    clear bz
                    refine ⟨LC, ?_⟩
                    try simp only [Act.put, List.setIfInBounds_toArray, List.set_cons_succ, List.set_cons_zero]
                    refine take_d (some 75) (i := 10) (v := .agg #[.string ⟨#[97, 97]⟩, .int .i64 0, .string ⟨#[49]⟩, .string ⟨#[]⟩, .slice none 0 0, .slice none 0 0, .slice none 0 0, .slice none 0 0, .slice none 0 0, .slice none 0 0, .slice (some ⟨b2, 0, none⟩) 1 1, .slice none 0 0, .slice (some ⟨b9, 0, none⟩) 1 1]) rfl rfl (by as_aux_lemma => kernel_rfl) (by as_aux_lemma => kernel_rfl) (by as_aux_lemma => kernel_rfl) (fun _ _ _ h => h) (.inl ⟨by kernel_rfl, fun w' _ => by simp [go_sem]⟩) LC ?_
                    try simp only [Act.put, List.setIfInBounds_toArray, List.set_cons_succ, List.set_cons_zero]
                    refine wpAnyH_cast (l2 := #[true, true, true, true, true, true, true, true, true, true, true, true, false]) (by kernel_rfl) ?_
                    exact tail Z4 b2 b9 b11 ⟨LC, bZ, hn2, hn9, hn11, hb2, hb9, hb11⟩
                · refine wpOp_want rfl (by kernel_rfl) ?_
                  unfold Oper.wp
                  simp [go_sem]
                  have bz := (Below.refl Z1.heap.size Z1).alloc (Nat.le_refl _) (.cells #[.string ⟨#[]⟩, .int .i64 0, .string ⟨#[]⟩, .string ⟨#[]⟩, .slice none 0 0, .slice none 0 0, .slice none 0 0, .slice none 0 0, .slice none 0 0, .slice none 0 0, .slice none 0 0, .slice none 0 0, .slice none 0 0] 43)
                  have hn11 := nb0 Z1 (.cells #[.string ⟨#[]⟩, .int .i64 0, .string ⟨#[]⟩, .string ⟨#[]⟩, .slice none 0 0, .slice none 0 0, .slice none 0 0, .slice none 0 0, .slice none 0 0, .slice none 0 0, .slice none 0 0, .slice none 0 0, .slice none 0 0] 43)
                  have hb11 := bZ.size
                  obtain ⟨b11, hb11e⟩ : ∃ b11, b11 = Z1.heap.size := ⟨_, rfl⟩
                  rw [← hb11e] at hn11 hb11
                  rw [← hb11e]
                  generalize Z1.alloc (.cells #[.string ⟨#[]⟩, .int .i64 0, .string ⟨#[]⟩, .string ⟨#[]⟩, .slice none 0 0, .slice none 0 0, .slice none 0 0, .slice none 0 0, .slice none 0 0, .slice none 0 0, .slice none 0 0, .slice none 0 0, .slice none 0 0] 43) = Z2 at bz hn11 ⊢
                  replace LC : Z2.cell? ⟨db, d0 + k, none⟩ = some (.string ⟨t.toArray⟩) := (bz.cell (p := ⟨db, d0 + k, none⟩) (block_lt_of_cell LC)).trans LC
                  replace bZ := bZ.trans (bz.mono bZ.size)
                  replace hn9 := (bz.block _ (Array.getElem?_eq_some_iff.1 hn9).1).trans hn9
                  clear bz
                  refine ⟨LC, ?_⟩
                  try simp only [Act.put, List.setIfInBounds_toArray, List.set_cons_succ, List.set_cons_zero]
                  refine wpAnyH_all (rs := [0, 2]) (by as_aux_lemma => kernel_rfl) (by simp) fun j hj => ?_
                  have hj : j = 0 ∨ j = 2 := by simpa using hj
                  rcases hj with rfl | rfl
                  · have cV := read1_any Z2 (tab_on HT.out (hWr.trans (bZ.mono hWr.size)))
                    refine wpOp_want rfl (by kernel_rfl) ?_
                    unfold Oper.wp
                    simp [go_sem]
                    refine cV.mono ?_
                    rintro z Z3 ⟨rfl, bz⟩
                    clear cV
                    replace LC : Z3.cell? ⟨db, d0 + k, none⟩ = some (.string ⟨t.toArray⟩) := (bz.cell (p := ⟨db, d0 + k, none⟩) (block_lt_of_cell LC)).trans LC
                    replace bZ := bZ.trans (bz.mono bZ.size)
                    replace hn9 := (bz.block _ (Array.getElem?_eq_some_iff.1 hn9).1).trans hn9
                    replace hn11 := (bz.block _ (Array.getElem?_eq_some_iff.1 hn11).1).trans hn11
                    clear bz
                    refine ⟨LC, ?_⟩
                    try simp only [Act.put, List.setIfInBounds_toArray, List.set_cons_succ, List.set_cons_zero]
                    refine wpAnyH_all (rs := [2]) (by as_aux_lemma => kernel_rfl) (by simp) fun j hj => ?_
                    obtain rfl : j = 2 := by simpa using hj
                    refine wpOp_want rfl (by kernel_rfl) ?_
                    unfold Oper.wp
                    simp [go_sem]
                    have bz := (Below.refl Z3.heap.size Z3).alloc (Nat.le_refl _) (.cells #[.string ⟨pa.toArray⟩] 9)
                    have hn2 := nb0 Z3 (.cells #[.string ⟨pa.toArray⟩] 9)
                    have hb2 := bZ.size
                    obtain ⟨b2, hb2e⟩ : ∃ b2, b2 = Z3.heap.size := ⟨_, rfl⟩
                    rw [← hb2e] at hn2 hb2
                    rw [← hb2e]
                    generalize Z3.alloc (.cells #[.string ⟨pa.toArray⟩] 9) = Z4 at bz hn2 ⊢
                    replace LC : Z4.cell? ⟨db, d0 + k, none⟩ = some (.string ⟨t.toArray⟩) := (bz.cell (p := ⟨db, d0 + k, none⟩) (block_lt_of_cell LC)).trans LC
                    replace bZ := bZ.trans (bz.mono bZ.size)
                    replace hn9 := (bz.block _ (Array.getElem?_eq_some_iff.1 hn9).1).trans hn9
                    replace hn11 := (bz.block _ (Array.getElem?_eq_some_iff.1 hn11).1).trans hn11
                    clear bz
                    refine ⟨LC, ?_⟩
                    try simp only [Act.put, List.setIfInBounds_toArray, List.set_cons_succ, List.set_cons_zero]
                    refine take_d (some 75) (i := 10) (v := .agg #[.string ⟨#[97, 97]⟩, .int .i64 0, .string ⟨#[49]⟩, .string ⟨#[]⟩, .slice none 0 0, .slice none 0 0, .slice none 0 0, .slice none 0 0, .slice none 0 0, .slice none 0 0, .slice (some ⟨b2, 0, none⟩) 1 1, .slice none 0 0, .slice (some ⟨b9, 0, none⟩) 1 1]) rfl rfl (by as_aux_lemma => kernel_rfl) (by as_aux_lemma => kernel_rfl) (by as_aux_lemma => kernel_rfl) (fun _ _ _ h => h) (.inl ⟨by kernel_rfl, fun w' _ => by simp [go_sem]⟩) LC ?_
                    try simp only [Act.put, List.setIfInBounds_toArray, List.set_cons_succ, List.set_cons_zero]
                    refine wpAnyH_cast (l2 := #[true, true, true, true, true, true, true, true, true, true, true, true, false]) (by kernel_rfl) ?_
                    exact tail Z4 b2 b9 b11 ⟨LC, bZ, hn2, hn9, hn11, hb2, hb9, hb11⟩
                  · refine wpOp_want rfl (by kernel_rfl) ?_
                    unfold Oper.wp
                    simp [go_sem]
                    have bz := (Below.refl Z2.heap.size Z2).alloc (Nat.le_refl _) (.cells #[.string ⟨pa.toArray⟩] 9)
                    have hn2 := nb0 Z2 (.cells #[.string ⟨pa.toArray⟩] 9)
                    have hb2 := bZ.size
                    obtain ⟨b2, hb2e⟩ : ∃ b2, b2 = Z2.heap.size := ⟨_, rfl⟩
                    rw [← hb2e] at hn2 hb2
                    rw [← hb2e]
                    generalize Z2.alloc (.cells #[.string ⟨pa.toArray⟩] 9) = Z3 at bz hn2 ⊢
                    replace LC : Z3.cell? ⟨db, d0 + k, none⟩ = some (.string ⟨t.toArray⟩) := (bz.cell (p := ⟨db, d0 + k, none⟩) (block_lt_of_cell LC)).trans LC
                    replace bZ := bZ.trans (bz.mono bZ.size)
                    replace hn9 := (bz.block _ (Array.getElem?_eq_some_iff.1 hn9).1).trans hn9
                    replace hn11 := (bz.block _ (Array.getElem?_eq_some_iff.1 hn11).1).trans hn11
                    clear bz
                    refine ⟨LC, ?_⟩
                    try simp only [Act.put, List.setIfInBounds_toArray, List.set_cons_succ, List.set_cons_zero]
                    refine wpAnyH_all (rs := [0]) (by as_aux_lemma => kernel_rfl) (by simp) fun j hj => ?_
                    obtain rfl : j = 0 := by simpa using hj
                    have cV := read1_any Z3 (tab_on HT.out (hWr.trans (bZ.mono hWr.size)))
                    refine wpOp_want rfl (by kernel_rfl) ?_
                    unfold Oper.wp
                    simp [go_sem]
                    refine cV.mono ?_
                    rintro z Z4 ⟨rfl, bz⟩
                    clear cV
                    replace LC : Z4.cell? ⟨db, d0 + k, none⟩ = some (.string ⟨t.toArray⟩) := (bz.cell (p := ⟨db, d0 + k, none⟩) (block_lt_of_cell LC)).trans LC
                    replace bZ := bZ.trans (bz.mono bZ.size)
                    replace hn9 := (bz.block _ (Array.getElem?_eq_some_iff.1 hn9).1).trans hn9
                    replace hn11 := (bz.block _ (Array.getElem?_eq_some_iff.1 hn11).1).trans hn11
                    replace hn2 := (bz.block _ (Array.getElem?_eq_some_iff.1 hn2).1).trans hn2
                    clear bz
                    refine ⟨LC, ?_⟩
                    try simp only [Act.put, List.setIfInBounds_toArray, List.set_cons_succ, List.set_cons_zero]
                    refine take_d (some 75) (i := 10) (v := .agg #[.string ⟨#[97, 97]⟩, .int .i64 0, .string ⟨#[49]⟩, .string ⟨#[]⟩, .slice none 0 0, .slice none 0 0, .slice none 0 0, .slice none 0 0, .slice none 0 0, .slice none 0 0, .slice (some ⟨b2, 0, none⟩) 1 1, .slice none 0 0, .slice (some ⟨b9, 0, none⟩) 1 1]) rfl rfl (by as_aux_lemma => kernel_rfl) (by as_aux_lemma => kernel_rfl) (by as_aux_lemma => kernel_rfl) (fun _ _ _ h => h) (.inl ⟨by kernel_rfl, fun w' _ => by simp [go_sem]⟩) LC ?_
                    try simp only [Act.put, List.setIfInBounds_toArray, List.set_cons_succ, List.set_cons_zero]
                    refine wpAnyH_cast (l2 := #[true, true, true, true, true, true, true, true, true, true, true, true, false]) (by kernel_rfl) ?_
                    exact tail Z4 b2 b9 b11 ⟨LC, bZ, hn2, hn9, hn11, hb2, hb9, hb11⟩
              · refine wpOp_want rfl (by kernel_rfl) ?_
                unfold Oper.wp
                simp [go_sem]
                have bz := (Below.refl Z0.heap.size Z0).alloc (Nat.le_refl _) (.cells #[.string ⟨#[]⟩, .int .i64 0, .string ⟨#[]⟩, .string ⟨#[]⟩, .slice none 0 0, .slice none 0 0, .slice none 0 0, .slice none 0 0, .slice none 0 0, .slice none 0 0, .slice none 0 0, .slice none 0 0, .slice none 0 0] 43)
                have hn11 := nb0 Z0 (.cells #[.string ⟨#[]⟩, .int .i64 0, .string ⟨#[]⟩, .string ⟨#[]⟩, .slice none 0 0, .slice none 0 0, .slice none 0 0, .slice none 0 0, .slice none 0 0, .slice none 0 0, .slice none 0 0, .slice none 0 0, .slice none 0 0] 43)
                have hb11 := bZ.size
                obtain ⟨b11, hb11e⟩ : ∃ b11, b11 = Z0.heap.size := ⟨_, rfl⟩
                rw [← hb11e] at hn11 hb11
                rw [← hb11e]
                generalize Z0.alloc (.cells #[.string ⟨#[]⟩, .int .i64 0, .string ⟨#[]⟩, .string ⟨#[]⟩, .slice none 0 0, .slice none 0 0, .slice none 0 0, .slice none 0 0, .slice none 0 0, .slice none 0 0, .slice none 0 0, .slice none 0 0, .slice none 0 0] 43) = Z1 at bz hn11 ⊢
                replace LC : Z1.cell? ⟨db, d0 + k, none⟩ = some (.string ⟨t.toArray⟩) := (bz.cell (p := ⟨db, d0 + k, none⟩) (block_lt_of_cell LC)).trans LC
                replace bZ := bZ.trans (bz.mono bZ.size)
                clear bz
                refine ⟨LC, ?_⟩
                try simp only [Act.put, List.setIfInBounds_toArray, List.set_cons_succ, List.set_cons_zero]
                refine wpAnyH_all (rs := [0, 2, 9]) (by as_aux_lemma => kernel_rfl) (by simp) fun j hj => ?_
                have hj : j = 0 ∨ j = 2 ∨ j = 9 := by simpa using hj
                rcases hj with rfl | rfl | rfl
                · have cV := read1_any Z1 (tab_on HT.out (hWr.trans (bZ.mono hWr.size)))
                  refine wpOp_want rfl (by kernel_rfl) ?_
                  unfold Oper.wp
                  simp [go_sem]
                  refine cV.mono ?_
                  rintro z Z2 ⟨rfl, bz⟩
                  clear cV
                  replace LC : Z2.cell? ⟨db, d0 + k, none⟩ = some (.string ⟨t.toArray⟩) := (bz.cell (p := ⟨db, d0 + k, none⟩) (block_lt_of_cell LC)).trans LC
                  replace bZ := bZ.trans (bz.mono bZ.size)
                  replace hn11 := (bz.block _ (Array.getElem?_eq_some_iff.1 hn11).1).trans hn11
                  clear bz
                  refine ⟨LC, ?_⟩
                  try simp only [Act.put, List.setIfInBounds_toArray, List.set_cons_succ, List.set_cons_zero]
                  refine wpAnyH_all (rs := [2, 9]) (by as_aux_lemma => kernel_rfl) (by simp) fun j hj => ?_
                  have hj : j = 2 ∨ j = 9 := by simpa using hj
                  rcases hj with rfl | rfl
                  · refine wpOp_want rfl (by kernel_rfl) ?_
                    unfold Oper.wp
                    simp [go_sem]
                    have bz := (Below.refl Z2.heap.size Z2).alloc (Nat.le_refl _) (.cells #[.string ⟨pa.toArray⟩] 9)
                    have hn2 := nb0 Z2 (.cells #[.string ⟨pa.toArray⟩] 9)
                    have hb2 := bZ.size
                    obtain ⟨b2, hb2e⟩ : ∃ b2, b2 = Z2.heap.size := ⟨_, rfl⟩
                    rw [← hb2e] at hn2 hb2
                    rw [← hb2e]
                    generalize Z2.alloc (.cells #[.string ⟨pa.toArray⟩] 9) = Z3 at bz hn2 ⊢
                    replace LC : Z3.cell? ⟨db, d0 + k, none⟩ = some (.string ⟨t.toArray⟩) := (bz.cell (p := ⟨db, d0 + k, none⟩) (block_lt_of_cell LC)).trans LC
                    replace bZ := bZ.trans (bz.mono bZ.size)
                    replace hn11 := (bz.block _ (Array.getElem?_eq_some_iff.1 hn11).1).trans hn11
                    clear bz
                    refine ⟨LC, ?_⟩
                    try simp only [Act.put, List.setIfInBounds_toArray, List.set_cons_succ, List.set_cons_zero]
                    refine wpAnyH_all (rs := [9]) (by as_aux_lemma => kernel_rfl) (by simp) fun j hj => ?_
                    obtain rfl : j = 9 := by simpa using hj
                    refine wpOp_want rfl (by kernel_rfl) ?_
                    unfold Oper.wp
                    simp [go_sem]
                    have bz := (Below.refl Z3.heap.size Z3).alloc (Nat.le_refl _) (.cells #[.string ⟨pa.toArray⟩, .string ⟨t.toArray⟩] 73)
                    have hn9 := nb0 Z3 (.cells #[.string ⟨pa.toArray⟩, .string ⟨t.toArray⟩] 73)
                    have hb9 := bZ.size
                    obtain ⟨b9, hb9e⟩ : ∃ b9, b9 = Z3.heap.size := ⟨_, rfl⟩
                    rw [← hb9e] at hn9 hb9
                    rw [← hb9e]
                    generalize Z3.alloc (.cells #[.string ⟨pa.toArray⟩, .string ⟨t.toArray⟩] 73) = Z4 at bz hn9 ⊢
                    replace LC : Z4.cell? ⟨db, d0 + k, none⟩ = some (.string ⟨t.toArray⟩) := (bz.cell (p := ⟨db, d0 + k, none⟩) (block_lt_of_cell LC)).trans LC
                    replace bZ := bZ.trans (bz.mono bZ.size)
                    replace hn11 := (bz.block _ (Array.getElem?_eq_some_iff.1 hn11).1).trans hn11
                    replace hn2 := (bz.block _ (Array.getElem?_eq_some_iff.1 hn2).1).trans hn2
                    clear bz
                    refine ⟨LC, ?_⟩
                    try simp only [Act.put, List.setIfInBounds_toArray, List.set_cons_succ, List.set_cons_zero]
                    refine take_d (some 75) (i := 10) (v := .agg #[.string ⟨#[97, 97]⟩, .int .i64 0, .string ⟨#[49]⟩, .string ⟨#[]⟩, .slice none 0 0, .slice none 0 0, .slice none 0 0, .slice none 0 0, .slice none 0 0, .slice none 0 0, .slice (some ⟨b2, 0, none⟩) 1 1, .slice none 0 0, .slice (some ⟨b9, 0, none⟩) 1 1]) rfl rfl (by as_aux_lemma => kernel_rfl) (by as_aux_lemma => kernel_rfl) (by as_aux_lemma => kernel_rfl) (fun _ _ _ h => h) (.inl ⟨by kernel_rfl, fun w' _ => by simp [go_sem]⟩) LC ?_
                    try simp only [Act.put, List.setIfInBounds_toArray, List.set_cons_succ, List.set_cons_zero]
                    refine wpAnyH_cast (l2 := #[true, true, true, true, true, true, true, true, true, true, true, true, false]) (by kernel_rfl) ?_
                    exact tail Z4 b2 b9 b11 ⟨LC, bZ, hn2, hn9, hn11, hb2, hb9, hb11⟩
                  · refine wpOp_want rfl (by kernel_rfl) ?_
                    unfold Oper.wp
                    simp [go_sem]
                    have bz := (Below.refl Z2.heap.size Z2).alloc (Nat.le_refl _) (.cells #[.string ⟨pa.toArray⟩, .string ⟨t.toArray⟩] 73)
                    have hn9 := nb0 Z2 (.cells #[.string ⟨pa.toArray⟩, .string ⟨t.toArray⟩] 73)
                    have hb9 := bZ.size
                    obtain ⟨b9, hb9e⟩ : ∃ b9, b9 = Z2.heap.size := ⟨_, rfl⟩
                    rw [← hb9e] at hn9 hb9
                    rw [← hb9e]
                    generalize Z2.alloc (.cells #[.string ⟨pa.toArray⟩, .string ⟨t.toArray⟩] 73) = Z3 at bz hn9 ⊢
                    replace LC : Z3.cell? ⟨db, d0 + k, none⟩ = some (.string ⟨t.toArray⟩) := (bz.cell (p := ⟨db, d0 + k, none⟩) (block_lt_of_cell LC)).trans LC
                    replace bZ := bZ.trans (bz.mono bZ.size)
                    replace hn11 := (bz.block _ (Array.getElem?_eq_some_iff.1 hn11).1).trans hn11
                    clear bz
                    refine ⟨LC, ?_⟩
                    try simp only [Act.put, List.setIfInBounds_toArray, List.set_cons_succ, List.set_cons_zero]
                    refine wpAnyH_all (rs := [2]) (by as_aux_lemma => kernel_rfl) (by simp) fun j hj => ?_
                    obtain rfl : j = 2 := by simpa using hj
                    refine wpOp_want rfl (by kernel_rfl) ?_
                    unfold Oper.wp
                    simp [go_sem]
                    have bz := (Below.refl Z3.heap.size Z3).alloc (Nat.le_refl _) (.cells #[.string ⟨pa.toArray⟩] 9)
                    have hn2 := nb0 Z3 (.cells #[.string ⟨pa.toArray⟩] 9)
                    have hb2 := bZ.size
                    obtain ⟨b2, hb2e⟩ : ∃ b2, b2 = Z3.heap.size := ⟨_, rfl⟩
                    rw [← hb2e] at hn2 hb2
                    rw [← hb2e]
                    generalize Z3.alloc (.cells #[.string ⟨pa.toArray⟩] 9) = Z4 at bz hn2 ⊢
                    replace LC : Z4.cell? ⟨db, d0 + k, none⟩ = some (.string ⟨t.toArray⟩) := (bz.cell (p := ⟨db, d0 + k, none⟩) (block_lt_of_cell LC)).trans LC
                    replace bZ := bZ.trans (bz.mono bZ.size)
                    replace hn11 := (bz.block _ (Array.getElem?_eq_some_iff.1 hn11).1).trans hn11
                    replace hn9 := (bz.block _ (Array.getElem?_eq_some_iff.1 hn9).1).trans hn9
                    clear bz
                    refine ⟨LC, ?_⟩
                    try simp only [Act.put, List.setIfInBounds_toArray, List.set_cons_succ, List.set_cons_zero]
                    refine take_d (some 75) (i := 10) (v := .agg #[.string ⟨#[97, 97]⟩, .int .i64 0, .string ⟨#[49]⟩, .string ⟨#[]⟩, .slice none 0 0, .slice none 0 0, .slice none 0 0, .slice none 0 0, .slice none 0 0, .slice none 0 0, .slice (some ⟨b2, 0, none⟩) 1 1, .slice none 0 0, .slice (some ⟨b9, 0, none⟩) 1 1]) rfl rfl (by as_aux_lemma => kernel_rfl) (by as_aux_lemma => kernel_rfl) (by as_aux_lemma => kernel_rfl) (fun _ _ _ h => h) (.inl ⟨by kernel_rfl, fun w' _ => by simp [go_sem]⟩) LC ?_
                    try simp only [Act.put, List.setIfInBounds_toArray, List.set_cons_succ, List.set_cons_zero]
                    refine wpAnyH_cast (l2 := #[true, true, true, true, true, true, true, true, true, true, true, true, false]) (by kernel_rfl) ?_
                    exact tail Z4 b2 b9 b11 ⟨LC, bZ, hn2, hn9, hn11, hb2, hb9, hb11⟩
                · refine wpOp_want rfl (by kernel_rfl) ?_
                  unfold Oper.wp
                  simp [go_sem]
                  have bz := (Below.refl Z1.heap.size Z1).alloc (Nat.le_refl _) (.cells #[.string ⟨pa.toArray⟩] 9)
                  have hn2 := nb0 Z1 (.cells #[.string ⟨pa.toArray⟩] 9)
                  have hb2 := bZ.size
                  obtain ⟨b2, hb2e⟩ : ∃ b2, b2 = Z1.heap.size := ⟨_, rfl⟩
                  rw [← hb2e] at hn2 hb2
                  rw [← hb2e]
                  generalize Z1.alloc (.cells #[.string ⟨pa.toArray⟩] 9) = Z2 at bz hn2 ⊢
                  replace LC : Z2.cell? ⟨db, d0 + k, none⟩ = some (.string ⟨t.toArray⟩) := (bz.cell (p := ⟨db, d0 + k, none⟩) (block_lt_of_cell LC)).trans LC
                  replace bZ := bZ.trans (bz.mono bZ.size)
                  replace hn11 := (bz.block _ (Array.getElem?_eq_some_iff.1 hn11).1).trans hn11
                  clear bz
                  refine ⟨LC, ?_⟩
                  try simp only [Act.put, List.setIfInBounds_toArray, List.set_cons_succ, List.set_cons_zero]
                  refine wpAnyH_all (rs := [0, 9]) (by as_aux_lemma => kernel_rfl) (by simp) fun j hj => ?_
                  have hj : j = 0 ∨ j = 9 := by simpa using hj
                  rcases hj with rfl | rfl
                  · have cV := read1_any Z2 (tab_on HT.out (hWr.trans (bZ.mono hWr.size)))
                    refine wpOp_want rfl (by kernel_rfl) ?_
                    unfold Oper.wp
                    simp [go_sem]
                    refine cV.mono ?_
                    rintro z Z3 ⟨rfl, bz⟩
                    clear cV
                    replace LC : Z3.cell? ⟨db, d0 + k, none⟩ = some (.string ⟨t.toArray⟩) := (bz.cell (p := ⟨db, d0 + k, none⟩) (block_lt_of_cell LC)).trans LC
                    replace bZ := bZ.trans (bz.mono bZ.size)
                    replace hn11 := (bz.block _ (Array.getElem?_eq_some_iff.1 hn11).1).trans hn11
                    replace hn2 := (bz.block _ (Array.getElem?_eq_some_iff.1 hn2).1).trans hn2
                    clear bz
                    refine ⟨LC, ?_⟩
                    try simp only [Act.put, List.setIfInBounds_toArray, List.set_cons_succ, List.set_cons_zero]
                    refine wpAnyH_all (rs := [9]) (by as_aux_lemma => kernel_rfl) (by simp) fun j hj => ?_
                    obtain rfl : j = 9 := by simpa using hj
                    refine wpOp_want rfl (by kernel_rfl) ?_
                    unfold Oper.wp
                    simp [go_sem]
                    have bz := (Below.refl Z3.heap.size Z3).alloc (Nat.le_refl _) (.cells #[.string ⟨pa.toArray⟩, .string ⟨t.toArray⟩] 73)
                    have hn9 := nb0 Z3 (.cells #[.string ⟨pa.toArray⟩, .string ⟨t.toArray⟩] 73)
                    have hb9 := bZ.size
                    obtain ⟨b9, hb9e⟩ : ∃ b9, b9 = Z3.heap.size := ⟨_, rfl⟩
                    rw [← hb9e] at hn9 hb9
                    rw [← hb9e]
                    generalize Z3.alloc (.cells #[.string ⟨pa.toArray⟩, .string ⟨t.toArray⟩] 73) = Z4 at bz hn9 ⊢
                    replace LC : Z4.cell? ⟨db, d0 + k, none⟩ = some (.string ⟨t.toArray⟩) := (bz.cell (p := ⟨db, d0 + k, none⟩) (block_lt_of_cell LC)).trans LC
                    replace bZ := bZ.trans (bz.mono bZ.size)
                    replace hn11 := (bz.block _ (Array.getElem?_eq_some_iff.1 hn11).1).trans hn11
                    replace hn2 := (bz.block _ (Array.getElem?_eq_some_iff.1 hn2).1).trans hn2
                    clear bz
                    refine ⟨LC, ?_⟩
                    try simp only [Act.put, List.setIfInBounds_toArray, List.set_cons_succ, List.set_cons_zero]
                    refine take_d (some 75) (i := 10) (v := .agg #[.string ⟨#[97, 97]⟩, .int .i64 0, .string ⟨#[49]⟩, .string ⟨#[]⟩, .slice none 0 0, .slice none 0 0, .slice none 0 0, .slice none 0 0, .slice none 0 0, .slice none 0 0, .slice (some ⟨b2, 0, none⟩) 1 1, .slice none 0 0, .slice (some ⟨b9, 0, none⟩) 1 1]) rfl rfl (by as_aux_lemma => kernel_rfl) (by as_aux_lemma => kernel_rfl) (by as_aux_lemma => kernel_rfl) (fun _ _ _ h => h) (.inl ⟨by kernel_rfl, fun w' _ => by simp [go_sem]⟩) LC ?_
                    try simp only [Act.put, List.setIfInBounds_toArray, List.set_cons_succ, List.set_cons_zero]
                    refine wpAnyH_cast (l2 := #[true, true, true, true, true, true, true, true, true, true, true, true, false]) (by kernel_rfl) ?_
                    exact tail Z4 b2 b9 b11 ⟨LC, bZ, hn2, hn9, hn11, hb2, hb9, hb11⟩
                  · refine wpOp_want rfl (by kernel_rfl) ?_
                    unfold Oper.wp
                    simp [go_sem]
                    have bz := (Below.refl Z2.heap.size Z2).alloc (Nat.le_refl _) (.cells #[.string ⟨pa.toArray⟩, .string ⟨t.toArray⟩] 73)
                    have hn9 := nb0 Z2 (.cells #[.string ⟨pa.toArray⟩, .string ⟨t.toArray⟩] 73)
                    have hb9 := bZ.size
                    obtain ⟨b9, hb9e⟩ : ∃ b9, b9 = Z2.heap.size := ⟨_, rfl⟩
                    rw [← hb9e] at hn9 hb9
                    rw [← hb9e]
                    generalize Z2.alloc (.cells #[.string ⟨pa.toArray⟩, .string ⟨t.toArray⟩] 73) = Z3 at bz hn9 ⊢
                    replace LC : Z3.cell? ⟨db, d0 + k, none⟩ = some (.string ⟨t.toArray⟩) := (bz.cell (p := ⟨db, d0 + k, none⟩) (block_lt_of_cell LC)).trans LC
                    replace bZ := bZ.trans (bz.mono bZ.size)
                    replace hn11 := (bz.block _ (Array.getElem?_eq_some_iff.1 hn11).1).trans hn11
                    replace hn2 := (bz.block _ (Array.getElem?_eq_some_iff.1 hn2).1).trans hn2
                    clear bz
                    refine ⟨LC, ?_⟩
                    try simp only [Act.put, List.setIfInBounds_toArray, List.set_cons_succ, List.set_cons_zero]
                    refine wpAnyH_all (rs := [0]) (by as_aux_lemma => kernel_rfl) (by simp) fun j hj => ?_
                    obtain rfl : j = 0 := by simpa using hj
                    have cV := read1_any Z3 (tab_on HT.out (hWr.trans (bZ.mono hWr.size)))
                    refine wpOp_want rfl (by kernel_rfl) ?_
                    unfold Oper.wp
                    simp [go_sem]
                    refine cV.mono ?_
                    rintro z Z4 ⟨rfl, bz⟩
                    clear cV
                    replace LC : Z4.cell? ⟨db, d0 + k, none⟩ = some (.string ⟨t.toArray⟩) := (bz.cell (p := ⟨db, d0 + k, none⟩) (block_lt_of_cell LC)).trans LC
                    replace bZ := bZ.trans (bz.mono bZ.size)
                    replace hn11 := (bz.block _ (Array.getElem?_eq_some_iff.1 hn11).1).trans hn11
                    replace hn2 := (bz.block _ (Array.getElem?_eq_some_iff.1 hn2).1).trans hn2
                    replace hn9 := (bz.block _ (Array.getElem?_eq_some_iff.1 hn9).1).trans hn9
                    clear bz
                    refine ⟨LC, ?_⟩
                    try simp only [Act.put, List.setIfInBounds_toArray, List.set_cons_succ, List.set_cons_zero]
                    refine take_d (some 75) (i := 10) (v := .agg #[.string ⟨#[97, 97]⟩, .int .i64 0, .string ⟨#[49]⟩, .string ⟨#[]⟩, .slice none 0 0, .slice none 0 0, .slice none 0 0, .slice none 0 0, .slice none 0 0, .slice none 0 0, .slice (some ⟨b2, 0, none⟩) 1 1, .slice none 0 0, .slice (some ⟨b9, 0, none⟩) 1 1]) rfl rfl (by as_aux_lemma => kernel_rfl) (by as_aux_lemma => kernel_rfl) (by as_aux_lemma => kernel_rfl) (fun _ _ _ h => h) (.inl ⟨by kernel_rfl, fun w' _ => by simp [go_sem]⟩) LC ?_
                    try simp only [Act.put, List.setIfInBounds_toArray, List.set_cons_succ, List.set_cons_zero]
                    refine wpAnyH_cast (l2 := #[true, true, true, true, true, true, true, true, true, true, true, true, false]) (by kernel_rfl) ?_
                    exact tail Z4 b2 b9 b11 ⟨LC, bZ, hn2, hn9, hn11, hb2, hb9, hb11⟩
                · refine wpOp_want rfl (by kernel_rfl) ?_
                  unfold Oper.wp
                  simp [go_sem]
                  have bz := (Below.refl Z1.heap.size Z1).alloc (Nat.le_refl _) (.cells #[.string ⟨pa.toArray⟩, .string ⟨t.toArray⟩] 73)
                  have hn9 := nb0 Z1 (.cells #[.string ⟨pa.toArray⟩, .string ⟨t.toArray⟩] 73)
                  have hb9 := bZ.size
                  obtain ⟨b9, hb9e⟩ : ∃ b9, b9 = Z1.heap.size := ⟨_, rfl⟩
                  rw [← hb9e] at hn9 hb9
                  rw [← hb9e]
                  generalize Z1.alloc (.cells #[.string ⟨pa.toArray⟩, .string ⟨t.toArray⟩] 73) = Z2 at bz hn9 ⊢
                  replace LC : Z2.cell? ⟨db, d0 + k, none⟩ = some (.string ⟨t.toArray⟩) := (bz.cell (p := ⟨db, d0 + k, none⟩) (block_lt_of_cell LC)).trans LC
                  replace bZ := bZ.trans (bz.mono bZ.size)
                  replace hn11 := (bz.block _ (Array.getElem?_eq_some_iff.1 hn11).1).trans hn11
                  clear bz
                  refine ⟨LC, ?_⟩
                  try simp only [Act.put, List.setIfInBounds_toArray, List.set_cons_succ, List.set_cons_zero]
                  refine wpAnyH_all (rs := [0, 2]) (by as_aux_lemma => kernel_rfl) (by simp) fun j hj => ?_
                  have hj : j = 0 ∨ j = 2 := by simpa using hj
                  rcases hj with rfl | rfl
                  · have cV := read1_any Z2 (tab_on HT.out (hWr.trans (bZ.mono hWr.size)))
                    refine wpOp_want rfl (by kernel_rfl) ?_
                    unfold Oper.wp
                    simp [go_sem]
                    refine cV.mono ?_
                    rintro z Z3 ⟨rfl, bz⟩
                    clear cV
                    replace LC : Z3.cell? ⟨db, d0 + k, none⟩ = some (.string ⟨t.toArray⟩) := (bz.cell (p := ⟨db, d0 + k, none⟩) (block_lt_of_cell LC)).trans LC
                    replace bZ := bZ.trans (bz.mono bZ.size)
                    replace hn11 := (bz.block _ (Array.getElem?_eq_some_iff.1 hn11).1).trans hn11
                    replace hn9 := (bz.block _ (Array.getElem?_eq_some_iff.1 hn9).1).trans hn9
                    clear bz
                    refine ⟨LC, ?_⟩
                    try simp only [Act.put, List.setIfInBounds_toArray, List.set_cons_succ, List.set_cons_zero]
                    refine wpAnyH_all (rs := [2]) (by as_aux_lemma => kernel_rfl) (by simp) fun j hj => ?_
                    obtain rfl : j = 2 := by simpa using hj
                    refine wpOp_want rfl (by kernel_rfl) ?_
                    unfold Oper.wp
                    simp [go_sem]
                    have bz := (Below.refl Z3.heap.size Z3).alloc (Nat.le_refl _) (.cells #[.string ⟨pa.toArray⟩] 9)
                    have hn2 := nb0 Z3 (.cells #[.string ⟨pa.toArray⟩] 9)
                    have hb2 := bZ.size
                    obtain ⟨b2, hb2e⟩ : ∃ b2, b2 = Z3.heap.size := ⟨_, rfl⟩
                    rw [← hb2e] at hn2 hb2
                    rw [← hb2e]
                    generalize Z3.alloc (.cells #[.string ⟨pa.toArray⟩] 9) = Z4 at bz hn2 ⊢
                    replace LC : Z4.cell? ⟨db, d0 + k, none⟩ = some (.string ⟨t.toArray⟩) := (bz.cell (p := ⟨db, d0 + k, none⟩) (block_lt_of_cell LC)).trans LC
                    replace bZ := bZ.trans (bz.mono bZ.size)
                    replace hn11 := (bz.block _ (Array.getElem?_eq_some_iff.1 hn11).1).trans hn11
                    replace hn9 := (bz.block _ (Array.getElem?_eq_some_iff.1 hn9).1).trans hn9
                    clear bz
                    refine ⟨LC, ?_⟩
                    try simp only [Act.put, List.setIfInBounds_toArray, List.set_cons_succ, List.set_cons_zero]
                    refine take_d (some 75) (i := 10) (v := .agg #[.string ⟨#[97, 97]⟩, .int .i64 0, .string ⟨#[49]⟩, .string ⟨#[]⟩, .slice none 0 0, .slice none 0 0, .slice none 0 0, .slice none 0 0, .slice none 0 0, .slice none 0 0, .slice (some ⟨b2, 0, none⟩) 1 1, .slice none 0 0, .slice (some ⟨b9, 0, none⟩) 1 1]) rfl rfl (by as_aux_lemma => kernel_rfl) (by as_aux_lemma => kernel_rfl) (by as_aux_lemma => kernel_rfl) (fun _ _ _ h => h) (.inl ⟨by kernel_rfl, fun w' _ => by simp [go_sem]⟩) LC ?_
                    try simp only [Act.put, List.setIfInBounds_toArray, List.set_cons_succ, List.set_cons_zero]
                    refine wpAnyH_cast (l2 := #[true, true, true, true, true, true, true, true, true, true, true, true, false]) (by kernel_rfl) ?_
                    exact tail Z4 b2 b9 b11 ⟨LC, bZ, hn2, hn9, hn11, hb2, hb9, hb11⟩
                  · refine wpOp_want rfl (by kernel_rfl) ?_
                    unfold Oper.wp
                    simp [go_sem]
                    have bz := (Below.refl Z2.heap.size Z2).alloc (Nat.le_refl _) (.cells #[.string ⟨pa.toArray⟩] 9)
                    have hn2 := nb0 Z2 (.cells #[.string ⟨pa.toArray⟩] 9)
                    have hb2 := bZ.size
                    obtain ⟨b2, hb2e⟩ : ∃ b2, b2 = Z2.heap.size := ⟨_, rfl⟩
                    rw [← hb2e] at hn2 hb2
                    rw [← hb2e]
                    generalize Z2.alloc (.cells #[.string ⟨pa.toArray⟩] 9) = Z3 at bz hn2 ⊢
                    replace LC : Z3.cell? ⟨db, d0 + k, none⟩ = some (.string ⟨t.toArray⟩) := (bz.cell (p := ⟨db, d0 + k, none⟩) (block_lt_of_cell LC)).trans LC
                    replace bZ := bZ.trans (bz.mono bZ.size)
                    replace hn11 := (bz.block _ (Array.getElem?_eq_some_iff.1 hn11).1).trans hn11
                    replace hn9 := (bz.block _ (Array.getElem?_eq_some_iff.1 hn9).1).trans hn9
                    clear bz
                    refine ⟨LC, ?_⟩
                    try simp only [Act.put, List.setIfInBounds_toArray, List.set_cons_succ, List.set_cons_zero]
                    refine wpAnyH_all (rs := [0]) (by as_aux_lemma => kernel_rfl) (by simp) fun j hj => ?_
                    obtain rfl : j = 0 := by simpa using hj
                    have cV := read1_any Z3 (tab_on HT.out (hWr.trans (bZ.mono hWr.size)))
                    refine wpOp_want rfl (by kernel_rfl) ?_
                    unfold Oper.wp
                    simp [go_sem]
                    refine cV.mono ?_
                    rintro z Z4 ⟨rfl, bz⟩
                    clear cV
                    replace LC : Z4.cell? ⟨db, d0 + k, none⟩ = some (.string ⟨t.toArray⟩) := (bz.cell (p := ⟨db, d0 + k, none⟩) (block_lt_of_cell LC)).trans LC
                    replace bZ := bZ.trans (bz.mono bZ.size)
                    replace hn11 := (bz.block _ (Array.getElem?_eq_some_iff.1 hn11).1).trans hn11
                    replace hn9 := (bz.block _ (Array.getElem?_eq_some_iff.1 hn9).1).trans hn9
                    replace hn2 := (bz.block _ (Array.getElem?_eq_some_iff.1 hn2).1).trans hn2
                    clear bz
                    refine ⟨LC, ?_⟩
                    try simp only [Act.put, List.setIfInBounds_toArray, List.set_cons_succ, List.set_cons_zero]
                    refine take_d (some 75) (i := 10) (v := .agg #[.string ⟨#[97, 97]⟩, .int .i64 0, .string ⟨#[49]⟩, .string ⟨#[]⟩, .slice none 0 0, .slice none 0 0, .slice none 0 0, .slice none 0 0, .slice none 0 0, .slice none 0 0, .slice (some ⟨b2, 0, none⟩) 1 1, .slice none 0 0, .slice (some ⟨b9, 0, none⟩) 1 1]) rfl rfl (by as_aux_lemma => kernel_rfl) (by as_aux_lemma => kernel_rfl) (by as_aux_lemma => kernel_rfl) (fun _ _ _ h => h) (.inl ⟨by kernel_rfl, fun w' _ => by simp [go_sem]⟩) LC ?_
                    try simp only [Act.put, List.setIfInBounds_toArray, List.set_cons_succ, List.set_cons_zero]
                    refine wpAnyH_cast (l2 := #[true, true, true, true, true, true, true, true, true, true, true, true, false]) (by kernel_rfl) ?_
                    exact tail Z4 b2 b9 b11 ⟨LC, bZ, hn2, hn9, hn11, hb2, hb9, hb11⟩
            · intro Z4 b2 b9 b11 hTF
              obtain ⟨LC, bZ, hn2, hn9, hn11, hb2, hb9, hb11⟩ := hTF
              try simp only [Act.put, List.setIfInBounds_toArray, List.set_cons_succ, List.set_cons_zero]
              have w0 : Z4.cell? ⟨b11, 0, none⟩ = some (.string ⟨#[]⟩) := by simp [World.cell?, hn11]
              have w1 : Z4.cell? ⟨b11, 1, none⟩ = some (.int .i64 0) := by simp [World.cell?, hn11]
              have w2 : Z4.cell? ⟨b11, 2, none⟩ = some (.string ⟨#[]⟩) := by simp [World.cell?, hn11]
              have w3 : Z4.cell? ⟨b11, 3, none⟩ = some (.string ⟨#[]⟩) := by simp [World.cell?, hn11]
              have w4 : Z4.cell? ⟨b11, 4, none⟩ = some (.slice none 0 0) := by simp [World.cell?, hn11]
              have w5 : Z4.cell? ⟨b11, 5, none⟩ = some (.slice none 0 0) := by simp [World.cell?, hn11]
              have w6 : Z4.cell? ⟨b11, 6, none⟩ = some (.slice none 0 0) := by simp [World.cell?, hn11]
              have w7 : Z4.cell? ⟨b11, 7, none⟩ = some (.slice none 0 0) := by simp [World.cell?, hn11]
              have w8 : Z4.cell? ⟨b11, 8, none⟩ = some (.slice none 0 0) := by simp [World.cell?, hn11]
              have w9 : Z4.cell? ⟨b11, 9, none⟩ = some (.slice none 0 0) := by simp [World.cell?, hn11]
              have w10 : Z4.cell? ⟨b11, 10, none⟩ = some (.slice none 0 0) := by simp [World.cell?, hn11]
              have w11 : Z4.cell? ⟨b11, 11, none⟩ = some (.slice none 0 0) := by simp [World.cell?, hn11]
              have w12 : Z4.cell? ⟨b11, 12, none⟩ = some (.slice none 0 0) := by simp [World.cell?, hn11]
              have wf : ∀ j, Z4.frozen? ⟨b11, j, none⟩ = false := fun j => by simp [World.frozen?, hn11]
              refine wpAnyH_all (rs := [12]) (by as_aux_lemma => kernel_rfl) (by simp) fun j hj => ?_
              obtain rfl : j = 12 := by simpa using hj
              refine wpOp_want rfl (by kernel_rfl) ?_
              unfold Oper.wp
              simp [go_sem, w0, w1, w2, w3, w4, w5, w6, w7, w8, w9, w10, w11, w12, wf]
              have hA := pk_all Z4 b11 hn11 (.string ⟨#[97, 97]⟩) (.int .i64 0) (.string ⟨#[49]⟩) (.string ⟨#[]⟩) (.slice none 0 0) (.slice none 0 0) (.slice none 0 0) (.slice none 0 0) (.slice none 0 0) (.slice none 0 0) (.slice (some ⟨b2, 0, none⟩) 1 1) (.slice none 0 0) (.slice (some ⟨b9, 0, none⟩) 1 1)
              obtain ⟨hA1, hA2, hA3⟩ := hA
              have hbY := hA3 wr.heap.size wr bZ hb11
              have hne2 : b2 ≠ b11 := fun e => by rw [e, hn11] at hn2; cases hn2
              have hne9 : b9 ≠ b11 := fun e => by rw [e, hn11] at hn9; cases hn9
              have HPX : Hid (Below wr.heap.size wr ((((((((((((((Z4.setCell ⟨b11, 0, none⟩ (.string ⟨#[97, 97]⟩)).setCell ⟨b11, 1, none⟩ (.int .i64 0)).setCell ⟨b11, 2, none⟩ (.string ⟨#[49]⟩)).setCell ⟨b11, 3, none⟩ (.string ⟨#[]⟩)).setCell ⟨b11, 4, none⟩ (.slice none 0 0)).setCell ⟨b11, 5, none⟩ (.slice none 0 0)).setCell ⟨b11, 6, none⟩ (.slice none 0 0)).setCell ⟨b11, 7, none⟩ (.slice none 0 0)).setCell ⟨b11, 8, none⟩ (.slice none 0 0)).setCell ⟨b11, 9, none⟩ (.slice none 0 0)).setCell ⟨b11, 10, none⟩ (.slice (some ⟨b2, 0, none⟩) 1 1)).setCell ⟨b11, 11, none⟩ (.slice none 0 0)).setCell ⟨b11, 12, none⟩ (.slice (some ⟨b9, 0, none⟩) 1 1))) ∧ PX wr.heap.size ((((((((((((((Z4.setCell ⟨b11, 0, none⟩ (.string ⟨#[97, 97]⟩)).setCell ⟨b11, 1, none⟩ (.int .i64 0)).setCell ⟨b11, 2, none⟩ (.string ⟨#[49]⟩)).setCell ⟨b11, 3, none⟩ (.string ⟨#[]⟩)).setCell ⟨b11, 4, none⟩ (.slice none 0 0)).setCell ⟨b11, 5, none⟩ (.slice none 0 0)).setCell ⟨b11, 6, none⟩ (.slice none 0 0)).setCell ⟨b11, 7, none⟩ (.slice none 0 0)).setCell ⟨b11, 8, none⟩ (.slice none 0 0)).setCell ⟨b11, 9, none⟩ (.slice none 0 0)).setCell ⟨b11, 10, none⟩ (.slice (some ⟨b2, 0, none⟩) 1 1)).setCell ⟨b11, 11, none⟩ (.slice none 0 0)).setCell ⟨b11, 12, none⟩ (.slice (some ⟨b9, 0, none⟩) 1 1))) b11 b2 b9 pa t) := ⟨hbY, hA2, (hA1 b2 hne2).trans hn2, (hA1 b9 hne9).trans hn9, hb2, hb9⟩
              clear hA1 hA2 hA3 hbY w0 w1 w2 w3 w4 w5 w6 w7 w8 w9 w10 w11 w12 wf
              generalize (((((((((((((Z4.setCell ⟨b11, 0, none⟩ (.string ⟨#[97, 97]⟩)).setCell ⟨b11, 1, none⟩ (.int .i64 0)).setCell ⟨b11, 2, none⟩ (.string ⟨#[49]⟩)).setCell ⟨b11, 3, none⟩ (.string ⟨#[]⟩)).setCell ⟨b11, 4, none⟩ (.slice none 0 0)).setCell ⟨b11, 5, none⟩ (.slice none 0 0)).setCell ⟨b11, 6, none⟩ (.slice none 0 0)).setCell ⟨b11, 7, none⟩ (.slice none 0 0)).setCell ⟨b11, 8, none⟩ (.slice none 0 0)).setCell ⟨b11, 9, none⟩ (.slice none 0 0)).setCell ⟨b11, 10, none⟩ (.slice (some ⟨b2, 0, none⟩) 1 1)).setCell ⟨b11, 11, none⟩ (.slice none 0 0)).setCell ⟨b11, 12, none⟩ (.slice (some ⟨b9, 0, none⟩) 1 1)) = Y at HPX ⊢
              refine ⟨LC, ?_⟩
              try simp only [Act.put, List.setIfInBounds_toArray, List.set_cons_succ, List.set_cons_zero]
              refine wpAnyH_done (by as_aux_lemma => kernel_rfl) ?_ _
              clear LC bZ hn2 hn9 hn11 hb2 hb9 hb11
              go_wp2_with fail
              go_meet
              case rel => exact ⟨b11, b2, b9, rfl, HPX.out.1, HPX.out.2⟩
          case rest =>
            obtain ⟨bp, bS, bF, rfl, hbV, hPX⟩ := hcut
            have q : Pb wc bp (pk1 pa t true) (.slice none 0 0) (.slice none 0 0) (.slice none 0 0) (.slice none 0 0) (.slice none 0 0) (.slice none 0 0) (.slice (some ⟨bS, 0, none⟩) 1 1) (.slice none 0 0) (.slice (some ⟨bF, 0, none⟩) 1 1) := pb_blk hPX.p
            have hbpl : bp < wc.heap.size := (Array.getElem?_eq_some_iff.1 hPX.p).1
            have hbSl : bS < wc.heap.size := (Array.getElem?_eq_some_iff.1 hPX.s).1
            have hbFl : bF < wc.heap.size := (Array.getElem?_eq_some_iff.1 hPX.f).1
            have bY := (Below.refl wc.heap.size wc).alloc (Nat.le_refl _) (.cells #[.bool yes] 4)
            have hrY := hbV.trans (bY.mono hbV.size)
            have hyn := nb0 wc (.cells #[.bool yes] 4)
            have hAn : An (wc.alloc (.cells #[.bool yes] 4)) (.slice (some ⟨wc.heap.size, 0, none⟩) 1 1) (some yes) := ⟨.inr ⟨wc.heap.size, yes, rfl, rfl, by simp, by simp⟩⟩
            have hFr : Fr (wc.alloc (.cells #[.bool yes] 4)) bF 0 [(pa, t)] := by
              have hf := (bY.block bF hbFl).trans hPX.f
              refine ⟨Nat.lt_of_lt_of_le hbFl bY.size, fun i hi => ?_, fun i hi => ?_⟩
              · obtain rfl : i = 0 := by simpa using hi
                simp [World.cell?, hf]
              · obtain rfl : i = 0 := by simpa using hi
                simp [World.cell?, hf]
            have hSl : Sl wr.heap.size (wc.alloc (.cells #[.bool yes] 4)) (.slice (some ⟨bS, 0, none⟩) 1 1) (stS true pa) := by
              have hs := (bY.block bS hbSl).trans hPX.s
              refine ⟨⟨.inr ⟨bS, 0, 1, rfl, by simp [stS], Nat.lt_of_lt_of_le hbSl bY.size, fun i hi => ?_⟩⟩, fun b o n c h _ => ?_⟩
              · obtain rfl : i = 0 := by simpa [stS] using hi
                simp [World.cell?, hs, stS]
              · cases h
                exact ⟨hPX.bS, Nat.lt_of_lt_of_le hbSl bY.size⟩
            obtain ⟨L, qq, D, hJr, hOw, hpt, htot, hLn, hDl, hD1, hD2⟩ := ls_step HL.out t yes (by omega) htl
            have hJY := hJr.zone hrY
            have hWr := HL.out.bl.size
            have hWY := hJY.bl
            have cP := put_one (L := L) (lo := wr.heap.size) hJY hrY.size hWr (pk1 pa t true) (.slice none 0 0) (.slice none 0 0) (.slice none 0 0) (.slice none 0 0) (.slice none 0 0) (.slice none 0 0) (.slice (some ⟨bS, 0, none⟩) 1 1) (.slice none 0 0) (.slice (some ⟨wc.heap.size, 0, none⟩) 1 1) pa t true (some yes) 32 bF 0 1 qq
              (pz1 hSl.ss hFr (by omega)) (pk1_pg true hpa (by omega)) (tab_on HT.out hWY) (HM.out.on hWY) (pk1_ok t true HPT.out) rfl (by omega) hPX.bF hFr hSl hAn hOw (by rw [show (pk1 pa t true).o.n = aa from rfl, hpt]; exact ow_3 pa D t (by omega)) hpa hpa1 (by omega) htot hLn (by rw [show (pk1 pa t true).o.n = aa from rfl, hpt]; show 3 ≤ 1000; omega)
            rw [show (pk1 pa t true).o.n = aa from rfl, hpt] at cP
            have q0 : wc.cell? ⟨bp, 0, none⟩ = some (.string ⟨#[97, 97]⟩) := q.c0
            have q1 : wc.cell? ⟨bp, 1, none⟩ = some (.int .i64 0) := q.c1
            have q2 : wc.cell? ⟨bp, 2, none⟩ = some (.string ⟨#[49]⟩) := q.c2
            have q3 : wc.cell? ⟨bp, 3, none⟩ = some (.string ⟨#[]⟩) := q.c3
            have q4 := q.c4
            have q5 := q.c5
            have q6 := q.c6
            have q7 := q.c7
            have q8 := q.c8
            have q9 := q.c9
            have q10 := q.c10
            have q11 := q.c11
            have q12 := q.c12
            have HDD : Hid ((ch = false → D = t) ∧ (ch = true → yes = false → D = nw)) := ⟨hD1, hD2⟩
            have HSR := Lib.hid hSrW
            clear hSrW hc hdl q bY hrY hyn hAn hFr hSl hJr hJY hOw hpt hWY hPX hbV hD1 hD2
            go_wp2_with fail
            refine cP.mono ?_
            rintro x Y1 ⟨rfl, _, hJ1⟩
            have cR := sread_any hJ1 pa (by omega)
            have e1 : (ent ([100, 47] ++ pa) (st3 pa D t)).now = D := by rw [ent_k (a := ⟨D, some D⟩) (by rw [st3_lk, if_neg (c_d pa).symm, if_pos rfl])]
            have e2 : evv (rdc ([100, 47] ++ pa) (st3 pa D t)) = .nilIface := by
              have : lkL ([100, 47] ++ pa) (st3 pa D t) = some ⟨D, some D⟩ := by rw [st3_lk, if_neg (c_d pa).symm, if_pos rfl]
              unfold rdc
              rw [this]
              rfl
            rw [e1, e2] at cR
            have HJ1 := Lib.hid hJ1
            clear cP e1 e2 hJ1 hbpl hbSl hbFl q0 q1 q2 q3 q4 q5 q6 q7 q8 q9 q10 q11 q12
            go_wp2_with fail
            refine cR.mono ?_
            rintro x Y2 ⟨rfl, b2⟩
            have hJ2 := (HJ1.out.up b2).free
            have hc2 := (hJ2.bl.cell (p := ⟨db, d0 + k, none⟩) HSR.out.1).trans HSR.out.2
            have hd2 : db < Y2.heap.size := Nat.lt_of_lt_of_le HSR.out.1 hJ2.bl.size
            have HJ2 := Lib.hid hJ2
            have cK := fun V => pick_fn at_ 12 V ha ha' (by omega) (by omega)
            have HPK := Lib.hid HL.out.pk
            clear cR b2 HJ1 hJ2 HL
            have key : (ch = false ∧ (D == t) = true) ∨ (ch = true ∧ yes = true) ∨ (ch = true ∧ yes = false ∧ (D == nw) = true) := by
              cases ch with
              | false => exact .inl ⟨rfl, by rw [HDD.out.1 rfl]; simp⟩
              | true =>
                cases yes with
                | true => exact .inr (.inl ⟨rfl, rfl⟩)
                | false => exact .inr (.inr ⟨rfl, rfl, by rw [HDD.out.2 rfl rfl]; simp⟩)
            clear HDD
            rcases key with ⟨rfl, hb⟩ | ⟨rfl, rfl⟩ | ⟨rfl, rfl, hb⟩
            · have hDt : D = t := by simpa using hb
              have HDt := Lib.hid hDt
              clear hDt HPK
              have cK' := cK Y2
              by_cases hpk : (k : Int) = pkf at_ 12
              · have hpb : ((k : Int) == pkf at_ 12) = true := by simpa using hpk
                have HPK2 := Lib.hid hpk
                clear hpk
                cases hmb : (mine == D) with
                | true =>
                  have HS : Hid (LS W s d pa (pkf at_ 12) (k + 1) false D Y2) := ⟨fun h => (by cases h), .inr ⟨t, HJ2.out, fun _ => HDt.out.symm, fun h => (by cases h), hDl, htl⟩⟩
                  clear HJ2 HPK2 HDt
                  go_wp2_with fail
                  refine cK'.mono ?_
                  rintro x V ⟨rfl, hw⟩
                  rw [hw]
                  clear hw cK' V
                  go_wp2_with fail
                  exact ⟨⟨k + 1, false, D, hlt, rfl, rfl, by go_num, HS.out⟩, by simp [intOf]; omega⟩
                | false =>
                  have hmn : mine ≠ D := by rw [beq_eq_false_iff_ne] at hmb; exact hmb
                  have HMN := Lib.hid hmn
                  clear hmn
                  have cE := edit_any HJ2.out pa mine hpa (by omega) (by rw [tot3]; omega) (by show 3 ≤ 1000; omega) (by rw [ent_k (a := ⟨aa, some aa⟩) (by rw [st3_lk, if_neg (c_o pa).symm, if_neg (d_o pa).symm, if_pos rfl])]; decide)
                  rw [show [100, 47] ++ pa = dK pa from rfl, edit3] at cE
                  clear HJ2
                  go_wp2_with fail
                  refine cK'.mono ?_
                  rintro x V ⟨rfl, hw⟩
                  rw [hw]
                  clear hw cK' V
                  go_wp2_with fail
                  refine cE.mono ?_
                  rintro x Y3 ⟨rfl, _, hJ3⟩
                  have HS : Hid (LS W s d pa (pkf at_ 12) (k + 1) true mine Y3) := ⟨fun _ => (by rw [← HPK2.out]; omega), .inr ⟨t, hJ3.free, fun h => (by cases h), fun _ h => HMN.out (by rw [HDt.out, h]), hmi, htl⟩⟩
                  clear cE hJ3 HPK2 HMN HDt
                  go_wp2_with fail
                  exact ⟨⟨k + 1, true, mine, hlt, rfl, rfl, by go_num, HS.out⟩, by simp [intOf]; omega⟩
              · have hpb : ((k : Int) == pkf at_ 12) = false := by rw [beq_eq_false_iff_ne]; exact hpk
                have HS : Hid (LS W s d pa (pkf at_ 12) (k + 1) false D Y2) := ⟨fun h => (by cases h), .inr ⟨t, HJ2.out, fun _ => HDt.out.symm, fun h => (by cases h), hDl, htl⟩⟩
                clear HJ2 HDt hpk
                go_wp2_with fail
                refine cK'.mono ?_
                rintro x V ⟨rfl, hw⟩
                rw [hw]
                clear hw cK' V
                go_wp2_with fail
                exact ⟨⟨k + 1, false, D, hlt, rfl, rfl, by go_num, HS.out⟩, by simp [intOf]; omega⟩
            · have hpk := HPK.out rfl
              have hpb : ((k : Int) == pkf at_ 12) = false := by rw [beq_eq_false_iff_ne]; omega
              have HPK2 := Lib.hid hpk
              have cK' := cK Y2
              clear HPK hpk
              cases hdt : (D == t) with
              | true =>
                have hDt : D = t := by simpa using hdt
                have HS : Hid (LS W s d pa (pkf at_ 12) (k + 1) false D Y2) := ⟨fun h => (by cases h), .inr ⟨t, HJ2.out, fun _ => hDt.symm, fun h => (by cases h), hDl, htl⟩⟩
                clear HJ2 hDt HPK2
                go_wp2_with fail
                refine cK'.mono ?_
                rintro x V ⟨rfl, hw⟩
                rw [hw]
                clear hw cK' V
                go_wp2_with fail
                exact ⟨⟨k + 1, false, D, hlt, rfl, rfl, by go_num, HS.out⟩, by simp [intOf]; omega⟩
              | false =>
                have hDt : D ≠ t := by rw [beq_eq_false_iff_ne] at hdt; exact hdt
                have HS : Hid (LS W s d pa (pkf at_ 12) (k + 1) true D Y2) := ⟨fun _ => (by have := HPK2.out; omega), .inr ⟨t, HJ2.out, fun h => (by cases h), fun _ h => hDt h.symm, hDl, htl⟩⟩
                clear HJ2 hDt HPK2
                go_wp2_with fail
                refine cK'.mono ?_
                rintro x V ⟨rfl, hw⟩
                rw [hw]
                clear hw cK' V
                go_wp2_with fail
                exact ⟨⟨k + 1, true, D, hlt, rfl, rfl, by go_num, HS.out⟩, by simp [intOf]; omega⟩
            · have hpk := HPK.out rfl
              have hpb : ((k : Int) == pkf at_ 12) = false := by rw [beq_eq_false_iff_ne]; omega
              have HPK2 := Lib.hid hpk
              have cK' := cK Y2
              clear HPK hpk
              cases hdt : (D == t) with
              | true =>
                have hDt : D = t := by simpa using hdt
                have HS : Hid (LS W s d pa (pkf at_ 12) (k + 1) false D Y2) := ⟨fun h => (by cases h), .inr ⟨t, HJ2.out, fun _ => hDt.symm, fun h => (by cases h), hDl, htl⟩⟩
                clear HJ2 hDt HPK2
                go_wp2_with fail
                refine cK'.mono ?_
                rintro x V ⟨rfl, hw⟩
                rw [hw]
                clear hw cK' V
                go_wp2_with fail
                exact ⟨⟨k + 1, false, D, hlt, rfl, rfl, by go_num, HS.out⟩, by simp [intOf]; omega⟩
              | false =>
                have hDt : D ≠ t := by rw [beq_eq_false_iff_ne] at hdt; exact hdt
                have HS : Hid (LS W s d pa (pkf at_ 12) (k + 1) true D Y2) := ⟨fun _ => (by have := HPK2.out; omega), .inr ⟨t, HJ2.out, fun h => (by cases h), fun _ h => hDt h.symm, hDl, htl⟩⟩
                clear HJ2 hDt HPK2
                go_wp2_with fail
                refine cK'.mono ?_
                rintro x V ⟨rfl, hw⟩
                rw [hw]
                clear hw cK' V
                go_wp2_with fail
                exact ⟨⟨k + 1, true, D, hlt, rfl, rfl, by go_num, HS.out⟩, by simp [intOf]; omega⟩
        · have hbl := HL.out.bl
          go_wp2
          go_ret
          exact ⟨rfl, hbl⟩
      · have hbl := hLS.bl
        go_wp2
        go_ret
        exact ⟨rfl, hbl⟩
end Go.Proofs.YtppogjjhippefaaGreatDoor.Dsk
