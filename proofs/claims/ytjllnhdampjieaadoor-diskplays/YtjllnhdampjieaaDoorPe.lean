/- The walk of the law DiskPlays. -/
import Derived.Test.YtjllnhdampjieaaDoorPf
namespace Go.Proofs.YtjllnhdampjieaaDoor
open Go.RowKit Go.Sort Go.Maps
set_option maxHeartbeats 40000000 in
set_option maxRecDepth 100000 in
theorem plays_row (b0 o0 c0 : Nat) (l : List Ac) (w : World) (h : Acl w b0 o0 l) (hn : l.length ≤ 60) (hI : ∀ x ∈ l, x.n ≤ 9223372036854775807) (hE : ErrT w) : Calls Tryd.prog 3 #[.slice (some ⟨b0, o0, none⟩) l.length c0] w fun x w' => x = .returned (.bool true) ∧ Below w.heap.size w w' := by
  have H := Lib.hid h
  have HI := Lib.hid hI
  have HE := Lib.hid hE
  have cS := J.start w
  clear h hI hE
  go_enter Tryd.func3, Tryd.ntmps3
  go_wp2_with fail
  refine cS.mono ?_
  rintro x w1 ⟨rfl, hJ0⟩
  have HJ0 := Lib.hid hJ0
  clear cS hJ0
  go_wp2_with fail
  obtain ⟨b, hb⟩ : ∃ b, b = w.heap.size := ⟨_, rfl⟩
  obtain ⟨c, hc⟩ : ∃ c, c = w.heap.size + 2 := ⟨_, rfl⟩
  rw [← hc, ← hb] at HJ0 ⊢
  clear hb hc
  go_loopw [5] (fun iv W => ∃ k : Nat, k ≤ l.length ∧ iv = .int .i64 k ∧ J w b c k W) (fun iv _ => l.length - (intOf iv).toNat)
  case atStart => exact ⟨0, Nat.zero_le _, rfl, HJ0.out⟩
  case round =>
    obtain ⟨k, hk, rfl, hJ⟩ := hrel
    by_cases hlt : k < l.length
    · have q0 := (hJ.bl.cell (p := ⟨b0, o0 + k * 4, none⟩) H.out.lt).trans (H.out.c0 k hlt)
      have q1 := (hJ.bl.cell (p := ⟨b0, o0 + k * 4 + 1, none⟩) H.out.lt).trans (H.out.c1 k hlt)
      have q2 := (hJ.bl.cell (p := ⟨b0, o0 + k * 4 + 2, none⟩) H.out.lt).trans (H.out.c2 k hlt)
      have q3 := (hJ.bl.cell (p := ⟨b0, o0 + k * 4 + 3, none⟩) H.out.lt).trans (H.out.c3 k hlt)
      have hxn := HI.out l[k] (List.getElem_mem hlt)
      generalize l[k] = x at q0 q1 q2 q3 hxn
      have hb1 := (Below.refl wr.heap.size wr).alloc (Nat.le_refl _) (aco x)
      have hJ1 := hJ.up hb1
      have hX1 := nb0 wr (aco x)
      have HJ1 := Lib.hid hJ1
      have HX1 := Lib.hid hX1
      clear hJ hJ1 hX1 hb1
      by_cases hf : x.f.length ≤ 100
      · by_cases ho : x.o.length ≤ 200
        · go_upto_block 2 with fail
          obtain ⟨bx, hbx⟩ : ∃ bx, bx = wr.heap.size := ⟨_, rfl⟩
          rw [← hbx] at HX1 ⊢
          clear hbx
          generalize wr.alloc (aco x) = W1 at HJ1 HX1 ⊢
          obtain ⟨t, n, f, o⟩ := x
          dsimp only at hf ho hxn
          clear q0 q1 q2 q3
          have hk60 : k < 60 := by omega
          go_cut [] from 19 to 193 (fun wc => Cu w b c (k + 1) bx ⟨t, n, f, o⟩ wc)
          case first =>
            rename_i Jm Km hJm hKm
            exact plays_first w b c k bx t n f o W1 HE HJ1 HX1 hf ho hxn hk60 Jm Km _ (by intro ch a d v w h; cases d <;> exact h) _ _ _ _ _ _ _ _ _ _ _ _ _ _ _ _ _ _ _ _ _ _ _ _ _ _ _ _ _ _ _ _ _ _ _ _ _ _ _ _ _ _ _ _ _ _ _ _ _ _ _ _ _ _ _ _ _ _ _ _ _ _ _ _ _ _ _ _ _ _ _ _ _ _ _ _ _ _ _ _ _ _ _ _ _ _ _ _ _ _ _ _ _ _ _ _ _ _ _ _ _ _ _ _ _ _ _ _ _ _ _ _ _ _ _ _ _ _ _ _ _ _ _ _ _ _ _ _ _ _ _ _ _ _ _ _ _ _ _ _ _ _ _ _ _ _ _ _ _ _ _ _ _ _ _ _ _ _ _ _ _ _ _ _ _ _ _ _ _ _ _ _ _ _ _ _ _ _ _ _ _ _ _ _ _ _ _ _ _ _ hJm hKm
          case rest =>
            obtain ⟨mb, m, K, L, e, cc, bd, r, lf, bt, hJX⟩ := hcut.j.is
            have hXc := hcut.x
            have hLl := hJX.jn.len
            have cN := names_any c m K L lf bt wc hJX.rd (by omega)
            clear hcut HJ1 HX1
            go_wp2_with fail
            refine cN.mono ?_
            rintro y W2 ⟨v, rfl, hT2, hb2⟩
            have hJ2 := hJX.up hb2
            have hX2 := F29.below hb2 _ _ hXc
            obtain ⟨A, cp, rfl⟩ := tx_sl hT2
            have hnl := nms_len L
            have HN := Lib.hid hnl
            have hnl60 : (nms L).length ≤ 61 := by omega
            clear hnl cN hJX hXc hb2
            go_wp2_with fail
            have bd1 := (Below.refl W2.heap.size W2).drew
            have hJ2d := hJ2.up bd1
            have hT2d := hT2.on bd1
            have hX2d := F29.below bd1 _ _ hX2
            have lc1 : W2.drew.cell? ⟨c, 1, none⟩ = some (.int .i64 lf) := (rc_of hJ2d.rd.blk).c1
            have cL := list_any b mb L e cc bd r W2.drew hJ2d.pd (by omega)
            refine wp_region_held (S := fun W => W.cell? ⟨c, 1, none⟩ = some (.int .i64 lf)) (by kernel_rfl) ?_
            refine wpAnyH_take (i := 1) (v := .slice A (nms L).length cp) rfl (by as_aux_lemma => kernel_rfl) (by as_aux_lemma => kernel_rfl) (by as_aux_lemma => kernel_rfl) (fun _ _ _ h => h) (.inl ⟨by kernel_rfl, fun w' _ => by simp [go_sem]⟩) lc1 ?_
            refine wpAnyH_all (rs := [0]) (by as_aux_lemma => kernel_rfl) (by simp) fun j hj => ?_
            obtain rfl : j = 0 := by simpa using hj
            refine wpOp_want rfl (by kernel_rfl) ?_
            unfold Oper.wp
            simp [go_sem]
            refine cL.mono ?_
            rintro y W3 ⟨v2, rfl, hT3, hb3⟩
            have hJ3 := hJ2d.up hb3
            have hT2e := hT2d.on hb3
            have hX3 := F29.below hb3 _ _ hX2d
            obtain ⟨A2, cp2, rfl⟩ := tx_sl hT3
            refine ⟨(rc_of hJ3.rd.blk).c1, ?_⟩
            have cS := same_any _ _ _ _ (nms L) W3 hT3 hT2e (by omega)
            refine wpAnyH_all (rs := [2]) (by as_aux_lemma => kernel_rfl) (by simp) fun j hj => ?_
            obtain rfl : j = 2 := by simpa using hj
            refine wpOp_want rfl (by kernel_rfl) ?_
            unfold Oper.wp
            simp [go_sem]
            refine cS.mono ?_
            rintro y W4 ⟨rfl, hb4⟩
            have hJ4 := hJ3.up hb4
            have hT4 := hT2e.on hb4
            have hX4 := F29.below hb4 _ _ hX3
            have lc4 : W4.cell? ⟨c, 1, none⟩ = some (.int .i64 lf) := (rc_of hJ4.rd.blk).c1
            refine ⟨lc4, ?_⟩
            refine wpAnyH_take (i := 3) (v := .bool false) rfl (by as_aux_lemma => kernel_rfl) (by as_aux_lemma => kernel_rfl) (by as_aux_lemma => kernel_rfl) (fun _ _ _ h => h) (.inl ⟨by kernel_rfl, fun w' _ => by simp [go_sem]⟩) lc4 ?_
            refine wpAnyH_take (i := 4) (v := .bool false) rfl (by as_aux_lemma => kernel_rfl) (by as_aux_lemma => kernel_rfl) (by as_aux_lemma => kernel_rfl) (fun _ _ _ h => h) (.inl ⟨by kernel_rfl, fun w' _ => by simp [go_sem]⟩) lc4 ?_
            refine wpAnyH_take (i := 6) (v := .pointer (some ⟨c, 0, none⟩)) rfl (by as_aux_lemma => kernel_rfl) (by as_aux_lemma => kernel_rfl) (by as_aux_lemma => kernel_rfl) (fun _ _ _ h => h) (.inl ⟨by kernel_rfl, fun w' _ => by simp [go_sem]⟩) lc4 ?_
            refine wpAnyH_take (i := 7) (v := .pointer (some ⟨c, 0, none⟩)) rfl (by as_aux_lemma => kernel_rfl) (by as_aux_lemma => kernel_rfl) (by as_aux_lemma => kernel_rfl) (fun _ _ _ h => h) (.inl ⟨by kernel_rfl, fun w' _ => by simp [go_sem]⟩) lc4 ?_
            refine wpAnyH_take (i := 8) (v := .pointer (some ⟨c, 1, none⟩)) rfl (by as_aux_lemma => kernel_rfl) (by as_aux_lemma => kernel_rfl) (by as_aux_lemma => kernel_rfl) (fun _ _ _ h => h) (.inl ⟨by kernel_rfl, fun w' _ => by simp [go_sem]⟩) lc4 ?_
            refine wpAnyH_take (i := 9) (v := .int .i64 lf) rfl (by as_aux_lemma => kernel_rfl) (by as_aux_lemma => kernel_rfl) (by as_aux_lemma => kernel_rfl) (fun _ _ _ h => h) (.inl ⟨by kernel_rfl, fun w' hw => by simp [go_sem, hw]⟩) lc4 ?_
            refine wpAnyH_take (i := 10) (v := .bool (lf != 0)) rfl (by as_aux_lemma => kernel_rfl) (by as_aux_lemma => kernel_rfl) (by as_aux_lemma => kernel_rfl) (fun _ _ _ h => h) (.inl ⟨by kernel_rfl, fun w' _ => by simp [go_sem]⟩) lc4 ?_
            have cO := on_any b mb _ e cc bd r W4 (dc_of hJ4.pd.blk)
            rw [show (!e || decide (0 < cc)) = (lf != 0) from by have := hJ4.jn.pw.pwr; unfold pwr at this; rw [this, Bool.eq_iff_iff]; simp] at cO
            refine wpAnyH_all (rs := [5]) (by as_aux_lemma => kernel_rfl) (by simp) fun j hj => ?_
            obtain rfl : j = 5 := by simpa using hj
            unfold wpOp
            simp [Region.wanted, yielded, Oper.wp, go_sem]
            refine Or.inl ?_
            refine cO.mono ?_
            rintro y W5 ⟨rfl, rfl⟩
            refine ⟨lc4, ?_⟩
            refine wpAnyH_take (i := 11) (v := .bool false) rfl (by as_aux_lemma => kernel_rfl) (by as_aux_lemma => kernel_rfl) (by as_aux_lemma => kernel_rfl) (fun _ _ _ h => h) (.inl ⟨by kernel_rfl, fun w' _ => by simp [go_sem]⟩) lc4 ?_
            refine wpAnyH_take (i := 12) (v := .bool false) rfl (by as_aux_lemma => kernel_rfl) (by as_aux_lemma => kernel_rfl) (by as_aux_lemma => kernel_rfl) (fun _ _ _ h => h) (.inl ⟨by kernel_rfl, fun w' _ => by simp [go_sem]⟩) lc4 ?_
            refine wpAnyH_done (by as_aux_lemma => kernel_rfl) ?_ _
            clear cL cS cO hb3 hb4 bd1 lc1 lc4 hT3 hT2e hT2d hT2 hX2 hX2d hX3 hJ2 hJ2d hJ3
            have HJ5 := Lib.hid hJ4
            have HT5 := Lib.hid hT4
            have HX5 := Lib.hid hX4
            clear hJ4 hT4 hX4
            go_wp2_with fail
            go_loopw [8] (fun kv W => ∃ j : Nat, j ≤ (nms L).length ∧ kv = .int .i64 j ∧ Below W5.heap.size W5 W) (fun kv _ => (nms L).length - (intOf kv).toNat)
            case atStart => exact ⟨0, Nat.zero_le _, rfl, Below.refl _ _⟩
            case round =>
              obtain ⟨j, hj, rfl, hW⟩ := hrel
              have hJ := HJ5.out.up hW
              have hX := F29.below hW _ _ HX5.out
              by_cases hjl : j < (nms L).length
              · obtain ⟨nb, rfl, hnb, hcell⟩ : ∃ nb, A = some ⟨nb, 0, none⟩ ∧ nb < W5.heap.size ∧ W5.cell? ⟨nb, j, none⟩ = some (.string ⟨(nms L)[j].toArray⟩) := tx_at HT5.out j hjl
                have hcl := (hW.cell (p := ⟨nb, j, none⟩) hnb).trans hcell
                obtain ⟨a, ha⟩ := nms_mem.1 (List.getElem_mem hjl)
                have ha := (lk_iff hJ.pd.srt).2 ha
                have hkl := hJ.jn.ky _ a ha
                generalize (nms L)[j] = nm at hcl ha hkl
                have hrd : rdc nm L = 0 := by unfold rdc; rw [ha]; rfl
                have cR := read_any b mb L e cc bd r nm wr hJ.pd (by omega)
                rw [hrd, show evv 0 = .nilIface from rfl] at cR
                clear hcell hrd ha
                have HJ := Lib.hid hJ
                clear hJ
                go_wp2_with fail
                refine cR.mono ?_
                rintro y W6 ⟨rfl, hb6⟩
                have hJ6 := HJ.out.up hb6
                have bd6 := (Below.refl W6.heap.size W6).drew
                have hat := (hJ6.rd.at nm).1
                have lc6 : RD W6.drew c m K L lf bt ∧ W6.drew.cell? ⟨nb, j, none⟩ = some (.string ⟨nm.toArray⟩) := ⟨hJ6.rd.up bd6, by have := (hb6.cell (p := ⟨nb, j, none⟩) (block_lt_of_cell hcl)).trans hcl; exact this⟩
                have HW6 := Lib.hid (hW.trans (hb6.mono hW.size))
                clear cR hJ6 bd6 hb6 hcl hX HJ
                generalize (ent nm L).now = now at hat ⊢
                go_wp2_with fail
                refine wp_region_held (S := fun W => RD W c m K L lf bt ∧ W.cell? ⟨nb, j, none⟩ = some (.string ⟨nm.toArray⟩)) (by kernel_rfl) ?_
                refine take_d (some 153) (i := 0) (v := .nilIface) rfl rfl (by as_aux_lemma => kernel_rfl) (by as_aux_lemma => kernel_rfl) (by as_aux_lemma => kernel_rfl) (fun _ _ _ h => h) (.inl ⟨by kernel_rfl, fun w' _ => by simp [go_sem]⟩) lc6 ?_
                refine take_d (some 154) (i := 1) (v := .bool false) rfl rfl (by as_aux_lemma => kernel_rfl) (by as_aux_lemma => kernel_rfl) (by as_aux_lemma => kernel_rfl) (fun _ _ _ h => h) (.inl ⟨by kernel_rfl, fun w' _ => by simp [go_sem]⟩) lc6 ?_
                refine take_d (some 155) (i := 2) (v := .bool false) rfl rfl (by as_aux_lemma => kernel_rfl) (by as_aux_lemma => kernel_rfl) (by as_aux_lemma => kernel_rfl) (fun _ _ _ h => h) (.inl ⟨by kernel_rfl, fun w' _ => by simp [go_sem]⟩) lc6 ?_
                refine take_d (some 156) (i := 3) (v := .string ⟨now.toArray⟩) rfl rfl (by as_aux_lemma => kernel_rfl) (by as_aux_lemma => kernel_rfl) (by as_aux_lemma => kernel_rfl) (fun _ _ _ h => h) (.inl ⟨by kernel_rfl, fun w' _ => by simp [go_sem]⟩) lc6 ?_
                refine take_d (some 157) (i := 4) (v := .pointer (some ⟨c, 0, none⟩)) rfl rfl (by as_aux_lemma => kernel_rfl) (by as_aux_lemma => kernel_rfl) (by as_aux_lemma => kernel_rfl) (fun _ _ _ h => h) (.inl ⟨by kernel_rfl, fun w' _ => by simp [go_sem]⟩) lc6 ?_
                refine take_d (some 158) (i := 5) (v := .pointer (some ⟨c, 0, none⟩)) rfl rfl (by as_aux_lemma => kernel_rfl) (by as_aux_lemma => kernel_rfl) (by as_aux_lemma => kernel_rfl) (fun _ _ _ h => h) (.inl ⟨by kernel_rfl, fun w' _ => by simp [go_sem]⟩) lc6 ?_
                refine take_d (some 159) (i := 6) (v := .pointer (some ⟨c, 0, none⟩)) rfl rfl (by as_aux_lemma => kernel_rfl) (by as_aux_lemma => kernel_rfl) (by as_aux_lemma => kernel_rfl) (fun _ _ _ h => h) (.inl ⟨by kernel_rfl, fun w' _ => by simp [go_sem]⟩) lc6 ?_
                refine take_d (some 160) (i := 7) (v := .map (some m)) rfl rfl (by as_aux_lemma => kernel_rfl) (by as_aux_lemma => kernel_rfl) (by as_aux_lemma => kernel_rfl) (fun _ _ _ h => h) (.inl ⟨by kernel_rfl, fun w' hw => by have h1 := (rc_of hw.1.blk).c0; simp [go_sem, h1]⟩) lc6 ?_
                refine take_d (some 161) (i := 8) (v := .slice (some ⟨nb, 0, none⟩) (nms L).length cp) rfl rfl (by as_aux_lemma => kernel_rfl) (by as_aux_lemma => kernel_rfl) (by as_aux_lemma => kernel_rfl) (fun _ _ _ h => h) (.inl ⟨by kernel_rfl, fun w' _ => by simp [go_sem]⟩) lc6 ?_
                refine take_d (some 162) (i := 9) (v := .int .i64 j) rfl rfl (by as_aux_lemma => kernel_rfl) (by as_aux_lemma => kernel_rfl) (by as_aux_lemma => kernel_rfl) (fun _ _ _ h => h) (.inl ⟨by kernel_rfl, fun w' _ => by simp [go_sem]⟩) lc6 ?_
                refine take_d (some 163) (i := 10) (v := .pointer (some ⟨nb, j, none⟩)) rfl rfl (by as_aux_lemma => kernel_rfl) (by as_aux_lemma => kernel_rfl) (by as_aux_lemma => kernel_rfl) (fun _ _ _ h => h) (.inl ⟨by kernel_rfl, fun w' _ => by simp [go_sem, hjl]⟩) lc6 ?_
                refine take_d (some 164) (i := 11) (v := .string ⟨nm.toArray⟩) rfl rfl (by as_aux_lemma => kernel_rfl) (by as_aux_lemma => kernel_rfl) (by as_aux_lemma => kernel_rfl) (fun _ _ _ h => h) (.inl ⟨by kernel_rfl, fun w' hw => by have h1 := hw.2; simp [go_sem, h1]⟩) lc6 ?_
                refine take_d (some 165) (i := 12) (v := rvv (rent nm K)) rfl rfl (by as_aux_lemma => kernel_rfl) (by as_aux_lemma => kernel_rfl) (by as_aux_lemma => kernel_rfl) (fun _ _ _ h => h) (.inl ⟨by kernel_rfl, fun w' hw => by have h1 := (rlook_own hw.1.map nm (by omega)).1; simp [go_sem, h1]⟩) lc6 ?_
                refine take_d (some 166) (i := 13) (v := .string ⟨now.toArray⟩) rfl rfl (by as_aux_lemma => kernel_rfl) (by as_aux_lemma => kernel_rfl) (by as_aux_lemma => kernel_rfl) (fun _ _ _ h => h) (.inl ⟨by kernel_rfl, fun w' _ => by have h1 := fld50 (rent nm K) w'; rw [hat] at h1; simp [go_sem, h1]⟩) lc6 ?_
                refine take_d (some 167) (i := 14) (v := .bool false) rfl rfl (by as_aux_lemma => kernel_rfl) (by as_aux_lemma => kernel_rfl) (by as_aux_lemma => kernel_rfl) (fun _ _ _ h => h) (.inl ⟨by kernel_rfl, fun w' _ => by simp [go_sem]⟩) lc6 ?_
                refine take_d (some 168) (i := 15) (v := .bool false) rfl rfl (by as_aux_lemma => kernel_rfl) (by as_aux_lemma => kernel_rfl) (by as_aux_lemma => kernel_rfl) (fun _ _ _ h => h) (.inl ⟨by kernel_rfl, fun w' _ => by simp [go_sem]⟩) lc6 ?_
                refine wpAnyH_done (by as_aux_lemma => kernel_rfl) ?_ _
                have HW7 : Hid (Below W5.heap.size W5 W6.drew) := HW6.out.trans ((Below.refl _ _).drew)
                clear lc6 hat HW6
                simp only [Act.put, List.setIfInBounds_toArray, List.set_cons_succ, List.set_cons_zero]
                go_wp2_with fail
                exact ⟨⟨j + 1, hjl, by go_num, HW7.out⟩, by simp [intOf]; omega⟩
              · have d0 := (rc_of hJ.rd.blk).c0
                have x3 := (Xs.mk (x := ⟨t, n, f, o⟩) hX).c.2.2.2
                have hlc := (rc_of hJ.rd.blk).lt
                have hlx : bx < wr.heap.size := (Array.getElem?_eq_some_iff.1 hX).1
                have hat := (hJ.rd.at o).2.2
                have hy := (rlook_own (w := wr.drew) hJ.rd.map o (by omega)).2
                have hya := (rlook_own (w := (wr.alloc (.cells #[.string ⟨#[]⟩, .pointer none] 50 (0, 0))).drew) (hJ.rd.up (((Below.refl _ wr).alloc (Nat.le_refl _) _).drew)).map o (by omega)).2
                rw [hat] at hy hya
                generalize rent o K = y at hy hya
                have hbE : Below wr.heap.size wr (wr.alloc (.cells #[.string ⟨y.now.toArray⟩, .pointer (y.p.map fun a => ⟨a, 0, none⟩)] 50 (0, 0))).drew := ((Below.refl _ _).alloc (Nat.le_refl _) _).drew
                have hJE := hJ.up hbE
                have hXE := F29.below hbE _ _ hX
                have HJE := Lib.hid hJE
                have HXE := Lib.hid hXE
                unfold rvv at hy hya
                clear hat hJ hX hbE hJE hXE
                cases hz : (lkL o L).isSome with
                | true =>
                  rw [hz] at hy hya
                  go_wp2_with fail
                  go_region
                  all_goals
                    clear hy hya x3 d0 hlc hlx
                    go_wp2_with fail
                    exact ⟨⟨k + 1, hlt, by go_num, ⟨mb, m, K, L, e, cc, bd, r, lf, bt, HJE.out⟩⟩, by simp [intOf]; omega⟩
                | false =>
                  rw [hz] at hy hya
                  have hrd : rdc o L = 7 := by unfold rdc; rw [hz]; rfl
                  have hent : (ent o L).now = [] := by unfold ent; rw [Option.isSome_eq_false_iff, Option.isNone_iff_eq_none] at hz; rw [hz]; rfl
                  have cR := read_any b mb L e cc bd r o _ HJE.out.pd (by omega)
                  rw [hrd, hent, show evv 7 = .iface 34 (.int .i64 7) from rfl] at cR
                  clear hrd hent
                  go_wp2_with fail
                  go_region
                  all_goals
                    have y3 := (Xs.mk (x := ⟨t, n, f, o⟩) HXE.out).c.2.2.2
                    generalize (wr.alloc (.cells #[.string ⟨y.now.toArray⟩, .pointer (y.p.map fun a => ⟨a, 0, none⟩)] 50 (0, 0))).drew = W8 at HJE HXE cR y3 ⊢
                    clear hy hya x3 d0 hlc hlx
                    go_wp2_with fail
                    refine cR.mono ?_
                    rintro q W9 ⟨rfl, hb9⟩
                    have hJ9 := HJE.out.up hb9
                    have cB := bare_errno 7 W9 (HE.out.on hJ9.bl)
                    clear cR y3
                    go_wp2_with fail
                    refine cB.mono ?_
                    rintro q W10 ⟨rfl, hb10⟩
                    have hJ10 := hJ9.up hb10
                    clear cB
                    go_wp2_with fail
                    exact ⟨⟨k + 1, hlt, by go_num, ⟨mb, m, K, L, e, cc, bd, r, lf, bt, hJ10⟩⟩, by simp [intOf]; omega⟩
        · go_wp2_with fail
          exact ⟨⟨k + 1, hlt, by go_num, HJ1.out.mono (Nat.le_succ _)⟩, by simp [intOf]; omega⟩
      · go_wp2_with fail
        exact ⟨⟨k + 1, hlt, by go_num, HJ1.out.mono (Nat.le_succ _)⟩, by simp [intOf]; omega⟩
    · obtain rfl : k = l.length := by omega
      have hbl := hJ.bl
      go_wp2
      go_ret
      exact ⟨rfl, hbl⟩
end Go.Proofs.YtjllnhdampjieaaDoor
