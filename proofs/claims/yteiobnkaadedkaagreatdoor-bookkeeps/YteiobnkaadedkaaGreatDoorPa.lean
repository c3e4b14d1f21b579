/- The walk of the law BookPlays. -/
import Derived.Test.YteiobnkaadedkaaGreatDoorBy
import Derived.Deep.CutRange
import Derived.Deep.CutBlock
namespace Go.Proofs.YteiobnkaadedkaaGreatDoor
open Go.RowKit Go.Sort Go.Maps

/-- A note. -/
structure Nt where
  t : Int
  f : List UInt8
  o : List UInt8
  deriving Inhabited
structure Ntl (W : World) (b o : Nat) (l : List Nt) : Prop where
  lt : b < W.heap.size
  c0 : ∀ i (hi : i < l.length), W.cell? ⟨b, o + i * 3, none⟩ = some (.int .i64 l[i].t)
  c1 : ∀ i (hi : i < l.length), W.cell? ⟨b, o + i * 3 + 1, none⟩ = some (.string ⟨l[i].f.toArray⟩)
  c2 : ∀ i (hi : i < l.length), W.cell? ⟨b, o + i * 3 + 2, none⟩ = some (.string ⟨l[i].o.toArray⟩)
abbrev nto (x : Nt) : Obj := .cells #[.int .i64 x.t, .string ⟨x.f.toArray⟩, .string ⟨x.o.toArray⟩] 37 (0, 0)
theorem wpOp_want {P : Program} {ops : Array Oper} {Q : Exit → Act → World → Prop} {i : Nat} {o : Oper} {K : Act → World → Prop} {a : Act} {w : World} (hi : ops[i]? = some o) (hg : Region.wanted o (yielded ops a.tmps) = true) (h : o.wp P a w K Q) : wpOp P ops Q i K a w := by
  unfold wpOp
  simp only [hi]
  rw [if_pos hg]
  exact .inl h
theorem wpOp_wantf {P : Program} {ops : Array Oper} {Q : Exit → Act → World → Prop} {i k d : Nat} {o : Oper} {K : Act → World → Prop} {a : Act} {w : World} (hi : ops[i]? = some o) (hg : o.guard = some (k, false)) (hk : ops[k]?.bind (·.dst) = some d) (hv : a.tmps[d]? = some (.bool false)) (h : o.wp P a w K Q) : wpOp P ops Q i K a w := by
  refine wpOp_want hi ?_ h
  unfold Region.wanted yielded
  rw [hg]
  simp [hk, hv]
theorem take_d {P : Program} {md : Region.Mode} {ops : Array Oper} {Q : Exit → Act → World → Prop} {S : World → Prop} {i : Nat} {oi : Oper} {v : Value} {fuel : Nat} {listed : Array Bool} {a : Act} {w : World} (d : Option Nat) (hi : ops[i]? = some oi) (hd : oi.dst = d)
    (hs : Region.noSelect ops = true) (hf : Region.free md ops listed i = true) (hr : (Region.ready md ops listed).contains i = true)
    (hQ : ∀ c a w, Q (.panic c) (a.put d v) w → Q (.panic c) a w) (hy : YieldsIf P ops S oi v a) (hS : S w)
    (h : wpAnyH P md ops Q S fuel (listed.setIfInBounds i true) (a.put d v) w) : wpAnyH P md ops Q S (fuel + 1) listed a w := by
  subst hd
  exact wpAnyH_take hi hs hf hr hQ hy hS h
theorem fld47 (x : Rx) (W : World) : Sem.run Tryz.prog (Instr.field 47 (rvv x) 0) W = .ok (.string ⟨x.now.toArray⟩) W := by unfold rvv; kernel_rfl
theorem tx_sl {B : Nat} {W : World} {v : Value} {l : List (List UInt8)} (h : Tx B W v l) : ∃ A c, v = .slice A l.length c := by
  rcases h.is with ⟨rfl, rfl⟩ | ⟨b, c, rfl, _⟩
  · exact ⟨none, 0, rfl⟩
  · exact ⟨_, c, rfl⟩
structure Xs (bx : Nat) (x : Nt) (W : World) : Prop where
  x : W.heap[bx]? = some (nto x)
theorem Xs.c {bx : Nat} {x : Nt} {W : World} (h : Xs bx x W) : W.cell? ⟨bx, 0, none⟩ = some (.int .i64 x.t) ∧ W.cell? ⟨bx, 1, none⟩ = some (.string ⟨x.f.toArray⟩) ∧ W.cell? ⟨bx, 2, none⟩ = some (.string ⟨x.o.toArray⟩) :=
  ⟨by simp [World.cell?, h.x], by simp [World.cell?, h.x], by simp [World.cell?, h.x]⟩
set_option maxHeartbeats 8000000 in
set_option maxRecDepth 100000 in
theorem plays_row (b0 o0 c0 : Nat) (l : List Nt) (w : World) (h : Ntl w b0 o0 l) (hn : l.length ≤ 60) (hE : ErrT w) : Calls Tryz.prog 3 #[.slice (some ⟨b0, o0, none⟩) l.length c0] w fun x w' => x = .returned (.bool true) ∧ Below w.heap.size w w' := by
  have H := Lib.hid h
  have HE := Lib.hid hE
  have cO := open_zero w
  clear h hE
  go_enter Tryz.func3, Tryz.ntmps3
  go_wp2_with fail
  refine cO.mono ?_
  rintro x w1 ⟨b, rfl, hB⟩
  have HB := Lib.hid hB
  have hbl1 : Below w.heap.size w w1 := ((Below.refl _ w).alloc (Nat.le_refl _) _).trans (hB.bl.mono (by simp))
  have cN := open_nil w1
  have cB := bare_errno 7 w1 (HE.out.on hbl1)
  clear cO hB hbl1
  go_wp2_with fail
  refine cN.mono ?_
  rintro x w2 ⟨rfl, hw⟩
  rw [hw]
  clear hw cN w2
  go_wp2_with fail
  refine cB.mono ?_
  rintro x w3 ⟨rfl, b3⟩
  have cD := newdisk_any w3
  clear cB
  go_wp2_with fail
  refine cD.mono ?_
  rintro x w4 ⟨rfl, hrd, b4⟩
  have HJ0 := Lib.hid (lj_start HB.out b3 b4 hrd)
  clear cD hrd b3 b4 HB
  obtain ⟨d, hd⟩ : ∃ d, d = w.heap.size := ⟨_, rfl⟩
  obtain ⟨c, hc⟩ : ∃ c, c = w3.heap.size + 1 := ⟨_, rfl⟩
  rw [← hc, ← hd] at HJ0
  rw [← hc, ← hd]
  clear hc hd
  go_wp2_with fail
  go_loopw [4, 9] (fun bv iv W => ∃ (k b : Nat), k ≤ l.length ∧ bv = .pointer (some ⟨b, 0, none⟩) ∧ iv = .int .i64 k ∧ LJ w b d c k W) (fun _ iv _ => l.length - (intOf iv).toNat)
  case atStart => exact ⟨0, b, Nat.zero_le _, rfl, rfl, HJ0.out⟩
  case round =>
    obtain ⟨k, b, hk, rfl, rfl, hJ⟩ := hrel
    by_cases hlt : k < l.length
    · have q0 := (hJ.bl.cell (p := ⟨b0, o0 + k * 3, none⟩) H.out.lt).trans (H.out.c0 k hlt)
      have q1 := (hJ.bl.cell (p := ⟨b0, o0 + k * 3 + 1, none⟩) H.out.lt).trans (H.out.c1 k hlt)
      have q2 := (hJ.bl.cell (p := ⟨b0, o0 + k * 3 + 2, none⟩) H.out.lt).trans (H.out.c2 k hlt)
      generalize l[k] = x at q0 q1 q2
      have hb1 := (Below.refl wr.heap.size wr).alloc (Nat.le_refl _) (nto x)
      have hJ1 := hJ.up hb1
      have hX1 := nb0 wr (nto x)
      have HJ1 := Lib.hid hJ1
      have HX1 := Lib.hid hX1
      clear hJ hJ1 hX1 hb1
      by_cases hf : x.f.length ≤ 60
      · by_cases ho : x.o.length ≤ 400
        · go_upto_block 2 with fail
          obtain ⟨bx, hbx⟩ : ∃ bx, bx = wr.heap.size := ⟨_, rfl⟩
          rw [← hbx] at HX1 ⊢
          clear hbx
          generalize wr.alloc (nto x) = W1 at HJ1 HX1 ⊢
          obtain ⟨t, f, o⟩ := x
          dsimp only at hf ho
          clear q0 q1 q2
          have hk60 : k < 60 := by omega
          have hEb := HE.out.on HJ1.out.bl
          have HEb := Lib.hid hEb
          clear hEb
          go_cut [4, 5, 11, 51, 58, 59, 60, 61] from 64 to 142 (fun bv _ _ _ _ _ _ _ wc => ∃ b' : Nat, bv = .pointer (some ⟨b', 0, none⟩) ∧ LJ w b' d c (k + 1) wc ∧ wc.heap[bx]? = some (nto ⟨t, f, o⟩))
          case first =>
            obtain ⟨x0, x1, x2⟩ := (Xs.mk (x := ⟨t, f, o⟩) HX1.out).c
            have hlx : bx < W1.heap.size := (Array.getElem?_eq_some_iff.1 HX1.out).1
            dsimp only at x0 x1 x2
            by_cases h0 : t = 0
            · subst h0
              obtain ⟨pm, ns, P, N, mb, L, A, mR, K, LR, hX⟩ := HJ1.out.is
              have cL := line_any f o W1 (by omega) (by omega)
              cases hr : rgt f o with
              | true =>
                rw [hr] at cL
                have cS := act_set hX hk60 hr
                clear hX hr
                go_wp2_with fail
                refine cL.mono ?_
                rintro y w5 ⟨rfl, hw⟩
                rw [hw]
                clear hw cL w5
                go_wp2_with fail
                refine cS.mono ?_
                rintro y w5 ⟨rfl, hF5, hbl5, cDel, cPut⟩
                have hX5 := hF5 _ _ HX1.out
                have cB := bare_nil w5
                clear cS hF5 x0 x1 x2 hlx
                go_wp2_with fail
                refine cB.mono ?_
                rintro y w6 ⟨rfl, b6⟩
                have hX6 := F37.below b6 _ _ hX5
                obtain ⟨y0, y1, y2⟩ := (Xs.mk (x := ⟨0, f, o⟩) hX6).c
                have hly : bx < w6.heap.size := (Array.getElem?_eq_some_iff.1 hX6).1
                dsimp only at y0 y1 y2
                have HX6 := Lib.hid hX6
                clear cB hX5 hX6
                cases o with
                | nil =>
                  have cD := cDel rfl w6 b6
                  clear cDel cPut b6
                  go_wp2_with fail
                  refine cD.mono ?_
                  rintro y w7 ⟨v, rfl, hF7, hJ7⟩
                  have hX7 := hF7 _ _ HX6.out
                  clear cD hF7 y0 y1 y2 hly
                  go_wp2_with fail
                  go_meet
                  case rel => exact ⟨b, rfl, hJ7, hX7⟩
                | cons o1 os =>
                  have cP := cPut (by simp) w6 b6
                  clear cDel cPut b6
                  go_wp2_with fail
                  refine cP.mono ?_
                  rintro y w7 ⟨v, rfl, hF7, hJ7⟩
                  have hX7 := hF7 _ _ HX6.out
                  clear cP hF7 y0 y1 y2 hly
                  go_wp2_with fail
                  go_meet
                  case rel => exact ⟨b, rfl, hJ7, hX7⟩
              | false =>
                rw [hr] at cL
                have cS := set_arg b d pm ns P N f o W1 hX.bj.bk (by omega) (by omega) hr
                rw [show evv 1 = .iface 33 (.int .i64 1) from rfl] at cS
                have HJx := Lib.hid (show LJ w b d c (k + 1) W1 from HJ1.out.mono (Nat.le_succ _))
                clear hX hr
                go_wp2_with fail
                refine cL.mono ?_
                rintro y w5 ⟨rfl, hw⟩
                rw [hw]
                clear hw cL w5
                go_wp2_with fail
                refine cS.mono ?_
                rintro y w5 ⟨rfl, b5⟩
                have hX5 := F37.below b5 _ _ HX1.out
                have cB := bare_errno 1 w5 (HEb.out.on b5)
                have hJ5 := HJx.out.up b5
                clear cS x0 x1 x2 hlx b5
                go_wp2_with fail
                refine cB.mono ?_
                rintro y w6 ⟨rfl, b6⟩
                have hX6 := F37.below b6 _ _ hX5
                have hJ6 := hJ5.up b6
                clear cB b6 hX5 hJ5
                go_wp2_with fail
                go_meet
                case rel => exact ⟨b, rfl, hJ6, hX6⟩
            · have e0 : (t == 0) = false := by simpa using h0
              by_cases h1 : t = 1
              · subst h1
                obtain ⟨pm, ns, P, N, mb, L, A, mR, K, LR, hX⟩ := HJ1.out.is
                have cT := act_tidy hX hk60
                clear hX h0
                go_wp2_with fail
                refine cT.mono ?_
                rintro y w5 ⟨rfl, hF5, hJ5⟩
                have hX5 := hF5 _ _ HX1.out
                have hJ6 := hJ5.mono (Nat.le_succ k)
                clear cT hF5 hJ5 x0 x1 x2 hlx
                go_wp2_with fail
                go_meet
                case rel => exact ⟨b, rfl, hJ6, hX5⟩
              · have e1 : (t == 1) = false := by simpa using h1
                by_cases h2 : t = 2
                · subst h2
                  obtain ⟨pm, ns, P, N, mb, L, A, mR, K, LR, hX⟩ := HJ1.out.is
                  have cT := act_open hX hk60
                  clear hX h0 h1
                  go_wp2_with fail
                  refine cT.mono ?_
                  rintro y w5 ⟨b', rfl, hF5, hJ5⟩
                  have hX5 := hF5 _ _ HX1.out
                  have hJ6 := hJ5.mono (Nat.le_succ k)
                  clear cT hF5 hJ5 x0 x1 x2 hlx
                  go_wp2_with fail
                  go_meet
                  case rel => exact ⟨b', rfl, hJ6, hX5⟩
                · have e2 : (t == 2) = false := by simpa using h2
                  have hJ6 := HJ1.out.mono (Nat.le_succ k)
                  have hX6 := HX1.out
                  clear h0 h1 h2
                  go_wp2_with fail
                  go_meet
                  case rel => exact ⟨b, rfl, hJ6, hX6⟩
          case rest =>
            obtain ⟨b', rfl, hJc, hXc⟩ := hcut
            obtain ⟨pm, ns, P, N, mb, L, A, mR, K, LR, hX⟩ := hJc.is
            have bd1 := (Below.refl wc.heap.size wc).drew
            have hXd := hX.up bd1
            have hxd := F37.below bd1 _ _ hXc
            have hget : txt f A = gtx P N f := hX.pg.get f
            have hat : (rent f K).now = gtx P N f := by
              rw [(hX.rd.at f).1, ← hget]
              unfold ent txt
              rw [← hX.rl f]
              cases lkL f LR <;> rfl
            have hkeys := hX.keys
            have hlr := hX.len
            obtain ⟨ks, hks⟩ : ∃ ks, ks = A.map (·.1) := ⟨_, rfl⟩
            have hkl : ks.length = A.length := by rw [hks, List.length_map]
            rw [← hks] at hkeys
            have hla := hX.pg.la
            have HE2 : LJ w b' d c (k + 1) wc := hJc
            have cDn := down_any b' (some d) (some pm) (fun i => some (ns i)) false wc.drew hXd.bj.bk.blk
            clear hJc HJ1 HX1 hget
            go_wp2_with fail
            have lcX : LX w b' d c (k + 1) pm ns P N mb L A mR K LR wc.drew ∧ wc.drew.heap[bx]? = some (nto ⟨t, f, o⟩) := ⟨hXd, hxd⟩
            refine wp_region_held (S := fun W => LX w b' d c (k + 1) pm ns P N mb L A mR K LR W ∧ W.heap[bx]? = some (nto ⟨t, f, o⟩)) (by kernel_rfl) ?_
            refine take_d (some 118) (i := 0) (v := .pointer (some ⟨b', 0, none⟩)) rfl rfl (by as_aux_lemma => kernel_rfl) (by as_aux_lemma => kernel_rfl) (by as_aux_lemma => kernel_rfl) (fun _ _ _ h => h) (.inl ⟨by kernel_rfl, fun w' _ => by simp [go_sem]⟩) lcX ?_
            refine wpAnyH_all (rs := [1]) (by as_aux_lemma => kernel_rfl) (by simp) fun j hj => ?_
            obtain rfl : j = 1 := by simpa using hj
            refine wpOp_want rfl (by kernel_rfl) ?_
            unfold Oper.wp
            simp [go_sem]
            refine cDn.mono ?_
            rintro y W2 ⟨rfl, hw⟩
            rw [hw]
            clear hw
            refine ⟨lcX, ?_⟩
            refine take_d (some 120) (i := 2) (v := .bool false) rfl rfl (by as_aux_lemma => kernel_rfl) (by as_aux_lemma => kernel_rfl) (by as_aux_lemma => kernel_rfl) (fun _ _ _ h => h) (.inl ⟨by kernel_rfl, fun w' _ => by simp [go_sem]⟩) lcX ?_
            refine take_d (some 121) (i := 3) (v := .pointer (some ⟨b', 0, none⟩)) rfl rfl (by as_aux_lemma => kernel_rfl) (by as_aux_lemma => kernel_rfl) (by as_aux_lemma => kernel_rfl) (fun _ _ _ h => h) (.inl ⟨by kernel_rfl, fun w' _ => by simp [go_sem]⟩) lcX ?_
            refine take_d (some 122) (i := 4) (v := .pointer (some ⟨bx, 1, none⟩)) rfl rfl (by as_aux_lemma => kernel_rfl) (by as_aux_lemma => kernel_rfl) (by as_aux_lemma => kernel_rfl) (fun _ _ _ h => h) (.inl ⟨by kernel_rfl, fun w' _ => by simp [go_sem]⟩) lcX ?_
            refine take_d (some 123) (i := 5) (v := .string ⟨f.toArray⟩) rfl rfl (by as_aux_lemma => kernel_rfl) (by as_aux_lemma => kernel_rfl) (by as_aux_lemma => kernel_rfl) (fun _ _ _ h => h) (.inl ⟨by kernel_rfl, fun w' hw => by have h1 := (Xs.mk (x := ⟨t, f, o⟩) hw.2).c.2.1; simp [go_sem, h1]⟩) lcX ?_
            refine take_d (some 125) (i := 7) (v := .pointer (some ⟨c, 0, none⟩)) rfl rfl (by as_aux_lemma => kernel_rfl) (by as_aux_lemma => kernel_rfl) (by as_aux_lemma => kernel_rfl) (fun _ _ _ h => h) (.inl ⟨by kernel_rfl, fun w' _ => by simp [go_sem]⟩) lcX ?_
            refine take_d (some 126) (i := 8) (v := .pointer (some ⟨c, 0, none⟩)) rfl rfl (by as_aux_lemma => kernel_rfl) (by as_aux_lemma => kernel_rfl) (by as_aux_lemma => kernel_rfl) (fun _ _ _ h => h) (.inl ⟨by kernel_rfl, fun w' _ => by simp [go_sem]⟩) lcX ?_
            refine take_d (some 127) (i := 9) (v := .pointer (some ⟨c, 0, none⟩)) rfl rfl (by as_aux_lemma => kernel_rfl) (by as_aux_lemma => kernel_rfl) (by as_aux_lemma => kernel_rfl) (fun _ _ _ h => h) (.inl ⟨by kernel_rfl, fun w' _ => by simp [go_sem]⟩) lcX ?_
            refine take_d (some 128) (i := 10) (v := .map (some mR)) rfl rfl (by as_aux_lemma => kernel_rfl) (by as_aux_lemma => kernel_rfl) (by as_aux_lemma => kernel_rfl) (fun _ _ _ h => h) (.inl ⟨by kernel_rfl, fun w' hw => by have h1 := (rc_of hw.1.rd.blk).c0; simp [go_sem, h1]⟩) lcX ?_
            refine take_d (some 129) (i := 11) (v := .pointer (some ⟨bx, 1, none⟩)) rfl rfl (by as_aux_lemma => kernel_rfl) (by as_aux_lemma => kernel_rfl) (by as_aux_lemma => kernel_rfl) (fun _ _ _ h => h) (.inl ⟨by kernel_rfl, fun w' _ => by simp [go_sem]⟩) lcX ?_
            refine take_d (some 130) (i := 12) (v := .string ⟨f.toArray⟩) rfl rfl (by as_aux_lemma => kernel_rfl) (by as_aux_lemma => kernel_rfl) (by as_aux_lemma => kernel_rfl) (fun _ _ _ h => h) (.inl ⟨by kernel_rfl, fun w' hw => by have h1 := (Xs.mk (x := ⟨t, f, o⟩) hw.2).c.2.1; simp [go_sem, h1]⟩) lcX ?_
            refine take_d (some 131) (i := 13) (v := rvv (rent f K)) rfl rfl (by as_aux_lemma => kernel_rfl) (by as_aux_lemma => kernel_rfl) (by as_aux_lemma => kernel_rfl) (fun _ _ _ h => h) (.inl ⟨by kernel_rfl, fun w' hw => by have h1 := (rlook_own hw.1.rd.map f (by omega)).1; simp [go_sem, h1]⟩) lcX ?_
            refine take_d (some 132) (i := 14) (v := .string ⟨(gtx P N f).toArray⟩) rfl rfl (by as_aux_lemma => kernel_rfl) (by as_aux_lemma => kernel_rfl) (by as_aux_lemma => kernel_rfl) (fun _ _ _ h => h) (.inl ⟨by kernel_rfl, fun w' _ => by have h1 := fld47 (rent f K) w'; rw [hat] at h1; simp [go_sem, h1]⟩) lcX ?_
            have cG := get_any b' d pm ns false P N f wc.drew hXd.bj.bk (by omega)
            simp only [Act.put, List.setIfInBounds_toArray, List.set_cons_succ, List.set_cons_zero]
            refine wpAnyH_all (rs := [6]) (by as_aux_lemma => kernel_rfl) (by simp) fun j hj => ?_
            obtain rfl : j = 6 := by simpa using hj
            refine wpOp_wantf (k := 2) (d := 120) rfl rfl rfl rfl ?_
            unfold Oper.wp
            simp [go_sem]
            refine cG.mono ?_
            rintro y W3 ⟨rfl, hb3⟩
            have hX3 := hXd.up hb3
            have hx3 := F37.below hb3 _ _ hxd
            replace lcX : LX w b' d c (k + 1) pm ns P N mb L A mR K LR W3 ∧ W3.heap[bx]? = some (nto ⟨t, f, o⟩) := ⟨hX3, hx3⟩
            refine ⟨lcX, ?_⟩
            refine take_d (some 133) (i := 15) (v := .bool false) rfl rfl (by as_aux_lemma => kernel_rfl) (by as_aux_lemma => kernel_rfl) (by as_aux_lemma => kernel_rfl) (fun _ _ _ h => h) (.inl ⟨by kernel_rfl, fun w' _ => by simp [go_sem]⟩) lcX ?_
            refine take_d (some 134) (i := 16) (v := .bool false) rfl rfl (by as_aux_lemma => kernel_rfl) (by as_aux_lemma => kernel_rfl) (by as_aux_lemma => kernel_rfl) (fun _ _ _ h => h) (.inl ⟨by kernel_rfl, fun w' _ => by simp [go_sem]⟩) lcX ?_
            refine take_d (some 135) (i := 17) (v := .bool false) rfl rfl (by as_aux_lemma => kernel_rfl) (by as_aux_lemma => kernel_rfl) (by as_aux_lemma => kernel_rfl) (fun _ _ _ h => h) (.inl ⟨by kernel_rfl, fun w' _ => by simp [go_sem]⟩) lcX ?_
            refine take_d (some 136) (i := 18) (v := .pointer (some ⟨b', 0, none⟩)) rfl rfl (by as_aux_lemma => kernel_rfl) (by as_aux_lemma => kernel_rfl) (by as_aux_lemma => kernel_rfl) (fun _ _ _ h => h) (.inl ⟨by kernel_rfl, fun w' _ => by simp [go_sem]⟩) lcX ?_
            refine take_d (some 138) (i := 20) (v := .pointer (some ⟨c, 0, none⟩)) rfl rfl (by as_aux_lemma => kernel_rfl) (by as_aux_lemma => kernel_rfl) (by as_aux_lemma => kernel_rfl) (fun _ _ _ h => h) (.inl ⟨by kernel_rfl, fun w' _ => by simp [go_sem]⟩) lcX ?_
            have cB := bnames_any b' d pm ns false A P N W3 hX3.bj.bk (hX3.gp (by omega)) hX3.pg.ga.srt (by omega) hX3.pg.ov hX3.pg.at_
            rw [← hks] at cB
            have hk1000 : ks.length ≤ 1000 := by omega
            try simp only [Act.put, List.setIfInBounds_toArray, List.set_cons_succ, List.set_cons_zero]
            refine wpAnyH_all (rs := [19]) (by as_aux_lemma => kernel_rfl) (by simp) fun j hj => ?_
            obtain rfl : j = 19 := by simpa using hj
            refine wpOp_wantf (k := 17) (d := 135) rfl rfl rfl rfl ?_
            unfold Oper.wp
            simp [go_sem]
            refine cB.mono ?_
            rintro y W4 ⟨v4, rfl, hT4, hb4⟩
            have hX4 := hX3.up hb4
            have hx4 := F37.below hb4 _ _ hx3
            have hT4 := hT4.tx
            obtain ⟨A4, cp4, rfl⟩ := tx_sl hT4
            replace lcX : LX w b' d c (k + 1) pm ns P N mb L A mR K LR W4 ∧ W4.heap[bx]? = some (nto ⟨t, f, o⟩) := ⟨hX4, hx4⟩
            refine ⟨lcX, ?_⟩
            have cN := names_any c mR K LR (-1) (-1) W4 hX4.rd (by omega)
            rw [hkeys] at cN
            try simp only [Act.put, List.setIfInBounds_toArray, List.set_cons_succ, List.set_cons_zero]
            refine wpAnyH_all (rs := [21]) (by as_aux_lemma => kernel_rfl) (by simp) fun j hj => ?_
            obtain rfl : j = 21 := by simpa using hj
            refine wpOp_wantf (k := 17) (d := 135) rfl rfl rfl rfl ?_
            unfold Oper.wp
            simp [go_sem]
            refine cN.mono ?_
            rintro y W5 ⟨v5, rfl, hT5, hb5⟩
            have hX5 := hX4.up hb5
            have hx5 := F37.below hb5 _ _ hx4
            have hT4e := hT4.on hb5
            obtain ⟨A5, cp5, rfl⟩ := tx_sl hT5
            replace lcX : LX w b' d c (k + 1) pm ns P N mb L A mR K LR W5 ∧ W5.heap[bx]? = some (nto ⟨t, f, o⟩) := ⟨hX5, hx5⟩
            refine ⟨lcX, ?_⟩
            have cS := same_any _ _ _ _ ks W5 hT4e hT5 hk1000
            try simp only [Act.put, List.setIfInBounds_toArray, List.set_cons_succ, List.set_cons_zero]
            refine wpAnyH_all (rs := [22]) (by as_aux_lemma => kernel_rfl) (by simp) fun j hj => ?_
            obtain rfl : j = 22 := by simpa using hj
            refine wpOp_wantf (k := 17) (d := 135) rfl rfl rfl rfl ?_
            unfold Oper.wp
            simp [go_sem]
            refine cS.mono ?_
            rintro y W6 ⟨rfl, hb6⟩
            have hX6 := hX5.up hb6
            have hx6 := F37.below hb6 _ _ hx5
            replace lcX : LX w b' d c (k + 1) pm ns P N mb L A mR K LR W6 ∧ W6.heap[bx]? = some (nto ⟨t, f, o⟩) := ⟨hX6, hx6⟩
            refine ⟨lcX, ?_⟩
            refine take_d (some 141) (i := 23) (v := .bool false) rfl rfl (by as_aux_lemma => kernel_rfl) (by as_aux_lemma => kernel_rfl) (by as_aux_lemma => kernel_rfl) (fun _ _ _ h => h) (.inl ⟨by kernel_rfl, fun w' _ => by simp [go_sem]⟩) lcX ?_
            refine take_d (some 142) (i := 24) (v := .bool false) rfl rfl (by as_aux_lemma => kernel_rfl) (by as_aux_lemma => kernel_rfl) (by as_aux_lemma => kernel_rfl) (fun _ _ _ h => h) (.inl ⟨by kernel_rfl, fun w' _ => by simp [go_sem]⟩) lcX ?_
            simp only [Act.put, List.setIfInBounds_toArray, List.set_cons_succ, List.set_cons_zero]
            refine wpAnyH_done (by as_aux_lemma => kernel_rfl) ?_ _
            have HJ6 : Hid (LJ w b' d c (k + 1) W6) := Lib.hid ⟨pm, ns, P, N, mb, L, A, mR, K, LR, hX6⟩
            clear cDn cG cB cN cS hb3 hb4 hb5 hb6 hX3 hX4 hX5 hX6 hx3 hx4 hx5 hx6 lcX hT4 hT4e hT5 hXd hxd hX hXc hat hkeys hlr hla HE2 hks hkl hk1000
            go_wp2_with fail
            exact ⟨⟨k + 1, b', hlt, rfl, by go_num, HJ6.out⟩, by simp [intOf]; omega⟩
        · go_wp2_with fail
          exact ⟨⟨k + 1, b, hlt, rfl, by go_num, HJ1.out.mono (Nat.le_succ _)⟩, by simp [intOf]; omega⟩
      · go_wp2_with fail
        exact ⟨⟨k + 1, b, hlt, rfl, by go_num, HJ1.out.mono (Nat.le_succ _)⟩, by simp [intOf]; omega⟩
    · have hbl := hJ.bl
      go_wp2
      go_ret
      exact ⟨rfl, hbl⟩
end Go.Proofs.YteiobnkaadedkaaGreatDoor
