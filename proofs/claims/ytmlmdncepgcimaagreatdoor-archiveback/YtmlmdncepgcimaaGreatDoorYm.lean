/- The walk of the law RecordTells. -/
import Derived.Test.YtmlmdncepgcimaaGreatDoorYj
import Derived.Test.YtmlmdncepgcimaaGreatDoorSs
import Derived.Test.YtmlmdncepgcimaaGreatDoorZaq
namespace Go.Proofs.YtmlmdncepgcimaaGreatDoor
open Go.RowKit Go.Shelf Go.Sort

set_option maxHeartbeats 1600000 in
set_option maxRecDepth 100000 in
theorem xfields_no (p : Pck) (vD vA vG vB vR vP vS vL vF : Value) (w : World) (hz : Pz w p vD vA vG vB vR vP vS vL vF) (hp : Pg p) (hk : rok p = false) (hT : Tab w) : Calls Tryz.prog 10 #[pkv p.o.n p.o.e p.o.u p.o.r vD vA vG vB vR vP vS vL vF] w fun x w' => x = .returned (.tuple #[.slice none 0 0, .int .i64 1]) ∧ Below w.heap.size w w' := by
  have c0 := b1c w (pko p.o.n p.o.e p.o.u p.o.r vD vA vG vB vR vP vS vL vF)
  have cR := xsays_any p vD vA vG vB vR vP vS vL vF _ (hz.on c0) hp (tab_on hT c0)
  rw [hk] at cR
  have B0 := pb_new w p vD vA vG vB vR vP vS vL vF
  have b0 := B0.c0
  have b1 := B0.c1
  have b2 := B0.c2
  have b3 := B0.c3
  have b4 := B0.c4
  have b5 := B0.c5
  have b6 := B0.c6
  have b7 := B0.c7
  have b8 := B0.c8
  have b9 := B0.c9
  have b10 := B0.c10
  have b11 := B0.c11
  have b12 := B0.c12
  obtain ⟨D1, D2, rfl⟩ := as_sl hz.D
  obtain ⟨A1, A2, rfl⟩ := as_sl hz.A
  obtain ⟨G1, G2, rfl⟩ := ts_sl hz.G
  obtain ⟨B1, B2, rfl⟩ := ts_sl hz.B
  obtain ⟨R1, R2, rfl⟩ := ts_sl hz.R
  obtain ⟨P1, P2, rfl⟩ := ts_sl hz.P
  obtain ⟨S1, S2, rfl⟩ := ss_sl hz.S
  obtain ⟨L1, L2, rfl⟩ := ss_sl hz.L
  clear hz hp hk hT B0
  go_enter Tryz.func10, Tryz.ntmps10
  go_wp2_with fail
  refine cR.mono ?_
  rintro x w1 ⟨rfl, bw⟩
  go_wp2
  go_ret2
  exact ⟨rfl, bon c0 bw⟩

/-- What both Fields hand back. -/
def ec (p : Pck) : Int := if rok p = true then (if Stz.Sm.rgt (flds p) = true then 0 else 4) else 1
def el (p : Pck) : List Fd := if rok p = true then (if Stz.Sm.rgt (flds p) = true then flds p else []) else []
def er (p : Pck) : Value := if ec p = 0 then .nilIface else .iface 32 (.int .i64 (ec p))
def XF (p : Pck) (x : Ending) (w : World) : Prop := ∃ A c, x = .returned (.tuple #[.slice A (el p).length c, .int .i64 (ec p)]) ∧ Stz.Sl w (.slice A (el p).length c) (el p)
def RF (p : Pck) (x : Ending) (w : World) : Prop := ∃ A c, x = .returned (.tuple #[.slice A (el p).length c, er p]) ∧ Stz.Sl w (.slice A (el p).length c) (el p)
theorem sl_nil (w : World) : Stz.Sl w (.slice none 0 0) [] := ⟨.inl ⟨rfl, _, _, rfl⟩⟩
theorem xf_any (p : Pck) (vD vA vG vB vR vP vS vL vF : Value) (w : World) (hz : Pz w p vD vA vG vB vR vP vS vL vF) (hp : Pg p) (hT : Tab w) (hM : MaxN w) : Calls Tryz.prog 10 #[pkv p.o.n p.o.e p.o.u p.o.r vD vA vG vB vR vP vS vL vF] w fun x w' => XF p x w' ∧ Below w.heap.size w w' := by
  cases hk : rok p with
  | false =>
    refine (xfields_no p vD vA vG vB vR vP vS vL vF w hz hp hk hT).mono fun x w' ⟨h1, h2⟩ => ⟨?_, h2⟩
    unfold XF
    rw [show el p = [] from by unfold el; rw [hk]; rfl, show ec p = 1 from by unfold ec; rw [hk]; rfl]
    exact ⟨none, 0, h1, sl_nil _⟩
  | true =>
    refine (xfields_ok p vD vA vG vB vR vP vS vL vF w hz hp hk hT hM).mono fun x w' ⟨⟨A, c, h1, h3⟩, h2⟩ => ⟨?_, h2⟩
    unfold XF
    cases hr : Stz.Sm.rgt (flds p) with
    | true =>
      rw [show el p = flds p from by unfold el; rw [hk, hr]; rfl, show ec p = 0 from by unfold ec; rw [hk, hr]; rfl]
      exact ⟨A, c, by rw [h3, hr]; rfl, h1⟩
    | false =>
      rw [show el p = [] from by unfold el; rw [hk, hr]; rfl, show ec p = 4 from by unfold ec; rw [hk, hr]; rfl]
      exact ⟨none, 0, by rw [h3, hr]; rfl, sl_nil _⟩
theorem rf_any (p : Pck) (vD vA vG vB vR vP vS vL vF : Value) (w : World) (hz : Pz w p vD vA vG vB vR vP vS vL vF) (hp : Pg p) (hG : Sg w) (hT : Tab w) (hM : MaxN w) : Calls Tryz.prog 11 #[pkv p.o.n p.o.e p.o.u p.o.r vD vA vG vB vR vP vS vL vF] w fun x w' => RF p x w' ∧ Below w.heap.size w w' := by
  cases hk : rok p with
  | false =>
    refine (recfields_no p vD vA vG vB vR vP vS vL vF w hz hp hk hT hM).mono fun x w' ⟨h1, h2⟩ => ⟨?_, h2⟩
    unfold RF er
    rw [show el p = [] from by unfold el; rw [hk]; rfl, show ec p = 1 from by unfold ec; rw [hk]; rfl]
    exact ⟨none, 0, h1, sl_nil _⟩
  | true =>
    refine (recfields_ok p vD vA vG vB vR vP vS vL vF w hz hp hk hG hT hM).mono fun x w' ⟨⟨A, c, h1, h3⟩, h2⟩ => ⟨?_, h2⟩
    unfold RF er
    cases hr : Stz.Sm.rgt (flds p) with
    | true =>
      rw [show el p = flds p from by unfold el; rw [hk, hr]; rfl, show ec p = 0 from by unfold ec; rw [hk, hr]; rfl]
      exact ⟨A, c, by rw [h3, hr]; rfl, h1⟩
    | false =>
      rw [show el p = [] from by unfold el; rw [hk, hr]; rfl, show ec p = 4 from by unfold ec; rw [hk, hr]; rfl]
      exact ⟨none, 0, by rw [h3, hr]; rfl, sl_nil _⟩
theorem bare_any (p : Pck) (w : World) (hE : ErrT w) : Calls Tryz.prog 12 #[er p, .int .i64 (ec p)] w fun x w' => x = .returned (.bool true) ∧ Below w.heap.size w w' := by
  unfold er
  by_cases h : ec p = 0
  · rw [if_pos h, h]; exact bare_nil w
  · rw [if_neg h]; exact bare_errno _ w hE
theorem er_if (p : Pck) : er p = .nilIface ∨ er p = .iface 32 (.int .i64 (ec p)) := by unfold er; split <;> simp
theorem el_le {p : Pck} (hp : Pg p) : (el p).length ≤ 1000000 := by
  unfold el
  split
  · rename_i hk
    split
    · have := (sz_flds (rk_of hk) hp).n; omega
    · simp
  · simp

set_option maxHeartbeats 3200000 in
set_option maxRecDepth 100000 in
theorem tells_any (p : Pck) (vD vA vG vB vR vP vS vL vF : Value) (s : List UInt8) (w : World) (hz : Pz w p vD vA vG vB vR vP vS vL vF) (hw : Pw p) (hE : ErrT w) (hG : Sg w) (hT : Tab w) (hM : MaxN w) : Calls Tryz.prog 3 #[pkv p.o.n p.o.e p.o.u p.o.r vD vA vG vB vR vP vS vL vF, .string ⟨s.toArray⟩] w fun x w' => x = .returned (.bool true) ∧ Below w.heap.size w w' := by
  have c0 := b1c w (pko p.o.n p.o.e p.o.u p.o.r vD vA vG vB vR vP vS vL vF)
  have B0 := Lib.hid (pb_new w p vD vA vG vB vR vP vS vL vF)
  have c9 := says_any p vD vA vG vB vR vP vS vL vF _ (hz.on c0)
  have HZ := Lib.hid hz
  have HW := Lib.hid hw
  have HE := Lib.hid hE
  have HG := Lib.hid hG
  have HT := Lib.hid hT
  have HM := Lib.hid hM
  clear hz hw hE hG hT hM
  go_enter Tryz.func3, Tryz.ntmps3
  go_wp2_with fail
  refine c9.mono ?_
  rintro x w1 ⟨⟨y, rfl, hy⟩, b1⟩
  have k1 := bon c0 b1
  have B1 := Lib.hid (B0.out.on b1)
  have HY := Lib.hid hy
  clear c9 B0 b1 c0 hy
  cases y with
  | false =>
    go_wp2_with fail
    go_ret
    exact ⟨rfl, k1⟩
  | true =>
    by_cases hs : s.length ≤ 100
    · have hp := pg_of (HY.out rfl) HW.out
      have HP := Lib.hid hp
      have hln := el_le hp
      have q0 := B1.out.c0
      have q1 := B1.out.c1
      have q2 := B1.out.c2
      have q3 := B1.out.c3
      have q4 := B1.out.c4
      have q5 := B1.out.c5
      have q6 := B1.out.c6
      have q7 := B1.out.c7
      have q8 := B1.out.c8
      have q9 := B1.out.c9
      have q10 := B1.out.c10
      have q11 := B1.out.c11
      have q12 := B1.out.c12
      have cX := xf_any p vD vA vG vB vR vP vS vL vF w1 (HZ.out.on k1) hp (tab_on HT.out k1) (HM.out.on k1)
      clear hp HY
      go_wp2_with fail
      refine cX.mono ?_
      rintro x w2 ⟨⟨A, c, rfl, hS⟩, b2⟩
      have k2 := bon k1 b2
      have B2 := Lib.hid (B1.out.on b2)
      have HS := Lib.hid hS
      clear cX hS b2 k1 B1 q0 q1 q2 q3 q4 q5 q6 q7 q8 q9 q10 q11 q12
      have q0 := B2.out.c0
      have q1 := B2.out.c1
      have q2 := B2.out.c2
      have q3 := B2.out.c3
      have q4 := B2.out.c4
      have q5 := B2.out.c5
      have q6 := B2.out.c6
      have q7 := B2.out.c7
      have q8 := B2.out.c8
      have q9 := B2.out.c9
      have q10 := B2.out.c10
      have q11 := B2.out.c11
      have q12 := B2.out.c12
      have cX := rf_any p vD vA vG vB vR vP vS vL vF w2 (HZ.out.on k2) HP.out (HG.out.on k2) (tab_on HT.out k2) (HM.out.on k2)
      go_wp2_with fail
      refine cX.mono ?_
      rintro x w3 ⟨⟨A', c', rfl, hS'⟩, b3⟩
      have k3 := bon k2 b3
      have B3 := Lib.hid (B2.out.on b3)
      have HS3 := Lib.hid (HS.out.on b3)
      have HS' := Lib.hid hS'
      clear cX hS' b3 k2 B2 HS q0 q1 q2 q3 q4 q5 q6 q7 q8 q9 q10 q11 q12
      have RG := fun d os => bon k3 (below_regrown w3 d os)
      have d12 : ∀ d os, Calls Tryz.prog 12 #[er p, .int .i64 (ec p)] (grow (redrawn w3 d) os) fun z w'' => z = .returned (.bool true) ∧ ∃ q : Regrown, w'' = grow (redrawn w3 q.d) q.os := fun d os => Calls.regrown_of (bare_any p _ (HE.out.on (RG d os)))
      have d13 : ∀ d os, Calls Tryz.prog 13 #[.slice A' (el p).length c', .slice A (el p).length c] (grow (redrawn w3 d) os) fun z w'' => z = .returned (.bool true) ∧ ∃ q : Regrown, w'' = grow (redrawn w3 q.d) q.os := fun d os => Calls.regrown_of (Stz.sameL_any _ _ (el p) _ (HS'.out.on (below_regrown w3 d os)) (HS3.out.on (below_regrown w3 d os)) hln)
      have d14 : ∀ d os, Calls Tryz.prog 14 #[pkv p.o.n p.o.e p.o.u p.o.r vD vA vG vB vR vP vS vL vF] (grow (redrawn w3 d) os) fun z w'' => z = .returned (.bool (rok p)) ∧ ∃ q : Regrown, w'' = grow (redrawn w3 q.d) q.os := fun d os => Calls.regrown_of (recright_any p vD vA vG vB vR vP vS vL vF _ (HZ.out.on (RG d os)) HP.out (tab_on HT.out (RG d os)) (HM.out.on (RG d os)))
      have d15 : ∀ d os, Calls Tryz.prog 15 #[pkv p.o.n p.o.e p.o.u p.o.r vD vA vG vB vR vP vS vL vF] (grow (redrawn w3 d) os) fun z w'' => z = .returned (.bool (rok p)) ∧ ∃ q : Regrown, w'' = grow (redrawn w3 q.d) q.os := fun d os => Calls.regrown_of (xsays_any p vD vA vG vB vR vP vS vL vF _ (HZ.out.on (RG d os)) HP.out (tab_on HT.out (RG d os)))
      have d16 : ∀ d os, Calls Tryz.prog 16 #[.string ⟨s.toArray⟩] (grow (redrawn w3 d) os) fun z w'' => z = .returned (.bool (pth s)) ∧ ∃ q : Regrown, w'' = grow (redrawn w3 q.d) q.os := fun d os => Calls.regrown_of ((path_any s _ (HM.out.on (RG d os))).mono fun x w' ⟨h1, h2⟩ => ⟨h1, by rw [h2]; exact Below.refl _ _⟩)
      have d17 : ∀ d os, Calls Tryz.prog 17 #[.string ⟨s.toArray⟩] (grow (redrawn w3 d) os) fun z w'' => z = .returned (.bool (pth s)) ∧ ∃ q : Regrown, w'' = grow (redrawn w3 q.d) q.os := fun d os => Calls.regrown_of ((xpath_any s _ (by omega)).mono fun x w' ⟨h1, h2⟩ => ⟨h1, by rw [h2]; exact Below.refl _ _⟩)
      have g0 := cell_regrown B3.out.c0
      have g1 := cell_regrown B3.out.c1
      have g2 := cell_regrown B3.out.c2
      have g3 := cell_regrown B3.out.c3
      have g4 := cell_regrown B3.out.c4
      have g5 := cell_regrown B3.out.c5
      have g6 := cell_regrown B3.out.c6
      have g7 := cell_regrown B3.out.c7
      have g8 := cell_regrown B3.out.c8
      have g9 := cell_regrown B3.out.c9
      have g10 := cell_regrown B3.out.c10
      have g11 := cell_regrown B3.out.c11
      have g12 := cell_regrown B3.out.c12
      clear RG HS3 HS' HZ HW HE HG HT HM HP B3
      generalize rok p = yr at d14 d15
      generalize pth s = yp at d16 d17
      rcases er_if p with her | her
      all_goals
        rw [her] at d12 ⊢
        clear her
        go_wp2_with fail
        refine wp_region_quiet_below (by kernel_rfl) (by kernel_rfl) ?_
        repeat (any_goals (first | go_big_quiet_step (first | with_reducible exact d12 _ _ | with_reducible exact d13 _ _ | with_reducible exact d14 _ _ | with_reducible exact d15 _ _ | with_reducible exact d16 _ _ | with_reducible exact d17 _ _) | quiet_step (first | with_reducible exact d12 _ _ | with_reducible exact d13 _ _ | with_reducible exact d14 _ _ | with_reducible exact d15 _ _ | with_reducible exact d16 _ _ | with_reducible exact d17 _ _)))
        refine wpQuiet_nil ?_
        intro _ hw'
        obtain ⟨⟨dq, osq⟩, hw''⟩ := hw'
        subst hw''
        have k4 := rg k3 ⟨⟨dq, osq⟩, rfl⟩
        go_wp2_with fail
        go_ret
        exact ⟨ret_bool (by simp), k4⟩
    · go_wp2_with fail
      go_ret
      exact ⟨rfl, k1⟩
end Go.Proofs.YtmlmdncepgcimaaGreatDoor
