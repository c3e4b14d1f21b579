/- The walk of the law ArchiveWrites. -/
import Derived.Test.YtnnacfnbmpalbaaGreatDoorAh
namespace Go.Proofs.YtnnacfnbmpalbaaGreatDoor
open Go.RowKit Go.Shelf Go.Sort

theorem bare_w (p : Pck) (w : World) (hE : ErrT w) : Calls Tryz.prog 12 #[we p, .int .i64 (wc p)] w fun x w' => x = .returned (.bool true) ∧ Below w.heap.size w w' := by
  unfold we
  by_cases h : wc p = 0
  · rw [if_pos h, h]; exact bare_nil w
  · rw [if_neg h]; exact bare_errno _ w hE
theorem we_if (p : Pck) : we p = .nilIface ∨ we p = .iface 32 (.int .i64 (wc p)) := by unfold we; split <;> simp

set_option maxHeartbeats 3200000 in
set_option maxRecDepth 100000 in
theorem writes_any (p : Pck) (vD vA vG vB vR vP vS vL vF : Value) (w : World) (hz : Pz w p vD vA vG vB vR vP vS vL vF) (hw : Pw p) (hE : ErrT w) (hG : Sg w) (hT : Tab w) (hM : MaxN w) : Calls Tryz.prog 6 #[pkv p.o.n p.o.e p.o.u p.o.r vD vA vG vB vR vP vS vL vF] w fun x w' => x = .returned (.bool true) ∧ Below w.heap.size w w' := by
  have c0 := b1c w (pko p.o.n p.o.e p.o.u p.o.r vD vA vG vB vR vP vS vL vF)
  have B0 := Lib.hid (pb_new w p vD vA vG vB vR vP vS vL vF)
  have c9 := says_any p vD vA vG vB vR vP vS vL vF _ (hz.on c0)
  have HZ := Lib.hid hz
  have HW := Lib.hid hw
  have HE := Lib.hid hE
  have HG := Lib.hid hG
  have HT := Lib.hid hT
  have HM := Lib.hid hM
  clear hz hw hE hG hT hM
  go_enter Tryz.func6, Tryz.ntmps6
  go_wp2_with fail
  refine c9.mono ?_
  rintro x w1 ⟨⟨y, rfl, hy⟩, b1⟩
  have k1 := bon c0 b1
  have B1 := Lib.hid (B0.out.on b1)
  have HY := Lib.hid hy
  clear c9 B0 b1 c0 hy
  cases y with
  | false =>
    go_wp2_with fail
    go_ret
    exact ⟨rfl, k1⟩
  | true =>
    have hp := pg_of (HY.out rfl) HW.out
    have HP := Lib.hid hp
    have q0 := B1.out.c0
    have q1 := B1.out.c1
    have q2 := B1.out.c2
    have q3 := B1.out.c3
    have q4 := B1.out.c4
    have q5 := B1.out.c5
    have q6 := B1.out.c6
    have q7 := B1.out.c7
    have q8 := B1.out.c8
    have q9 := B1.out.c9
    have q10 := B1.out.c10
    have q11 := B1.out.c11
    have q12 := B1.out.c12
    have cX := xwrite_any p vD vA vG vB vR vP vS vL vF w1 (HZ.out.on k1) hp (tab_on HT.out k1) (HM.out.on k1)
    clear hp HY
    go_wp2_with fail
    refine cX.mono ?_
    rintro x w2 ⟨rfl, b2⟩
    have k2 := bon k1 b2
    have B2 := Lib.hid (B1.out.on b2)
    clear cX b2 k1 B1 q0 q1 q2 q3 q4 q5 q6 q7 q8 q9 q10 q11 q12
    have q0 := B2.out.c0
    have q1 := B2.out.c1
    have q2 := B2.out.c2
    have q3 := B2.out.c3
    have q4 := B2.out.c4
    have q5 := B2.out.c5
    have q6 := B2.out.c6
    have q7 := B2.out.c7
    have q8 := B2.out.c8
    have q9 := B2.out.c9
    have q10 := B2.out.c10
    have q11 := B2.out.c11
    have q12 := B2.out.c12
    have cX := awrite_any p vD vA vG vB vR vP vS vL vF w2 (HZ.out.on k2) HP.out (HG.out.on k2) (tab_on HT.out k2) (HM.out.on k2)
    go_wp2_with fail
    refine cX.mono ?_
    rintro x w3 ⟨rfl, b3⟩
    have k3 := bon k2 b3
    have B3 := Lib.hid (B2.out.on b3)
    clear cX b3 k2 B2 q0 q1 q2 q3 q4 q5 q6 q7 q8 q9 q10 q11 q12
    have RG := fun d os => bon k3 (below_regrown w3 d os)
    have d12 : ∀ d os, Calls Tryz.prog 12 #[we p, .int .i64 (wc p)] (grow (redrawn w3 d) os) fun z w'' => z = .returned (.bool true) ∧ ∃ q : Regrown, w'' = grow (redrawn w3 q.d) q.os := fun d os => Calls.regrown_of (bare_w p _ (HE.out.on (RG d os)))
    have d28 : ∀ d os, Calls Tryz.prog 28 #[pkv p.o.n p.o.e p.o.u p.o.r vD vA vG vB vR vP vS vL vF] (grow (redrawn w3 d) os) fun z w'' => z = .returned (.bool (aok p)) ∧ ∃ q : Regrown, w'' = grow (redrawn w3 q.d) q.os := fun d os => Calls.regrown_of (aright_any p vD vA vG vB vR vP vS vL vF _ (HZ.out.on (RG d os)) HP.out (tab_on HT.out (RG d os)) (HM.out.on (RG d os)))
    have d29 : ∀ d os, Calls Tryz.prog 29 #[pkv p.o.n p.o.e p.o.u p.o.r vD vA vG vB vR vP vS vL vF] (grow (redrawn w3 d) os) fun z w'' => z = .returned (.bool (aok p)) ∧ ∃ q : Regrown, w'' = grow (redrawn w3 q.d) q.os := fun d os => Calls.regrown_of (xarch_any p vD vA vG vB vR vP vS vL vF _ (HZ.out.on (RG d os)) HP.out (tab_on HT.out (RG d os)))
    have g0 := cell_regrown B3.out.c0
    have g1 := cell_regrown B3.out.c1
    have g2 := cell_regrown B3.out.c2
    have g3 := cell_regrown B3.out.c3
    have g4 := cell_regrown B3.out.c4
    have g5 := cell_regrown B3.out.c5
    have g6 := cell_regrown B3.out.c6
    have g7 := cell_regrown B3.out.c7
    have g8 := cell_regrown B3.out.c8
    have g9 := cell_regrown B3.out.c9
    have g10 := cell_regrown B3.out.c10
    have g11 := cell_regrown B3.out.c11
    have g12 := cell_regrown B3.out.c12
    clear RG HZ HW HE HG HT HM HP B3
    generalize aok p = yr at d28 d29
    generalize wx p = tx
    rcases we_if p with her | her
    all_goals
      rw [her] at d12 ⊢
      clear her
      generalize wc p = cw at d12 ⊢
      go_wp2_with fail
      refine wp_region_quiet_below (by kernel_rfl) (by kernel_rfl) ?_
      repeat (any_goals (first | go_big_quiet_step (first | with_reducible exact d12 _ _ | with_reducible exact d28 _ _ | with_reducible exact d29 _ _) | quiet_step (first | with_reducible exact d12 _ _ | with_reducible exact d28 _ _ | with_reducible exact d29 _ _)))
      refine wpQuiet_nil ?_
      intro _ hw'
      obtain ⟨⟨dq, osq⟩, hw''⟩ := hw'
      subst hw''
      have k4 := rg k3 ⟨⟨dq, osq⟩, rfl⟩
      go_wp2_with fail
      go_ret
      exact ⟨ret_bool (by simp), k4⟩
end Go.Proofs.YtnnacfnbmpalbaaGreatDoor
