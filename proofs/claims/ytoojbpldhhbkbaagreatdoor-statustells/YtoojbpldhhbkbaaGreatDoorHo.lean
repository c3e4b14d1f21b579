/- The law StatusTells. -/
import Derived.Test.YtoojbpldhhbkbaaGreatDoorHn
namespace Go.Proofs.YtoojbpldhhbkbaaGreatDoor
open Go.RowKit Go.Shelf Go.Sort

theorem ss_nil0 (W : World) : Ss W (.slice none 0 0) [] := ⟨Or.inl ⟨rfl, _, _, rfl⟩⟩
def sokD (x : Sta) (text : List UInt8) : Bool := (decide (x.u.length ≤ 100) && decide (x.r.length ≤ 100)) && (txs x.W && (txs x.T && decide (text.length ≤ 400)))
theorem sg_of_txs {x : Sta} (i : In64 x.e) (h1 : (decide (x.u.length ≤ 100) && decide (x.r.length ≤ 100)) = true) (h2 : txs x.W = true) (h3 : txs x.T = true) : Sg x := by
  unfold txs at h2 h3
  simp only [Bool.and_eq_true, decide_eq_true_eq, List.all_eq_true] at h1 h2 h3
  exact ⟨i, by omega, by omega, by omega, by omega, fun s hs => by have := h2.2 s hs; omega, fun s hs => by have := h3.2 s hs; omega⟩
set_option maxRecDepth 100000 in
set_option maxHeartbeats 6400000 in
theorem tells_go (n e : Int) (u r : List UInt8) (held : Bool) (A A' : Option Addr) (c c' : Nat) (W T : List (List UInt8)) (text : List UInt8) (w : World) (hW : Ss w (.slice A W.length c) W) (hT : Ss w (.slice A' T.length c') T) (i : In64 e) (ht : Tab w) (g : Gb w) (hE : ErrT w)
    (h1 : (decide (u.length ≤ 100) && decide (r.length ≤ 100)) = true) (h2 : txs W = true) (h3 : txs T = true) (h4 : text.length ≤ 400)
    (hXP : ∀ (s : List UInt8) (w : World), s.length ≤ 400 → Tab w → Gb w → Calls Tryz.prog 11 #[.string ⟨s.toArray⟩] w fun e w' => XPar s e w w') :
    Calls Tryz.prog 3 #[stv n e u r held (.slice A W.length c) (.slice A' T.length c'), .string ⟨text.toArray⟩] w fun y w' => y = .returned (.bool true) ∧ Below w.heap.size w w' := by
  have hg := sg_of_txs (x := ⟨n, e, u, r, held, W, T⟩) i h1 h2 h3
  have b1 := bA1 w (sto n e u r held (.slice A W.length c) (.slice A' T.length c') 26)
  have S1 := stc_new w n e u r held (.slice A W.length c) (.slice A' T.length c') 26
  have c1 := lshort_any e u r (w.alloc (sto n e u r held (.slice A W.length c) (.slice A' T.length c') 26))
  rw [h1] at c1
  have HB := Lib.hid b1
  have HS := Lib.hid S1
  have HW := Lib.hid (hW.on b1)
  have HT := Lib.hid (hT.on b1)
  have HTab := Lib.hid (tab_on ht b1)
  have HGb := Lib.hid (g.on b1)
  have HE := Lib.hid (hE.on b1)
  have HG := Lib.hid hg
  have h4' : ¬ (400 : Int) < (text.length : Int) := by omega
  clear b1 S1 hW hT ht g hE i hg h1
  go_enter Tryz.func3, Tryz.ntmps3
  go_wp2_with fail
  with_reducible refine c1.mono ?_
  rintro y w2 ⟨rfl, b2⟩
  clear c1
  have c2 := texts_any _ W w2 (HW.out.on b2)
  rw [h2] at c2
  obtain ⟨_, a0, a1, a2, a3, a4, a5, a6⟩ := HS.out.on b2
  go_wp2_with fail
  with_reducible refine c2.mono ?_
  rintro y w3 ⟨rfl, b3⟩
  have b23 := bt2 b2 b3
  clear c2 a0 a1 a2 a3 a4 a5 a6 b2 b3
  have c3 := texts_any _ T w3 (HT.out.on b23)
  rw [h3] at c3
  obtain ⟨_, a0, a1, a2, a3, a4, a5, a6⟩ := HS.out.on b23
  go_wp2_with fail
  with_reducible refine c3.mono ?_
  rintro y w4 ⟨rfl, b4⟩
  have b24 := bt2 b23 b4
  clear c3 a0 a1 a2 a3 a4 a5 a6 b23 b4
  obtain ⟨_, a0, a1, a2, a3, a4, a5, a6⟩ := HS.out.on b24
  have bx := bA1 w4 (sto n e u r held (.slice A W.length c) (.slice A' T.length c') 29)
  have b25 := bt2 b24 bx
  have SX := stc_new w4 n e u r held (.slice A W.length c) (.slice A' T.length c') 29
  have HSX := Lib.hid SX
  have HW5 := Lib.hid (HW.out.on b25)
  have HT5 := Lib.hid (HT.out.on b25)
  have HS5 := Lib.hid (HS.out.on b25)
  have HTab5 := Lib.hid (tab_on HTab.out b25)
  have HGb5 := Lib.hid (HGb.out.on b25)
  have HE5 := Lib.hid (HE.out.on b25)
  have HB5 := Lib.hid (bt2 HB.out b25)
  have c6 := xprints_any ⟨n, e, u, r, held, W, T⟩ _ _ _ HW5.out HT5.out HG.out HTab5.out
  dsimp only at c6
  clear HW HT HS HTab HGb HE HB bx SX b25 b24 h2 h3
  go_wp2_with fail
  with_reducible refine c6.mono ?_
  rintro y w6 ⟨rfl, b6⟩
  clear c6 a0 a1 a2 a3 a4 a5 a6
  have c7 := sprint_any ⟨n, e, u, r, held, W, T⟩ _ _ w6 (HW5.out.on b6) (HT5.out.on b6) HG.out (tab_on HTab5.out b6)
  dsimp only at c7
  obtain ⟨_, a0, a1, a2, a3, a4, a5, a6⟩ := HSX.out.on b6
  have cR := fun W0 (h : Below _ _ W0) => sright_any ⟨n, e, u, r, held, W, T⟩ _ _ W0 (HW5.out.on h) (HT5.out.on h) HG.out.i HG.out.u HG.out.r (tab_on HTab5.out h)
  have cS := fun W0 (h : Below _ _ W0) => stands_any ⟨n, e, u, r, held, W, T⟩ _ _ W0 (HW5.out.on h) (HT5.out.on h) HG.out (tab_on HTab5.out h)
  dsimp only at cR cS
  unfold xprv
  unfold prv at c7
  obtain ⟨yS, hyS⟩ : ∃ yS, yS = sok ⟨n, e, u, r, held, W, T⟩ := ⟨_, rfl⟩
  rw [← hyS] at c7 cR cS ⊢
  clear hyS
  generalize stx ⟨n, e, u, r, held, W, T⟩ = tx at *
  cases hyS2 : yS with
  | false =>
    rw [hyS2] at c7
    simp only [Bool.false_eq_true, if_false] at c7 ⊢
    go_wp2_with fail
    with_reducible refine c7.mono ?_
    rintro y w7 ⟨rfl, b7⟩
    have b67 := bt2 b6 b7
    clear c7 a0 a1 a2 a3 a4 a5 a6
    have RG := fun d os => bt2 b67 (below_regrown w7 d os)
    have q8 : ∀ d os, Calls Tryz.prog 8 #[.iface 30 (.int .i64 1), .int .i64 1] (grow (redrawn w7 d) os) fun z w'' => z = .returned (.bool true) ∧ ∃ q : Regrown, w'' = grow (redrawn w7 q.d) q.os := fun d os => Calls.regrown_of (bare_errno 1 _ (HE5.out.on (RG d os)))
    have q9 : ∀ d os, Calls Tryz.prog 9 #[stv n e u r held (.slice A W.length c) (.slice A' T.length c')] (grow (redrawn w7 d) os) fun z w'' => z = .returned (.bool yS) ∧ ∃ q : Regrown, w'' = grow (redrawn w7 q.d) q.os := fun d os => Calls.regrown_of (cR _ (RG d os))
    have q10 : ∀ d os, Calls Tryz.prog 10 #[stv n e u r held (.slice A W.length c) (.slice A' T.length c')] (grow (redrawn w7 d) os) fun z w'' => z = .returned (.bool yS) ∧ ∃ q : Regrown, w'' = grow (redrawn w7 q.d) q.os := fun d os => Calls.regrown_of (cS _ (RG d os))
    obtain ⟨_, a0, a1, a2, a3, a4, a5, a6⟩ := HSX.out.on b67
    obtain ⟨_, d0, d1, d2, d3, d4, d5, d6⟩ := HS5.out.on b67
    have g0 := cell_regrown a0
    have g1 := cell_regrown a1
    have g2 := cell_regrown a2
    have g3 := cell_regrown a3
    have g4 := cell_regrown a4
    have g5 := cell_regrown a5
    have g6 := cell_regrown a6
    have f0 := cell_regrown d0
    have f1 := cell_regrown d1
    have f2 := cell_regrown d2
    have f3 := cell_regrown d3
    have f4 := cell_regrown d4
    have f5 := cell_regrown d5
    have f6 := cell_regrown d6
    have HRG := Lib.hid RG
    clear RG cR cS
    go_wp2_with fail
    refine wp_region_quiet_below (by kernel_rfl) (by kernel_rfl) ?_
    repeat (any_goals (first | go_big_quiet_step (first | with_reducible exact q8 _ _ | with_reducible exact q9 _ _ | with_reducible exact q10 _ _) | quiet_step (first | with_reducible exact q8 _ _ | with_reducible exact q9 _ _ | with_reducible exact q10 _ _)))
    refine wpQuiet_nil ?_
    intro _ hw'
    obtain ⟨⟨dq, osq⟩, hw''⟩ := hw'
    subst hw''
    clear q8 q9 q10 g0 g1 g2 g3 g4 g5 g6 f0 f1 f2 f3 f4 f5 f6 a0 a1 a2 a3 a4 a5 a6 d0 d1 d2 d3 d4 d5 d6
    have b8 := HRG.out dq osq
    clear HRG
    generalize grow (redrawn w7 dq) osq = w8 at *
    have cX := hXP text w8 h4 (tab_on HTab5.out b8) (HGb5.out.on b8)
    go_wp2_with fail
    refine cX.mono ?_
    rintro y w9 ⟨⟨rfl, hr⟩ | ⟨x, A1, n1, c1, A2, n2, c3, rfl, hW1, hT1, hr⟩, b9⟩
    · clear cX
      have b89 := bt2 b8 b9
      have bv := bA1 w9 (stz 26)
      have b8v := bt2 b89 bv
      have SV := Lib.hid (stc_new w9 0 0 [] [] false (.slice none 0 0) (.slice none 0 0) 26)
      have cY := sparse_any text h4 (w9.alloc (stz 26)) (tab_on HTab5.out b8v) (HGb5.out.on b8v)
      go_wp2_with fail
      refine cY.mono ?_
      rintro y w10 ⟨⟨rfl, _⟩ | ⟨x, A1, n1, c1, A2, n2, c3, rfl, _, _, _, hr'⟩, b10⟩
      · clear cY
        have by' := bA1 w10 (stz 29)
        have b8y := bt2 (bt2 b8v b10) by'
        have SY := Lib.hid (stc_new w10 0 0 [] [] false (.slice none 0 0) (.slice none 0 0) 29)
        have SV' := (SV.out.on b10).on by'
        have SVH := Lib.hid SV'
        have HE9 := Lib.hid (HE5.out.on b8y)
        have HB9 := Lib.hid (bt2 HB5.out b8y)
        obtain ⟨_, a0, a1, a2, a3, a4, a5, a6⟩ := SV'
        go_wp2_with fail
        refine (bare_errno 3 _ HE9.out).mono ?_
        rintro y w11 ⟨rfl, b11⟩
        clear a0 a1 a2 a3 a4 a5 a6
        obtain ⟨_, a0, a1, a2, a3, a4, a5, a6⟩ := SVH.out.on b11
        obtain ⟨_, d0, d1, d2, d3, d4, d5, d6⟩ := SY.out.on b11
        have cF := sames_any ⟨0, 0, [], [], false, [], []⟩ none none none none 0 0 0 0 0 0 0 0 w11 (ss_nil0 _) (ss_nil0 _) (ss_nil0 _) (ss_nil0 _) (by simp) (by simp)
        go_wp2_with fail
        refine cF.mono ?_
        rintro y w12 ⟨rfl, b12⟩
        clear cF
        go_wp2
        go_ret
        exact ⟨rfl, bt2 HB9.out (bt2 b11 b12)⟩
      · rw [hr] at hr'; cases hr'
    · clear cX
      have b89 := bt2 b8 b9
      have bv := bA1 w9 (sto x.n x.e x.u x.r x.held (.slice A1 n1 c1) (.slice A2 n2 c3) 26)
      have b8v := bt2 b89 bv
      have SV := Lib.hid (stc_new w9 x.n x.e x.u x.r x.held (.slice A1 n1 c1) (.slice A2 n2 c3) 26)
      have cY := sparse_any text h4 (w9.alloc (sto x.n x.e x.u x.r x.held (.slice A1 n1 c1) (.slice A2 n2 c3) 26)) (tab_on HTab5.out b8v) (HGb5.out.on b8v)
      go_wp2_with fail
      refine cY.mono ?_
      rintro y w10 ⟨⟨rfl, hr'⟩ | ⟨x', B1, m1, e1, B2, m2, e3, rfl, hW2, hT2, hg, hr'⟩, b10⟩
      · rw [hr] at hr'; cases hr'
      · obtain rfl : x' = x := by rw [hr] at hr'; exact (Option.some.inj hr').symm
        clear cY
        have by' := bA1 w10 (sto x'.n x'.e x'.u x'.r x'.held (.slice B1 m1 e1) (.slice B2 m2 e3) 29)
        have b8y := bt2 (bt2 b8v b10) by'
        have SY := Lib.hid (stc_new w10 x'.n x'.e x'.u x'.r x'.held (.slice B1 m1 e1) (.slice B2 m2 e3) 29)
        have SV' := (SV.out.on b10).on by'
        have SVH := Lib.hid SV'
        have HB9 := Lib.hid (bt2 HB5.out b8y)
        have HX1 := Lib.hid (((hW1.on bv).on b10).on by')
        have HX2 := Lib.hid (((hT1.on bv).on b10).on by')
        have HY1 := Lib.hid (hW2.on by')
        have HY2 := Lib.hid (hT2.on by')
        obtain ⟨_, a0, a1, a2, a3, a4, a5, a6⟩ := SV'
        clear hW1 hT1 hW2 hT2 hr hr' bv by' b9 b10
        go_wp2_with fail
        refine (bare_nil _).mono ?_
        rintro y w11 ⟨rfl, b11⟩
        clear a0 a1 a2 a3 a4 a5 a6
        obtain ⟨_, a0, a1, a2, a3, a4, a5, a6⟩ := SVH.out.on b11
        obtain ⟨_, d0, d1, d2, d3, d4, d5, d6⟩ := SY.out.on b11
        have cF := sames_any x' B1 B2 A1 A2 _ _ _ _ _ _ _ _ w11 (HY1.out.on b11) (HY2.out.on b11) (HX1.out.on b11) (HX2.out.on b11) hg.W hg.T
        go_wp2_with fail
        refine cF.mono ?_
        rintro y w12 ⟨rfl, b12⟩
        clear cF
        go_wp2
        go_ret
        exact ⟨rfl, bt2 HB9.out (bt2 b11 b12)⟩
  | true =>
    rw [hyS2] at c7
    simp only [if_true] at c7 ⊢
    go_wp2_with fail
    with_reducible refine c7.mono ?_
    rintro y w7 ⟨rfl, b7⟩
    have b67 := bt2 b6 b7
    clear c7 a0 a1 a2 a3 a4 a5 a6
    have RG := fun d os => bt2 b67 (below_regrown w7 d os)
    have q8 : ∀ d os, Calls Tryz.prog 8 #[.nilIface, .int .i64 0] (grow (redrawn w7 d) os) fun z w'' => z = .returned (.bool true) ∧ ∃ q : Regrown, w'' = grow (redrawn w7 q.d) q.os := fun d os => Calls.regrown_of (bare_nil _)
    have q9 : ∀ d os, Calls Tryz.prog 9 #[stv n e u r held (.slice A W.length c) (.slice A' T.length c')] (grow (redrawn w7 d) os) fun z w'' => z = .returned (.bool yS) ∧ ∃ q : Regrown, w'' = grow (redrawn w7 q.d) q.os := fun d os => Calls.regrown_of (cR _ (RG d os))
    have q10 : ∀ d os, Calls Tryz.prog 10 #[stv n e u r held (.slice A W.length c) (.slice A' T.length c')] (grow (redrawn w7 d) os) fun z w'' => z = .returned (.bool yS) ∧ ∃ q : Regrown, w'' = grow (redrawn w7 q.d) q.os := fun d os => Calls.regrown_of (cS _ (RG d os))
    obtain ⟨_, a0, a1, a2, a3, a4, a5, a6⟩ := HSX.out.on b67
    obtain ⟨_, d0, d1, d2, d3, d4, d5, d6⟩ := HS5.out.on b67
    have g0 := cell_regrown a0
    have g1 := cell_regrown a1
    have g2 := cell_regrown a2
    have g3 := cell_regrown a3
    have g4 := cell_regrown a4
    have g5 := cell_regrown a5
    have g6 := cell_regrown a6
    have f0 := cell_regrown d0
    have f1 := cell_regrown d1
    have f2 := cell_regrown d2
    have f3 := cell_regrown d3
    have f4 := cell_regrown d4
    have f5 := cell_regrown d5
    have f6 := cell_regrown d6
    have HRG := Lib.hid RG
    clear RG cR cS
    go_wp2_with fail
    refine wp_region_quiet_below (by kernel_rfl) (by kernel_rfl) ?_
    repeat (any_goals (first | go_big_quiet_step (first | with_reducible exact q8 _ _ | with_reducible exact q9 _ _ | with_reducible exact q10 _ _) | quiet_step (first | with_reducible exact q8 _ _ | with_reducible exact q9 _ _ | with_reducible exact q10 _ _)))
    refine wpQuiet_nil ?_
    intro _ hw'
    obtain ⟨⟨dq, osq⟩, hw''⟩ := hw'
    subst hw''
    clear q8 q9 q10 g0 g1 g2 g3 g4 g5 g6 f0 f1 f2 f3 f4 f5 f6 a0 a1 a2 a3 a4 a5 a6 d0 d1 d2 d3 d4 d5 d6
    have b8 := HRG.out dq osq
    clear HRG
    generalize grow (redrawn w7 dq) osq = w8 at *
    have cX := hXP text w8 h4 (tab_on HTab5.out b8) (HGb5.out.on b8)
    go_wp2_with fail
    refine cX.mono ?_
    rintro y w9 ⟨⟨rfl, hr⟩ | ⟨x, A1, n1, c1, A2, n2, c3, rfl, hW1, hT1, hr⟩, b9⟩
    · clear cX
      have b89 := bt2 b8 b9
      have bv := bA1 w9 (stz 26)
      have b8v := bt2 b89 bv
      have SV := Lib.hid (stc_new w9 0 0 [] [] false (.slice none 0 0) (.slice none 0 0) 26)
      have cY := sparse_any text h4 (w9.alloc (stz 26)) (tab_on HTab5.out b8v) (HGb5.out.on b8v)
      go_wp2_with fail
      refine cY.mono ?_
      rintro y w10 ⟨⟨rfl, _⟩ | ⟨x, A1, n1, c1, A2, n2, c3, rfl, _, _, _, hr'⟩, b10⟩
      · clear cY
        have by' := bA1 w10 (stz 29)
        have b8y := bt2 (bt2 b8v b10) by'
        have SY := Lib.hid (stc_new w10 0 0 [] [] false (.slice none 0 0) (.slice none 0 0) 29)
        have SV' := (SV.out.on b10).on by'
        have SVH := Lib.hid SV'
        have HE9 := Lib.hid (HE5.out.on b8y)
        have HB9 := Lib.hid (bt2 HB5.out b8y)
        obtain ⟨_, a0, a1, a2, a3, a4, a5, a6⟩ := SV'
        go_wp2_with fail
        refine (bare_errno 3 _ HE9.out).mono ?_
        rintro y w11 ⟨rfl, b11⟩
        clear a0 a1 a2 a3 a4 a5 a6
        obtain ⟨_, a0, a1, a2, a3, a4, a5, a6⟩ := SVH.out.on b11
        obtain ⟨_, d0, d1, d2, d3, d4, d5, d6⟩ := SY.out.on b11
        have cF := sames_any ⟨0, 0, [], [], false, [], []⟩ none none none none 0 0 0 0 0 0 0 0 w11 (ss_nil0 _) (ss_nil0 _) (ss_nil0 _) (ss_nil0 _) (by simp) (by simp)
        go_wp2_with fail
        refine cF.mono ?_
        rintro y w12 ⟨rfl, b12⟩
        clear cF
        go_wp2
        go_ret
        exact ⟨rfl, bt2 HB9.out (bt2 b11 b12)⟩
      · rw [hr] at hr'; cases hr'
    · clear cX
      have b89 := bt2 b8 b9
      have bv := bA1 w9 (sto x.n x.e x.u x.r x.held (.slice A1 n1 c1) (.slice A2 n2 c3) 26)
      have b8v := bt2 b89 bv
      have SV := Lib.hid (stc_new w9 x.n x.e x.u x.r x.held (.slice A1 n1 c1) (.slice A2 n2 c3) 26)
      have cY := sparse_any text h4 (w9.alloc (sto x.n x.e x.u x.r x.held (.slice A1 n1 c1) (.slice A2 n2 c3) 26)) (tab_on HTab5.out b8v) (HGb5.out.on b8v)
      go_wp2_with fail
      refine cY.mono ?_
      rintro y w10 ⟨⟨rfl, hr'⟩ | ⟨x', B1, m1, e1, B2, m2, e3, rfl, hW2, hT2, hg, hr'⟩, b10⟩
      · rw [hr] at hr'; cases hr'
      · obtain rfl : x' = x := by rw [hr] at hr'; exact (Option.some.inj hr').symm
        clear cY
        have by' := bA1 w10 (sto x'.n x'.e x'.u x'.r x'.held (.slice B1 m1 e1) (.slice B2 m2 e3) 29)
        have b8y := bt2 (bt2 b8v b10) by'
        have SY := Lib.hid (stc_new w10 x'.n x'.e x'.u x'.r x'.held (.slice B1 m1 e1) (.slice B2 m2 e3) 29)
        have SV' := (SV.out.on b10).on by'
        have SVH := Lib.hid SV'
        have HB9 := Lib.hid (bt2 HB5.out b8y)
        have HX1 := Lib.hid (((hW1.on bv).on b10).on by')
        have HX2 := Lib.hid (((hT1.on bv).on b10).on by')
        have HY1 := Lib.hid (hW2.on by')
        have HY2 := Lib.hid (hT2.on by')
        obtain ⟨_, a0, a1, a2, a3, a4, a5, a6⟩ := SV'
        clear hW1 hT1 hW2 hT2 hr hr' bv by' b9 b10
        go_wp2_with fail
        refine (bare_nil _).mono ?_
        rintro y w11 ⟨rfl, b11⟩
        clear a0 a1 a2 a3 a4 a5 a6
        obtain ⟨_, a0, a1, a2, a3, a4, a5, a6⟩ := SVH.out.on b11
        obtain ⟨_, d0, d1, d2, d3, d4, d5, d6⟩ := SY.out.on b11
        have cF := sames_any x' B1 B2 A1 A2 _ _ _ _ _ _ _ _ w11 (HY1.out.on b11) (HY2.out.on b11) (HX1.out.on b11) (HX2.out.on b11) hg.W hg.T
        go_wp2_with fail
        refine cF.mono ?_
        rintro y w12 ⟨rfl, b12⟩
        clear cF
        go_wp2
        go_ret
        exact ⟨rfl, bt2 HB9.out (bt2 b11 b12)⟩
end Go.Proofs.YtoojbpldhhbkbaaGreatDoor
