/- The law StatusBack. -/
import Derived.Test.YtoojbpldhhbkbaaDoorIa
namespace Go.Proofs.YtoojbpldhhbkbaaDoor
open Go.RowKit Go.Shelf Go.Sort

theorem nmo_len {s : List UInt8} (h : nmo s = true) : s.length ≤ 24 := by
  unfold nmo at h
  simp only [Bool.and_eq_true, decide_eq_true_eq] at h
  exact h.1.1.2
theorem tko_len {s : List UInt8} (h : tko s = true) : s.length ≤ 60 := by
  unfold tko at h
  simp only [Bool.and_eq_true, decide_eq_true_eq] at h
  exact h.1.1.2
theorem ltx_len {l : List (List UInt8)} {m : Nat} (k : ∀ s ∈ l, s.length ≤ m) : (ltx l).length ≤ l.length * (m + 1) + 1 := by
  unfold ltx
  split
  · simp
  · have := jn_le 44 m l k; omega
theorem stx_len {x : Sta} (h : sok x = true) : (stx x).length ≤ 400 := by
  have hk := wok_of h
  have hv := vtx_le h
  have h1 : (Lib.itoa x.n).length = 1 := by rw [itoa_one hk.n0 hk.n7]; rfl
  have h2 : (htx x.held).length = 4 := by cases x.held <;> rfl
  have hW : (ltx x.W).length ≤ 101 := by
    by_cases h0 : x.n = 0
    · unfold sok at h; rw [if_pos h0] at h
      simp only [Bool.and_eq_true, decide_eq_true_eq] at h
      rw [List.length_eq_zero_iff.1 h.1.2]; decide
    · unfold sok at h; rw [if_neg h0] at h
      simp only [Bool.and_eq_true] at h
      obtain ⟨l4, p, _⟩ := lok_parts h.1.1.1.2
      have := ltx_len (l := x.W) (m := 24) fun s hs => nmo_len (p s hs)
      have : x.W.length * (24 + 1) ≤ 4 * 25 := Nat.mul_le_mul l4 (by omega)
      omega
  have hT : (ltx x.T).length ≤ 123 := by
    by_cases h0 : x.n = 0
    · unfold sok at h; rw [if_pos h0] at h
      simp only [Bool.and_eq_true, decide_eq_true_eq] at h
      rw [List.length_eq_zero_iff.1 h.2]; decide
    · unfold sok at h; rw [if_neg h0] at h
      simp only [Bool.and_eq_true] at h
      obtain ⟨l4, p, _⟩ := lok_parts h.1.1.2
      have := ltx_len (l := x.T) (m := 60) fun s hs => tko_len (p s hs)
      have : x.T.length * (60 + 1) ≤ 2 * 61 := Nat.mul_le_mul l4 (by omega)
      omega
  rw [stx_eq]
  simp only [List.length_append, List.length_singleton]
  omega
theorem sg_of_txs {x : Sta} (i : In64 x.e) (h1 : (decide (x.u.length ≤ 100) && decide (x.r.length ≤ 100)) = true) (h2 : txs x.W = true) (h3 : txs x.T = true) : Sg x := by
  unfold txs at h2 h3
  simp only [Bool.and_eq_true, decide_eq_true_eq, List.all_eq_true] at h1 h2 h3
  exact ⟨i, by omega, by omega, by omega, by omega, fun s hs => by have := h2.2 s hs; omega, fun s hs => by have := h3.2 s hs; omega⟩
theorem cell_new (w : World) (cs : Array Value) (i : Nat) : (w.alloc (.cells cs 3)).cell? ⟨w.heap.size, i, none⟩ = cs[i]? := by simp
/-- What the law's walks lean on. -/
structure Env (w : World) : Prop where
  t : Tab w
  g : Gb w
  o : Oc w
theorem Env.on {w w' : World} (h : Env w) (k : Below w.heap.size w w') : Env w' := ⟨tab_on h.t k, h.g.on k, h.o.on k⟩
set_option maxRecDepth 100000 in
set_option maxHeartbeats 6400000 in
theorem back_go (n e : Int) (u r : List UInt8) (held : Bool) (A A' : Option Addr) (c c' : Nat) (W T : List (List UInt8)) (text : List UInt8) (state : Int) (w : World) (hW : Ss w (.slice A W.length c) W) (hT : Ss w (.slice A' T.length c') T) (i : In64 e) (he : Env w)
    (h1 : (decide (u.length ≤ 100) && decide (r.length ≤ 100)) = true) (h2 : txs W = true) (h3 : txs T = true) (h4 : text.length ≤ 400) :
    Calls Tryd.prog 4 #[stv n e u r held (.slice A W.length c) (.slice A' T.length c'), .string ⟨text.toArray⟩, .int .i64 state] w fun y w' => y = .returned (.bool true) ∧ Below w.heap.size w w' := by
  have hg := sg_of_txs (x := ⟨n, e, u, r, held, W, T⟩) i h1 h2 h3
  have b1 := bA1 w (sto n e u r held (.slice A W.length c) (.slice A' T.length c') 35)
  have S1 := stc_new w n e u r held (.slice A W.length c) (.slice A' T.length c') 35
  have c1 := kshort_any e u r (w.alloc (sto n e u r held (.slice A W.length c) (.slice A' T.length c') 35))
  rw [h1] at c1
  have HB := Lib.hid b1
  have HS := Lib.hid S1
  have HW := Lib.hid (hW.on b1)
  have HT := Lib.hid (hT.on b1)
  have HE := Lib.hid (he.on b1)
  have HG := Lib.hid hg
  have h4' : ¬ (400 : Int) < (text.length : Int) := by omega
  have hk8 := pk_lt state
  clear b1 S1 hW hT he i hg h1
  go_enter Tryd.func4, Tryd.ntmps4
  go_wp2_with fail
  with_reducible refine c1.mono ?_
  rintro y w2 ⟨rfl, b2⟩
  clear c1
  have c2 := texts_any _ W w2 (HW.out.on b2)
  rw [h2] at c2
  obtain ⟨_, a0, a1, a2, a3, a4, a5, a6⟩ := HS.out.on b2
  go_wp2_with fail
  with_reducible refine c2.mono ?_
  rintro y w3 ⟨rfl, b3⟩
  have b23 := bt2 b2 b3
  clear c2 a0 a1 a2 a3 a4 a5 a6 b2 b3
  have c3 := texts_any _ T w3 (HT.out.on b23)
  rw [h3] at c3
  obtain ⟨_, a0, a1, a2, a3, a4, a5, a6⟩ := HS.out.on b23
  go_wp2_with fail
  with_reducible refine c3.mono ?_
  rintro y w4 ⟨rfl, b4⟩
  have b24 := bt2 b23 b4
  clear c3 a0 a1 a2 a3 a4 a5 a6 b23 b4
  have HE4 := HE.out.on b24
  have c4 := stood_any w4 HE4.t HE4.g HE4.o
  go_wp2_with fail
  with_reducible refine c4.mono ?_
  rintro y w5 ⟨rfl, b5⟩
  have b25 := bt2 b24 b5
  clear c4 b24 b5 HE4
  obtain ⟨_, a0, a1, a2, a3, a4, a5, a6⟩ := HS.out.on b25
  have c5 := sprint_any ⟨n, e, u, r, held, W, T⟩ _ _ w5 (HW.out.on b25) (HT.out.on b25) HG.out (HE.out.on b25).t
  dsimp only at c5
  go_wp2_with fail
  with_reducible refine c5.mono ?_
  rintro y w6 ⟨rfl, b6⟩
  have b26 := bt2 b25 b6
  clear c5 a0 a1 a2 a3 a4 a5 a6 b25 b6
  unfold prv
  cases hx : sok ⟨n, e, u, r, held, W, T⟩ with
  | false =>
    simp only [Bool.false_eq_true, if_false]
    have cT := sparse_any text h4 w6 (HE.out.on b26).t (HE.out.on b26).g
    go_wp2_with fail
    refine cT.mono ?_
    rintro y w20 ⟨⟨rfl, _⟩ | ⟨x, A1, n1, c1, A2, n2, c3, rfl, hW1, hT1, hg1, hr⟩, b20⟩
    · clear cT
      have b21 := bt2 (bt2 b26 b20) (bA1 w20 (.cells #[.int .i64 0, .int .i64 0, .string ⟨#[]⟩, .string ⟨#[]⟩, .bool false, .slice none 0 0, .slice none 0 0] 35))
      go_wp2_with fail
      generalize w20.alloc (.cells #[.int .i64 0, .int .i64 0, .string ⟨#[]⟩, .string ⟨#[]⟩, .bool false, .slice none 0 0, .slice none 0 0] 35) = wq at *
      have cK := pick_any state wq
      refine cK.mono ?_
      rintro y wk ⟨rfl, rfl⟩
      clear cK
      have bs1 := bA1 wk (.cells #[.int .i64 1, .int .i64 2, .int .i64 3, .int .i64 4] 3)
      have bs1' := bt2 b21 bs1
      have cS1 := steps_e (pk state) hk8 wk.heap.size (wk.alloc (.cells #[.int .i64 1, .int .i64 2, .int .i64 3, .int .i64 4] 3)) (HE.out.on bs1').o (by simp) (by simp) (by simp) (by simp)
      go_wp2_with fail
      refine cS1.mono ?_
      rintro y ws ⟨rfl, rfl⟩
      clear cS1
      have bs2 := bA1 (wk.alloc (.cells #[.int .i64 1, .int .i64 2, .int .i64 3, .int .i64 4] 3)) (.cells #[.int .i64 1, .int .i64 6, .int .i64 7, .int .i64 8] 3)
      have bs2' := bt2 bs1' bs2
      have cS2 := steps_l (pk state) hk8 (wk.alloc (.cells #[.int .i64 1, .int .i64 2, .int .i64 3, .int .i64 4] 3)).heap.size ((wk.alloc (.cells #[.int .i64 1, .int .i64 2, .int .i64 3, .int .i64 4] 3)).alloc (.cells #[.int .i64 1, .int .i64 6, .int .i64 7, .int .i64 8] 3)) (HE.out.on bs2').o (by rw [cell_new]; rfl) (by rw [cell_new]; rfl) (by rw [cell_new]; rfl) (by rw [cell_new]; rfl)
      rw [show (wk.alloc (.cells #[.int .i64 1, .int .i64 2, .int .i64 3, .int .i64 4] 3)).heap.size = wk.heap.size + 1 by simp] at cS2
      go_wp2_with fail
      refine cS2.mono ?_
      rintro y ws ⟨rfl, rfl⟩
      clear cS2
      go_wp2
      go_ret
      exact ⟨rfl, bt2 HB.out bs2'⟩
    · clear cT
      have hI := rds_isS hr
      have bv := bA1 w20 (sto x.n x.e x.u x.r x.held (.slice A1 n1 c1) (.slice A2 n2 c3) 35)
      have b21 := bt2 (bt2 b26 b20) bv
      have cP2 := sprint_any x _ _ _ (hW1.on bv) (hT1.on bv) hg1 (HE.out.on b21).t
      unfold prv at cP2
      rw [hI.ok, hI.tx] at cP2
      simp only [if_true] at cP2
      clear hI hr hg1 hW1 hT1 bv b20
      go_wp2_with fail
      refine cP2.mono ?_
      rintro y w22 ⟨rfl, b22⟩
      clear cP2
      have b23 := bt2 b21 b22
      clear b21 b22
      have cK := pick_any state w22
      go_wp2_with fail
      refine cK.mono ?_
      rintro y wk ⟨rfl, rfl⟩
      clear cK
      have bs1 := bA1 wk (.cells #[.int .i64 1, .int .i64 2, .int .i64 3, .int .i64 4] 3)
      have bs1' := bt2 b23 bs1
      have cS1 := steps_e (pk state) hk8 wk.heap.size (wk.alloc (.cells #[.int .i64 1, .int .i64 2, .int .i64 3, .int .i64 4] 3)) (HE.out.on bs1').o (by simp) (by simp) (by simp) (by simp)
      go_wp2_with fail
      refine cS1.mono ?_
      rintro y ws ⟨rfl, rfl⟩
      clear cS1
      have bs2 := bA1 (wk.alloc (.cells #[.int .i64 1, .int .i64 2, .int .i64 3, .int .i64 4] 3)) (.cells #[.int .i64 1, .int .i64 6, .int .i64 7, .int .i64 8] 3)
      have bs2' := bt2 bs1' bs2
      have cS2 := steps_l (pk state) hk8 (wk.alloc (.cells #[.int .i64 1, .int .i64 2, .int .i64 3, .int .i64 4] 3)).heap.size ((wk.alloc (.cells #[.int .i64 1, .int .i64 2, .int .i64 3, .int .i64 4] 3)).alloc (.cells #[.int .i64 1, .int .i64 6, .int .i64 7, .int .i64 8] 3)) (HE.out.on bs2').o (by rw [cell_new]; rfl) (by rw [cell_new]; rfl) (by rw [cell_new]; rfl) (by rw [cell_new]; rfl)
      rw [show (wk.alloc (.cells #[.int .i64 1, .int .i64 2, .int .i64 3, .int .i64 4] 3)).heap.size = wk.heap.size + 1 by simp] at cS2
      go_wp2_with fail
      refine cS2.mono ?_
      rintro y ws ⟨rfl, rfl⟩
      clear cS2
      go_wp2
      go_ret
      exact ⟨rfl, bt2 HB.out bs2'⟩
  | true =>
    simp only [if_true]
    have hr1 := rds_some (s := stx ⟨n, e, u, r, held, W, T⟩) ⟨hx, rfl⟩
    have c7 := sparse_any (stx ⟨n, e, u, r, held, W, T⟩) (stx_len hx) w6 (HE.out.on b26).t (HE.out.on b26).g
    go_wp2_with fail
    refine c7.mono ?_
    rintro y w7 ⟨⟨rfl, hr⟩ | ⟨x, A1, n1, c1, A2, n2, c3, rfl, hW1, hT1, hg1, hr⟩, b7⟩
    · rw [hr1] at hr; cases hr
    · clear c7
      have hxe : (⟨n, e, u, r, held, W, T⟩ : Sta) = x := by rw [hr1] at hr; exact Option.some.inj hr
      rw [hxe] at hx
      generalize hst : stx ⟨n, e, u, r, held, W, T⟩ = tx
      have hst2 : stx x = tx := by rw [← hxe]; exact hst
      clear hr hr1 hxe hst
      have bv := bA1 w7 (sto x.n x.e x.u x.r x.held (.slice A1 n1 c1) (.slice A2 n2 c3) 35)
      have b28 := bt2 (bt2 b26 b7) bv
      have SX := Lib.hid (stc_new w7 x.n x.e x.u x.r x.held (.slice A1 n1 c1) (.slice A2 n2 c3) 35)
      have cR := sright_any x _ _ _ (hW1.on bv) (hT1.on bv) hg1.i hg1.u hg1.r (HE.out.on b28).t
      rw [hx] at cR
      have HX1 := Lib.hid (hW1.on bv)
      have HX2 := Lib.hid (hT1.on bv)
      clear hW1 hT1 bv b7 b26
      go_wp2_with fail
      refine cR.mono ?_
      rintro y w9 ⟨rfl, b9⟩
      clear cR
      have b29 := bt2 b28 b9
      have cP1 := sprint_any x _ _ w9 (HX1.out.on b9) (HX2.out.on b9) hg1 (HE.out.on b29).t
      unfold prv at cP1
      rw [hx, hst2] at cP1
      simp only [if_true] at cP1
      obtain ⟨_, a0, a1, a2, a3, a4, a5, a6⟩ := SX.out.on b9
      go_wp2_with fail
      refine cP1.mono ?_
      rintro y w10 ⟨rfl, b10⟩
      clear cP1 a0 a1 a2 a3 a4 a5 a6 SX HX1 HX2 hg1 hx hst2
      have b210 := bt2 b29 b10
      clear b28 b29 b9 b10
      have cT := sparse_any text h4 w10 (HE.out.on b210).t (HE.out.on b210).g
      go_wp2_with fail
      refine cT.mono ?_
      rintro y w20 ⟨⟨rfl, _⟩ | ⟨x, A1, n1, c1, A2, n2, c3, rfl, hW1, hT1, hg1, hr⟩, b20⟩
      · clear cT
        have b21 := bt2 (bt2 b210 b20) (bA1 w20 (.cells #[.int .i64 0, .int .i64 0, .string ⟨#[]⟩, .string ⟨#[]⟩, .bool false, .slice none 0 0, .slice none 0 0] 35))
        go_wp2_with fail
        generalize w20.alloc (.cells #[.int .i64 0, .int .i64 0, .string ⟨#[]⟩, .string ⟨#[]⟩, .bool false, .slice none 0 0, .slice none 0 0] 35) = wq at *
        have cK := pick_any state wq
        refine cK.mono ?_
        rintro y wk ⟨rfl, rfl⟩
        clear cK
        have bs1 := bA1 wk (.cells #[.int .i64 1, .int .i64 2, .int .i64 3, .int .i64 4] 3)
        have bs1' := bt2 b21 bs1
        have cS1 := steps_e (pk state) hk8 wk.heap.size (wk.alloc (.cells #[.int .i64 1, .int .i64 2, .int .i64 3, .int .i64 4] 3)) (HE.out.on bs1').o (by simp) (by simp) (by simp) (by simp)
        go_wp2_with fail
        refine cS1.mono ?_
        rintro y ws ⟨rfl, rfl⟩
        clear cS1
        have bs2 := bA1 (wk.alloc (.cells #[.int .i64 1, .int .i64 2, .int .i64 3, .int .i64 4] 3)) (.cells #[.int .i64 1, .int .i64 6, .int .i64 7, .int .i64 8] 3)
        have bs2' := bt2 bs1' bs2
        have cS2 := steps_l (pk state) hk8 (wk.alloc (.cells #[.int .i64 1, .int .i64 2, .int .i64 3, .int .i64 4] 3)).heap.size ((wk.alloc (.cells #[.int .i64 1, .int .i64 2, .int .i64 3, .int .i64 4] 3)).alloc (.cells #[.int .i64 1, .int .i64 6, .int .i64 7, .int .i64 8] 3)) (HE.out.on bs2').o (by rw [cell_new]; rfl) (by rw [cell_new]; rfl) (by rw [cell_new]; rfl) (by rw [cell_new]; rfl)
        rw [show (wk.alloc (.cells #[.int .i64 1, .int .i64 2, .int .i64 3, .int .i64 4] 3)).heap.size = wk.heap.size + 1 by simp] at cS2
        go_wp2_with fail
        refine cS2.mono ?_
        rintro y ws ⟨rfl, rfl⟩
        clear cS2
        go_wp2
        go_ret
        exact ⟨rfl, bt2 HB.out bs2'⟩
      · clear cT
        have hI := rds_isS hr
        have bv := bA1 w20 (sto x.n x.e x.u x.r x.held (.slice A1 n1 c1) (.slice A2 n2 c3) 35)
        have b21 := bt2 (bt2 b210 b20) bv
        have cP2 := sprint_any x _ _ _ (hW1.on bv) (hT1.on bv) hg1 (HE.out.on b21).t
        unfold prv at cP2
        rw [hI.ok, hI.tx] at cP2
        simp only [if_true] at cP2
        clear hI hr hg1 hW1 hT1 bv b20
        go_wp2_with fail
        refine cP2.mono ?_
        rintro y w22 ⟨rfl, b22⟩
        clear cP2
        have b23 := bt2 b21 b22
        clear b21 b22
        have cK := pick_any state w22
        go_wp2_with fail
        refine cK.mono ?_
        rintro y wk ⟨rfl, rfl⟩
        clear cK
        have bs1 := bA1 wk (.cells #[.int .i64 1, .int .i64 2, .int .i64 3, .int .i64 4] 3)
        have bs1' := bt2 b23 bs1
        have cS1 := steps_e (pk state) hk8 wk.heap.size (wk.alloc (.cells #[.int .i64 1, .int .i64 2, .int .i64 3, .int .i64 4] 3)) (HE.out.on bs1').o (by simp) (by simp) (by simp) (by simp)
        go_wp2_with fail
        refine cS1.mono ?_
        rintro y ws ⟨rfl, rfl⟩
        clear cS1
        have bs2 := bA1 (wk.alloc (.cells #[.int .i64 1, .int .i64 2, .int .i64 3, .int .i64 4] 3)) (.cells #[.int .i64 1, .int .i64 6, .int .i64 7, .int .i64 8] 3)
        have bs2' := bt2 bs1' bs2
        have cS2 := steps_l (pk state) hk8 (wk.alloc (.cells #[.int .i64 1, .int .i64 2, .int .i64 3, .int .i64 4] 3)).heap.size ((wk.alloc (.cells #[.int .i64 1, .int .i64 2, .int .i64 3, .int .i64 4] 3)).alloc (.cells #[.int .i64 1, .int .i64 6, .int .i64 7, .int .i64 8] 3)) (HE.out.on bs2').o (by rw [cell_new]; rfl) (by rw [cell_new]; rfl) (by rw [cell_new]; rfl) (by rw [cell_new]; rfl)
        rw [show (wk.alloc (.cells #[.int .i64 1, .int .i64 2, .int .i64 3, .int .i64 4] 3)).heap.size = wk.heap.size + 1 by simp] at cS2
        go_wp2_with fail
        refine cS2.mono ?_
        rintro y ws ⟨rfl, rfl⟩
        clear cS2
        go_wp2
        go_ret
        exact ⟨rfl, bt2 HB.out bs2'⟩
set_option maxRecDepth 100000 in
set_option maxHeartbeats 6400000 in
theorem back_no (n e : Int) (u r : List UInt8) (held : Bool) (A A' : Option Addr) (c c' : Nat) (W T : List (List UInt8)) (text : List UInt8) (state : Int) (w : World) (hW : Ss w (.slice A W.length c) W) (hT : Ss w (.slice A' T.length c') T)
    (h : ¬ ((decide (u.length ≤ 100) && decide (r.length ≤ 100)) = true ∧ txs W = true ∧ txs T = true ∧ text.length ≤ 400)) :
    Calls Tryd.prog 4 #[stv n e u r held (.slice A W.length c) (.slice A' T.length c'), .string ⟨text.toArray⟩, .int .i64 state] w fun y w' => y = .returned (.bool true) ∧ Below w.heap.size w w' := by
  have b1 := bA1 w (sto n e u r held (.slice A W.length c) (.slice A' T.length c') 35)
  have S1 := stc_new w n e u r held (.slice A W.length c) (.slice A' T.length c') 35
  have c1 := kshort_any e u r (w.alloc (sto n e u r held (.slice A W.length c) (.slice A' T.length c') 35))
  have HB := Lib.hid b1
  have HS := Lib.hid S1
  have HW := Lib.hid (hW.on b1)
  have HT := Lib.hid (hT.on b1)
  have HH := Lib.hid h
  clear b1 S1 hW hT h
  generalize (decide (u.length ≤ 100) && decide (r.length ≤ 100)) = y1 at HH c1
  cases y1 with
  | false =>
    clear HH
    go_enter Tryd.func4, Tryd.ntmps4
    go_wp2_with fail
    with_reducible refine c1.mono ?_
    rintro y w2 ⟨rfl, b2⟩
    go_wp2
    go_ret
    exact ⟨rfl, bt2 HB.out b2⟩
  | true =>
    go_enter Tryd.func4, Tryd.ntmps4
    go_wp2_with fail
    with_reducible refine c1.mono ?_
    rintro y w2 ⟨rfl, b2⟩
    clear c1
    have c2 := texts_any _ W w2 (HW.out.on b2)
    generalize txs W = y2 at HH c2
    obtain ⟨_, a0, a1, a2, a3, a4, a5, a6⟩ := HS.out.on b2
    go_wp2_with fail
    with_reducible refine c2.mono ?_
    rintro y w3 ⟨rfl, b3⟩
    have b23 := bt2 b2 b3
    clear c2 a0 a1 a2 a3 a4 a5 a6 b2 b3
    cases y2 with
    | false =>
      clear HH
      go_wp2
      go_ret
      exact ⟨rfl, bt2 HB.out b23⟩
    | true =>
      have c3 := texts_any _ T w3 (HT.out.on b23)
      generalize txs T = y3 at HH c3
      obtain ⟨_, a0, a1, a2, a3, a4, a5, a6⟩ := HS.out.on b23
      go_wp2_with fail
      with_reducible refine c3.mono ?_
      rintro y w4 ⟨rfl, b4⟩
      have b24 := bt2 b23 b4
      clear c3 a0 a1 a2 a3 a4 a5 a6 b23 b4
      cases y3 with
      | false =>
        clear HH
        go_wp2
        go_ret
        exact ⟨rfl, bt2 HB.out b24⟩
      | true =>
        have h4 : (400 : Int) < (text.length : Int) := by have := HH.out; simp at this; omega
        clear HH
        go_wp2
        go_ret
        exact ⟨rfl, bt2 HB.out b24⟩
theorem back_any (x : Sta) (A A' : Option Addr) (c c' : Nat) (text : List UInt8) (state : Int) (w : World) (hW : Ss w (.slice A x.W.length c) x.W) (hT : Ss w (.slice A' x.T.length c') x.T) (i : In64 x.e) (he : Env w) :
    Calls Tryd.prog 4 #[stv x.n x.e x.u x.r x.held (.slice A x.W.length c) (.slice A' x.T.length c'), .string ⟨text.toArray⟩, .int .i64 state] w fun y w' => y = .returned (.bool true) ∧ Below w.heap.size w w' := by
  by_cases h : (decide (x.u.length ≤ 100) && decide (x.r.length ≤ 100)) = true ∧ txs x.W = true ∧ txs x.T = true ∧ text.length ≤ 400
  · exact back_go x.n x.e x.u x.r x.held A A' c c' x.W x.T text state w hW hT i he h.1 h.2.1 h.2.2.1 h.2.2.2
  · exact back_no x.n x.e x.u x.r x.held A A' c c' x.W x.T text state w hW hT h
end Go.Proofs.YtoojbpldhhbkbaaDoor
