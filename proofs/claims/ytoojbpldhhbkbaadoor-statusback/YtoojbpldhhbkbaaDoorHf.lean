/- The program's Parse of a status. -/
import Derived.Test.YtoojbpldhhbkbaaDoorHe
namespace Go.Proofs.YtoojbpldhhbkbaaDoor
open Go.RowKit Go.Shelf Go.Sort

/-- What readWords answers. -/
structure Rwd (L : List (List UInt8)) (s : List UInt8) (e : Ending) (w w' : World) : Prop where
  out : ((e = .returned (.tuple #[stv 0 0 [] [] false (.slice none 0 0) (.slice none 0 0), .bool false]) ∧ rds s = none) ∨
    (∃ x A n c A' n' c', e = .returned (.tuple #[stv x.n x.e x.u x.r x.held (.slice A n c) (.slice A' n' c'), .bool true]) ∧ Ss w' (.slice A n c) x.W ∧ Ss w' (.slice A' n' c') x.T ∧ NewA A w.heap.size ∧ NewA A' w.heap.size ∧ Sg x ∧ rds s = if sok x && (stx x == s) then some x else none)) ∧ Below w.heap.size w w'
theorem five {L : List (List UInt8)} (h : L.length = 5) : ∃ a b c d e, L = [a, b, c, d, e] := by
  match L, h with
  | [a, b, c, d, e], _ => exact ⟨a, b, c, d, e, rfl⟩
theorem rdl_le (n : Nat) (hn : n ≤ 40) (s : List UInt8) (hs : s.length ≤ 400) : (rdl n s).length ≤ 40 ∧ ∀ p ∈ rdl n s, p.length ≤ 400 := by
  unfold rdl
  split
  · simp
  · exact ⟨by have := spk_len 44 (min n (s.length + 1) - 1) s; omega, fun p hp => Nat.le_trans (spk_small 44 _ s p hp) hs⟩
theorem rwords_any (s : List UInt8) (hs : s.length ≤ 400) (v : Value) (w : World) (h : Ss w v (spk 32 (min 6 (s.length + 1) - 1) s)) (ht : Tab w) (g : Gb w) : Calls Tryd.prog 28 #[v] w fun e w' => Rwd (spk 32 (min 6 (s.length + 1) - 1) s) s e w w' := by
  have hsm := spk_small 32 (min 6 (s.length + 1) - 1) s
  by_cases h5 : (spk 32 (min 6 (s.length + 1) - 1) s).length = 5
  · obtain ⟨w0, w1, w2, w3, w4, hL⟩ := five h5
    rw [hL] at h hsm
    rcases h.is with ⟨h0, _⟩ | ⟨b, o, c, rfl, _, hr⟩
    · cases h0
    · by_cases hn : ∃ n, Lib.atoiAll w0 = .ok n
      · obtain ⟨n, hn⟩ := hn
        cases hv : rdv w1 with
        | none =>
          refine (rw_ver b o c w0 w1 w2 w3 w4 w hr (by have := hsm w0 (by simp); omega) n hn hv ht).mono fun e w' hh => ?_
          exact ⟨Or.inl ⟨hh.1, rds_ver hL hv⟩, hh.2⟩
        | some v =>
          obtain ⟨e, u, r⟩ := v
          refine (rw_good b o c w0 w1 w2 w3 w4 w hr (fun p hp => by have := hsm p hp; omega) n hn e u r hv ht g).mono fun x w' hh => ?_
          obtain ⟨⟨A, n1, c1, A', n2, c2, rfl, hW, hT, hN, hN'⟩, hb⟩ := hh
          have l3 := rdl_le 5 (by omega) w3 (by have := hsm w3 (by simp); omega)
          have l4 := rdl_le 3 (by omega) w4 (by have := hsm w4 (by simp); omega)
          have hp := pv_small hv
          dsimp only at hp
          refine ⟨Or.inr ⟨rdw n (e, u, r) w2 w3 w4, A, _, c1, A', _, c2, rfl, hW, hT, hN, hN', ⟨⟨?_, ?_⟩, ?_, ?_, by have := l3.1; unfold rdw; dsimp only; omega, by have := l4.1; unfold rdw; dsimp only; omega, l3.2, l4.2⟩, rds_read hL hn hv⟩, hb⟩
          all_goals (unfold rdw; dsimp only; omega)
      · refine (rw_num b o c w0 w1 w2 w3 w4 w hr (by have := hsm w0 (by simp); omega) (fun n h => hn ⟨n, h⟩) g).mono fun e w' hh => ?_
        exact ⟨Or.inl ⟨hh.1, rds_num hL fun n h => hn ⟨n, h⟩⟩, hh.2⟩
  · obtain ⟨A, c, rfl⟩ := h.sl
    refine (rw_len A _ c h5 w).mono fun e w' hh => ?_
    exact ⟨Or.inl ⟨hh.1, rds_words h5⟩, hh.2⟩
theorem splitn6 (s : List UInt8) (hs : s.length ≤ 1000) (w : World) (h : Gb w) :
    Calls Tryd.prog 29 #[.string ⟨s.toArray⟩, .string ⟨#[32]⟩, .int .i64 6] w fun e w' => (∃ A k, e = .returned (.slice A (spk 32 (min 6 (s.length + 1) - 1) s).length k) ∧ Ss w' (.slice A (spk 32 (min 6 (s.length + 1) - 1) s).length k) (spk 32 (min 6 (s.length + 1) - 1) s) ∧ NewA A w.heap.size) ∧ Below w.heap.size w w' := splitn_any s 32 6 (by omega) (by omega) hs w h
/-- What Parse answers. -/
structure Par (s : List UInt8) (e : Ending) (w w' : World) : Prop where
  out : ((e = .returned (.tuple #[stv 0 0 [] [] false (.slice none 0 0) (.slice none 0 0), .iface 22 (.int .i64 3)]) ∧ rds s = none) ∨
    (∃ x A n c A' n' c', e = .returned (.tuple #[stv x.n x.e x.u x.r x.held (.slice A n c) (.slice A' n' c'), .nilIface]) ∧ Ss w' (.slice A n c) x.W ∧ Ss w' (.slice A' n' c') x.T ∧ Sg x ∧ rds s = some x)) ∧ Below w.heap.size w w'
theorem ret12 {a : Act} {W : World} {g : Nat} {y0 y1 y2 y3 y4 y5 y6 v : Value} {Q : Ending → World → Prop} (h : At7 W g y0 y1 y2 y3 y4 y5 y6) (hd : a.defers = []) (h2 : a.tmps.getD 2 undef = .pointer (some ⟨g, 0, none⟩)) (h3 : a.tmps.getD 3 undef = v)
    (hQ : Q (.returned (.tuple #[.agg #[y0, y1, y2, y3, y4, y5, y6], v])) W) : bodyPost Tryd.prog Tryd.f13 Q Exit.ret a W := by
  obtain ⟨c0, c1, c2, c3, c4, c5, c6⟩ := h
  rw [Array.getD_eq_getD_getElem?] at h2 h3
  exact bodyPost_ret (v := .tuple #[.agg #[y0, y1, y2, y3, y4, y5, y6], v]) (by simp [results, Tryd.results13, go_sem, h2, h3, c0, c1, c2, c3, c4, c5, c6]) hd hQ
set_option maxRecDepth 100000 in
set_option maxHeartbeats 3200000 in
theorem sparse_any (s : List UInt8) (hs : s.length ≤ 400) (w : World) (ht : Tab w) (g : Gb w) : Calls Tryd.prog 13 #[.string ⟨s.toArray⟩] w fun e w' => Par s e w w' := by
  have b0 := bA1 w (stz 35)
  have kR := k7_new w 35
  have cS := splitn6 s (by omega) _ (g.on b0)
  have HB := Lib.hid b0
  have HTab := Lib.hid (tab_on ht b0)
  have HG := Lib.hid (g.on b0)
  have cR := fun v w' h ht g => rwords_any s hs v w' h ht g
  clear b0 ht g
  generalize spk 32 (min 6 (s.length + 1) - 1) s = L at cS cR
  go_enter Tryd.func13, Tryd.ntmps13
  go_wp2_with fail
  refine cS.mono ?_
  rintro e w1 ⟨⟨A, k, rfl, hS, _⟩, b1⟩
  clear cS
  have c2 := cR _ w1 hS (tab_on HTab.out b1) (HG.out.on b1)
  clear cR hS
  go_wp2_with fail
  refine c2.mono ?_
  rintro e w2 ⟨⟨rfl, hr⟩ | ⟨x, A1, n1, c1, A2, n2, c3, rfl, hW, hT, hN, hN', hg, hr⟩, b2⟩
  · clear c2
    have kS := (kR.on b1).on b2
    have kT := kS
    obtain ⟨kl, k0, k1, k2, k3, k4, k5, k6, kf⟩ := kS
    clear kR
    go_wp2
    have hz := (res7 kT (.int .i64 0) (.int .i64 0) (.string ⟨#[]⟩) (.string ⟨#[]⟩) (.bool false) (.slice none 0 0) (.slice none 0 0)).on (bA1 _ (stz 35)) (by simpa using kl)
    exact ret12 hz rfl rfl rfl ⟨Or.inl ⟨rfl, hr⟩, (set7_below (bt2 (bt2 HB.out b1) b2) (Nat.le_refl _) _ _ _ _ _ _ _).alloc (by simpa using Nat.le_of_lt kl) _⟩
  · clear c2
    have bv := bA1 w2 (sto x.n x.e x.u x.r x.held (.slice A1 n1 c1) (.slice A2 n2 c3) 35)
    have bx := bt2 (bt2 b1 b2) bv
    have cP := sprint_any x _ _ _ (hW.on bv) (hT.on bv) hg (tab_on HTab.out bx)
    have HK := Lib.hid (kR.on bx)
    have HS := Lib.hid (stc_new w2 x.n x.e x.u x.r x.held (.slice A1 n1 c1) (.slice A2 n2 c3) 35)
    have HB3 := Lib.hid (bt2 HB.out bx)
    have HW := Lib.hid (hW.on bv)
    have HT := Lib.hid (hT.on bv)
    have hlt2 := (kR.on b1).lt
    have HN := Lib.hid (hN.le (show w.heap.size + 1 ≤ w1.heap.size from hlt2))
    have HN' := Lib.hid (hN'.le (show w.heap.size + 1 ≤ w1.heap.size from hlt2))
    clear hN hN'
    clear bv bx kR hW hT b1 b2
    unfold prv at cP
    cases hx : sok x with
    | false =>
      rw [hx] at cP
      simp only [Bool.false_eq_true, if_false] at cP
      rw [hx, Bool.false_and] at hr
      simp only [Bool.false_eq_true, if_false] at hr
      go_wp2_with fail
      refine cP.mono ?_
      rintro e w4 ⟨rfl, b4⟩
      clear cP
      have kT := HK.out.on b4
      obtain ⟨kl, k0, k1, k2, k3, k4, k5, k6, kf⟩ := HK.out.on b4
      go_wp2
      have hz := (res7 kT (.int .i64 0) (.int .i64 0) (.string ⟨#[]⟩) (.string ⟨#[]⟩) (.bool false) (.slice none 0 0) (.slice none 0 0))
      exact ret12 hz rfl rfl rfl ⟨Or.inl ⟨rfl, hr⟩, (set7_below (bt2 HB3.out b4) (Nat.le_refl _) _ _ _ _ _ _ _)⟩
    | true =>
      rw [hx] at cP
      simp only [if_true] at cP
      rw [hx, Bool.true_and] at hr
      cases he : stx x == s with
      | false =>
        rw [he] at hr
        simp only [Bool.false_eq_true, if_false] at hr
        generalize stx x = tx at cP he
        go_wp2_with fail
        refine cP.mono ?_
        rintro e w4 ⟨rfl, b4⟩
        clear cP
        have kT := HK.out.on b4
        obtain ⟨kl, k0, k1, k2, k3, k4, k5, k6, kf⟩ := HK.out.on b4
        go_wp2
        have hz := (res7 kT (.int .i64 0) (.int .i64 0) (.string ⟨#[]⟩) (.string ⟨#[]⟩) (.bool false) (.slice none 0 0) (.slice none 0 0))
        exact ret12 hz rfl rfl rfl ⟨Or.inl ⟨rfl, hr⟩, (set7_below (bt2 HB3.out b4) (Nat.le_refl _) _ _ _ _ _ _ _)⟩
      | true =>
        rw [he] at hr
        simp only [if_true] at hr
        generalize stx x = tx at cP he
        go_wp2_with fail
        refine cP.mono ?_
        rintro e w4 ⟨rfl, b4⟩
        clear cP
        have kT := HK.out.on b4
        obtain ⟨kl, k0, k1, k2, k3, k4, k5, k6, kf⟩ := HK.out.on b4
        obtain ⟨sl, a0, a1, a2, a3, a4, a5, a6⟩ := HS.out.on b4
        go_wp2
        have hz := (res7 kT (.int .i64 x.n) (.int .i64 x.e) (.string ⟨x.u.toArray⟩) (.string ⟨x.r.toArray⟩) (.bool x.held) (.slice A1 n1 c1) (.slice A2 n2 c3))
        exact ret12 hz rfl rfl rfl ⟨Or.inr ⟨x, _, _, _, _, _, _, rfl, (HW.out.on b4).set7 HN.out _ _ _ _ _ _ _, (HT.out.on b4).set7 HN'.out _ _ _ _ _ _ _, hg, hr⟩, (set7_below (bt2 HB3.out b4) (Nat.le_refl _) _ _ _ _ _ _ _)⟩
end Go.Proofs.YtoojbpldhhbkbaaDoor
