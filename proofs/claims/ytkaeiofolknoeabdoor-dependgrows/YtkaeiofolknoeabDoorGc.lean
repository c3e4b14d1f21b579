/- The walk of the law DependGrows. -/
import Derived.Test.YtkaeiofolknoeabDoorGd
import Derived.Test.YtkaeiofolknoeabDoorDk
namespace Go.Proofs.YtkaeiofolknoeabDoor
open Go.RowKit Go.Sort

theorem oslice {w : World} {b e sz n : Nat} {v : Value} {xs : List Value} (h : w.ownsRow b e sz v n xs) : ∃ X c, v = .slice X n c := by
  rcases h.2 with ⟨rfl, rfl⟩ | ⟨g, cap, c, rfl, _⟩
  · exact ⟨_, _, rfl⟩
  · exact ⟨_, _, rfl⟩

set_option maxHeartbeats 6400000 in
set_option maxRecDepth 100000 in
theorem grows_main (v1 v2 va vb : Value) (l m : List (List Tm)) (a b : List Ofr) (w : World) (h1 : As w v1 l) (h2 : As w v2 m) (ha : Os' w va a) (hb : Os' w vb b) (t1 : tla l = true) (t2 : tla m = true) (na : a.length ≤ 15) (nb : b.length ≤ 15) (s1 : Ns v1) (s2 : Ns v2) (sa : Ns va) (sb : Ns vb)
    (hA : ∀ W, Below w.heap.size w W → Calls Tryd.prog 33 #[] W fun x w' => x = .returned (.bool true) ∧ Below W.heap.size W w') : Calls Tryd.prog 6 #[v1, v2, va, vb] w fun x w' => x = .returned (.bool true) ∧ Below w.heap.size w w' := by
  have cT := fun W (h : As W v1 l) => kterms_any v1 l W h
  have cU := fun W (h : As W v2 m) => kterms_any v2 m W h
  rw [t1] at cT
  rw [t2] at cU
  obtain ⟨A, ca, rfl⟩ := ha.sl
  obtain ⟨B, cb, rfl⟩ := hb.sl
  obtain ⟨ga, ia, oa, ta⟩ := offers_in ha sa
  obtain ⟨gb, ib, ob, tb⟩ := offers_in hb sb
  obtain ⟨xl, xn, il, ol, tl⟩ := asked_in h1 s1
  obtain ⟨xm, ym, im, om', tm'⟩ := asked_in h2 s2
  have Ia : Hid (In' w (.slice A a.length ca) a.length (ocs2 a ga)) := ⟨ia⟩
  have Ib : Hid (In' w (.slice B b.length cb) b.length (ocs2 b gb)) := ⟨ib⟩
  have Il : Hid (In' w v1 l.length xl) := ⟨il⟩
  have Im : Hid (In' w v2 m.length xm) := ⟨im⟩
  have HTa := Lib.hid ta
  have HTb := Lib.hid tb
  have HTl := Lib.hid tl
  have HTm := Lib.hid tm'
  have HOa1 := Lib.hid oa
  have HOb1 := Lib.hid ob
  have HOl1 := Lib.hid ol
  have HOm1 := Lib.hid om'
  obtain ⟨hln, hlS⟩ := tla_parts t1
  obtain ⟨hmn, hmS⟩ := tla_parts t2
  have HlS := Lib.hid hlS
  have HmS := Lib.hid hmS
  obtain ⟨i0, hi0, hz0, hz1, hz2⟩ := infoP infoO
  obtain ⟨j0, hj0, hy0, hy1, hy2⟩ := infoP infoL
  obtain ⟨la, hla⟩ : ∃ x, x = ocs2 a ga := ⟨_, rfl⟩
  obtain ⟨lb, hlb⟩ : ∃ x, x = ocs2 b gb := ⟨_, rfl⟩
  have La : la.length = a.length * 5 := by rw [hla]; exact ocs2_len _ _
  have Lb : lb.length = b.length * 5 := by rw [hlb]; exact ocs2_len _ _
  rw [← hla] at Ia HOa1
  rw [← hlb] at Ib HOb1
  have Hla := Lib.hid hla
  have Hlb := Lib.hid hlb
  have HT := Lib.hid cT
  have HU := Lib.hid cU
  clear ia ib il im ta tb tl tm' oa ob ol om' hlS hmS t1 t2 s1 s2 sa sb hla hlb
  have H1 := Lib.hid h1
  have H2 := Lib.hid h2
  have Ha := Lib.hid ha
  have Hb := Lib.hid hb
  have HA := Lib.hid hA
  clear cT cU h1 h2 ha hb hA
  go_enter Tryd.func6, Tryd.ntmps6
  go_wp2_with fail
  refine (HT.out _ H1.out).mono ?_
  rintro x w1 ⟨rfl, b1⟩
  go_wp2_with fail
  refine (HU.out _ (H2.out.on b1)).mono ?_
  rintro x w2 ⟨rfl, b2'⟩
  have b2 := bon b1 b2'
  clear b1 b2' HT HU
  go_wp2_with fail
  go_loopw [9] (fun i W => ∃ k : Nat, k ≤ a.length ∧ i = .int .i64 k ∧ Below w.heap.size w W ∧ Hid (∀ j (hj : j < a.length), j < k → Oh a[j])) (fun i _ => a.length - (intOf i).toNat)
  case atStart => exact ⟨0, Nat.zero_le _, rfl, b2, fun j _ h => absurd h (Nat.not_lt_zero _)⟩
  case round =>
    obtain ⟨k, hk, rfl, hW, HN⟩ := hrel
    by_cases hlt : k < a.length
    · obtain ⟨bq, oq, rfl, x, o0, o1, o2, o3, o4, hx⟩ := (Ha.out.on hW).at' k hlt
      have cS := fun W => kshort_b a[k].e a[k].u a[k].r W
      obtain ⟨y0, hy0⟩ : ∃ y, y = (decide (a[k].u.length ≤ 100) && decide (a[k].r.length ≤ 100)) := ⟨_, rfl⟩
      rw [← hy0] at cS
      have HY0 := Lib.hid hy0
      have Hx := Lib.hid hx
      clear hy0 hx
      cases y0 with
      | false =>
        go_wp2_with fail
        refine (cS _).mono ?_
        rintro y w3 ⟨rfl, b3⟩
        go_wp2_with fail
        go_ret
        exact ⟨rfl, bon hW b3⟩
      | true =>
        go_wp2_with fail
        refine (cS _).mono ?_
        rintro y w3 ⟨rfl, b3⟩
        have o4' : w3.cell? ⟨bq, oq + k * 5 + 4, none⟩ = some x := by rw [b3.cell (block_lt_of_cell o4)]; exact o4
        have cF := kflat_any x a[k].P w3 (Hx.out.on b3)
        obtain ⟨y1, hy1⟩ : ∃ y, y = fla a[k].P := ⟨_, rfl⟩
        rw [← hy1] at cF
        have HY1 := Lib.hid hy1
        clear hy1
        cases y1 with
        | false =>
          go_wp2_with fail
          refine cF.mono ?_
          rintro y w4 ⟨rfl, b4⟩
          go_wp2_with fail
          go_ret
          exact ⟨rfl, bon (bon hW b3) b4⟩
        | true =>
          have HG : Hid (∀ j (hj : j < a.length), j < k + 1 → Oh a[j]) := fun j hj h => by
            by_cases e2 : j = k
            · subst e2; exact oh_of HY0.out.symm HY1.out.symm
            · exact HN.out j hj (by omega)
          go_wp2_with fail
          refine cF.mono ?_
          rintro y w4 ⟨rfl, b4⟩
          go_wp2_with fail
          exact ⟨⟨k + 1, hlt, by go_num, bon (bon hW b3) b4, HG⟩, by simp [intOf]; omega⟩
    · have HOa : Hid (∀ o ∈ a, Oh o) := fun p hp => by
        obtain ⟨j, hj, rfl⟩ := List.getElem_of_mem hp
        exact HN.out j hj (by omega)
      clear HN b2
      generalize wr = wA at *
      go_wp2_with fail
      go_loopw [10] (fun i W => ∃ k : Nat, k ≤ b.length ∧ i = .int .i64 k ∧ Below w.heap.size w W ∧ Hid (∀ j (hj : j < b.length), j < k → Oh b[j])) (fun i _ => b.length - (intOf i).toNat)
      case atStart => exact ⟨0, Nat.zero_le _, rfl, hW, fun j _ h => absurd h (Nat.not_lt_zero _)⟩
      case round =>
        obtain ⟨k2, hk2, rfl, hV, HN2⟩ := hrel
        by_cases hlt2 : k2 < b.length
        · obtain ⟨bq, oq, rfl, x, o0, o1, o2, o3, o4, hx⟩ := (Hb.out.on hV).at' k2 hlt2
          have cS := fun W => kshort_b b[k2].e b[k2].u b[k2].r W
          obtain ⟨y0, hy0⟩ : ∃ y, y = (decide (b[k2].u.length ≤ 100) && decide (b[k2].r.length ≤ 100)) := ⟨_, rfl⟩
          rw [← hy0] at cS
          have HY0 := Lib.hid hy0
          have Hx := Lib.hid hx
          clear hy0 hx
          cases y0 with
          | false =>
            go_wp2_with fail
            refine (cS _).mono ?_
            rintro y w3 ⟨rfl, b3⟩
            go_wp2_with fail
            go_ret
            exact ⟨rfl, bon hV b3⟩
          | true =>
            go_wp2_with fail
            refine (cS _).mono ?_
            rintro y w3 ⟨rfl, b3⟩
            have o4' : w3.cell? ⟨bq, oq + k2 * 5 + 4, none⟩ = some x := by rw [b3.cell (block_lt_of_cell o4)]; exact o4
            have cF := kflat_any x b[k2].P w3 (Hx.out.on b3)
            obtain ⟨y1, hy1⟩ : ∃ y, y = fla b[k2].P := ⟨_, rfl⟩
            rw [← hy1] at cF
            have HY1 := Lib.hid hy1
            clear hy1
            cases y1 with
            | false =>
              go_wp2_with fail
              refine cF.mono ?_
              rintro y w4 ⟨rfl, b4⟩
              go_wp2_with fail
              go_ret
              exact ⟨rfl, bon (bon hV b3) b4⟩
            | true =>
              have HG : Hid (∀ j (hj : j < b.length), j < k2 + 1 → Oh b[j]) := fun j hj h => by
                by_cases e2 : j = k2
                · subst e2; exact oh_of HY0.out.symm HY1.out.symm
                · exact HN2.out j hj (by omega)
              go_wp2_with fail
              refine cF.mono ?_
              rintro y w4 ⟨rfl, b4⟩
              go_wp2_with fail
              exact ⟨⟨k2 + 1, hlt2, by go_num, bon (bon hV b3) b4, HG⟩, by simp [intOf]; omega⟩
        · have HOb : Hid (∀ o ∈ b, Oh o) := fun p hp => by
            obtain ⟨j, hj, rfl⟩ := List.getElem_of_mem hp
            exact HN2.out j hj (by omega)
          clear HN2 hW
          generalize wr = wB at *
          go_wp2_with fail
          refine (HA.out _ hV).mono ?_
          rintro y w5 ⟨rfl, b5'⟩
          have b5 := bon hV b5'
          clear b5' hV
          have bA : Below w.heap.size w (w5.alloc (.cells #[] 66)) := bon b5 (b1c _ _)
          have O0 := Lib.hid (own0 w.heap.size w5 66 5 b5.size)
          go_wp2_with (at_builtin; refine wpList_append_in rfl _ _ 59 rfl w.heap.size 66 i0 _ 5 80 Tryd.underlying59 hi0 hz0 hz1 hz2 rfl (by decide) _ _ _ rfl O0.out (.slice A a.length ca) a.length la rfl (Ia.out.on bA).is La HOa1.out (by unfold maxLen; omega) (by omega) bA.size ?_)
          intro S1 w6 hown hgrow
          try simp only [Nat.zero_add, List.nil_append] at hown
          obtain ⟨X1, c1, rfl⟩ := oslice hown
          have b6 : Below w.heap.size w w6 := below_grown bA bA.size O0.out hgrow
          have O1 := Lib.hid hown
          clear hown hgrow O0 bA
          go_wp2_with (at_builtin; refine wpList_append_in rfl _ _ 59 rfl w.heap.size 66 i0 _ 5 80 Tryd.underlying59 hi0 hz0 hz1 hz2 rfl (by decide) _ _ _ rfl O1.out (.slice B b.length cb) b.length lb rfl (Ib.out.on b6).is Lb HOb1.out (by unfold maxLen; omega) (by omega) b6.size ?_)
          intro S2 w7 hown hgrow
          try simp only [Nat.zero_add, List.nil_append] at hown
          obtain ⟨X2, c2, rfl⟩ := oslice hown
          have b7 : Below w.heap.size w w7 := below_grown b6 b6.size O1.out hgrow
          have Oab : Hid (Os' w7 (.slice X2 (a.length + b.length) c2) (a ++ b)) := os_two (g := ga) (h := gb) rfl (by rw [← Hla.out, ← Hlb.out]; exact hown) (fun i hi => (HTa.out i hi).on b7) (fun i hi => (HTb.out i hi).on b7)
          have bC' : Below w7.heap.size w7 (w7.alloc (.cells #[] 66)) := b1c _ _
          have bC := bon b7 bC'
          have O2 := Lib.hid (own0 w7.heap.size w7 66 5 (Nat.le_refl _))
          clear hown hgrow O1 b6
          go_wp2_with (at_builtin; refine wpList_append_in rfl _ _ 59 rfl w7.heap.size 66 i0 _ 5 80 Tryd.underlying59 hi0 hz0 hz1 hz2 rfl (by decide) _ _ _ rfl O2.out (.slice B b.length cb) b.length lb rfl (Ib.out.on bC).is Lb HOb1.out (by unfold maxLen; omega) (by omega) bC'.size ?_)
          intro S3 w8 hown hgrow
          try simp only [Nat.zero_add, List.nil_append] at hown
          obtain ⟨X3, c3, rfl⟩ := oslice hown
          have b8' : Below w7.heap.size w7 w8 := below_grown bC' bC'.size O2.out hgrow
          have b8 := bon b7 b8'
          have O3 := Lib.hid hown
          clear hown hgrow O2 bC
          go_wp2_with (at_builtin; refine wpList_append_in rfl _ _ 59 rfl w7.heap.size 66 i0 _ 5 80 Tryd.underlying59 hi0 hz0 hz1 hz2 rfl (by decide) _ _ _ rfl O3.out (.slice A a.length ca) a.length la rfl (Ia.out.on b8).is La HOa1.out (by unfold maxLen; omega) (by omega) b8'.size ?_)
          intro S4 w9 hown hgrow
          try simp only [Nat.zero_add, List.nil_append] at hown
          obtain ⟨X4, c4, rfl⟩ := oslice hown
          have b9' : Below w7.heap.size w7 w9 := below_grown b8' b8'.size O3.out hgrow
          have b9 := bon b7 b9'
          have Oab9 := Lib.hid (Oab.out.on b9')
          have Oba : Hid (Os' w9 (.slice X4 (b.length + a.length) c4) (b ++ a)) := os_two (g := gb) (h := ga) rfl (by rw [← Hla.out, ← Hlb.out]; exact hown) (fun i hi => (HTb.out i hi).on b9) (fun i hi => (HTa.out i hi).on b9)
          have bD' : Below w9.heap.size w9 (w9.alloc (.cells #[] 40)) := b1c _ _
          have bD := bon b9 bD'
          have O4 := Lib.hid (own0 w9.heap.size w9 40 1 (Nat.le_refl _))
          clear hown hgrow O3 b8
          go_wp2_with (at_builtin; refine wpList_append_in rfl _ _ 39 rfl w9.heap.size 40 j0 _ 1 24 Tryd.underlying39 hj0 hy0 hy1 hy2 rfl (by decide) _ _ _ rfl O4.out v1 l.length xl rfl (Il.out.on bD).is (by omega) HOl1.out (by unfold maxLen; omega) (by omega) bD'.size ?_)
          intro S5 w10 hown hgrow
          try simp only [Nat.zero_add, List.nil_append] at hown
          obtain ⟨X5, c5, rfl⟩ := oslice hown
          have b10' : Below w9.heap.size w9 w10 := below_grown bD' bD'.size O4.out hgrow
          have b10 := bon b9 b10'
          have O5 := Lib.hid hown
          clear hown hgrow O4 bD
          go_wp2_with (at_builtin; refine wpList_append_in rfl _ _ 39 rfl w9.heap.size 40 j0 _ 1 24 Tryd.underlying39 hj0 hy0 hy1 hy2 rfl (by decide) _ _ _ rfl O5.out v2 m.length xm rfl (Im.out.on b10).is (by omega) HOm1.out (by unfold maxLen; omega) (by omega) b10'.size ?_)
          intro S6 w11 hown hgrow
          try simp only [Nat.zero_add, List.nil_append] at hown
          obtain ⟨X6, c6, rfl⟩ := oslice hown
          have b11' : Below w9.heap.size w9 w11 := below_grown b10' b10'.size O5.out hgrow
          have b11 := bon b9 b11'
          have Pab := Lib.hid (Oab9.out.on b11')
          have Pba := Lib.hid (Oba.out.on b11')
          have Olm : Hid (As w11 (.slice X6 (l.length + m.length) c6) (l ++ m)) := as_two xn ym rfl hown (fun i hi u hu => (HTl.out i hi u hu).on b11) (fun i hi u hu => (HTm.out i hi u hu).on b11)
          clear hown hgrow O5 b10
          clear Oab Oab9 Oba b5 b7 b8' b9' b10' b11' b9 bC' bD'
          have HOab : Hid (∀ o ∈ a ++ b, Oh o) := fun o ho => (List.mem_append.1 ho).elim (HOa.out o) (HOb.out o)
          have HOba : Hid (∀ o ∈ b ++ a, Oh o) := fun o ho => (List.mem_append.1 ho).elim (HOb.out o) (HOa.out o)
          have HlmS : Hid (∀ x ∈ l ++ m, x.length ≤ 40 ∧ ∀ t ∈ x, Sh t) := fun x hx => (List.mem_append.1 hx).elim (HlS.out x) (HmS.out x)
          go_wp2_with fail
          refine (met_any v1 _ l a _ (H1.out.on b11) (by omega) (Ha.out.on b11) HOa.out (by omega) HlS.out).mono ?_
          rintro y w12 ⟨rfl, q12⟩
          have b12 := bon b11 q12
          have Pab2 := Lib.hid (Pab.out.on q12)
          have Pba2 := Lib.hid (Pba.out.on q12)
          have Olm2 := Lib.hid (Olm.out.on q12)
          clear Pab Pba Olm q12 b11
          go_wp2_with fail
          refine (met_any v1 _ l (a ++ b) _ (H1.out.on b12) (by omega) Pab2.out HOab.out (by simp; omega) HlS.out).mono ?_
          rintro y w13 ⟨rfl, q13⟩
          have b13 := bon b12 q13
          have Pab3 := Lib.hid (Pab2.out.on q13)
          have Pba3 := Lib.hid (Pba2.out.on q13)
          have Olm3 := Lib.hid (Olm2.out.on q13)
          clear Pab2 Pba2 Olm2 q13 b12
          go_wp2_with fail
          refine (met_any v1 _ l (b ++ a) _ (H1.out.on b13) (by omega) Pba3.out HOba.out (by simp; omega) HlS.out).mono ?_
          rintro y w14 ⟨rfl, q14⟩
          have b14 := bon b13 q14
          have Pab4 := Lib.hid (Pab3.out.on q14)
          have Olm4 := Lib.hid (Olm3.out.on q14)
          clear Pab3 Pba3 Olm3 q14 b13
          go_wp2_with fail
          refine (met_any v2 _ m (a ++ b) _ (H2.out.on b14) (by omega) Pab4.out HOab.out (by simp; omega) HmS.out).mono ?_
          rintro y w15 ⟨rfl, q15⟩
          have b15 := bon b14 q15
          have Pab5 := Lib.hid (Pab4.out.on q15)
          have Olm5 := Lib.hid (Olm4.out.on q15)
          clear Pab4 Olm4 q15 b14
          go_wp2_with fail
          refine (met_any _ _ (l ++ m) (a ++ b) _ Olm5.out (by simp; omega) Pab5.out HOab.out (by simp; omega) HlmS.out).mono ?_
          rintro y w16 ⟨rfl, q16⟩
          have b16 := bon b15 q16
          clear Pab5 Olm5 q16 b15
          have f1 := met_more a b l
          have f2 := met_turn a b l
          have f3 := met_both (a ++ b) l m
          generalize met a l = r1 at *
          generalize met (a ++ b) l = r2 at *
          generalize met (b ++ a) l = r3 at *
          generalize met (a ++ b) m = r4 at *
          generalize met (a ++ b) (l ++ m) = r5 at *
          obtain ⟨i1, x1⟩ := r1
          obtain ⟨i2, x2⟩ := r2
          obtain ⟨i3, x3⟩ := r3
          obtain ⟨i4, x4⟩ := r4
          obtain ⟨i5, x5⟩ := r5
          simp only at f1 f2 f3
          subst f2 f3
          cases x1 <;> cases x2 <;> cases x4
          case true.false.false => exact absurd (f1 rfl) (by decide)
          case true.false.true => exact absurd (f1 rfl) (by decide)
          all_goals
            clear f1
            go_wp2_with fail
            go_loopw [24] (fun i W => ∃ k : Nat, k ≤ a.length ∧ i = .int .i64 k ∧ Below w.heap.size w W) (fun i _ => a.length - (intOf i).toNat)
            case atStart => exact ⟨0, Nat.zero_le _, rfl, b16⟩
            case round =>
              obtain ⟨k3, hk3, rfl, hX⟩ := hrel
              by_cases hlt3 : k3 < a.length
              · obtain ⟨bq, oq, rfl, x, o0, o1, o2, o3, o4, hx⟩ := (Ha.out.on hX).at' k3 hlt3
                obtain ⟨X, cX, rfl⟩ := hx.sl
                have hOm := HOa.out a[k3] (List.getElem_mem hlt3)
                have c1 : ∀ W, Below wr.heap.size wr W → Calls Tryd.prog 28 #[ofv a[k3].n a[k3].e a[k3].u a[k3].r (.slice X a[k3].P.length cX), tv ⟨a[k3].n, 0, 0, [], []⟩] W fun y w' => y = .returned (.bool true) ∧ Below W.heap.size W w' := fun W hW => by
                  have := meets_any a[k3].n a[k3].e a[k3].u a[k3].r (.slice X a[k3].P.length cX) a[k3].P ⟨a[k3].n, 0, 0, [], []⟩ W (hx.on hW) hOm.hP hOm.k ⟨by simp, by simp⟩ hOm.u hOm.r
                  rwa [show mt a[k3].n a[k3].e a[k3].u a[k3].r a[k3].P ⟨a[k3].n, 0, 0, [], []⟩ = true from om_any a[k3] _ rfl rfl] at this
                have c2 : ∀ W, Below wr.heap.size wr W → Calls Tryd.prog 28 #[ofv a[k3].n a[k3].e a[k3].u a[k3].r (.slice X a[k3].P.length cX), tv ⟨a[k3].n, 3, a[k3].e, a[k3].u, a[k3].r⟩] W fun y w' => y = .returned (.bool true) ∧ Below W.heap.size W w' := fun W hW => by
                  have := meets_any a[k3].n a[k3].e a[k3].u a[k3].r (.slice X a[k3].P.length cX) a[k3].P ⟨a[k3].n, 3, a[k3].e, a[k3].u, a[k3].r⟩ W (hx.on hW) hOm.hP hOm.k ⟨hOm.u, hOm.r⟩ hOm.u hOm.r
                  rwa [show mt a[k3].n a[k3].e a[k3].u a[k3].r a[k3].P ⟨a[k3].n, 3, a[k3].e, a[k3].u, a[k3].r⟩ = true from om_same a[k3] _ rfl rfl rfl rfl rfl (cv_same _ _ _)] at this
                have C1 := Lib.hid c1
                have C2 := Lib.hid c2
                have Hx := Lib.hid hx
                have HOm := Lib.hid hOm
                clear c1 c2 hx hOm
                have d1 : ∀ d os, Calls Tryd.prog 28 #[ofv a[k3].n a[k3].e a[k3].u a[k3].r (.slice X a[k3].P.length cX), .agg #[.string ⟨a[k3].n.toArray⟩, .int .i64 0, .int .i64 0, .string ⟨#[]⟩, .string ⟨#[]⟩]] (grow (redrawn wr d) os) fun y w'' => y = .returned (.bool true) ∧ ∃ p : Regrown, w'' = grow (redrawn wr p.d) p.os := fun d os => Calls.regrown_of (C1.out _ (below_regrown wr d os))
                have d2 : ∀ d os, Calls Tryd.prog 28 #[ofv a[k3].n a[k3].e a[k3].u a[k3].r (.slice X a[k3].P.length cX), .agg #[.string ⟨a[k3].n.toArray⟩, .int .i64 3, .int .i64 a[k3].e, .string ⟨a[k3].u.toArray⟩, .string ⟨a[k3].r.toArray⟩]] (grow (redrawn wr d) os) fun y w'' => y = .returned (.bool true) ∧ ∃ p : Regrown, w'' = grow (redrawn wr p.d) p.os := fun d os => Calls.regrown_of (C2.out _ (below_regrown wr d os))
                have r0 := cell_regrown o0
                have r1 := cell_regrown o1
                have r2 := cell_regrown o2
                have r3 := cell_regrown o3
                have r4 := cell_regrown o4
                go_wp2_with fail
                refine wp_region_quiet_below (by kernel_rfl) (by kernel_rfl) ?_
                repeat (any_goals (first | go_big_quiet_step ((first | with_reducible exact d1 _ _ | with_reducible exact d2 _ _)) | quiet_step ((first | with_reducible exact d1 _ _ | with_reducible exact d2 _ _))))
                refine wpQuiet_nil ?_
                intro wz hwz
                have bz : Below wr.heap.size wr wz := rgb (Below.refl wr.heap.size wr) hwz (Nat.le_refl _)
                have hZ := bon hX bz
                have z0 : wz.cell? ⟨bq, oq + k3 * 5, none⟩ = some (.string ⟨a[k3].n.toArray⟩) := by rw [bz.cell (block_lt_of_cell o0)]; exact o0
                have z1 : wz.cell? ⟨bq, oq + k3 * 5 + 1, none⟩ = some (.int .i64 a[k3].e) := by rw [bz.cell (block_lt_of_cell o1)]; exact o1
                have z2 : wz.cell? ⟨bq, oq + k3 * 5 + 2, none⟩ = some (.string ⟨a[k3].u.toArray⟩) := by rw [bz.cell (block_lt_of_cell o2)]; exact o2
                have z3 : wz.cell? ⟨bq, oq + k3 * 5 + 3, none⟩ = some (.string ⟨a[k3].r.toArray⟩) := by rw [bz.cell (block_lt_of_cell o3)]; exact o3
                have z4 : wz.cell? ⟨bq, oq + k3 * 5 + 4, none⟩ = some (.slice X a[k3].P.length cX) := by rw [bz.cell (block_lt_of_cell o4)]; exact o4
                have Hz := Lib.hid (Hx.out.on bz)
                have hPk := HOm.out.k
                clear d1 d2 r0 r1 r2 r3 r4 hwz o0 o1 o2 o3 o4 C1 C2 Hx bz hX
                go_wp2_with fail
                go_loopw [25] (fun i W => ∃ j : Nat, j ≤ a[k3].P.length ∧ i = .int .i64 j ∧ Below wz.heap.size wz W) (fun i _ => a[k3].P.length - (intOf i).toNat)
                case atStart => exact ⟨0, Nat.zero_le _, rfl, Below.refl _ _⟩
                case round =>
                  obtain ⟨j, hj, rfl, hJ⟩ := hrel
                  have y0 : wr.cell? ⟨bq, oq + k3 * 5, none⟩ = some (.string ⟨a[k3].n.toArray⟩) := by rw [hJ.cell (block_lt_of_cell z0)]; exact z0
                  have y1 : wr.cell? ⟨bq, oq + k3 * 5 + 1, none⟩ = some (.int .i64 a[k3].e) := by rw [hJ.cell (block_lt_of_cell z1)]; exact z1
                  have y2 : wr.cell? ⟨bq, oq + k3 * 5 + 2, none⟩ = some (.string ⟨a[k3].u.toArray⟩) := by rw [hJ.cell (block_lt_of_cell z2)]; exact z2
                  have y3 : wr.cell? ⟨bq, oq + k3 * 5 + 3, none⟩ = some (.string ⟨a[k3].r.toArray⟩) := by rw [hJ.cell (block_lt_of_cell z3)]; exact z3
                  have y4 : wr.cell? ⟨bq, oq + k3 * 5 + 4, none⟩ = some (.slice X a[k3].P.length cX) := by rw [hJ.cell (block_lt_of_cell z4)]; exact z4
                  by_cases hjl : j < a[k3].P.length
                  · obtain ⟨bx, ox, rfl, e0, _, _, _, _⟩ := (Hz.out.on hJ).at' j hjl
                    have d3 : ∀ d os, Calls Tryd.prog 28 #[ofv a[k3].n a[k3].e a[k3].u a[k3].r (.slice (some ⟨bx, ox, none⟩) a[k3].P.length cX), .agg #[.string ⟨a[k3].P[j].n.toArray⟩, .int .i64 0, .int .i64 0, .string ⟨#[]⟩, .string ⟨#[]⟩]] (grow (redrawn wr d) os) fun y w'' => y = .returned (.bool true) ∧ ∃ p : Regrown, w'' = grow (redrawn wr p.d) p.os := fun d os => Calls.regrown_of (by
                      have := meets_any a[k3].n a[k3].e a[k3].u a[k3].r (.slice (some ⟨bx, ox, none⟩) a[k3].P.length cX) a[k3].P ⟨a[k3].P[j].n, 0, 0, [], []⟩ _ ((Hz.out.on hJ).on (below_regrown wr d os)) HOm.out.hP HOm.out.k ⟨by simp, by simp⟩ HOm.out.u HOm.out.r
                      rwa [show mt a[k3].n a[k3].e a[k3].u a[k3].r a[k3].P ⟨a[k3].P[j].n, 0, 0, [], []⟩ = true from om_prov a[k3] a[k3].P[j] _ (List.getElem_mem hjl) rfl rfl] at this)
                    have r0 := cell_regrown y0
                    have r1 := cell_regrown y1
                    have r2 := cell_regrown y2
                    have r3 := cell_regrown y3
                    have r4 := cell_regrown y4
                    have r5 := cell_regrown e0
                    go_wp2_with fail
                    refine wp_region_quiet_below (by kernel_rfl) (by kernel_rfl) ?_
                    repeat (any_goals (first | go_big_quiet_step (with_reducible exact d3 _ _) | quiet_step (with_reducible exact d3 _ _)))
                    refine wpQuiet_nil ?_
                    intro wy hwy
                    have by' : Below wr.heap.size wr wy := rgb (Below.refl wr.heap.size wr) hwy (Nat.le_refl _)
                    clear d3 r0 r1 r2 r3 r4 r5 hwy y0 y1 y2 y3 y4 e0
                    go_wp2_with fail
                    exact ⟨⟨j + 1, hjl, by go_num, bon hJ by'⟩, by simp [intOf]; omega⟩
                  · go_wp2_with fail
                    exact ⟨⟨k3 + 1, hlt3, by go_num, bon hZ hJ⟩, by simp [intOf]; omega⟩
              · go_wp2_with fail
                go_ret
                exact ⟨rfl, hX⟩
end Go.Proofs.YtkaeiofolknoeabDoor
