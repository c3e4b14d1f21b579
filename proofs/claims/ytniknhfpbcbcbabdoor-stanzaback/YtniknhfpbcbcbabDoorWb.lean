/- The walk of the law StanzaBack. -/
import Derived.Test.YtniknhfpbcbcbabDoorWa
namespace Go.Proofs.YtniknhfpbcbcbabDoor
open Go.RowKit Go.Shelf Go.Sort

set_option maxHeartbeats 1600000 in
set_option maxRecDepth 100000 in
theorem back_no1 (va vb : Value) (a : List Sm.F) (s : List UInt8) (w : World) (ha : Sl w va a) (h : fo a = false) :
    Calls Tryd.prog 3 #[va, vb, .string ⟨s.toArray⟩] w fun x w' => x = .returned (.bool true) ∧ Below w.heap.size w w' := by
  have cF := fo_any va a w ha
  rw [h] at cF
  go_enter Tryd.func3, Tryd.ntmps3
  go_wp2_with (go_at_call 7; with_reducible refine cF.mono ?_; rintro x w' ⟨rfl, rfl⟩)
  go_ret
  exact ⟨rfl, Below.refl _ _⟩
set_option maxHeartbeats 1600000 in
set_option maxRecDepth 100000 in
theorem back_no2 (va vb : Value) (a b : List Sm.F) (s : List UInt8) (w : World) (ha : Sl w va a) (hb : Sl w vb b) (h : fo a = true) (h2 : fo b = false) :
    Calls Tryd.prog 3 #[va, vb, .string ⟨s.toArray⟩] w fun x w' => x = .returned (.bool true) ∧ Below w.heap.size w w' := by
  have cF := fo_any va a w ha
  have cG := fo_any vb b w hb
  rw [h] at cF
  rw [h2] at cG
  go_enter Tryd.func3, Tryd.ntmps3
  go_wp2_with (first | (go_at_call 7; with_reducible refine cF.mono ?_; rintro x w' ⟨rfl, rfl⟩) | (go_at_call 7; with_reducible refine cG.mono ?_; rintro x w' ⟨rfl, rfl⟩))
  go_ret
  exact ⟨rfl, Below.refl _ _⟩
set_option maxHeartbeats 1600000 in
set_option maxRecDepth 100000 in
theorem back_long (va vb : Value) (a b : List Sm.F) (s : List UInt8) (w : World) (ha : Sl w va a) (hb : Sl w vb b) (h : fo a = true) (h2 : fo b = true) (hs : 1000 < s.length) :
    Calls Tryd.prog 3 #[va, vb, .string ⟨s.toArray⟩] w fun x w' => x = .returned (.bool true) ∧ Below w.heap.size w w' := by
  have cF := fo_any va a w ha
  have cG := fo_any vb b w hb
  rw [h] at cF
  rw [h2] at cG
  go_enter Tryd.func3, Tryd.ntmps3
  go_wp2_with (first | (go_at_call 7; with_reducible refine cF.mono ?_; rintro x w' ⟨rfl, rfl⟩) | (go_at_call 7; with_reducible refine cG.mono ?_; rintro x w' ⟨rfl, rfl⟩))
  go_ret
  exact ⟨rfl, Below.refl _ _⟩

theorem nok_of {l : List Sm.F} {f : Sm.F} (h : Sm.fok l f = true) : Sm.nok f.1 = true := by
  unfold Sm.fok at h; simp only [Bool.and_eq_true] at h; exact h.1.1
/-- The text of two stanzas. -/
def two (a b : List Sm.F) : List UInt8 := [10] ++ Sm.txt a ++ between ++ Sm.txt b ++ [10]
theorem two_bytes (a b : List Sm.F) (t u : List UInt8) (ht : t = Sm.txt a) (hu : u = Sm.txt b) : ByteArray.mk #[10] ++ ByteArray.mk t.toArray ++ ByteArray.mk #[35, 32, 114, 101, 109, 97, 114, 107, 58, 32, 120, 10, 32, 10, 10] ++ ByteArray.mk u.toArray ++ ByteArray.mk #[10] = ⟨(two a b).toArray⟩ := by
  apply ByteArray.ext; simp [two, between, ht, hu]
theorem txt_most {l : List Sm.F} (h : Sm.rgt l = true) : (Sm.txt l).length ≤ 4000 := by
  unfold Sm.rgt at h; simp only [Bool.and_eq_true, decide_eq_true_eq] at h; exact h.2

set_option maxHeartbeats 6400000 in
set_option maxRecDepth 100000 in
theorem back_main (va vb : Value) (a b : List Sm.F) (s : List UInt8) (w : World) (ha : Sl w va a) (hb : Sl w vb b) (h : fo a = true) (h2 : fo b = true) (hs : s.length ≤ 1000) :
    Calls Tryd.prog 3 #[va, vb, .string ⟨s.toArray⟩] w fun x w' => x = .returned (.bool true) ∧ Below w.heap.size w w' := by
  have cF := fo_any va a w ha
  have cG := fo_any vb b w hb
  rw [h] at cF
  rw [h2] at cG
  have hza := sz_of h
  have hzb := sz_of h2
  have P1 := Lib.hid (fun W (hW : Sl W va a) => print_any va a W hW hza)
  have P2 := Lib.hid (fun W (hW : Sl W vb b) => print_any vb b W hW hzb)
  have HSa := Lib.hid ha
  have HSb := Lib.hid hb
  have Hza := Lib.hid hza
  have Hzb := Lib.hid hzb
  have hq : (Sm.rgt a = true ∧ Sm.rgt b = true) ∨ (Sm.rgt a = true ∧ Sm.rgt b = false) ∨ Sm.rgt a = false := by
    cases Sm.rgt a <;> cases Sm.rgt b <;> simp
  clear ha hb h h2 hza hzb
  go_enter Tryd.func3, Tryd.ntmps3
  go_wp2_with (first | (go_at_call 7; with_reducible refine cF.mono ?_; rintro x w' ⟨rfl, rfl⟩) | (go_at_call 7; with_reducible refine cG.mono ?_; rintro x w' ⟨rfl, rfl⟩))
  clear cF cG
  refine (lined_any _).mono ?_
  rintro e w1 ⟨rfl, b1⟩
  go_wp2_with fail
  refine (P1.out _ (HSa.out.on b1)).mono ?_
  rintro e w2 ⟨rfl, b2'⟩
  have b2 := onn b1 b2'
  clear b2' P1
  unfold prVal
  rcases hq with ⟨q1, q2⟩ | ⟨q1, q2⟩ | q1
  case' inl =>
    obtain ⟨t, ht⟩ : ∃ t, t = Sm.txt a := ⟨_, rfl⟩
    obtain ⟨u, hu⟩ : ∃ u, u = Sm.txt b := ⟨_, rfl⟩
    have htl : t.length ≤ 4000 := by rw [ht]; exact txt_most q1
    have hul : u.length ≤ 4000 := by rw [hu]; exact txt_most q2
    have A := fun W => parse_any (two a b) W (by unfold two between; simp [← ht, ← hu]; omega)
    rw [show Sm.spl (two a b) = Sm.spl ([10] ++ Sm.txt a ++ between ++ Sm.txt b ++ [10]) from rfl, run_two q1 q2] at A
    have HA := Lib.hid A
    have HT := Lib.hid (two_bytes a b t u ht hu)
    have HU := Lib.hid (show prVal b (.iface 43 (.int .i64 1)) .nilIface = .tuple #[.string ⟨u.toArray⟩, .nilIface] from by unfold prVal; rw [if_pos q2, hu])
    rw [if_pos q1, ← ht]
    clear A ht hu q1 q2
    go_wp2_with fail
    refine (P2.out _ (HSb.out.on b2)).mono ?_
    rintro e w3 ⟨rfl, b3'⟩
    have b3 := onn b2 b3'
    rw [HU.out]
    clear b3' P2 HU b2 b1
    go_wp2_with fail
    rw [HT.out]
    refine (HA.out _).mono ?_
    rintro e w4 ⟨S, vs, rfl, o1, l1, r1, b4'⟩
    have R := rw_of o1 l1 r1
    have b4 := onn b3 b4'
    clear o1 l1 r1 HA HT b4' b3
    obtain ⟨g, c, v, rfl, k0, s0⟩ := R.at' 0 (by simp)
    obtain ⟨g', c', v', e1, k1, s1⟩ := R.at' 1 (by simp)
    cases e1
    have Hs0 : Hid (Sl w4 v a) := s0
    have Hs1 : Hid (Sl w4 v' b) := s1
    clear R s0 s1
    go_wp2_with fail
    refine (same_any v va a _ Hs0.out (HSa.out.on b4) (by have := Hza.out.n; omega)).mono ?_
    rintro e w5 ⟨rfl, b5'⟩
    have k15 : w5.cell? ⟨g, 1, none⟩ = some v' := by rw [b5'.cell (block_lt_of_cell k1)]; exact k1
    have b5 := onn b4 b5'
    have Hs2 := Lib.hid (Hs1.out.on b5')
    clear k0 k1 Hs0 Hs1 b5' b4
    go_wp2_with fail
    refine (same_any v' vb b _ Hs2.out (HSb.out.on b5) (by have := Hzb.out.n; omega)).mono ?_
    rintro e w6 ⟨rfl, b6'⟩
    have b6 := onn b5 b6'
    clear Hs2 b6' b5 k15
    go_wp2_with fail
  case' inr.inl =>
    have HU := Lib.hid (show prVal b (.iface 43 (.int .i64 1)) .nilIface = .tuple #[.string ⟨#[]⟩, .iface 43 (.int .i64 1)] from by unfold prVal; rw [if_neg (by simp [q2])])
    rw [if_pos q1]
    obtain ⟨t, ht⟩ : ∃ t, t = Sm.txt a := ⟨_, rfl⟩
    rw [← ht]
    clear q1 q2 ht
    go_wp2_with fail
    refine (P2.out _ (HSb.out.on b2)).mono ?_
    rintro e w6 ⟨rfl, b6'⟩
    have b6 := onn b2 b6'
    rw [HU.out]
    clear b6' P2 HU b2 b1
    go_wp2_with fail
  case' inr.inr =>
    obtain ⟨t, er, HU0⟩ : ∃ (t : List UInt8) (er : Value), prVal b (.iface 43 (.int .i64 1)) .nilIface = .tuple #[.string ⟨t.toArray⟩, er] := by
      unfold prVal
      split
      · exact ⟨_, _, rfl⟩
      · exact ⟨[], _, rfl⟩
    have HU := Lib.hid HU0
    clear HU0
    rw [if_neg (by simp [q1])]
    clear q1
    go_wp2_with fail
    refine (P2.out _ (HSb.out.on b2)).mono ?_
    rintro e w6 ⟨rfl, b6'⟩
    have b6 := onn b2 b6'
    rw [HU.out]
    clear b6' P2 HU b2 b1
    go_wp2_with fail
  all_goals
    have A := parse_any s w6 (by omega)
    cases hres : run 0 [] [] (Sm.spl s) with
    | error n =>
      rw [hres] at A
      refine A.mono ?_
      rintro e w7 ⟨p, rfl, _, b7'⟩
      clear A hres
      go_wp2_with fail
      go_ret
      exact ⟨rfl, onn b6 b7'⟩
    | ok o =>
      rw [hres] at A
      obtain ⟨hor, hol⟩ := read_right hs hres
      refine A.mono ?_
      rintro e w7 ⟨S, vs, rfl, o1, l1, r1, b7'⟩
      have R := rw_of o1 l1 r1
      have b7 := onn b6 b7'
      obtain ⟨A7, c7, rfl⟩ := R.ex
      have HR := Lib.hid R
      have HO := Lib.hid hor
      clear A hres R hor o1 l1 r1 b7' b6 HSa HSb Hza Hzb
      go_wp2_with fail
      go_loopw [15] (fun i W => ∃ k : Nat, k ≤ o.length ∧ i = .int .i64 k ∧ Below w7.heap.size w7 W) (fun i _ => o.length - (intOf i).toNat)
      case atStart => exact ⟨0, Nat.zero_le _, rfl, Below.refl _ _⟩
      case round =>
        obtain ⟨k, hk, rfl, hW⟩ := hrel
        by_cases hlt : k < o.length
        · obtain ⟨g1, d1, v1, e1, q1, s1⟩ := (HR.out.on hW).at' k hlt
          cases e1
          obtain ⟨hxr, hxz⟩ := HO.out o[k] (List.getElem_mem hlt)
          generalize o[k] = x at s1 hxr hxz
          obtain ⟨t, ht⟩ : ∃ t, t = Sm.txt x := ⟨_, rfl⟩
          have htl : t.length ≤ 4000 := by rw [ht]; exact txt_most hxr
          have A2 := fun W => parse_any t W (by omega)
          have hrt := run_txt hxr
          rw [← ht] at hrt
          rw [hrt] at A2
          have H2 := Lib.hid A2
          have HP := Lib.hid (print_any v1 x wr s1 hxz)
          have HV := Lib.hid (show prVal x (.iface 43 (.int .i64 1)) .nilIface = .tuple #[.string ⟨t.toArray⟩, .nilIface] from by unfold prVal; rw [if_pos hxr, ht])
          have Hs1 := Lib.hid s1
          have Hxr := Lib.hid hxr
          have Hxz := Lib.hid hxz
          clear A2 hrt ht s1 hxr hxz
          go_wp2_with fail
          refine HP.out.mono ?_
          rintro e w8 ⟨rfl, b8⟩
          rw [HV.out]
          clear HP HV
          go_wp2_with fail
          refine (H2.out _).mono ?_
          rintro e w9 ⟨S9, vs9, rfl, p1, p2, p3, b9'⟩
          have R9 := rw_of p1 p2 p3
          have b9 := onn b8 b9'
          obtain ⟨g9, d9, v9, rfl, q9, s9⟩ := R9.at' 0 (by simp)
          have Hs9 : Hid (Sl w9 v9 x) := s9
          have q1' : w9.cell? ⟨g1, k, none⟩ = some v1 := by rw [b9.cell (block_lt_of_cell q1)]; exact q1
          have Hs1' := Lib.hid (Hs1.out.on b9)
          clear p1 p2 p3 R9 s9 H2 b8 b9'
          go_wp2_with fail
          have k1 := cell_regrown q1'
          have k9 := cell_regrown q9
          have d1 : ∀ d os, Calls Tryd.prog 11 #[v9, v1] (grow (redrawn w9 d) os) fun x w'' => x = .returned (.bool true) ∧ ∃ p : Regrown, w'' = grow (redrawn w9 p.d) p.os := fun d os => Calls.regrown_of (same_any v9 v1 x _ (Hs9.out.on (below_regrown w9 d os)) (Hs1'.out.on (below_regrown w9 d os)) (by have := Hxz.out.n; omega))
          clear Hs9 Hs1'
          refine wp_region_quiet_below (by kernel_rfl) (by kernel_rfl) ?_
          repeat (any_goals (first | go_big_quiet_step (with_reducible exact d1 _ _) | quiet_step (with_reducible exact d1 _ _)))
          refine wpQuiet_nil ?_
          intro wq hwq
          have bq := rg b9 hwq
          have hWq := onn hW bq
          have q1q : wq.cell? ⟨g1, k, none⟩ = some v1 := by rw [bq.cell (block_lt_of_cell q1)]; exact q1
          have Hsq := Lib.hid (Hs1.out.on bq)
          clear d1 k1 k9 q1' q9 b9 hwq bq q1 Hs1
          rcases Hsq.out.is with ⟨h0, _⟩ | ⟨bb, oo, cc, rfl, _, hf⟩
          · exact absurd h0 (rgt_parts Hxr.out).1
          · have HFl := Lib.hid hf
            have hxn : x.length ≤ 60 := Hxz.out.n
            clear hf
            go_wp2_with fail
            go_loopw [19] (fun i W => ∃ j : Nat, j ≤ x.length ∧ i = .int .i64 j ∧ Below wq.heap.size wq W) (fun i _ => x.length - (intOf i).toNat)
            case atStart => exact ⟨0, Nat.zero_le _, rfl, Below.refl _ _⟩
            case round =>
              obtain ⟨j, hj, rfl, hV⟩ := hrel
              have y1 : wr.cell? ⟨g1, k, none⟩ = some (.slice (some ⟨bb, oo, none⟩) x.length cc) := by rw [hV.cell (block_lt_of_cell q1q)]; exact q1q
              by_cases hjl : j < x.length
              · have c0 := (HFl.out.on hV).c0 j hjl
                have c1 := (HFl.out.on hV).c1 j hjl
                have hfk := (rgt_parts Hxr.out).2.2
                have hnm := (nok_parts (nok_of (hfk j hjl))).1
                obtain ⟨up, hup⟩ : ∃ u, u = Lib.toUpperA x[j].1 := ⟨_, rfl⟩
                have hul : up.length ≤ 1000000 := by rw [hup]; have := (Hxz.out.s x[j] (List.getElem_mem hjl)).1; simp [Lib.toUpperA]; omega
                have hge : Sm.gets x up = some x[j].2 := gets_some (fnd_at hfk j hjl up (by rw [hup, small_up]))
                have d13 : ∀ d os, Calls Tryd.prog 13 #[.string ⟨x[j].1.toArray⟩] (grow (redrawn wr d) os) fun y w'' => y = .returned (.string ⟨up.toArray⟩) ∧ ∃ p : Regrown, w'' = grow (redrawn wr p.d) p.os := fun d os => Calls.regrown_of (by rw [hup]; exact upper_any x[j].1 _ hnm (by have := (Hxz.out.s x[j] (List.getElem_mem hjl)).1; omega))
                have d12 : ∀ d os, Calls Tryd.prog 12 #[.slice (some ⟨bb, oo, none⟩) x.length cc, .string ⟨up.toArray⟩] (grow (redrawn wr d) os) fun y w'' => y = .returned (.tuple #[.string ⟨x[j].2.toArray⟩, .bool true]) ∧ ∃ p : Regrown, w'' = grow (redrawn wr p.d) p.os := fun d os => Calls.regrown_of (by
                  have := get_any (.slice (some ⟨bb, oo, none⟩) x.length cc) x up _ ((Hsq.out.on hV).on (below_regrown wr d os)) Hxz.out hul
                  rw [hge] at this; exact this)
                have k1 := cell_regrown y1
                have k2 := cell_regrown c0
                clear hfk hnm hup hul hge
                go_wp2_with fail
                refine wp_region_quiet_below (by kernel_rfl) (by kernel_rfl) ?_
                repeat (any_goals (first | go_big_quiet_step ((first | with_reducible exact d13 _ _ | with_reducible exact d12 _ _)) | quiet_step ((first | with_reducible exact d13 _ _ | with_reducible exact d12 _ _))))
                refine wpQuiet_nil ?_
                intro wz hwz
                have bz := rg (Below.refl wr.heap.size wr) hwz
                have z1 : wz.cell? ⟨g1, k, none⟩ = some (.slice (some ⟨bb, oo, none⟩) x.length cc) := by rw [bz.cell (block_lt_of_cell y1)]; exact y1
                have z2 : wz.cell? ⟨bb, oo + j * 2 + 1, none⟩ = some (.string ⟨x[j].2.toArray⟩) := by rw [bz.cell (block_lt_of_cell c1)]; exact c1
                clear d13 d12 k1 k2 hwz y1 c0 c1
                go_wp2_with fail
                exact ⟨⟨j + 1, hjl, by go_num, onn hV bz⟩, by simp [intOf]; omega⟩
              · go_wp2_with fail
                exact ⟨⟨k + 1, hlt, by go_num, onn hWq hV⟩, by simp [intOf]; omega⟩
        · go_wp2
          go_ret
          exact ⟨rfl, onn b7 hW⟩

theorem back_any (va vb : Value) (a b : List Sm.F) (s : List UInt8) (w : World) (ha : Sl w va a) (hb : Sl w vb b) :
    Calls Tryd.prog 3 #[va, vb, .string ⟨s.toArray⟩] w fun x w' => x = .returned (.bool true) ∧ Below w.heap.size w w' := by
  cases h1 : fo a with
  | false => exact back_no1 va vb a s w ha h1
  | true =>
    cases h2 : fo b with
    | false => exact back_no2 va vb a b s w ha hb h1 h2
    | true =>
      by_cases hs : s.length ≤ 1000
      · exact back_main va vb a b s w ha hb h1 h2 hs
      · exact back_long va vb a b s w ha hb h1 h2 (by omega)
end Go.Proofs.YtniknhfpbcbcbabDoor
