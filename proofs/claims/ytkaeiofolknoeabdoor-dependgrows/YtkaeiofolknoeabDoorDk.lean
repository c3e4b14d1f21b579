/- The walk of the law DependMeets. -/
import Derived.Test.YtkaeiofolknoeabDoorDj
namespace Go.Proofs.YtkaeiofolknoeabDoor
open Go.RowKit Go.Sort

theorem As.at' {W : World} {A : Option Addr} {n c : Nat} {l : List (List Tm)} (h : As W (.slice A n c) l) (k : Nat) (hk : k < l.length) : ∃ b o, A = some ⟨b, o, none⟩ ∧ ∃ v, W.cell? ⟨b, o + k, none⟩ = some v ∧ Ts W v l[k] := by
  rcases h.is with ⟨rfl, _⟩ | ⟨b, o, c', e, _, hf⟩
  · simp at hk
  · cases e; exact ⟨b, o, rfl, hf.c k hk⟩
theorem Os'.at' {W : World} {A : Option Addr} {n c : Nat} {l : List Ofr} (h : Os' W (.slice A n c) l) (k : Nat) (hk : k < l.length) : ∃ b o, A = some ⟨b, o, none⟩ ∧ ∃ v, W.cell? ⟨b, o + k * 5, none⟩ = some (.string ⟨l[k].n.toArray⟩) ∧ W.cell? ⟨b, o + k * 5 + 1, none⟩ = some (.int .i64 l[k].e) ∧ W.cell? ⟨b, o + k * 5 + 2, none⟩ = some (.string ⟨l[k].u.toArray⟩) ∧
    W.cell? ⟨b, o + k * 5 + 3, none⟩ = some (.string ⟨l[k].r.toArray⟩) ∧ W.cell? ⟨b, o + k * 5 + 4, none⟩ = some v ∧ Ts W v l[k].P := by
  rcases h.is with ⟨rfl, _⟩ | ⟨b, o, c', e, hf⟩
  · simp at hk
  · cases e; exact ⟨b, o, rfl, hf.c k hk⟩
theorem rgb {B : Nat} {a w w' : World} (h : Below B a w) (hw : ∃ p : Regrown, w' = grow (redrawn w p.d) p.os) (hB : B ≤ w.heap.size) : Below B a w' := by
  obtain ⟨p, rfl⟩ := hw
  exact h.trans ((below_regrown w p.d p.os).mono hB)
theorem tla_parts {l : List (List Tm)} (h : tla l = true) : l.length ≤ 40 ∧ ∀ x ∈ l, x.length ≤ 40 ∧ ∀ t ∈ x, Sh t := by
  unfold tla at h
  simp only [Bool.and_eq_true, decide_eq_true_eq, List.all_eq_true] at h
  refine ⟨h.1, fun x hx => ?_⟩
  have h2 := h.2 x hx
  unfold fla at h2
  simp only [Bool.and_eq_true, decide_eq_true_eq, List.all_eq_true] at h2
  exact ⟨h2.1, fun t ht => sh_of (h2.2 t ht)⟩

set_option maxHeartbeats 1600000 in
set_option maxRecDepth 100000 in
theorem dmeets_no (v vQ : Value) (l : List (List Tm)) (w : World) (hl : As w v l) (h : tla l = false) : Calls Tryd.prog 5 #[v, vQ] w fun x w' => x = .returned (.bool true) ∧ Below w.heap.size w w' := by
  have cT := terms_any v l w hl
  rw [h] at cT
  go_enter Tryd.func5, Tryd.ntmps5
  go_wp2_with (go_at_call 14; refine cT.mono ?_; rintro x w1 ⟨rfl, b1⟩)
  go_ret
  exact ⟨rfl, b1⟩
set_option maxHeartbeats 1600000 in
set_option maxRecDepth 100000 in
theorem dmeets_long (v vQ : Value) (l : List (List Tm)) (Q : List Pck) (w : World) (hl : As w v l) (hv : Ps w vQ Q) (h : tla l = true) (hq : 20 < Q.length) : Calls Tryd.prog 5 #[v, vQ] w fun x w' => x = .returned (.bool true) ∧ Below w.heap.size w w' := by
  have cT := terms_any v l w hl
  rw [h] at cT
  obtain ⟨A, c, rfl⟩ := hv.sl
  clear hv hl h
  go_enter Tryd.func5, Tryd.ntmps5
  go_wp2_with (go_at_call 14; refine cT.mono ?_; rintro x w1 ⟨rfl, b1⟩)
  go_ret
  exact ⟨rfl, b1⟩

set_option maxHeartbeats 6400000 in
set_option maxRecDepth 100000 in
theorem dmeets_main (v vQ : Value) (l : List (List Tm)) (Q : List Pck) (w : World) (hl : As w v l) (hv : Ps w vQ Q) (h : tla l = true) (hq : Q.length ≤ 20) : Calls Tryd.prog 5 #[v, vQ] w fun x w' => x = .returned (.bool true) ∧ Below w.heap.size w w' := by
  have cT := terms_any v l w hl
  rw [h] at cT
  obtain ⟨hn, hS⟩ := tla_parts h
  obtain ⟨A, c, rfl⟩ := hv.sl
  have HL := Lib.hid hl
  have HV := Lib.hid hv
  have HS := Lib.hid hS
  clear hl hv hS h
  go_enter Tryd.func5, Tryd.ntmps5
  go_wp2_with (go_at_call 14; refine cT.mono ?_; rintro x w1 ⟨rfl, b1⟩)
  clear cT
  go_loopw [5] (fun i W => ∃ k : Nat, k ≤ Q.length ∧ i = .int .i64 k ∧ Below w.heap.size w W ∧ Hid (∀ j (hj : j < Q.length), j < k → Oh Q[j].o)) (fun i _ => Q.length - (intOf i).toNat)
  case atStart => exact ⟨0, Nat.zero_le _, rfl, b1, fun j _ h => absurd h (Nat.not_lt_zero _)⟩
  case round =>
    obtain ⟨k, hk, rfl, hW, HN⟩ := hrel
    by_cases hlt : k < Q.length
    · obtain ⟨bq, oq, rfl, vD, vA, vG, vB, vR, vP, vS, vL, vF, pc, pz⟩ := (HV.out.on hW).at' k hlt
      have cM := says_any Q[k] vD vA vG vB vR vP vS vL vF wr pz
      have HM := Lib.hid cM
      have p0 := pc.c0
      have p1 := pc.c1
      have p2 := pc.c2
      have p3 := pc.c3
      have p4 := pc.c4
      have p5 := pc.c5
      have p6 := pc.c6
      have p7 := pc.c7
      have p8 := pc.c8
      have p9 := pc.c9
      have p10 := pc.c10
      have p11 := pc.c11
      have p12 := pc.c12
      clear cM pc pz
      go_wp2_with fail
      refine HM.out.mono ?_
      rintro x w2 ⟨⟨y, rfl, hy⟩, bw⟩
      cases y with
      | false =>
        go_wp2_with fail
        go_ret
        exact ⟨rfl, bon hW bw⟩
      | true =>
        have HG : Hid (∀ j (hj : j < Q.length), j < k + 1 → Oh Q[j].o) := fun j hj h => by
          by_cases e2 : j = k
          · subst e2; exact hy rfl
          · exact HN.out j hj (by omega)
        clear hy
        go_wp2_with fail
        exact ⟨⟨k + 1, hlt, by go_num, bon hW bw, HG⟩, by simp [intOf]; omega⟩
    · have hOh : ∀ p ∈ Q, Oh p.o := fun p hp => by
        obtain ⟨j, hj, rfl⟩ := List.getElem_of_mem hp
        exact HN.out j hj (by omega)
      have HOh := Lib.hid hOh
      have HP1 := Lib.hid (offers_any (.slice A Q.length c) Q wr (HV.out.on hW) (by omega))
      clear HN hOh
      generalize wr = wA at *
      go_wp2_with fail
      refine HP1.out.mono ?_
      rintro x w2 ⟨S, rfl, hOs, bw2⟩
      have b2 := bon hW bw2
      have HOs := Lib.hid hOs
      clear hOs bw2 HP1 hW
      go_wp2_with fail
      refine (rmet_any v (.slice A Q.length c) l Q _ (HL.out.on b2) (by omega) (HV.out.on b2) HOh.out (by omega) HS.out).mono ?_
      rintro x w3 ⟨rfl, bw3⟩
      have b3 := bon b2 bw3
      have HO3 := Lib.hid (HOs.out.on bw3)
      clear HOs bw3 b2
      go_wp2_with fail
      refine (met_any v S l (Q.map (·.o)) _ (HL.out.on b3) (by omega) HO3.out (fun o ho => by obtain ⟨p, hp, rfl⟩ := List.mem_map.1 ho; exact HOh.out p hp) (by simp; omega) HS.out).mono ?_
      rintro x w4 ⟨rfl, bw4⟩
      have b4 := bon b3 bw4
      have HO4 := Lib.hid (HO3.out.on bw4)
      clear HO3 bw4 b3
      generalize met (Q.map (·.o)) l = r
      obtain ⟨AO, cO, rfl⟩ := HO4.out.sl
      obtain ⟨AL, cL, rfl⟩ := HL.out.sl
      have hml : (Q.map (·.o)).length = Q.length := by simp
      rw [hml] at HO4 ⊢
      have H5 : Hid (∀ k (hk : k < Q.length) W, Below w4.heap.size w4 W → ∃ b o, AO = some ⟨b, o, none⟩ ∧ ∃ v, W.cell? ⟨b, o + k * 5, none⟩ = some (.string ⟨Q[k].o.n.toArray⟩) ∧ W.cell? ⟨b, o + k * 5 + 1, none⟩ = some (.int .i64 Q[k].o.e) ∧ W.cell? ⟨b, o + k * 5 + 2, none⟩ = some (.string ⟨Q[k].o.u.toArray⟩) ∧
          W.cell? ⟨b, o + k * 5 + 3, none⟩ = some (.string ⟨Q[k].o.r.toArray⟩) ∧ W.cell? ⟨b, o + k * 5 + 4, none⟩ = some v ∧ Ts W v Q[k].o.P) := fun k hk W hW => by
        have := (HO4.out.on hW).at' k (by rw [hml]; exact hk)
        simpa using this
      clear HO4 hml
      go_wp2_with fail
      go_loopw [11] (fun i W => ∃ k : Nat, k ≤ Q.length ∧ i = .int .i64 k ∧ Below w4.heap.size w4 W) (fun i _ => Q.length - (intOf i).toNat)
      case atStart => exact ⟨0, Nat.zero_le _, rfl, Below.refl _ _⟩
      case round =>
        obtain ⟨m, hm, rfl, hU⟩ := hrel
        by_cases hmq : m < Q.length
        · by_cases hl0 : 0 < l.length
          · obtain ⟨hx1, hx2⟩ := HS.out l[0] (List.getElem_mem hl0)
            obtain ⟨bL, oL, rfl, xv, y0, hx⟩ := (HL.out.on (bon b4 hU)).at' 0 hl0
            rw [Nat.add_zero] at y0
            generalize l[0] = x at hx hx1 hx2
            obtain ⟨X, cX, rfl⟩ := hx.sl
            have HX := Lib.hid hx
            have HX2 := Lib.hid hx2
            clear hx hx2
            generalize wr = wB at *
            go_wp2_with fail
            go_loopw [12] (fun i W => ∃ j : Nat, j ≤ x.length ∧ i = .int .i64 j ∧ Below wB.heap.size wB W) (fun i _ => x.length - (intOf i).toNat)
            case atStart => exact ⟨0, Nat.zero_le _, rfl, Below.refl _ _⟩
            case round =>
              obtain ⟨j, hj, rfl, hT⟩ := hrel
              have y1 : wr.cell? ⟨bL, oL, none⟩ = some (.slice X x.length cX) := by rw [hT.cell (block_lt_of_cell y0)]; exact y0
              by_cases hjx : j < x.length
              · have hUT := bon hU hT
                have hAT := bon b4 hUT
                obtain ⟨bx, ox, rfl, t0, t1, t2, t3, t4⟩ := (HX.out.on hT).at' j hjx
                obtain ⟨bO, oO, rfl, vO, o0, o1, o2, o3, o4, hvO⟩ := H5.out m hmq wr hUT
                obtain ⟨bq, oq, rfl, vD, vA, vG, vB, vR, vP, vS, vL, vF, pc, pz⟩ := (HV.out.on hAT).at' m hmq
                have hOm := HOh.out Q[m] (List.getElem_mem hmq)
                have hSt := HX2.out x[j] (List.getElem_mem hjx)
                generalize x[j] = t at t0 t1 t2 t3 t4 hSt
                have d28 : ∀ d os, Calls Tryd.prog 28 #[ofv Q[m].o.n Q[m].o.e Q[m].o.u Q[m].o.r vO, tv t] (grow (redrawn wr d) os) fun y w'' => y = .returned (.bool (om t Q[m].o)) ∧ ∃ p : Regrown, w'' = grow (redrawn wr p.d) p.os := fun d os => Calls.regrown_of (meets_any Q[m].o.n Q[m].o.e Q[m].o.u Q[m].o.r vO Q[m].o.P t _ (hvO.on (below_regrown wr d os)) hOm.hP hOm.k hSt hOm.u hOm.r)
                have d29 : ∀ d os, Calls Tryd.prog 29 #[pkv Q[m].o.n Q[m].o.e Q[m].o.u Q[m].o.r vD vA vG vB vR vP vS vL vF, tv t] (grow (redrawn wr d) os) fun y w'' => y = .returned (.bool (om t Q[m].o)) ∧ ∃ p : Regrown, w'' = grow (redrawn wr p.d) p.os := fun d os => Calls.regrown_of (rmeets_any Q[m].o.n Q[m].o.e Q[m].o.u Q[m].o.r vD vA vG vB vR vP vS vL vF Q[m].o.P t _ (pz.P.on (below_regrown wr d os)) hOm.hP hOm.k hSt hOm.u hOm.r)
                have k0 := cell_regrown y1
                have kt0 := cell_regrown t0
                have kt1 := cell_regrown t1
                have kt2 := cell_regrown t2
                have kt3 := cell_regrown t3
                have kt4 := cell_regrown t4
                have ko0 := cell_regrown o0
                have ko1 := cell_regrown o1
                have ko2 := cell_regrown o2
                have ko3 := cell_regrown o3
                have ko4 := cell_regrown o4
                have kp0 := cell_regrown pc.c0
                have kp1 := cell_regrown pc.c1
                have kp2 := cell_regrown pc.c2
                have kp3 := cell_regrown pc.c3
                have kp4 := cell_regrown pc.c4
                have kp5 := cell_regrown pc.c5
                have kp6 := cell_regrown pc.c6
                have kp7 := cell_regrown pc.c7
                have kp8 := cell_regrown pc.c8
                have kp9 := cell_regrown pc.c9
                have kp10 := cell_regrown pc.c10
                have kp11 := cell_regrown pc.c11
                have kp12 := cell_regrown pc.c12
                clear t0 t1 t2 t3 t4 o0 o1 o2 o3 o4 pc pz hvO hOm hSt
                generalize om t Q[m].o = z at d28 d29
                go_wp2_with fail
                refine wp_region_quiet_below (by kernel_rfl) (by kernel_rfl) ?_
                repeat (any_goals (first | go_big_quiet_step ((first | with_reducible exact d28 _ _ | with_reducible exact d29 _ _)) | quiet_step ((first | with_reducible exact d28 _ _ | with_reducible exact d29 _ _))))
                refine wpQuiet_nil ?_
                intro wz hwz
                have bz : Below wr.heap.size wr wz := rgb (Below.refl wr.heap.size wr) hwz (Nat.le_refl _)
                clear d28 d29 hwz k0 kt0 kt1 kt2 kt3 kt4 ko0 ko1 ko2 ko3 ko4 kp0 kp1 kp2 kp3 kp4 kp5 kp6 kp7 kp8 kp9 kp10 kp11 kp12
                go_wp2_with fail
                exact ⟨⟨j + 1, hjx, by go_num, bon hT bz⟩, by simp [intOf]; omega⟩
              · go_wp2_with fail
                exact ⟨⟨m + 1, hmq, by go_num, bon hU hT⟩, by simp [intOf]; omega⟩
          · have hl00 : l.length = 0 := by omega
            go_wp2_with fail
            go_ret
            exact ⟨rfl, bon b4 hU⟩
        · go_wp2_with fail
          go_ret
          exact ⟨rfl, bon b4 hU⟩

theorem dmeets_any (v vQ : Value) (l : List (List Tm)) (Q : List Pck) (w : World) (hl : As w v l) (hv : Ps w vQ Q) : Calls Tryd.prog 5 #[v, vQ] w fun x w' => x = .returned (.bool true) ∧ Below w.heap.size w w' := by
  cases h : tla l with
  | false => exact dmeets_no v vQ l w hl h
  | true =>
    by_cases hq : Q.length ≤ 20
    · exact dmeets_main v vQ l Q w hl hv h hq
    · exact dmeets_long v vQ l Q w hl hv h (by omega)
end Go.Proofs.YtkaeiofolknoeabDoor
