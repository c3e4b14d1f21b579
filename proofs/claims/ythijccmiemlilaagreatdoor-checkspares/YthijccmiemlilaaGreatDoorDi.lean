/- The walk of the reference's Met. -/
import Derived.Test.YthijccmiemlilaaGreatDoorDh
namespace Go.Proofs.YthijccmiemlilaaGreatDoor
open Go.RowKit Go.Sort

theorem Ps.sl {W : World} {v : Value} {l : List Pck} (h : Ps W v l) : ∃ A c, v = .slice A l.length c := by
  rcases h.is with ⟨rfl, A, c, rfl⟩ | ⟨b, o, c, rfl, _⟩
  · exact ⟨A, c, rfl⟩
  · exact ⟨_, c, rfl⟩
theorem Ts.sl {W : World} {v : Value} {l : List Tm} (h : Ts W v l) : ∃ A c, v = .slice A l.length c := by
  rcases h.is with ⟨rfl, A, c, rfl⟩ | ⟨b, o, c, rfl, _⟩
  · exact ⟨A, c, rfl⟩
  · exact ⟨_, c, rfl⟩
theorem As.sl {W : World} {v : Value} {l : List (List Tm)} (h : As W v l) : ∃ A c, v = .slice A l.length c := by
  rcases h.is with ⟨rfl, A, c, rfl⟩ | ⟨b, o, c, rfl, _⟩
  · exact ⟨A, c, rfl⟩
  · exact ⟨_, c, rfl⟩
theorem Ss.sl {W : World} {v : Value} {l : List (List UInt8)} (h : Ss W v l) : ∃ A c, v = .slice A l.length c := by
  rcases h.is with ⟨rfl, A, c, rfl⟩ | ⟨b, o, c, rfl, _⟩
  · exact ⟨A, c, rfl⟩
  · exact ⟨_, c, rfl⟩
theorem Fs.sl {W : World} {v : Value} {l : List (List UInt8 × List UInt8)} (h : Fs W v l) : ∃ A c, v = .slice A l.length c := by
  rcases h.is with ⟨rfl, A, c, rfl⟩ | ⟨b, o, c, rfl, _⟩
  · exact ⟨A, c, rfl⟩
  · exact ⟨_, c, rfl⟩
/-- The k-th of a slice of packages. -/
theorem Ps.at' {W : World} {A : Option Addr} {n c : Nat} {l : List Pck} (h : Ps W (.slice A n c) l) (k : Nat) (hk : k < l.length) : ∃ b o, A = some ⟨b, o, none⟩ ∧ ∃ vD vA vG vB vR vP vS vL vF, Pc W b (o + k * 13) l[k] vD vA vG vB vR vP vS vL vF ∧ Pz W l[k] vD vA vG vB vR vP vS vL vF := by
  rcases h.is with ⟨rfl, _⟩ | ⟨b, o, c', e, hf⟩
  · simp at hk
  · cases e; exact ⟨b, o, rfl, hf.c k hk⟩
theorem Ts.at' {W : World} {A : Option Addr} {n c : Nat} {l : List Tm} (h : Ts W (.slice A n c) l) (k : Nat) (hk : k < l.length) : ∃ b o, A = some ⟨b, o, none⟩ ∧ W.cell? ⟨b, o + k * 5, none⟩ = some (.string ⟨l[k].n.toArray⟩) ∧ W.cell? ⟨b, o + k * 5 + 1, none⟩ = some (.int .i64 l[k].o) ∧ W.cell? ⟨b, o + k * 5 + 2, none⟩ = some (.int .i64 l[k].e) ∧ W.cell? ⟨b, o + k * 5 + 3, none⟩ = some (.string ⟨l[k].u.toArray⟩) ∧ W.cell? ⟨b, o + k * 5 + 4, none⟩ = some (.string ⟨l[k].r.toArray⟩) := by
  rcases h.is with ⟨rfl, _⟩ | ⟨b, o, c', e, _, hf⟩
  · simp at hk
  · cases e; exact ⟨b, o, rfl, hf.c0 k hk, hf.c1 k hk, hf.c2 k hk, hf.c3 k hk, hf.c4 k hk⟩

set_option maxHeartbeats 3200000 in
set_option maxRecDepth 100000 in
theorem rmet_row (b o c : Nat) (vQ : Value) (l : List (List Tm)) (Q : List Pck) (w : World) (hl : Al w b o l) (hn : l.length ≤ 1000) (hv : Ps w vQ Q) (hO : ∀ p ∈ Q, Oh p.o) (hk : Q.length ≤ 1000) (hS : ∀ x ∈ l, x.length ≤ 40 ∧ ∀ t ∈ x, Sh t) :
    Calls Tryz.prog 36 #[.slice (some ⟨b, o, none⟩) l.length c, vQ] w fun e w' => e = .returned (.tuple #[.int .i64 (met (Q.map (·.o)) l).1, .bool (met (Q.map (·.o)) l).2]) ∧ Below w.heap.size w w' := by
  obtain ⟨O, hOO⟩ : ∃ O, O = Q.map (·.o) := ⟨_, rfl⟩
  have HOO := Lib.hid hOO
  obtain ⟨r, hr⟩ : ∃ r, r = met O l := ⟨_, rfl⟩
  have HR := Lib.hid hr
  rw [← hOO, ← hr]
  clear hr hOO
  obtain ⟨A, cO, rfl⟩ := hv.sl
  have HL := Lib.hid hl
  have HV := Lib.hid hv
  have HO := Lib.hid hO
  have HS := Lib.hid hS
  clear hl hv hO hS
  go_enter Tryz.func36, Tryz.ntmps36
  go_wp2_with fail
  go_loopw [15] (fun i W => ∃ k : Nat, k ≤ l.length ∧ i = .int .i64 k ∧ Below w.heap.size w W ∧ Hid (∀ j (hj : j < l.length), j < k → (!(l[j].any (tm O))) = false)) (fun i _ => l.length - (intOf i).toNat)
  case atStart => exact ⟨0, Nat.zero_le _, rfl, Below.refl _ _, fun j _ h => absurd h (Nat.not_lt_zero _)⟩
  case round =>
    obtain ⟨k, hkl, rfl, hW, HN⟩ := hrel
    by_cases hlt : k < l.length
    · obtain ⟨xv, c0, hx⟩ := (HL.out.on hW).c k hlt
      obtain ⟨hx1, hx2⟩ := HS.out l[k] (List.getElem_mem hlt)
      have HKT : Hid (l[k].any (tm O) = true → ∀ j (hj : j < l.length), j < k + 1 → (!(l[j].any (tm O))) = false) := fun q j hj h => by
        by_cases e2 : j = k
        · subst e2; rw [q]; rfl
        · exact HN.out j hj (by omega)
      have HKF : Hid (l[k].any (tm O) = false → r = ((k : Int), false)) := fun q => by
        rw [HR.out]; unfold met
        rw [fi_yes (q := fun x : List Tm => !(x.any (tm O))) k hlt (by rw [q]; rfl) (fun j hj h => HN.out j hj h)]
      generalize l[k] = x at hx hx1 hx2 HKT HKF
      obtain ⟨X, cX, rfl⟩ := hx.sl
      have HX := Lib.hid hx
      have HX2 := Lib.hid hx2
      have HVA := Lib.hid (HV.out.on hW)
      clear hx hx2 HN
      generalize wr = wA at *
      go_wp2_with fail
      go_loopw [8, 22] (fun ok i W => ∃ j : Nat, j ≤ x.length ∧ i = .int .i64 j ∧ ok = .bool ((x.take j).any (tm O)) ∧ Below wA.heap.size wA W) (fun _ i _ => x.length - (intOf i).toNat)
      case atStart => exact ⟨0, Nat.zero_le _, rfl, by simp, Below.refl _ _⟩
      case round =>
        obtain ⟨j, hj, rfl, rfl, hV⟩ := hrel
        by_cases hjl : j < x.length
        · obtain ⟨bx, ox, rfl, t0, t1, t2, t3, t4⟩ := (HX.out.on hV).at' j hjl
          have hSt := HX2.out x[j] (List.getElem_mem hjl)
          have hnx : (x.take (j + 1)).any (tm O) = ((x.take j).any (tm O) || tm O x[j]) := by
            rw [List.take_succ_eq_append_getElem hjl, List.any_append]; simp
          have HNX := Lib.hid hnx
          clear hnx
          generalize x[j] = t at t0 t1 t2 t3 t4 hSt HNX
          generalize (x.take j).any (tm O) = y0 at HNX ⊢
          have HSt := Lib.hid hSt
          clear hSt
          generalize wr = wB at *
          have bT := b1c wB (.cells #[.string ⟨t.n.toArray⟩, .int .i64 t.o, .int .i64 t.e, .string ⟨t.u.toArray⟩, .string ⟨t.r.toArray⟩] 112)
          have HTn := Lib.hid (tc_new wB t)
          go_wp2_with fail
          go_loopw [8, 28] (fun ok i W => ∃ m : Nat, m ≤ Q.length ∧ i = .int .i64 m ∧ ok = .bool (y0 || (Q.take m).any (fun p => om t p.o)) ∧ Below wB.heap.size wB W ∧ Hid (Tc W wB.heap.size t)) (fun _ i _ => Q.length - (intOf i).toNat)
          case atStart => exact ⟨0, Nat.zero_le _, rfl, by simp, bT, HTn⟩
          case round =>
            obtain ⟨m, hm, rfl, rfl, hU, HTc⟩ := hrel
            by_cases hml : m < Q.length
            · have hBU := bon hV hU
              obtain ⟨bq, oq, rfl, vD, vA, vG, vB, vR, vP, vS, vL, vF, pc, pz⟩ := (HVA.out.on hBU).at' m hml
              obtain ⟨D1, D2, rfl⟩ := pz.D.sl
              obtain ⟨A1, A2, rfl⟩ := pz.A.sl
              obtain ⟨G1, G2, rfl⟩ := pz.G.sl
              obtain ⟨B1, B2, rfl⟩ := pz.B.sl
              obtain ⟨R1, R2, rfl⟩ := pz.R.sl
              obtain ⟨P1, P2, rfl⟩ := pz.P.sl
              obtain ⟨S1, S2, rfl⟩ := pz.S.sl
              obtain ⟨L1, L2, rfl⟩ := pz.L.sl
              obtain ⟨F1, F2, rfl⟩ := pz.F.sl
              have hOm := HO.out Q[m] (List.getElem_mem hml)
              have hnx : (y0 || (Q.take (m + 1)).any (fun p => om t p.o)) = ((y0 || (Q.take m).any (fun p => om t p.o)) || om t Q[m].o) := by
                rw [List.take_succ_eq_append_getElem hml, List.any_append]; simp [Bool.or_assoc]
              have HNY := Lib.hid hnx
              clear hnx
              generalize (y0 || (Q.take m).any (fun p => om t p.o)) = y1 at HNY ⊢
              have bP := b1c wr (pko Q[m].o.n Q[m].o.e Q[m].o.u Q[m].o.r (.slice D1 Q[m].D.length D2) (.slice A1 Q[m].A.length A2) (.slice G1 Q[m].G.length G2) (.slice B1 Q[m].B.length B2) (.slice R1 Q[m].R.length R2) (.slice P1 Q[m].o.P.length P2) (.slice S1 Q[m].S.length S2) (.slice L1 Q[m].L.length L2) (.slice F1 Q[m].F.length F2))
              have hT3 := HTc.out.on bP
              have d0 := hT3.c0
              have d1 := hT3.c1
              have d2 := hT3.c2
              have d3 := hT3.c3
              have d4 := hT3.c4
              have HT3 := Lib.hid hT3
              have hUP := bon hU bP
              have cM := rmeets_any Q[m].o.n Q[m].o.e Q[m].o.u Q[m].o.r (.slice D1 Q[m].D.length D2) (.slice A1 Q[m].A.length A2) (.slice G1 Q[m].G.length G2) (.slice B1 Q[m].B.length B2) (.slice R1 Q[m].R.length R2) (.slice P1 Q[m].o.P.length P2) (.slice S1 Q[m].S.length S2) (.slice L1 Q[m].L.length L2) (.slice F1 Q[m].F.length F2) Q[m].o.P t _ (pz.P.on bP) hOm.hP hOm.k HSt.out hOm.u hOm.r
              have HM := Lib.hid cM
              have p0 := pc.c0
              have p1 := pc.c1
              have p2 := pc.c2
              have p3 := pc.c3
              have p4 := pc.c4
              have p5 := pc.c5
              have p6 := pc.c6
              have p7 := pc.c7
              have p8 := pc.c8
              have p9 := pc.c9
              have p10 := pc.c10
              have p11 := pc.c11
              have p12 := pc.c12
              clear cM hT3 pc pz hOm hBU
              cases y1 with
              | true =>
                have HG : Hid (true = (y0 || (Q.take (m + 1)).any (fun p => om t p.o))) := by show _ = _; rw [HNY.out]; simp
                clear HNY HM
                go_wp2_with fail
                exact ⟨⟨m + 1, hml, by go_num, congrArg Value.bool HG.out, hUP, HT3⟩, by simp [intOf]; omega⟩
              | false =>
                have HG : Hid (om t Q[m].o = (y0 || (Q.take (m + 1)).any (fun p => om t p.o))) := by show _ = _; rw [HNY.out]; simp
                have HM2 : Hid (Calls Tryz.prog 69 #[pkv Q[m].o.n Q[m].o.e Q[m].o.u Q[m].o.r (.slice D1 Q[m].D.length D2) (.slice A1 Q[m].A.length A2) (.slice G1 Q[m].G.length G2) (.slice B1 Q[m].B.length B2) (.slice R1 Q[m].R.length R2) (.slice P1 Q[m].o.P.length P2) (.slice S1 Q[m].S.length S2) (.slice L1 Q[m].L.length L2) (.slice F1 Q[m].F.length F2), tv t] (wr.alloc (pko Q[m].o.n Q[m].o.e Q[m].o.u Q[m].o.r (.slice D1 Q[m].D.length D2) (.slice A1 Q[m].A.length A2) (.slice G1 Q[m].G.length G2) (.slice B1 Q[m].B.length B2) (.slice R1 Q[m].R.length R2) (.slice P1 Q[m].o.P.length P2) (.slice S1 Q[m].S.length S2) (.slice L1 Q[m].L.length L2) (.slice F1 Q[m].F.length F2))) fun x w' => x = .returned (.bool (om t Q[m].o)) ∧ Below (wr.alloc (pko Q[m].o.n Q[m].o.e Q[m].o.u Q[m].o.r (.slice D1 Q[m].D.length D2) (.slice A1 Q[m].A.length A2) (.slice G1 Q[m].G.length G2) (.slice B1 Q[m].B.length B2) (.slice R1 Q[m].R.length R2) (.slice P1 Q[m].o.P.length P2) (.slice S1 Q[m].S.length S2) (.slice L1 Q[m].L.length L2) (.slice F1 Q[m].F.length F2))).heap.size (wr.alloc (pko Q[m].o.n Q[m].o.e Q[m].o.u Q[m].o.r (.slice D1 Q[m].D.length D2) (.slice A1 Q[m].A.length A2) (.slice G1 Q[m].G.length G2) (.slice B1 Q[m].B.length B2) (.slice R1 Q[m].R.length R2) (.slice P1 Q[m].o.P.length P2) (.slice S1 Q[m].S.length S2) (.slice L1 Q[m].L.length L2) (.slice F1 Q[m].F.length F2))) w') := HM
                clear HNY HM
                generalize om t Q[m].o = z at HG HM2
                go_wp2_with fail
                refine HM2.out.mono ?_
                rintro x2 w2 ⟨rfl, bw⟩
                have HT4 := Lib.hid (HT3.out.on bw)
                go_wp2_with fail
                exact ⟨⟨m + 1, hml, by go_num, congrArg Value.bool HG.out, bon hUP bw, HT4⟩, by simp [intOf]; omega⟩
            · have hme : m = Q.length := by omega
              have HG : Hid ((y0 || (Q.take m).any (fun p => om t p.o)) = (x.take (j + 1)).any (tm O)) := by
                show _ = _
                rw [HNX.out, hme, List.take_length]
                unfold tm
                rw [HOO.out, List.any_map]
                rfl
              go_wp2_with fail
              exact ⟨⟨j + 1, hjl, by go_num, congrArg Value.bool HG.out, bon hV hU⟩, by simp [intOf]; omega⟩
        · have hje : j = x.length := by omega
          subst hje
          rw [List.take_length]
          cases q : x.any (tm O) with
          | true =>
            have HG := Lib.hid (HKT.out q)
            clear HKT HKF q
            go_wp2_with fail
            exact ⟨⟨k + 1, hlt, by go_num, bon hW hV, HG⟩, by simp [intOf]; omega⟩
          | false =>
            have HG := Lib.hid (HKF.out q)
            clear HKT HKF q
            go_wp2_with fail
            go_ret2
            exact ⟨ret2 HG.out.symm, bon hW hV⟩
    · have HG : Hid (r = (0, true)) := by
        show _ = _
        rw [HR.out]; unfold met
        rw [fi_no (q := fun x : List Tm => !(x.any (tm O))) (fun j hj => HN.out j hj (by omega))]
      go_wp2_with fail
      go_ret2
      exact ⟨ret2 HG.out.symm, hW⟩
theorem rmet_nil (A A' : Option Addr) (c n c' : Nat) (w : World) : Calls Tryz.prog 36 #[.slice A 0 c, .slice A' n c'] w fun e w' => e = .returned (.tuple #[.int .i64 0, .bool true]) ∧ w' = w := by
  go_enter Tryz.func36, Tryz.ntmps36
  go_wp2
  refine wp_loop_rounds 1 ?_
  rw [rounds_succ]
  go_wp2
  go_ret2
  exact ⟨rfl, rfl⟩
theorem rmet_any (v vQ : Value) (l : List (List Tm)) (Q : List Pck) (w : World) (hl : As w v l) (hn : l.length ≤ 1000) (hv : Ps w vQ Q) (hO : ∀ p ∈ Q, Oh p.o) (hk : Q.length ≤ 1000) (hS : ∀ x ∈ l, x.length ≤ 40 ∧ ∀ t ∈ x, Sh t) :
    Calls Tryz.prog 36 #[v, vQ] w fun e w' => e = .returned (.tuple #[.int .i64 (met (Q.map (·.o)) l).1, .bool (met (Q.map (·.o)) l).2]) ∧ Below w.heap.size w w' := by
  rcases hl.is with ⟨rfl, A, c, rfl⟩ | ⟨b, o, c, rfl, _, hf⟩
  · obtain ⟨A', c', rfl⟩ := hv.sl
    exact (rmet_nil A A' c _ c' w).mono fun x w' ⟨h1, h2⟩ => ⟨h1, by rw [h2]; exact Below.refl _ _⟩
  · exact rmet_row b o c vQ l Q w hf hn hv hO hk hS
end Go.Proofs.YthijccmiemlilaaGreatDoor
