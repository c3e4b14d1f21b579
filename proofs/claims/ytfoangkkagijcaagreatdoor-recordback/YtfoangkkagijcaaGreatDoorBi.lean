/- The law RecordBack. -/
import Derived.Test.YtfoangkkagijcaaGreatDoorBh
import Derived.Test.YtfoangkkagijcaaGreatDoorBl
import Derived.Test.YtfoangkkagijcaaGreatDoorBg
namespace Go.Proofs.YtfoangkkagijcaaGreatDoor
open Go.RowKit Go.Shelf

theorem fcs_at : ∀ (l : List Fd) (j : Nat) (u : Value), (fcs l)[j]? = some u → ∃ i, ∃ hi : i < l.length, (j = i * 2 ∧ u = .string ⟨l[i].1.toArray⟩) ∨ (j = i * 2 + 1 ∧ u = .string ⟨l[i].2.toArray⟩)
  | [], j, u, h => by simp [fcs] at h
  | f :: l, 0, u, h => by
    simp [fcs] at h
    exact ⟨0, by simp, .inl ⟨rfl, by simpa using h.symm⟩⟩
  | f :: l, 1, u, h => by
    simp [fcs] at h
    exact ⟨0, by simp, .inr ⟨rfl, by simpa using h.symm⟩⟩
  | f :: l, j + 2, u, h => by
    have h' : (fcs l)[j]? = some u := by simpa [fcs] using h
    obtain ⟨i, hi, hh⟩ := fcs_at l j u h'
    refine ⟨i + 1, by simpa using hi, ?_⟩
    rcases hh with ⟨e1, e2⟩ | ⟨e1, e2⟩
    · exact .inl ⟨by omega, by simpa using e2⟩
    · exact .inr ⟨by omega, by simpa using e2⟩
theorem fcs_ones (l : List Fd) : ∀ u ∈ fcs l, u.oneCell' = true := fun u hu => by
  obtain ⟨f, _, hf⟩ := List.mem_flatMap.1 hu
  simp at hf
  rcases hf with rfl | rfl <;> rfl
theorem sl_news {W : World} {A : Option Addr} {n c : Nat} {l : List Fd} (h : Stz.Sl W (.slice A n c) l) (h0 : 0 < l.length) : ∃ lb lo, A = some ⟨lb, lo, none⟩ ∧ ∀ j u, (fcs l)[j]? = some u → W.cell? (Addr.add ⟨lb, lo, none⟩ j) = some u := by
  rcases h.is with ⟨rfl, _⟩ | ⟨b, o, c', h1, _, hF⟩
  · simp at h0
  · cases h1
    refine ⟨b, o, rfl, fun j u hj => ?_⟩
    obtain ⟨i, hi, hh⟩ := fcs_at l j u hj
    rcases hh with ⟨rfl, rfl⟩ | ⟨rfl, rfl⟩
    · rw [Go.WideShapes.add_plain]; exact hF.c0 i hi
    · rw [Go.WideShapes.add_plain, ← Nat.add_assoc]; exact hF.c1 i hi
theorem flds_pos {p : Pck} (hk : Rk p) : 0 < (flds p).length := by
  unfold flds addl
  rw [List.flatMap_cons, List.length_append]
  have : (kp (([80, 97, 99, 107, 97, 103, 101], p.o.n) : Fd)).length = 1 := by unfold kp; rw [if_neg (nmo_all hk.n).2]; rfl
  omega
structure Ob (W : World) (b : Nat) (o : Obj) : Prop where
  blk : W.heap[b]? = some o
theorem Ob.on {W W' : World} {b : Nat} {o : Obj} (h : Ob W b o) (k : Below W.heap.size W W') : Ob W' b o := ⟨(k.block b (Array.getElem?_eq_some_iff.1 h.blk).1).trans h.blk⟩
theorem Ob.pk {W : World} {b : Nat} {n : List UInt8} {e : Int} {u r : List UInt8} {v4 v5 v6 v7 v8 v9 v10 v11 v12 : Value} (h : Ob W b (pko n e u r v4 v5 v6 v7 v8 v9 v10 v11 v12)) : b < W.heap.size ∧ W.cell? ⟨b, 0, none⟩ = some (.string ⟨n.toArray⟩) ∧ W.cell? ⟨b, 1, none⟩ = some (.int .i64 e) ∧ W.cell? ⟨b, 2, none⟩ = some (.string ⟨u.toArray⟩) ∧ W.cell? ⟨b, 3, none⟩ = some (.string ⟨r.toArray⟩) ∧ W.cell? ⟨b, 4, none⟩ = some (v4) ∧ W.cell? ⟨b, 5, none⟩ = some (v5) ∧ W.cell? ⟨b, 6, none⟩ = some (v6) ∧ W.cell? ⟨b, 7, none⟩ = some (v7) ∧ W.cell? ⟨b, 8, none⟩ = some (v8) ∧ W.cell? ⟨b, 9, none⟩ = some (v9) ∧ W.cell? ⟨b, 10, none⟩ = some (v10) ∧ W.cell? ⟨b, 11, none⟩ = some (v11) ∧ W.cell? ⟨b, 12, none⟩ = some (v12) ∧ W.frozen? ⟨b, 0, none⟩ = false ∧ W.frozen? ⟨b, 1, none⟩ = false ∧ W.frozen? ⟨b, 2, none⟩ = false ∧ W.frozen? ⟨b, 3, none⟩ = false ∧ W.frozen? ⟨b, 4, none⟩ = false ∧ W.frozen? ⟨b, 5, none⟩ = false ∧ W.frozen? ⟨b, 6, none⟩ = false ∧ W.frozen? ⟨b, 7, none⟩ = false ∧ W.frozen? ⟨b, 8, none⟩ = false ∧ W.frozen? ⟨b, 9, none⟩ = false ∧ W.frozen? ⟨b, 10, none⟩ = false ∧ W.frozen? ⟨b, 11, none⟩ = false ∧ W.frozen? ⟨b, 12, none⟩ = false :=
  ⟨(Array.getElem?_eq_some_iff.1 h.blk).1, by simp [World.cell?, h.blk], by simp [World.cell?, h.blk], by simp [World.cell?, h.blk], by simp [World.cell?, h.blk], by simp [World.cell?, h.blk], by simp [World.cell?, h.blk], by simp [World.cell?, h.blk], by simp [World.cell?, h.blk], by simp [World.cell?, h.blk], by simp [World.cell?, h.blk], by simp [World.cell?, h.blk], by simp [World.cell?, h.blk], by simp [World.cell?, h.blk], by simp [World.frozen?, h.blk], by simp [World.frozen?, h.blk], by simp [World.frozen?, h.blk], by simp [World.frozen?, h.blk], by simp [World.frozen?, h.blk], by simp [World.frozen?, h.blk], by simp [World.frozen?, h.blk], by simp [World.frozen?, h.blk], by simp [World.frozen?, h.blk], by simp [World.frozen?, h.blk], by simp [World.frozen?, h.blk], by simp [World.frozen?, h.blk], by simp [World.frozen?, h.blk]⟩
theorem sz_more {p : Pck} (h : Stz.Sz (flds p)) {x : Fd} (h1 : x.1.length ≤ 100) (h2 : x.2.length ≤ 4000) : Stz.Sz (flds p ++ [x]) := by
  refine ⟨?_, fun f hf => ?_⟩
  · have := kps_le (addl p)
    have e : (addl p).length = 10 := rfl
    rw [List.length_append]
    unfold flds
    simp only [List.length_cons, List.length_nil]
    omega
  · rcases List.mem_append.1 hf with hf | hf
    · exact h.s f hf
    · rw [List.mem_singleton.1 hf]; exact ⟨h1, h2⟩
/-- A package without its files. -/
def bare0 (p : Pck) : Pck := { p with F := [] }
theorem b0_flds (p : Pck) : flds (bare0 p) = flds p := rfl
theorem b0_rok (p : Pck) : rok (bare0 p) = rok p := rfl
theorem b0_pg {p : Pck} (h : Pg p) : Pg (bare0 p) := ⟨h.n, h.e0, h.e1, h.u, h.r, h.D, h.A, h.G, h.B, h.R, h.P, h.S, h.L, rfl⟩
theorem gt_b0 {l : List Fd} {p : Pck} (h : Gt l p) : Gt l (bare0 p) := ⟨h.n, h.v, h.D, h.A, h.G, h.B, h.R, h.P, h.S, h.L⟩
set_option maxHeartbeats 6400000 in
set_option maxRecDepth 100000 in
theorem back_any (p : Pck) (vD vA vG vB vR vP vS vL vF : Value) (more : List UInt8) (w : World) (hz : Pz w p vD vA vG vB vR vP vS vL vF) (hw : Pw p) (hE : ErrT w) (hG : Sg w) (hT : Tab w) (hM : MaxN w) :
    Calls Tryz.prog 5 #[pkv p.o.n p.o.e p.o.u p.o.r vD vA vG vB vR vP vS vL vF, .string ⟨more.toArray⟩] w fun e w' => e = .returned (.bool true) ∧ Below w.heap.size w w' := by
  have c0 := b1c w (pko p.o.n p.o.e p.o.u p.o.r vD vA vG vB vR vP vS vL vF)
  have B0 := Lib.hid (pb_new w p vD vA vG vB vR vP vS vL vF)
  have c9 := Kee.says_any p vD vA vG vB vR vP vS vL vF _ (hz.on c0)
  have HZ := Lib.hid hz
  have HW := Lib.hid hw
  have HE := Lib.hid hE
  have HG := Lib.hid hG
  have HT := Lib.hid hT
  have HM := Lib.hid hM
  clear hz hw hE hG hT hM
  go_enter Tryz.func5, Tryz.ntmps5
  go_wp2_with fail
  refine c9.mono ?_
  rintro x w1 ⟨⟨y, rfl, hy⟩, b1⟩
  have k1 := bon c0 b1
  have B1 := Lib.hid (B0.out.on b1)
  have HY := Lib.hid hy
  clear c9 B0 b1 c0 hy
  cases y with
  | false =>
    go_wp2_with fail
    go_ret
    exact ⟨rfl, k1⟩
  | true =>
    by_cases hs : more.length ≤ 100
    · have hp := pg_of (HY.out rfl) HW.out
      have HP := Lib.hid hp
      have cT := told_any w1 (HG.out.on k1) (tab_on HT.out k1) (HM.out.on k1)
      clear hp HY
      go_wp2_with fail
      refine cT.mono ?_
      rintro x w2 ⟨rfl, b2⟩
      have k2 := bon k1 b2
      have B2 := Lib.hid (B1.out.on b2)
      clear cT b2 k1 B1
      have q0 := B2.out.c0
      have q1 := B2.out.c1
      have q2 := B2.out.c2
      have q3 := B2.out.c3
      have q4 := B2.out.c4
      have q5 := B2.out.c5
      have q6 := B2.out.c6
      have q7 := B2.out.c7
      have q8 := B2.out.c8
      have q9 := B2.out.c9
      have q10 := B2.out.c10
      have q11 := B2.out.c11
      have q12 := B2.out.c12
      have cF := rf_any p vD vA vG vB vR vP vS vL vF w2 (HZ.out.on k2) HP.out (HG.out.on k2) (tab_on HT.out k2) (HM.out.on k2)
      go_wp2_with fail
      refine cF.mono ?_
      rintro x w3 ⟨⟨A, c, rfl, hS⟩, b3⟩
      have k3 := bon k2 b3
      have B3 := Lib.hid (B2.out.on b3)
      have HS := Lib.hid hS
      clear cF hS b3 k2 B2 q0 q1 q2 q3 q4 q5 q6 q7 q8 q9 q10 q11 q12
      have q0 := B3.out.c0
      have q1 := B3.out.c1
      have q2 := B3.out.c2
      have q3 := B3.out.c3
      have q4 := B3.out.c4
      have q5 := B3.out.c5
      have q6 := B3.out.c6
      have q7 := B3.out.c7
      have q8 := B3.out.c8
      have q9 := B3.out.c9
      have q10 := B3.out.c10
      have q11 := B3.out.c11
      have q12 := B3.out.c12
      cases hk : rok p with
      | false =>
        have eL : el p = [] := by unfold el; rw [hk]; rfl
        have eR : er p = .iface 32 (.int .i64 1) := by unfold er ec; rw [hk]; rfl
        rw [eR]
        have cTl := fun W (h : Below w3.heap.size w3 W) => tell_errno 1 W ((HE.out.on k3).on h)
        have cR := fun W (h : Below w3.heap.size w3 W) => recright_any p vD vA vG vB vR vP vS vL vF W ((HZ.out.on k3).on h) HP.out (tab_on (tab_on HT.out k3) h) ((HM.out.on k3).on h)
        rw [hk] at cR
        clear eL eR
        go_wp2_with fail
        with_reducible refine (cTl w3 (Below.refl _ _)).mono ?_
        rintro x w4 ⟨rfl, b4⟩
        have B4 := Lib.hid (B3.out.on b4)
        clear q0 q1 q2 q3 q4 q5 q6 q7 q8 q9 q10 q11 q12
        have q0 := B4.out.c0
        have q1 := B4.out.c1
        have q2 := B4.out.c2
        have q3 := B4.out.c3
        have q4 := B4.out.c4
        have q5 := B4.out.c5
        have q6 := B4.out.c6
        have q7 := B4.out.c7
        have q8 := B4.out.c8
        have q9 := B4.out.c9
        have q10 := B4.out.c10
        have q11 := B4.out.c11
        have q12 := B4.out.c12
        have cR4 := cR w4 b4
        clear cTl cR
        go_wp2_with fail
        with_reducible refine cR4.mono ?_
        rintro x w5 ⟨rfl, b5⟩
        have k5 := bon (bon k3 b4) b5
        clear cR4 q0 q1 q2 q3 q4 q5 q6 q7 q8 q9 q10 q11 q12
        go_wp2_with fail
        go_ret
        exact ⟨rfl, k5⟩
      | true =>
        cases hr : Stz.Sm.rgt (flds p) with
        | false =>
          have eR : er p = .iface 32 (.int .i64 4) := by unfold er ec; rw [hk, hr]; rfl
          rw [eR]
          have cTl := fun W (h : Below w3.heap.size w3 W) => tell_errno 4 W ((HE.out.on k3).on h)
          clear eR
          go_wp2_with fail
          with_reducible refine (cTl w3 (Below.refl _ _)).mono ?_
          rintro x w4 ⟨rfl, b4⟩
          have c4 := cTl w4 b4
          clear cTl
          go_wp2_with fail
          with_reducible refine c4.mono ?_
          rintro x w5 ⟨rfl, b5⟩
          have k5 := bon (bon k3 b4) b5
          clear c4 q0 q1 q2 q3 q4 q5 q6 q7 q8 q9 q10 q11 q12
          go_wp2_with fail
          go_ret
          exact ⟨rfl, k5⟩
        | true =>
          have eR : er p = .nilIface := by unfold er ec; rw [hk, hr]; rfl
          have eL : el p = flds p := by unfold el; rw [hk, hr]; rfl
          rw [eL] at HS
          rw [eR, eL]
          have HK := Lib.hid (rk_of hk)
          have HSz := Lib.hid (sz_flds (rk_of hk) HP.out)
          have HGt := Lib.hid (gt_b0 (by have := gt_flds (rk_of hk) [] (by simp); rwa [List.append_nil] at this) : Gt (flds p) (bare0 p))
          have HPb := Lib.hid (b0_pg HP.out)
          have hkb : rok (bare0 p) = true := hk
          have cRd := read_fresh (bare0 p) A c (flds p) w3 HS.out HSz.out HGt.out hkb rfl HPb.out (HG.out.on k3) (tab_on HT.out k3) (HM.out.on k3)
          clear eR eL
          go_wp2_with fail
          with_reducible refine cRd.mono ?_
          rintro x w4 ⟨uD, uA, uG, uB, uR, uP, uS, uL, rfl, hz4, b4⟩
          obtain ⟨AD, cD, rfl⟩ := as_len hz4.D.as
          obtain ⟨AA, cA, rfl⟩ := as_len hz4.A.as
          obtain ⟨AG, cG, rfl⟩ := ts_len hz4.G.ts
          obtain ⟨AB, cB, rfl⟩ := ts_len hz4.B.ts
          obtain ⟨AR, cR, rfl⟩ := ts_len hz4.R.ts
          obtain ⟨AP, cP, rfl⟩ := ts_len hz4.P.ts
          obtain ⟨AS, cS, rfl⟩ := ss_len hz4.S.ss
          obtain ⟨AL, cL, rfl⟩ := ss_len hz4.L.ss
          have k4 := bon k3 b4
          have hqw := k4.size
          have B4 := Lib.hid (B3.out.on b4)
          have HZ4 := Lib.hid hz4
          have HS4 := Lib.hid (HS.out.on b4)
          clear cRd hz4 b4 k3 HS q0 q1 q2 q3 q4 q5 q6 q7 q8 q9 q10 q11 q12
          have b5 := b1c w4 (pko (bare0 p).o.n (bare0 p).o.e (bare0 p).o.u (bare0 p).o.r (.slice AD (bare0 p).D.length cD) (.slice AA (bare0 p).A.length cA) (.slice AG (bare0 p).G.length cG) (.slice AB (bare0 p).B.length cB) (.slice AR (bare0 p).R.length cR) (.slice AP (bare0 p).o.P.length cP) (.slice AS (bare0 p).S.length cS) (.slice AL (bare0 p).L.length cL) (.slice none 0 0))
          have PB5 := Lib.hid (Ob.mk (World.alloc_heap_new w4 (pko (bare0 p).o.n (bare0 p).o.e (bare0 p).o.u (bare0 p).o.r (.slice AD (bare0 p).D.length cD) (.slice AA (bare0 p).A.length cA) (.slice AG (bare0 p).G.length cG) (.slice AB (bare0 p).B.length cB) (.slice AR (bare0 p).R.length cR) (.slice AP (bare0 p).o.P.length cP) (.slice AS (bare0 p).S.length cS) (.slice AL (bare0 p).L.length cL) (.slice none 0 0))))
          have k5 := bon k4 b5
          have cF5 := rf_any (bare0 p) _ _ _ _ _ _ _ _ _ _ (HZ4.out.pz.on b5) HPb.out (HG.out.on k5) (tab_on HT.out k5) (HM.out.on k5)
          have eR5 : er (bare0 p) = .nilIface := by unfold er ec; rw [hkb, b0_flds, hr]; rfl
          have eL5 : el (bare0 p) = flds p := by unfold el; rw [hkb, b0_flds, hr]; rfl
          have B5 := Lib.hid (B4.out.on b5)
          have HS5 := Lib.hid (HS4.out.on b5)
          have HB5 := Lib.hid b5
          clear b5 k4 B4
          go_wp2_with fail
          with_reducible refine cF5.mono ?_
          rintro x w6 ⟨⟨A6, c6, rfl, hS6⟩, b6⟩
          rw [eL5] at hS6
          rw [eR5, eL5]
          have k6 := bon k5 b6
          have hS6l := HS5.out.on b6
          have cSm := Stz.sameK_any _ _ (flds p) w6 hS6 hS6l (by have := HSz.out.n; omega)
          have B6 := Lib.hid (B5.out.on b6)
          have PB6 := Lib.hid (PB5.out.on b6)
          have HS6 := Lib.hid hS6l
          have H46 := Lib.hid (bon HB5.out b6)
          clear cF5 eR5 eL5 hS6 b6 hS6l k5 B5 PB5 HS5 HB5
          go_wp2_with fail
          with_reducible refine cSm.mono ?_
          rintro x w7 ⟨rfl, b7⟩
          have k7 := bon k6 b7
          have B7 := Lib.hid (B6.out.on b7)
          have PB7 := Lib.hid (PB6.out.on b7)
          have HS7 := Lib.hid (HS6.out.on b7)
          have H47 := Lib.hid (bon H46.out b7)
          have cR7 := recright_any p vD vA vG vB vR vP vS vL vF w7 (HZ.out.on k7) HP.out (tab_on HT.out k7) (HM.out.on k7)
          rw [hk] at cR7
          clear cSm b7 k6 B6 PB6 HS6 H46
          have q0 := B7.out.c0
          have q1 := B7.out.c1
          have q2 := B7.out.c2
          have q3 := B7.out.c3
          have q4 := B7.out.c4
          have q5 := B7.out.c5
          have q6 := B7.out.c6
          have q7 := B7.out.c7
          have q8 := B7.out.c8
          have q9 := B7.out.c9
          have q10 := B7.out.c10
          have q11 := B7.out.c11
          have q12 := B7.out.c12
          go_wp2_with fail
          with_reducible refine cR7.mono ?_
          rintro x w8 ⟨rfl, b8⟩
          have k8 := bon k7 b8
          have PB8 := Lib.hid (PB7.out.on b8)
          have HS8 := Lib.hid (HS7.out.on b8)
          have H48 := Lib.hid (bon H47.out b8)
          clear cR7 b8 k7 B7 PB7 HS7 H47 q0 q1 q2 q3 q4 q5 q6 q7 q8 q9 q10 q11 q12
          obtain ⟨i0, hi0, hz0, hz1, hz2⟩ := infoQ info52
          obtain ⟨lb, lo, rfl, hnews⟩ := sl_news HS8.out (by have := flds_pos HK.out; omega)
          have hones := fcs_ones (flds p)
          have hln := HSz.out.n
          have hnl : (fcs (flds p)).length = (flds p).length * 2 := fcs_len _
          have hpos := flds_pos HK.out
          have b9 := b1c w8 (.cells #[] 52)
          have HN := Lib.hid (fun j u hj => (b9.cell (p := Addr.add ⟨lb, lo, none⟩ j) (by have := block_lt_of_cell (hnews j u hj); simpa [Addr.add] using this)).trans (hnews j u hj))
          have HB9 := Lib.hid b9
          clear hnews b9
          go_wp2_with (first
            | (at_builtin; refine wpList_append_grows _ rfl _ _ 31 rfl 52 i0 _ 2 32 Tryz.underlying31 hi0 hz0 hz1 hz2 rfl (by decide) (some ⟨w8.heap.size, 0, none⟩) 0 0 [] rfl (by simp) rfl (fun _ _ j u hj => by cases hj) ⟨lb, lo, none⟩ (flds p).length c (fcs (flds p)) rfl hnl HN.out hones (by omega) (by unfold maxLen; omega) (by omega) ?_; intro v9 w9 hown9 hgr9; rw [Nat.zero_add, List.nil_append] at hown9; obtain ⟨g9, c9, rfl⟩ := Go.Joins.ownsRow_form hown9 hpos; have HO9 := Lib.hid hown9; have HG9 := Lib.hid hgr9; clear hown9 hgr9)
            | (at_builtin; refine wpList_append_own _ rfl _ _ 31 rfl _ 52 i0 _ 2 32 Tryz.underlying31 hi0 hz0 hz1 hz2 rfl (by decide) _ _ _ rfl (HO9.out.alloc _) ⟨w9.heap.size, 0, none⟩ 1 1 [.string ⟨#[88, 45, 77, 111, 114, 101]⟩, .string ⟨more.toArray⟩] rfl rfl (World.news_of_block (nb0 _ _)) (by intro u hu; simp at hu; rcases hu with rfl | rfl <;> rfl) (by unfold maxLen; omega) (by omega) (by have := HG9.out.size; rw [World.size_alloc w9]; omega) ?_; intro v10 w10 hown10 hgr10 _; obtain ⟨g10, c10, rfl⟩ := Go.Joins.ownsRow_form hown10 (by omega); have HO10 := Lib.hid hown10; have HG10 := Lib.hid hgr10; clear hown10 hgr10)
            | fail)
          have hb9 : Below w8.heap.size w8 w9 := HB9.out.grown HG9.out HB9.out.size (fun k hk => by cases hk)
          have hb9a := hb9.alloc hb9.size (.cells #[.string ⟨#[88, 45, 77, 111, 114, 101]⟩, .string ⟨more.toArray⟩] 52)
          have hb10 : Below w8.heap.size w8 w10 := hb9a.grown HG10.out hb9a.size (fun k hk => by have := (HO9.out.lt k (by cases hk; rfl)).1; rw [World.size_alloc] at this; omega)
          have k10 := bon k8 hb10
          have hsl : Stz.Sl w10 (.slice (some ⟨g10, 0, none⟩) (flds p ++ [(([88, 45, 77, 111, 114, 101], more) : Fd)]).length c10) (flds p ++ [([88, 45, 77, 111, 114, 101], more)]) := by
            have h1 := HO10.out
            have e1 : (flds p ++ [(([88, 45, 77, 111, 114, 101], more) : Fd)]).length = (flds p).length + 1 := by simp
            refine Stz.sl_owned (C := (w8.alloc (.cells #[] 52)).heap.size) ?_
            rw [e1, show Stz.fcl (flds p ++ [(([88, 45, 77, 111, 114, 101], more) : Fd)]) = fcs (flds p) ++ [.string ⟨#[88, 45, 77, 111, 114, 101]⟩, .string ⟨more.toArray⟩] from fcs_snoc (flds p) ([88, 45, 77, 111, 114, 101], more)]
            exact h1
          have hgt2 : Gt (flds p ++ [(([88, 45, 77, 111, 114, 101], more) : Fd)]) (bare0 p) := gt_b0 (gt_flds HK.out [([88, 45, 77, 111, 114, 101], more)] (by intro g hg n hn; rw [List.mem_singleton.1 hg]; show (Stz.Sm.small [88, 45, 77, 111, 114, 101] == Stz.Sm.small n) = false; revert n; decide))
          have cR2 := read_fresh (bare0 p) (some ⟨g10, 0, none⟩) c10 (flds p ++ [([88, 45, 77, 111, 114, 101], more)]) w10 hsl (sz_more HSz.out (by simp) (by simp; omega)) hgt2 hkb rfl HPb.out (HG.out.on k10) (tab_on HT.out k10) (HM.out.on k10)
          rw [show (flds p ++ [(([88, 45, 77, 111, 114, 101], more) : Fd)]).length = (flds p).length + 1 from by simp] at cR2
          have PB10 := Lib.hid (PB8.out.on hb10)
          have H410 := Lib.hid (bon H48.out hb10)
          clear hb9 hb9a hb10 hsl hgt2 HO9 HG9 HO10 HG10 HN HB9 PB8 H48 k8 hones hnl
          with_reducible refine cR2.mono ?_
          rintro x w11 ⟨uD, uA, uG, uB, uR, uP, uS, uL, rfl, hz11, b11⟩
          obtain ⟨XD, yD, rfl⟩ := as_len hz11.D.as
          obtain ⟨XA, yA, rfl⟩ := as_len hz11.A.as
          obtain ⟨XG, yG, rfl⟩ := ts_len hz11.G.ts
          obtain ⟨XB, yB, rfl⟩ := ts_len hz11.B.ts
          obtain ⟨XR, yR, rfl⟩ := ts_len hz11.R.ts
          obtain ⟨XP, yP, rfl⟩ := ts_len hz11.P.ts
          obtain ⟨XS, yS, rfl⟩ := ss_len hz11.S.ss
          obtain ⟨XL, yL, rfl⟩ := ss_len hz11.L.ss
          have k11 := bon k10 b11
          have PB11 := PB10.out.on b11
          obtain ⟨z0, a0, a1, a2, a3, a4, a5, a6, a7, a8, a9, a10, a11, a12, f0, f1, f2, f3, f4, f5, f6, f7, f8, f9, f10, f11, f12⟩ := PB11.pk
          have H411 := Lib.hid (bon H410.out b11)
          have HZ11 := Lib.hid hz11
          have hq10 : w4.heap.size < w10.heap.size := (Array.getElem?_eq_some_iff.1 PB10.out.blk).1
          clear cR2 hz11 b11 k10 PB10 PB11 H410
          go_wp2_with fail
          have x0 := HZ11.out
          have x1 := x0.set (a := ⟨w4.heap.size, 0, none⟩) hq10 (.string ⟨(bare0 p).o.n.toArray⟩)
          have x2 := x1.set (a := ⟨w4.heap.size, 1, none⟩) hq10 (.int .i64 (bare0 p).o.e)
          have x3 := x2.set (a := ⟨w4.heap.size, 2, none⟩) hq10 (.string ⟨(bare0 p).o.u.toArray⟩)
          have x4 := x3.set (a := ⟨w4.heap.size, 3, none⟩) hq10 (.string ⟨(bare0 p).o.r.toArray⟩)
          have x5 := x4.set (a := ⟨w4.heap.size, 4, none⟩) hq10 (.slice XD (bare0 p).D.length yD)
          have x6 := x5.set (a := ⟨w4.heap.size, 5, none⟩) hq10 (.slice XA (bare0 p).A.length yA)
          have x7 := x6.set (a := ⟨w4.heap.size, 6, none⟩) hq10 (.slice XG (bare0 p).G.length yG)
          have x8 := x7.set (a := ⟨w4.heap.size, 7, none⟩) hq10 (.slice XB (bare0 p).B.length yB)
          have x9 := x8.set (a := ⟨w4.heap.size, 8, none⟩) hq10 (.slice XR (bare0 p).R.length yR)
          have x10 := x9.set (a := ⟨w4.heap.size, 9, none⟩) hq10 (.slice XP (bare0 p).o.P.length yP)
          have x11 := x10.set (a := ⟨w4.heap.size, 10, none⟩) hq10 (.slice XS (bare0 p).S.length yS)
          have x12 := x11.set (a := ⟨w4.heap.size, 11, none⟩) hq10 (.slice XL (bare0 p).L.length yL)
          have x13 := x12.set (a := ⟨w4.heap.size, 12, none⟩) hq10 (.slice none 0 0)
          have d0 := k11
          have d1 := d0.setCell (p := ⟨w4.heap.size, 0, none⟩) hqw (.string ⟨(bare0 p).o.n.toArray⟩)
          have d2 := d1.setCell (p := ⟨w4.heap.size, 1, none⟩) hqw (.int .i64 (bare0 p).o.e)
          have d3 := d2.setCell (p := ⟨w4.heap.size, 2, none⟩) hqw (.string ⟨(bare0 p).o.u.toArray⟩)
          have d4 := d3.setCell (p := ⟨w4.heap.size, 3, none⟩) hqw (.string ⟨(bare0 p).o.r.toArray⟩)
          have d5 := d4.setCell (p := ⟨w4.heap.size, 4, none⟩) hqw (.slice XD (bare0 p).D.length yD)
          have d6 := d5.setCell (p := ⟨w4.heap.size, 5, none⟩) hqw (.slice XA (bare0 p).A.length yA)
          have d7 := d6.setCell (p := ⟨w4.heap.size, 6, none⟩) hqw (.slice XG (bare0 p).G.length yG)
          have d8 := d7.setCell (p := ⟨w4.heap.size, 7, none⟩) hqw (.slice XB (bare0 p).B.length yB)
          have d9 := d8.setCell (p := ⟨w4.heap.size, 8, none⟩) hqw (.slice XR (bare0 p).R.length yR)
          have d10 := d9.setCell (p := ⟨w4.heap.size, 9, none⟩) hqw (.slice XP (bare0 p).o.P.length yP)
          have d11 := d10.setCell (p := ⟨w4.heap.size, 10, none⟩) hqw (.slice XS (bare0 p).S.length yS)
          have d12 := d11.setCell (p := ⟨w4.heap.size, 11, none⟩) hqw (.slice XL (bare0 p).L.length yL)
          have d13 := d12.setCell (p := ⟨w4.heap.size, 12, none⟩) hqw (.slice none 0 0)
          have e0 := H411.out
          have e1 := e0.setCell (p := ⟨w4.heap.size, 0, none⟩) (Nat.le_refl _) (.string ⟨(bare0 p).o.n.toArray⟩)
          have e2 := e1.setCell (p := ⟨w4.heap.size, 1, none⟩) (Nat.le_refl _) (.int .i64 (bare0 p).o.e)
          have e3 := e2.setCell (p := ⟨w4.heap.size, 2, none⟩) (Nat.le_refl _) (.string ⟨(bare0 p).o.u.toArray⟩)
          have e4 := e3.setCell (p := ⟨w4.heap.size, 3, none⟩) (Nat.le_refl _) (.string ⟨(bare0 p).o.r.toArray⟩)
          have e5 := e4.setCell (p := ⟨w4.heap.size, 4, none⟩) (Nat.le_refl _) (.slice XD (bare0 p).D.length yD)
          have e6 := e5.setCell (p := ⟨w4.heap.size, 5, none⟩) (Nat.le_refl _) (.slice XA (bare0 p).A.length yA)
          have e7 := e6.setCell (p := ⟨w4.heap.size, 6, none⟩) (Nat.le_refl _) (.slice XG (bare0 p).G.length yG)
          have e8 := e7.setCell (p := ⟨w4.heap.size, 7, none⟩) (Nat.le_refl _) (.slice XB (bare0 p).B.length yB)
          have e9 := e8.setCell (p := ⟨w4.heap.size, 8, none⟩) (Nat.le_refl _) (.slice XR (bare0 p).R.length yR)
          have e10 := e9.setCell (p := ⟨w4.heap.size, 9, none⟩) (Nat.le_refl _) (.slice XP (bare0 p).o.P.length yP)
          have e11 := e10.setCell (p := ⟨w4.heap.size, 10, none⟩) (Nat.le_refl _) (.slice XS (bare0 p).S.length yS)
          have e12 := e11.setCell (p := ⟨w4.heap.size, 11, none⟩) (Nat.le_refl _) (.slice XL (bare0 p).L.length yL)
          have e13 := e12.setCell (p := ⟨w4.heap.size, 12, none⟩) (Nat.le_refl _) (.slice none 0 0)
          have cF12 := rf_any (bare0 p) _ _ _ _ _ _ _ _ _ _ x13.pz HPb.out (HG.out.on d13) (tab_on HT.out d13) (HM.out.on d13)
          have eR5 : er (bare0 p) = .nilIface := by unfold er ec; rw [hkb, b0_flds, hr]; rfl
          have eL5 : el (bare0 p) = flds p := by unfold el; rw [hkb, b0_flds, hr]; rfl
          have HD13 := Lib.hid d13
          have HS13 := Lib.hid (HS4.out.on e13)
          clear x0 x1 x2 x3 x4 x5 x6 x7 x8 x9 x10 x11 x12 x13 d0 d1 d2 d3 d4 d5 d6 d7 d8 d9 d10 d11 d12 d13 e0 e1 e2 e3 e4 e5 e6 e7 e8 e9 e10 e11 e12 e13
          with_reducible refine cF12.mono ?_
          rintro x w13 ⟨⟨A13, c13, rfl, hS13⟩, b13⟩
          rw [eL5] at hS13
          rw [eR5, eL5]
          have k13 := bon HD13.out b13
          have cSm2 := Stz.sameK_any _ _ (flds p) w13 hS13 (HS13.out.on b13) (by omega)
          clear cF12 eR5 eL5 hS13 b13 HD13 HS13 a0 a1 a2 a3 a4 a5 a6 a7 a8 a9 a10 a11 a12 f0 f1 f2 f3 f4 f5 f6 f7 f8 f9 f10 f11 f12
          go_wp2_with fail
          with_reducible refine cSm2.mono ?_
          rintro x w14 ⟨rfl, b14⟩
          have k14 := bon k13 b14
          clear cSm2 b14 k13
          go_wp2_with fail
          go_ret
          exact ⟨rfl, k14⟩
    · go_wp2_with fail
      go_ret
      exact ⟨rfl, k1⟩
end Go.Proofs.YtfoangkkagijcaaGreatDoor
