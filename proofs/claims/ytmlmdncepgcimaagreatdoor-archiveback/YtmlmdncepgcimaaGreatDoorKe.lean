/- The walk of archive's Read, of what was written. -/
import Derived.Test.YtmlmdncepgcimaaGreatDoorKd
namespace Go.Proofs.YtmlmdncepgcimaaGreatDoor
open Go.RowKit Go.Shelf Go.Sort

/-- A package without its files. -/
def bare0 (p : Pck) : Pck := { p with F := [] }
theorem b0_flds (p : Pck) : flds (bare0 p) = flds p := rfl
theorem b0_rok (p : Pck) : rok (bare0 p) = rok p := rfl
theorem b0_pg {p : Pck} (h : Pg p) : Pg (bare0 p) := ⟨h.n, h.e0, h.e1, h.u, h.r, h.D, h.A, h.G, h.B, h.R, h.P, h.S, h.L, rfl⟩
theorem gt_b0 {l : List Fd} {p : Pck} (h : Gt l p) : Gt l (bare0 p) := ⟨h.n, h.v, h.D, h.A, h.G, h.B, h.R, h.P, h.S, h.L⟩
structure Ob (W : World) (b : Nat) (o : Obj) : Prop where
  blk : W.heap[b]? = some o
theorem Ob.on {W W' : World} {b : Nat} {o : Obj} (h : Ob W b o) (k : Below W.heap.size W W') : Ob W' b o := ⟨(k.block b (Array.getElem?_eq_some_iff.1 h.blk).1).trans h.blk⟩
theorem Ob.pk {W : World} {b : Nat} {n : List UInt8} {e : Int} {u r : List UInt8} {v4 v5 v6 v7 v8 v9 v10 v11 v12 : Value} (h : Ob W b (pko n e u r v4 v5 v6 v7 v8 v9 v10 v11 v12)) : b < W.heap.size ∧ W.cell? ⟨b, 0, none⟩ = some (.string ⟨n.toArray⟩) ∧ W.cell? ⟨b, 1, none⟩ = some (.int .i64 e) ∧ W.cell? ⟨b, 2, none⟩ = some (.string ⟨u.toArray⟩) ∧ W.cell? ⟨b, 3, none⟩ = some (.string ⟨r.toArray⟩) ∧ W.cell? ⟨b, 4, none⟩ = some (v4) ∧ W.cell? ⟨b, 5, none⟩ = some (v5) ∧ W.cell? ⟨b, 6, none⟩ = some (v6) ∧ W.cell? ⟨b, 7, none⟩ = some (v7) ∧ W.cell? ⟨b, 8, none⟩ = some (v8) ∧ W.cell? ⟨b, 9, none⟩ = some (v9) ∧ W.cell? ⟨b, 10, none⟩ = some (v10) ∧ W.cell? ⟨b, 11, none⟩ = some (v11) ∧ W.cell? ⟨b, 12, none⟩ = some (v12) ∧ W.frozen? ⟨b, 0, none⟩ = false ∧ W.frozen? ⟨b, 1, none⟩ = false ∧ W.frozen? ⟨b, 2, none⟩ = false ∧ W.frozen? ⟨b, 3, none⟩ = false ∧ W.frozen? ⟨b, 4, none⟩ = false ∧ W.frozen? ⟨b, 5, none⟩ = false ∧ W.frozen? ⟨b, 6, none⟩ = false ∧ W.frozen? ⟨b, 7, none⟩ = false ∧ W.frozen? ⟨b, 8, none⟩ = false ∧ W.frozen? ⟨b, 9, none⟩ = false ∧ W.frozen? ⟨b, 10, none⟩ = false ∧ W.frozen? ⟨b, 11, none⟩ = false ∧ W.frozen? ⟨b, 12, none⟩ = false :=
  ⟨(Array.getElem?_eq_some_iff.1 h.blk).1, by simp [World.cell?, h.blk], by simp [World.cell?, h.blk], by simp [World.cell?, h.blk], by simp [World.cell?, h.blk], by simp [World.cell?, h.blk], by simp [World.cell?, h.blk], by simp [World.cell?, h.blk], by simp [World.cell?, h.blk], by simp [World.cell?, h.blk], by simp [World.cell?, h.blk], by simp [World.cell?, h.blk], by simp [World.cell?, h.blk], by simp [World.cell?, h.blk], by simp [World.frozen?, h.blk], by simp [World.frozen?, h.blk], by simp [World.frozen?, h.blk], by simp [World.frozen?, h.blk], by simp [World.frozen?, h.blk], by simp [World.frozen?, h.blk], by simp [World.frozen?, h.blk], by simp [World.frozen?, h.blk], by simp [World.frozen?, h.blk], by simp [World.frozen?, h.blk], by simp [World.frozen?, h.blk], by simp [World.frozen?, h.blk], by simp [World.frozen?, h.blk]⟩
theorem ob_12 {W : World} {b : Nat} {n : List UInt8} {e : Int} {u r : List UInt8} {v4 v5 v6 v7 v8 v9 v10 v11 v12 : Value} (h : Ob W b (pko n e u r v4 v5 v6 v7 v8 v9 v10 v11 v12)) (v : Value) : Ob (W.setCell ⟨b, 12, none⟩ v) b (pko n e u r v4 v5 v6 v7 v8 v9 v10 v11 v) :=
  ⟨heap_setCell_same W b 12 _ 29 v h.blk⟩
theorem Zp.ne {W : World} {b : Nat} (h : Zp W b) {a : Addr} (hn : b ≠ a.block) (v : Value) : Zp (W.setCell a v) b := ⟨(heap_setCell_other W a b v hn).trans h.blk⟩
theorem pf_of {p : Pck} (h : aok p = true) : Pf p.F := fun f hf x hx => by
  unfold aok at h
  simp only [Bool.and_eq_true] at h
  have h1 := h.2.1
  unfold fk at h1
  simp only [Bool.and_eq_true, List.all_eq_true, List.mem_range] at h1
  obtain ⟨i, hi, rfl⟩ := List.getElem_of_mem hf
  have h2 := h1.2 i hi
  rw [fki_at hi] at h2
  simp only [Bool.and_eq_true] at h2
  have h3 := h2.1
  unfold pth at h3
  simp only [Bool.and_eq_true, List.all_eq_true] at h3
  have h4 := h3.2.2.1 x hx
  unfold pch at h4
  simp only [Bool.and_eq_true, decide_eq_true_eq] at h4
  exact ⟨fun e => by subst e; exact absurd h4.1.1 (by decide), fun e => by subst e; exact absurd h4.1.1 (by decide)⟩
theorem Zp.up {W W' : World} {b : Nat} (h : Zp W b) (k : Below W.heap.size W W') : Zp W' b := ⟨(k.block b (Array.getElem?_eq_some_iff.1 h.blk).1).trans h.blk⟩
/-- The lines of a package's stanza. -/
def als (p : Pck) : List (List UInt8) := (flds p).flatMap Stz.Sm.fls
theorem fls_ne (f : Stz.Sm.F) : ∀ x ∈ Stz.Sm.fls f, x ≠ [] := by
  intro x hx
  unfold Stz.Sm.fls at hx
  split at hx
  · simp at hx
  · rcases List.mem_cons.1 hx with rfl | hx
    · unfold Stz.Sm.fl0; simp
    · obtain ⟨y, _, rfl⟩ := List.mem_map.1 hx
      unfold Stz.Sm.fl1; simp
theorem als_lay (p : Pck) : Stz.Sm.txt (flds p) = Arc.lay (als p) := Stz.Sm.txt_lay (flds p)
theorem fls_pos (f : Stz.Sm.F) : Stz.Sm.fls f ≠ [] := by
  unfold Stz.Sm.fls
  cases hs : Stz.Sm.spl f.2 with
  | nil => exact absurd hs (Stz.Sm.spl_ne f.2)
  | cons x r => simp
theorem als_ne {p : Pck} (h : Stz.Sm.rgt (flds p) = true) : als p ≠ [] := by
  have h1 := (Stz.rgt_parts h).1
  unfold als
  cases hf : flds p with
  | nil => exact absurd hf h1
  | cons f l =>
    rw [List.flatMap_cons]
    intro e
    have := List.append_eq_nil_iff.1 e
    exact fls_pos f this.1
theorem als_10 {p : Pck} (h : Stz.Sm.rgt (flds p) = true) : ∀ x ∈ als p, ∀ c ∈ x, c ≠ 10 := fun x hx _c hc e => Stz.rgt_10 h x hx (e ▸ hc)
theorem als_nn (p : Pck) : ∀ x ∈ als p, x ≠ [] := fun x hx => by
  obtain ⟨f, _, hf⟩ := List.mem_flatMap.1 hx
  exact fls_ne f x hf
def ahd (p : Pck) : List UInt8 := (Arc.lay (als p)).dropLast
/-- What the head is. -/
theorem ahd_run {p : Pck} (h : Stz.Sm.rgt (flds p) = true) : Stz.run 0 [] [] (Stz.Sm.spl (ahd p)) = .ok [flds p] := by
  have hne := als_ne h
  obtain ⟨ls, x, e⟩ : ∃ ls x, als p = ls ++ [x] := ⟨(als p).dropLast, (als p).getLast hne, (List.dropLast_concat_getLast hne).symm⟩
  have h10 : ∀ y ∈ als p, (10 : UInt8) ∉ y := Stz.rgt_10 h
  have hspl : Stz.Sm.spl (ahd p) = als p := by
    unfold ahd
    rw [e, Arc.lay_last]
    have h1 := Stz.Sm.spl_lay ls (fun y hy => h10 y (by rw [e]; simp [hy])) x
    have h2 : Stz.Sm.spl x = [x] := Stz.Sm.spl_no (h10 x (by rw [e]; simp))
    rw [h2] at h1
    exact h1
  obtain ⟨j, hj⟩ := Stz.run_stanza h 0 [] []
  rw [List.append_nil] at hj
  rw [hspl]
  show Stz.run 0 [] [] ((flds p).flatMap Stz.Sm.fls) = _
  rw [hj]
  have hn := (Stz.rgt_parts h).1
  simp [Stz.run, Stz.endO, hn]
theorem ahd_cut {p : Pck} (h : Stz.Sm.rgt (flds p) = true) (rest : List UInt8) : Lib.cut (Stz.Sm.txt (flds p) ++ [10] ++ rest) [10, 10] = (ahd p, rest, true) := by
  rw [als_lay, List.append_assoc]
  exact Arc.cut_lay (als p) rest (als_ne h) (als_10 h) (als_nn p)
/-- A package's text, its head and what stands behind it. -/
def ath (p : Pck) (rest : List UInt8) : List UInt8 := Stz.Sm.txt (flds p) ++ [10] ++ rest
theorem ahd_len (p : Pck) : (ahd p).length ≤ (Stz.Sm.txt (flds p)).length := by unfold ahd; rw [als_lay]; simp
theorem cutat (p : Pck) (rest : List UInt8) (h : Stz.Sm.rgt (flds p) = true) (hl : (ath p rest).length ≤ 1000000) (w : World) (hM : MaxN w) :
    Calls Tryz.prog 110 #[.string ⟨(ath p rest).toArray⟩, .string ⟨#[10, 10]⟩] w fun e w' => e = .returned (.tuple #[.string ⟨(ahd p).toArray⟩, .string ⟨rest.toArray⟩, .bool true]) ∧ Below w.heap.size w w' := by
  obtain ⟨m, hm⟩ := hM.out
  have hs : (ByteArray.mk (ath p rest).toArray).size < 4294967281 := by
    have : (ByteArray.mk (ath p rest).toArray).size = (ath p rest).length := by simp [ByteArray.size]
    omega
  refine (Tryz.strings_Cut ⟨(ath p rest).toArray⟩ ⟨#[10, 10]⟩ m w hs hm).mono ?_
  rintro e w' ⟨rfl, n, rfl⟩
  have e1 : Lib.cut (ByteArray.mk (ath p rest).toArray).data.toList (ByteArray.mk #[10, 10]).data.toList = (ahd p, rest, true) := ahd_cut h rest
  rw [e1]
  exact ⟨rfl, Arc.below_dN w n⟩
set_option maxHeartbeats 3200000 in
set_option maxRecDepth 100000 in
theorem aread_good (p : Pck) (w : World) (hk : aok p = true) (hr : Stz.Sm.rgt (flds p) = true) (hl : (atx p).length ≤ 4000) (hp : Pg p) (hG : Sg w) (hT : Tab w) (hM : MaxN w) :
    Calls Tryz.prog 31 #[.string ⟨(atx p).toArray⟩] w fun e w' => ∃ vD vA vG vB vR vP vS vL vF, e = .returned (.tuple #[pkv p.o.n p.o.e p.o.u p.o.r vD vA vG vB vR vP vS vL vF, .nilIface]) ∧ Pz w' p vD vA vG vB vR vP vS vL vF ∧ Below w.heap.size w w' := by
  have b0 := bA1 w zpk
  have hat : atx p = ath p (p.F.flatMap fln) := rfl
  have hlt : (ath p (p.F.flatMap fln)).length ≤ 4000 := hat ▸ hl
  have hln : (Stz.Sm.txt (flds p)).length + (p.F.flatMap fln).length ≤ 4000 := by unfold ath at hlt; simp only [List.length_append] at hlt; omega
  have cK := cutat p (p.F.flatMap fln) hr (by omega) _ (hM.on b0)
  rw [← hat] at cK
  have hhd := ahd_len p
  have cP := fun W => Stz.parse_any (ahd p) W (by omega)
  rw [ahd_run hr] at cP
  have HLn := Lib.hid hln
  have hl' : ¬ (4000 : Int) < ((atx p).length : Int) := by omega
  have HB0 := Lib.hid b0
  have HG := Lib.hid hG
  have HT := Lib.hid hT
  have HM := Lib.hid hM
  have HP := Lib.hid hp
  have HK := Lib.hid hk
  have HR := Lib.hid hr
  generalize ahd p = hd at cK cP
  generalize atx p = tx at cK hl' ⊢
  clear hat hlt hln hl hG hT hM hp hk hr b0 hhd
  go_enter Tryz.func31, Tryz.ntmps31
  go_wp2_with fail
  refine cK.mono ?_
  rintro e w1 ⟨rfl, b1⟩
  have k1 := bon HB0.out b1
  have ZR1 := Lib.hid ((Zp.mk (World.alloc_heap_new w zpk)).up b1)
  have cP1 := cP w1
  clear cK cP
  go_wp2_with fail
  refine cP1.mono ?_
  rintro x w2 ⟨S, vs, rfl, hO, hvl, hin, b2⟩
  match vs, hvl with
  | [v0], _ =>
    obtain ⟨g, cg, rfl⟩ := Go.Joins.ownsRow_form hO (by simp)
    have hc0 : w2.cell? ⟨g, 0, none⟩ = some v0 := by
      have := World.ownsRow.cellAt hO 0 (by simp)
      simpa using this
    have hs := Stz.sl_owned (hin 0 (by simp) (by simp))
    simp only [List.getElem_cons_zero] at hs
    obtain ⟨A, c, rfl⟩ := sl_len hs
    have k2 := bon k1 b2
    have ZR2 := Lib.hid (ZR1.out.up b2)
    have hb := b0_pg HP.out
    have hro := aok_rok HK.out
    have hgt : Gt (flds p) (bare0 p) := gt_b0 (by have := gt_flds (rk_of hro) [] (by simp); rwa [List.append_nil] at this)
    have cR := read_fresh (bare0 p) A c (flds p) w2 hs (sz_flds (rk_of hro) HP.out) hgt hro rfl hb (HG.out.on k2) (tab_on HT.out k2) (HM.out.on k2)
    have HK2 := Lib.hid k2
    clear cP1 hO hin hs b2 k1 b1 hgt hb
    go_wp2_with fail
    with_reducible refine cR.mono ?_
    rintro x w3 ⟨vD, vA, vG, vB, vR, vP, vS, vL, rfl, hz, b3⟩
    obtain ⟨AD, cD, rfl⟩ := as_len hz.D.as
    obtain ⟨AA, cA, rfl⟩ := as_len hz.A.as
    obtain ⟨AG, cG, rfl⟩ := ts_len hz.G.ts
    obtain ⟨AB, cB, rfl⟩ := ts_len hz.B.ts
    obtain ⟨AR, cR', rfl⟩ := ts_len hz.R.ts
    obtain ⟨AP, cP', rfl⟩ := ts_len hz.P.ts
    obtain ⟨AS, cS, rfl⟩ := ss_len hz.S.ss
    obtain ⟨AL, cL, rfl⟩ := ss_len hz.L.ss
    have k3 := bon HK2.out b3
    have h23 := b3.size
    have h02 := HK2.out.size
    have b4 := b1c w3 (pko (bare0 p).o.n (bare0 p).o.e (bare0 p).o.u (bare0 p).o.r (.slice AD (bare0 p).D.length cD) (.slice AA (bare0 p).A.length cA) (.slice AG (bare0 p).G.length cG) (.slice AB (bare0 p).B.length cB) (.slice AR (bare0 p).R.length cR') (.slice AP (bare0 p).o.P.length cP') (.slice AS (bare0 p).S.length cS) (.slice AL (bare0 p).L.length cL) (.slice none 0 0))
    have PB4 := Lib.hid (Ob.mk (World.alloc_heap_new w3 (pko (bare0 p).o.n (bare0 p).o.e (bare0 p).o.u (bare0 p).o.r (.slice AD (bare0 p).D.length cD) (.slice AA (bare0 p).A.length cA) (.slice AG (bare0 p).G.length cG) (.slice AB (bare0 p).B.length cB) (.slice AR (bare0 p).R.length cR') (.slice AP (bare0 p).o.P.length cP') (.slice AS (bare0 p).S.length cS) (.slice AL (bare0 p).L.length cL) (.slice none 0 0))))
    have k4 := bon k3 b4
    have hpf : Pf p.F := pf_of HK.out
    obtain ⟨mm, hmm⟩ := (HM.out.on k4).out
    have hF30 := (fls_p HP.out.F).1
    have cF := readf_good p.F _ hpf (by omega) (by have := HLn.out; omega) mm hmm (tab_on HT.out k4)
    have HZ3 := Lib.hid hz
    have HK4 := Lib.hid k4
    have HB4 := Lib.hid b4
    have ZR4 := Lib.hid ((ZR2.out.up b3).up b4)
    clear cR hz HK2 hc0 k3 k4 b4 hmm hpf
    go_wp2_with fail
    with_reducible refine cF.mono ?_
    rintro x w5 ⟨vF, rfl, hF5, b5⟩
    obtain ⟨AF, cF', rfl⟩ := fw_sl hF5
    obtain ⟨z0, a0, a1, a2, a3, a4, a5, a6, a7, a8, a9, a10, a11, a12, f0, f1, f2, f3, f4, f5, f6, f7, f8, f9, f10, f11, f12⟩ := (PB4.out.on b5).pk
    have ZR5 := Lib.hid (ZR4.out.up b5)
    have k35 := bon HB4.out b5
    have k05 := bon HK4.out b5
    have k36 := k35.setCell (p := ⟨w3.heap.size, 12, none⟩) (Nat.le_refl _) (.slice AF p.F.length cF')
    have h03 : w.heap.size ≤ w3.heap.size := by omega
    have k06 := k05.setCell (p := ⟨w3.heap.size, 12, none⟩) h03 (.slice AF p.F.length cF')
    have hz6 := HZ3.out.on k36
    have hF6 := ownsRow_setCell_below hF5 (a := ⟨w3.heap.size, 12, none⟩) (by rw [World.size_alloc]; show w3.heap.size < _; omega) (.slice AF p.F.length cF')
    have hz6p := hz6.pz
    have cA := aright_any p (.slice AD p.D.length cD) (.slice AA p.A.length cA) (.slice AG p.G.length cG) (.slice AB p.B.length cB) (.slice AR p.R.length cR') (.slice AP p.o.P.length cP') (.slice AS p.S.length cS) (.slice AL p.L.length cL) (.slice AF p.F.length cF') _ ⟨hz6p.D, hz6p.A, hz6p.G, hz6p.B, hz6p.R, hz6p.P, hz6p.S, hz6p.L, fw_fs hF6⟩ HP.out (tab_on HT.out k06) (HM.out.on k06)
    rw [HK.out] at cA
    have hne : w.heap.size ≠ w3.heap.size := by have := ZR2.out.c.1; omega
    have HZ6 := Lib.hid hz6
    have HF6 := Lib.hid hF6
    have HK6 := Lib.hid k06
    have HSz := Lib.hid ZR2.out.c.1
    have PBx := Lib.hid (PB4.out.on b5)
    clear hz6 hz6p hF6 hF5 cF k36 k35 k05 k06 PB4 ZR4 ZR1 ZR2 HZ3 HK4 HB4 b5 b3 k2
    go_wp2_with fail
    refine cA.mono ?_
    rintro x w7 ⟨rfl, b7⟩
    have PB7 := (ob_12 PBx.out (.slice AF p.F.length cF')).on b7
    have ZR7 := (ZR5.out.ne (a := ⟨w3.heap.size, 12, none⟩) hne (.slice AF p.F.length cF')).up b7
    clear z0 a0 a1 a2 a3 a4 a5 a6 a7 a8 a9 a10 a11 a12 f0 f1 f2 f3 f4 f5 f6 f7 f8 f9 f10 f11 f12 cA PBx ZR5
    obtain ⟨z0, a0, a1, a2, a3, a4, a5, a6, a7, a8, a9, a10, a11, a12, _⟩ := PB7.pk
    obtain ⟨zr, r0, r1, r2, r3, r4, r5, r6, r7, r8, r9, r10, r11, r12, f0, f1, f2, f3, f4, f5, f6, f7, f8, f9, f10, f11, f12⟩ := ZR7.c
    have x0 := HZ6.out.on b7
    have y0 := fw_on HF6.out b7
    have d0 := bon HK6.out b7
    have hlt2 : w.heap.size < w2.heap.size := HSz.out
    have hlt3 : w.heap.size < (w3.alloc (pko (bare0 p).o.n (bare0 p).o.e (bare0 p).o.u (bare0 p).o.r (.slice AD (bare0 p).D.length cD) (.slice AA (bare0 p).A.length cA) (.slice AG (bare0 p).G.length cG) (.slice AB (bare0 p).B.length cB) (.slice AR (bare0 p).R.length cR') (.slice AP (bare0 p).o.P.length cP') (.slice AS (bare0 p).S.length cS) (.slice AL (bare0 p).L.length cL) (.slice none 0 0))).heap.size := by rw [World.size_alloc]; omega
    have x1 := x0.set (a := ⟨w.heap.size, 0, none⟩) hlt2 (.string ⟨p.o.n.toArray⟩)
    have x2 := x1.set (a := ⟨w.heap.size, 1, none⟩) hlt2 (.int .i64 p.o.e)
    have x3 := x2.set (a := ⟨w.heap.size, 2, none⟩) hlt2 (.string ⟨p.o.u.toArray⟩)
    have x4 := x3.set (a := ⟨w.heap.size, 3, none⟩) hlt2 (.string ⟨p.o.r.toArray⟩)
    have x5 := x4.set (a := ⟨w.heap.size, 4, none⟩) hlt2 (.slice AD p.D.length cD)
    have x6 := x5.set (a := ⟨w.heap.size, 5, none⟩) hlt2 (.slice AA p.A.length cA)
    have x7 := x6.set (a := ⟨w.heap.size, 6, none⟩) hlt2 (.slice AG p.G.length cG)
    have x8 := x7.set (a := ⟨w.heap.size, 7, none⟩) hlt2 (.slice AB p.B.length cB)
    have x9 := x8.set (a := ⟨w.heap.size, 8, none⟩) hlt2 (.slice AR p.R.length cR')
    have x10 := x9.set (a := ⟨w.heap.size, 9, none⟩) hlt2 (.slice AP p.o.P.length cP')
    have x11 := x10.set (a := ⟨w.heap.size, 10, none⟩) hlt2 (.slice AS p.S.length cS)
    have x12 := x11.set (a := ⟨w.heap.size, 11, none⟩) hlt2 (.slice AL p.L.length cL)
    have x13 := x12.set (a := ⟨w.heap.size, 12, none⟩) hlt2 (.slice AF p.F.length cF')
    have y1 := ownsRow_setCell_below y0 (a := ⟨w.heap.size, 0, none⟩) hlt3 (.string ⟨p.o.n.toArray⟩)
    have y2 := ownsRow_setCell_below y1 (a := ⟨w.heap.size, 1, none⟩) hlt3 (.int .i64 p.o.e)
    have y3 := ownsRow_setCell_below y2 (a := ⟨w.heap.size, 2, none⟩) hlt3 (.string ⟨p.o.u.toArray⟩)
    have y4 := ownsRow_setCell_below y3 (a := ⟨w.heap.size, 3, none⟩) hlt3 (.string ⟨p.o.r.toArray⟩)
    have y5 := ownsRow_setCell_below y4 (a := ⟨w.heap.size, 4, none⟩) hlt3 (.slice AD p.D.length cD)
    have y6 := ownsRow_setCell_below y5 (a := ⟨w.heap.size, 5, none⟩) hlt3 (.slice AA p.A.length cA)
    have y7 := ownsRow_setCell_below y6 (a := ⟨w.heap.size, 6, none⟩) hlt3 (.slice AG p.G.length cG)
    have y8 := ownsRow_setCell_below y7 (a := ⟨w.heap.size, 7, none⟩) hlt3 (.slice AB p.B.length cB)
    have y9 := ownsRow_setCell_below y8 (a := ⟨w.heap.size, 8, none⟩) hlt3 (.slice AR p.R.length cR')
    have y10 := ownsRow_setCell_below y9 (a := ⟨w.heap.size, 9, none⟩) hlt3 (.slice AP p.o.P.length cP')
    have y11 := ownsRow_setCell_below y10 (a := ⟨w.heap.size, 10, none⟩) hlt3 (.slice AS p.S.length cS)
    have y12 := ownsRow_setCell_below y11 (a := ⟨w.heap.size, 11, none⟩) hlt3 (.slice AL p.L.length cL)
    have y13 := ownsRow_setCell_below y12 (a := ⟨w.heap.size, 12, none⟩) hlt3 (.slice AF p.F.length cF')
    have d1 := d0.setCell (p := ⟨w.heap.size, 0, none⟩) (Nat.le_refl _) (.string ⟨p.o.n.toArray⟩)
    have d2 := d1.setCell (p := ⟨w.heap.size, 1, none⟩) (Nat.le_refl _) (.int .i64 p.o.e)
    have d3 := d2.setCell (p := ⟨w.heap.size, 2, none⟩) (Nat.le_refl _) (.string ⟨p.o.u.toArray⟩)
    have d4 := d3.setCell (p := ⟨w.heap.size, 3, none⟩) (Nat.le_refl _) (.string ⟨p.o.r.toArray⟩)
    have d5 := d4.setCell (p := ⟨w.heap.size, 4, none⟩) (Nat.le_refl _) (.slice AD p.D.length cD)
    have d6 := d5.setCell (p := ⟨w.heap.size, 5, none⟩) (Nat.le_refl _) (.slice AA p.A.length cA)
    have d7 := d6.setCell (p := ⟨w.heap.size, 6, none⟩) (Nat.le_refl _) (.slice AG p.G.length cG)
    have d8 := d7.setCell (p := ⟨w.heap.size, 7, none⟩) (Nat.le_refl _) (.slice AB p.B.length cB)
    have d9 := d8.setCell (p := ⟨w.heap.size, 8, none⟩) (Nat.le_refl _) (.slice AR p.R.length cR')
    have d10 := d9.setCell (p := ⟨w.heap.size, 9, none⟩) (Nat.le_refl _) (.slice AP p.o.P.length cP')
    have d11 := d10.setCell (p := ⟨w.heap.size, 10, none⟩) (Nat.le_refl _) (.slice AS p.S.length cS)
    have d12 := d11.setCell (p := ⟨w.heap.size, 11, none⟩) (Nat.le_refl _) (.slice AL p.L.length cL)
    have d13 := d12.setCell (p := ⟨w.heap.size, 12, none⟩) (Nat.le_refl _) (.slice AF p.F.length cF')
    have xq := x13.pz
    have HQ := Lib.hid (And.intro (show Pz _ p (.slice AD p.D.length cD) (.slice AA p.A.length cA) (.slice AG p.G.length cG) (.slice AB p.B.length cB) (.slice AR p.R.length cR') (.slice AP p.o.P.length cP') (.slice AS p.S.length cS) (.slice AL p.L.length cL) (.slice AF p.F.length cF') from ⟨xq.D, xq.A, xq.G, xq.B, xq.R, xq.P, xq.S, xq.L, fw_fs y13⟩) d13)
    clear xq x0 y0 d0 x1 y1 d1 x2 y2 d2 x3 y3 d3 x4 y4 d4 x5 y5 d5 x6 y6 d6 x7 y7 d7 x8 y8 d8 x9 y9 d9 x10 y10 d10 x11 y11 d11 x12 y12 d12 x13 y13 d13 HZ6 HF6 HK6 HSz b7 PB7 ZR7
    go_wp2_with fail
    exact bodyPost_ret (v := .tuple #[pkv p.o.n p.o.e p.o.u p.o.r (.slice AD p.D.length cD) (.slice AA p.A.length cA) (.slice AG p.G.length cG) (.slice AB p.B.length cB) (.slice AR p.R.length cR') (.slice AP p.o.P.length cP') (.slice AS p.S.length cS) (.slice AL p.L.length cL) (.slice AF p.F.length cF'), .nilIface]) (by simp [results, Tryz.results31, go_sem, *]; exact ⟨rfl, rfl, rfl, rfl, rfl, rfl, rfl, rfl, rfl, rfl, rfl, rfl⟩) rfl ⟨_, _, _, _, _, _, _, _, _, rfl, HQ.out.1, HQ.out.2⟩
set_option maxHeartbeats 3200000 in
set_option maxRecDepth 100000 in
theorem aread_cut (p : Pck) (F0 : List Fl2) (fp fd r : List UInt8) (hF : p.F = F0 ++ [(fp, fd)]) (hrl : r.length ≤ fd.length) (w : World) (hk : aok p = true) (hr : Stz.Sm.rgt (flds p) = true) (hl : (ath p (F0.flatMap fln ++ (fp ++ 32 :: (Lib.itoa fd.length ++ 10 :: r)))).length ≤ 4000) (hp : Pg p) (hG : Sg w) (hT : Tab w) (hM : MaxN w) :
    Calls Tryz.prog 31 #[.string ⟨(ath p (F0.flatMap fln ++ (fp ++ 32 :: (Lib.itoa fd.length ++ 10 :: r)))).toArray⟩] w fun e w' => ∃ v, e = .returned (.tuple #[v, .iface 32 (.int .i64 3)]) ∧ Below w.heap.size w w' := by
  have b0 := bA1 w zpk
  have hpf0 := pf_of hk
  have hfb := fls_p hp.F
  have hln : (Stz.Sm.txt (flds p)).length + (F0.flatMap fln ++ (fp ++ 32 :: (Lib.itoa fd.length ++ 10 :: r))).length ≤ 4000 := by unfold ath at hl; simp only [List.length_append] at hl ⊢; omega
  have cF : ∀ W, Below w.heap.size w W → Calls Tryz.prog 111 #[.string ⟨(F0.flatMap fln ++ (fp ++ 32 :: (Lib.itoa fd.length ++ 10 :: r))).toArray⟩] W fun e w' => e = .returned (.tuple #[.slice none 0 0, .bool false]) ∧ Below W.heap.size W w' := fun W hW => by
    obtain ⟨mm, hmm⟩ := (hM.on hW).out
    exact readf_no F0 fp r fd.length (by have := (hfb.2 (fp, fd) (by rw [hF]; simp)).2; dsimp only at this; omega) hrl (hpf0 (fp, fd) (by rw [hF]; simp)) W (fun f hf => hpf0 f (by rw [hF]; simp [hf])) (by have := hfb.1; rw [hF] at this; simp at this; omega) (by omega) mm hmm (tab_on hT hW)
  have cK := cutat p (F0.flatMap fln ++ (fp ++ 32 :: (Lib.itoa fd.length ++ 10 :: r))) hr (by omega) _ (hM.on b0)
  have hhd := ahd_len p
  have cP := fun W => Stz.parse_any (ahd p) W (by omega)
  rw [ahd_run hr] at cP
  have HCF := Lib.hid cF
  have hl' : ¬ (4000 : Int) < ((ath p (F0.flatMap fln ++ (fp ++ 32 :: (Lib.itoa fd.length ++ 10 :: r)))).length : Int) := by omega
  have HB0 := Lib.hid b0
  have HG := Lib.hid hG
  have HT := Lib.hid hT
  have HM := Lib.hid hM
  have HP := Lib.hid hp
  have HK := Lib.hid hk
  have HR := Lib.hid hr
  generalize ahd p = hd at cK cP
  generalize ath p (F0.flatMap fln ++ (fp ++ 32 :: (Lib.itoa fd.length ++ 10 :: r))) = tx at cK hl' ⊢
  generalize F0.flatMap fln ++ (fp ++ 32 :: (Lib.itoa fd.length ++ 10 :: r)) = rest at cK HCF
  clear hln hl hG hT hM hp hk hr b0 hhd cF hfb hpf0 hF hrl
  go_enter Tryz.func31, Tryz.ntmps31
  go_wp2_with fail
  refine cK.mono ?_
  rintro e w1 ⟨rfl, b1⟩
  have k1 := bon HB0.out b1
  have ZR1 := Lib.hid ((Zp.mk (World.alloc_heap_new w zpk)).up b1)
  have cP1 := cP w1
  clear cK cP
  go_wp2_with fail
  refine cP1.mono ?_
  rintro x w2 ⟨S, vs, rfl, hO, hvl, hin, b2⟩
  match vs, hvl with
  | [v0], _ =>
    obtain ⟨g, cg, rfl⟩ := Go.Joins.ownsRow_form hO (by simp)
    have hc0 : w2.cell? ⟨g, 0, none⟩ = some v0 := by
      have := World.ownsRow.cellAt hO 0 (by simp)
      simpa using this
    have hs := Stz.sl_owned (hin 0 (by simp) (by simp))
    simp only [List.getElem_cons_zero] at hs
    obtain ⟨A, c, rfl⟩ := sl_len hs
    have k2 := bon k1 b2
    have ZR2 := Lib.hid (ZR1.out.up b2)
    have hb := b0_pg HP.out
    have hro := aok_rok HK.out
    have hgt : Gt (flds p) (bare0 p) := gt_b0 (by have := gt_flds (rk_of hro) [] (by simp); rwa [List.append_nil] at this)
    have cR := read_fresh (bare0 p) A c (flds p) w2 hs (sz_flds (rk_of hro) HP.out) hgt hro rfl hb (HG.out.on k2) (tab_on HT.out k2) (HM.out.on k2)
    have HK2 := Lib.hid k2
    clear cP1 hO hin hs b2 k1 b1 hgt hb
    go_wp2_with fail
    with_reducible refine cR.mono ?_
    rintro x w3 ⟨vD, vA, vG, vB, vR, vP, vS, vL, rfl, hz, b3⟩
    obtain ⟨AD, cD, rfl⟩ := as_len hz.D.as
    obtain ⟨AA, cA, rfl⟩ := as_len hz.A.as
    obtain ⟨AG, cG, rfl⟩ := ts_len hz.G.ts
    obtain ⟨AB, cB, rfl⟩ := ts_len hz.B.ts
    obtain ⟨AR, cR', rfl⟩ := ts_len hz.R.ts
    obtain ⟨AP, cP', rfl⟩ := ts_len hz.P.ts
    obtain ⟨AS, cS, rfl⟩ := ss_len hz.S.ss
    obtain ⟨AL, cL, rfl⟩ := ss_len hz.L.ss
    have k3 := bon HK2.out b3
    have h23 := b3.size
    have h02 := HK2.out.size
    have b4 := b1c w3 (pko (bare0 p).o.n (bare0 p).o.e (bare0 p).o.u (bare0 p).o.r (.slice AD (bare0 p).D.length cD) (.slice AA (bare0 p).A.length cA) (.slice AG (bare0 p).G.length cG) (.slice AB (bare0 p).B.length cB) (.slice AR (bare0 p).R.length cR') (.slice AP (bare0 p).o.P.length cP') (.slice AS (bare0 p).S.length cS) (.slice AL (bare0 p).L.length cL) (.slice none 0 0))
    have PB4 := Lib.hid (Ob.mk (World.alloc_heap_new w3 (pko (bare0 p).o.n (bare0 p).o.e (bare0 p).o.u (bare0 p).o.r (.slice AD (bare0 p).D.length cD) (.slice AA (bare0 p).A.length cA) (.slice AG (bare0 p).G.length cG) (.slice AB (bare0 p).B.length cB) (.slice AR (bare0 p).R.length cR') (.slice AP (bare0 p).o.P.length cP') (.slice AS (bare0 p).S.length cS) (.slice AL (bare0 p).L.length cL) (.slice none 0 0))))
    have k4 := bon k3 b4
    have cF := HCF.out _ k4
    have HZ3 := Lib.hid hz
    have HK4 := Lib.hid k4
    have HB4 := Lib.hid b4
    have ZR4 := Lib.hid ((ZR2.out.up b3).up b4)
    clear cR hz HK2 hc0 k3 k4 b4 HZ3
    go_wp2_with fail
    with_reducible refine cF.mono ?_
    rintro x w5 ⟨rfl, b5⟩
    obtain ⟨z0, a0, a1, a2, a3, a4, a5, a6, a7, a8, a9, a10, a11, a12, f0, f1, f2, f3, f4, f5, f6, f7, f8, f9, f10, f11, f12⟩ := (PB4.out.on b5).pk
    have ZR5 := ZR4.out.up b5
    have k05 := bon HK4.out b5
    have h03 : w.heap.size ≤ w3.heap.size := by omega
    have hne : w.heap.size ≠ w3.heap.size := by have := ZR2.out.c.1; omega
    have hne' : w3.heap.size ≠ w.heap.size := fun e => hne e.symm
    obtain ⟨zr, r0, r1, r2, r3, r4, r5, r6, r7, r8, r9, r10, r11, r12, g0, g1, g2, g3, g4, g5, g6, g7, g8, g9, g10, g11, g12⟩ := ZR5.c
    have d0 := k05.setCell (p := ⟨w3.heap.size, 12, none⟩) h03 (.slice none 0 0)
    have d1 := d0.setCell (p := ⟨w.heap.size, 0, none⟩) (Nat.le_refl _) (.string ⟨#[]⟩)
    have d2 := d1.setCell (p := ⟨w.heap.size, 1, none⟩) (Nat.le_refl _) (.int .i64 0)
    have d3 := d2.setCell (p := ⟨w.heap.size, 2, none⟩) (Nat.le_refl _) (.string ⟨#[]⟩)
    have d4 := d3.setCell (p := ⟨w.heap.size, 3, none⟩) (Nat.le_refl _) (.string ⟨#[]⟩)
    have d5 := d4.setCell (p := ⟨w.heap.size, 4, none⟩) (Nat.le_refl _) (.slice none 0 0)
    have d6 := d5.setCell (p := ⟨w.heap.size, 5, none⟩) (Nat.le_refl _) (.slice none 0 0)
    have d7 := d6.setCell (p := ⟨w.heap.size, 6, none⟩) (Nat.le_refl _) (.slice none 0 0)
    have d8 := d7.setCell (p := ⟨w.heap.size, 7, none⟩) (Nat.le_refl _) (.slice none 0 0)
    have d9 := d8.setCell (p := ⟨w.heap.size, 8, none⟩) (Nat.le_refl _) (.slice none 0 0)
    have d10 := d9.setCell (p := ⟨w.heap.size, 9, none⟩) (Nat.le_refl _) (.slice none 0 0)
    have d11 := d10.setCell (p := ⟨w.heap.size, 10, none⟩) (Nat.le_refl _) (.slice none 0 0)
    have d12 := d11.setCell (p := ⟨w.heap.size, 11, none⟩) (Nat.le_refl _) (.slice none 0 0)
    have d13 := d12.setCell (p := ⟨w.heap.size, 12, none⟩) (Nat.le_refl _) (.slice none 0 0)
    have HQ := Lib.hid d13
    clear d0 d1 d2 d3 d4 d5 d6 d7 d8 d9 d10 d11 d12 d13 cF PB4 ZR4 ZR1 ZR2 HK4 HB4 b5 b3 k2 ZR5 k05
    go_wp2_with fail
    exact bodyPost_ret (v := .tuple #[pkv [] 0 [] [] (.slice none 0 0) (.slice none 0 0) (.slice none 0 0) (.slice none 0 0) (.slice none 0 0) (.slice none 0 0) (.slice none 0 0) (.slice none 0 0) (.slice none 0 0), .iface 32 (.int .i64 3)]) (by simp [results, Tryz.results31, go_sem, *]) rfl ⟨_, rfl, HQ.out⟩
end Go.Proofs.YtmlmdncepgcimaaGreatDoor
