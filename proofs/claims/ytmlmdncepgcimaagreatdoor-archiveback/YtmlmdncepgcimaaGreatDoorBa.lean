/- depend.Terms once more: what it hands back is new. -/
import Derived.Test.YtmlmdncepgcimaaGreatDoorTg
namespace Go.Proofs.YtmlmdncepgcimaaGreatDoor
open Go.RowKit Go.Shelf Go.Sort
attribute [local go_sem] Oper.semAt_some

def TB2 (B : Nat) (e : Ending) (w' : World) : Except Int (List (List Tm)) → Prop
  | .error c => e = .returned (.tuple #[.slice none 0 0, .iface 32 (.int .i64 c)])
  | .ok L => ∃ v B', B ≤ B' ∧ e = .returned (.tuple #[v, .nilIface]) ∧ LA w' B' v L
set_option maxRecDepth 100000 in
set_option maxHeartbeats 2000000 in
theorem terms_main2 (s : List UInt8) (w : World) (hs : s.length ≤ 100000) (h : ¬ Lib.trimS s bls = []) (hG : Sg w) (hT : Tab w) : Calls Tryz.prog 79 #[.string ⟨s.toArray⟩] w fun e w' => TB2 w.heap.size e w' (rdA s) ∧ Below w.heap.size w w' := by
  have cT := fun W => trim3 s W (by omega)
  have hr : rdA s = goT 0 [] (pcs s) := by unfold rdA; rw [if_neg h]
  obtain ⟨t, ht⟩ : ∃ t, t = Lib.trimS s bls := ⟨_, rfl⟩
  rw [← ht] at cT h
  have h' : (t == []) = false := by simp [h]
  have HR := Lib.hid hr
  clear ht hr h
  have hte : t.isEmpty = false := by cases t <;> simp_all
  refine (callsIn_wide (n := 9)).1 ?_
  refine callsIn_of_wp_marks Tryz.func79 rfl trivial ?_ rfl
  simp only [Tryz.ntmps79, List.size_toArray, List.length_cons, List.length_nil, Nat.reduceAdd, Nat.reduceSub, Array.replicate_succ, Array.replicate_zero, List.push_toArray, List.append_toArray, List.nil_append, List.cons_append]
  gi_wp2_with fail
  refine ⟨trivial, (callsIn_wide.2 (cT _)).mono ?_⟩
  rintro e w1 ⟨rfl, b1⟩
  have hA := Boxed.new w 24 (.slice none 0 0)
  have hB := Boxed.new (w.alloc (.cells #[.slice none 0 0] 24)) 36 .nilIface
  rw [World.size_alloc] at hB
  have hA := hA.alloc (.cells #[.nilIface] 36)
  have k0 : Boxed w1 w.heap.size 24 (.slice none 0 0) := (b1.block _ hA.lt).trans hA
  have k1 : Boxed w1 (w.heap.size + 1) 36 .nilIface := (b1.block _ hB.lt).trans hB
  have hW : Below w.heap.size w w1 := (((Below.refl _ w).alloc (Nat.le_refl _) _).alloc (by simp) _).trans (b1.mono (by simp; omega))
  have hz : w.heap.size + 2 ≤ w1.heap.size := by have := b1.size; simp at this; omega
  clear b1 hA hB cT
  gi_wp2_with fail
  refine ⟨trivial, (callsIn_wide.2 (pieces_any s _)).mono ?_⟩
  rintro e w2 ⟨rfl, rfl⟩
  gi_wp2_with fail
  have bL := ((Boxed.new w1 24 (.slice none 0 0)).alloc (.cells #[.int .i64 0] 3)).alloc (.cells #[.string ⟨s.toArray⟩] 9)
  have bN := (Boxed.new (w1.alloc (.cells #[.slice none 0 0] 24)) 3 (.int .i64 0)).alloc (.cells #[.string ⟨s.toArray⟩] 9)
  have bS := Boxed.new ((w1.alloc (.cells #[.slice none 0 0] 24)).alloc (.cells #[.int .i64 0] 3)) 9 (.string ⟨s.toArray⟩)
  rw [World.size_alloc] at bN
  rw [World.size_alloc, World.size_alloc] at bS
  have hb0 : Below w.heap.size w (((w1.alloc (.cells #[.slice none 0 0] 24)).alloc (.cells #[.int .i64 0] 3)).alloc (.cells #[.string ⟨s.toArray⟩] 9)) := ((hW.alloc hW.size _).alloc (by simp; omega) _).alloc (by simp; omega) _
  have i0 : TI w w1.heap.size s 0 (((w1.alloc (.cells #[.slice none 0 0] 24)).alloc (.cells #[.int .i64 0] 3)).alloc (.cells #[.string ⟨s.toArray⟩] 9)) :=
    ⟨by omega, hb0, by simp, ((k0.alloc _).alloc _).alloc _, ((k1.alloc _).alloc _).alloc _, bN, _, [], bL, ⟨.inl ⟨rfl, rfl⟩⟩, HR.out, fit_pcl _ 0, ⟨Nat.le_refl _, fun _ h => (by cases h)⟩⟩
  refine range_turns (gf := 188) (lb := #[.pointer (some ⟨w1.heap.size + 1 + 1, 0, none⟩)]) (n₀ := 0) rfl (enters_of Tryz.func188 (by kernel_rfl) rfl) (pieces_turns s hs _ _ _ _ bS.lt bS.cell) (Below.refl _ _) (Nat.zero_le _) (fun _ => rfl)
    (TI w w1.heap.size s) (TX w s) (TI.own (by simp; omega)) (TX.own (by simp; omega)) i0
    (fun k => { tmps := #[.string ⟨s.toArray⟩, undef, .pointer (some ⟨w.heap.size, 0, none⟩), .pointer (some ⟨w.heap.size + 1, 0, none⟩), .pointer (some ⟨w1.heap.size, 0, none⟩), .pointer (some ⟨w1.heap.size + 1, 0, none⟩), .int .i64 ((((pcs s)[k]?.getD (0, [])).1 : Nat) : Int), .string ⟨((pcs s)[k]?.getD (0, [])).2.toArray⟩, undef, undef, .string ⟨s.toArray⟩, .string ⟨t.toArray⟩, .bool false, .string ⟨s.toArray⟩, .func (.func 188) #[] #[.pointer (some ⟨w1.heap.size + 1 + 1, 0, none⟩)], .int .i64 ((((pcs s)[k]?.getD (0, [])).1 : Nat) : Int), .string ⟨((pcs s)[k]?.getD (0, [])).2.toArray⟩, undef, undef, undef, undef, undef, undef, undef, undef, undef, undef, undef, undef, undef, undef, undef, undef, undef, undef, undef, undef, undef, undef, undef, undef, undef, undef, undef, undef, undef, undef, undef], defers := [] }) ?assign ?body ?done ?stop
  case assign =>
    intro l k W K hK
    unfold pcE
    gi_wp2
    exact hK
  case done =>
    rintro D W hD hI hK
    obtain ⟨v, L, bl, la, hr, hf, hfew⟩ := hI.l
    have HL : Hid (rdA s = .ok L) := by rw [hr, List.drop_length]; exact rfl
    obtain ⟨X, c, rfl⟩ := la.sl
    have c0 := hI.r1.cell
    have c1 := hI.r2.cell
    have c2 := bl.cell
    have f0 := hI.r1.frozen
    have f1 := hI.r2.frozen
    have kK := ((KeepsOthers.setCell W ⟨w.heap.size, 0, none⟩ (.slice X L.length c)).trans (KeepsOthers.setCell _ ⟨w.heap.size + 1, 0, none⟩ .nilIface)).same D _ hK rfl
    have q0 : Boxed ((W.setCell ⟨w.heap.size, 0, none⟩ (.slice X L.length c)).setCell ⟨w.heap.size + 1, 0, none⟩ .nilIface) w.heap.size 24 (.slice X L.length c) := (hI.r1.set _).other (by omega) _
    have q1 : Boxed ((W.setCell ⟨w.heap.size, 0, none⟩ (.slice X L.length c)).setCell ⟨w.heap.size + 1, 0, none⟩ .nilIface) (w.heap.size + 1) 36 .nilIface := (hI.r2.other (by omega) _).set _
    have la2 := (la.set (a := ⟨w.heap.size, 0, none⟩) (by simp only; omega) (.slice X L.length c)).set (a := ⟨w.heap.size + 1, 0, none⟩) (by simp only; omega) .nilIface
    have hb := (hI.bel.setCell (p := ⟨w.heap.size, 0, none⟩) (Nat.le_refl _) (.slice X L.length c)).setCell (p := ⟨w.heap.size + 1, 0, none⟩) (Nat.le_succ _) .nilIface
    have kc := kc_grown (grownBy_putObj' ((W.setCell ⟨w.heap.size, 0, none⟩ (.slice X L.length c)).setCell ⟨w.heap.size + 1, 0, none⟩ .nilIface) D (.deferred none)) (fun r e => by cases e; exact ⟨_, kK, rfl⟩)
    have r0 := (kc_box q0 kc).cell
    have r1 := (kc_box q1 kc).cell
    have hD' : w.heap.size ≤ D := by simp at hD; omega
    have hb2 := hb.trans (belowK_b (w := w) (Nat.le_refl _) _ D _ (.deferred none) hD' kK rfl rfl)
    have las := la2.on kc
    have hw1 : w.heap.size ≤ w1.heap.size + 3 := by omega
    clear hf hr hI la la2 hfew q0 q1 kc hb i0 hb0 bL bN bS k0 k1 hK bl
    gi_wp2
    refine ⟨by simp, .inl ⟨_, _, rfl, run_takeDeferred kK, ?_⟩⟩
    exact ⟨.tuple #[.slice X L.length c, .nilIface], by simp only [results, Tryz.results79]; simp [go_sem, r0, r1], by rw [HL.out]; exact ⟨_, _, hw1, rfl, las⟩, hb2⟩
  case stop =>
    rintro D W hD hX hK
    obtain ⟨c, hr, b0, b1⟩ := hX.e
    have kc := kc_grown (grownBy_putObj' W D (.deferred none)) (fun r e => by cases e; exact ⟨_, hK, rfl⟩)
    have r0 := (kc_box b0 kc).cell
    have r1 := (kc_box b1 kc).cell
    have hD' : w.heap.size ≤ D := by simp at hD; omega
    have hb2 := hX.bel.trans (belowK_b (w := w) (Nat.le_refl _) _ D _ (.deferred none) hD' hK rfl rfl)
    have HL := Lib.hid hr
    clear hr hX i0 hb0 bL bN bS k0 k1 b0 b1 kc
    gi_wp2
    refine ⟨by simp, .inl ⟨_, _, rfl, run_takeDeferred hK, ?_⟩⟩
    exact ⟨.tuple #[.slice none 0 0, .iface 32 (.int .i64 c)], by simp only [results, Tryz.results79]; simp [go_sem, r0, r1], by rw [HL.out]; rfl, hb2⟩
  case body =>
    rintro l k W hk hI
    obtain ⟨v, L, bl, la, hr, hf, hfew⟩ := hI.l
    obtain ⟨⟨i, x⟩, hg⟩ : ∃ p, (pcs s)[k]? = some p := ⟨_, List.getElem?_eq_getElem hk⟩
    have hdr : (pcs s).drop k = (i, x) :: (pcs s).drop (k + 1) := by
      rw [List.drop_eq_getElem_cons hk]; congr 1; rw [List.getElem?_eq_getElem hk] at hg; exact Option.some.inj hg
    have hxl := pcs_le s (i, x) (List.mem_of_getElem? hg)
    rw [hg]
    rw [hdr] at hr hf
    simp only [Option.getD_some]
    have cP := pt_any x W (by simp only at hxl; omega) (hG.on hI.bel) (tab_on hT hI.bel)
    have hlt := hI.sz
    clear i0 hb0 bL bN bS k0 k1 hg hdr hxl
    cases ht : rd x with
    | none =>
      rw [ht] at cP
      have HE := Lib.hid (hr.trans (goT_none ht))
      have rK := hI.r1.cell
      gi_wp2_with fail
      refine ⟨trivial, (CallsIn.inRound l (callsIn_wide.2 cP)).mono ?_⟩
      rintro e w3 ⟨rfl, b3⟩
      simp only [ptB]
      have kc := kc_below b3
      have q0 := kc_box hI.r1 kc
      have q1 := kc_box hI.r2 kc
      have c0 := q0.cell
      have c1 := q1.cell
      have f0 := q0.frozen
      have f1 := q1.frozen
      have l0 := q0.lt
      have l1 := q1.lt
      gi_wp2
      exact ⟨(((ko_below b3).trans (KeepsOthers.setCell _ _ _)).trans (KeepsOthers.setCell _ _ _)).trans (KeepsOthers.alloc _ _), (((hI.bel.trans (b3.mono hI.bel.size)).setCell (p := ⟨w.heap.size, 0, none⟩) (Nat.le_refl _) _).setCell (p := ⟨w.heap.size + 1, 0, none⟩) (Nat.le_succ _) _).alloc (by simp; omega) _, 3, HE.out, ((q0.set _).other (by omega) _).alloc _, ((q1.other (by omega) _).set _).alloc _⟩
    | some t1 =>
      rw [ht] at cP
      have hk30 := hI.le
      have b31 : w.heap.size ≤ w1.heap.size := by omega
      have HR2 : Hid (rdA s = if k = 30 then .error 4 else goT (k + 1) (put L i t1) ((pcs s).drop (k + 1))) := by
        show rdA s = _
        rw [hr]
        by_cases e : k = 30
        · subst e; rw [if_pos rfl]; exact goT_lim ht
        · rw [if_neg e]; exact goT_some ht e
      have hfi := hf.1
      have HF := Lib.hid (show Fit (put L i t1).length ((pcs s).drop (k + 1)) by rw [put_len]; exact hf.2)
      clear hr hf ht
      gi_wp2_with fail
      refine ⟨trivial, (CallsIn.inRound l (callsIn_wide.2 cP)).mono ?_⟩
      rintro e w3 ⟨rfl, b3⟩
      simp only [ptB]
      have kc := kc_below b3
      have q0 := kc_box hI.r1 kc
      have q1 := kc_box hI.r2 kc
      have qn := kc_box hI.n kc
      have ql := kc_box bl kc
      have la := la.on kc
      have c0 := q0.cell
      have c1 := q1.cell
      have cn := qn.cell
      have f0 := q0.frozen
      have f1 := q1.frozen
      have fn := qn.frozen
      have l0 := q0.lt
      have l1 := q1.lt
      have ln := qn.lt
      have hb3 := hI.bel.trans (b3.mono hI.bel.size)
      have hIb := hI.bel
      have sz3 := Nat.le_trans hI.sz b3.size
      clear cP kc bl
      by_cases hk3 : k = 30
      · subst hk3
        have HE := Lib.hid (HR2.out.trans (if_pos rfl))
        clear HR2 HF hfi
        gi_wp2
        exact ⟨(((ko_below b3).trans (KeepsOthers.setCell _ _ _)).trans (KeepsOthers.setCell _ _ _)).trans (KeepsOthers.alloc _ _), ((hb3.setCell (p := ⟨w.heap.size, 0, none⟩) (Nat.le_refl _) _).setCell (p := ⟨w.heap.size + 1, 0, none⟩) (Nat.le_succ _) _).alloc (by simp; omega) _, 4, HE.out, ((q0.set _).other (by omega) _).alloc _, ((q1.other (by omega) _).set _).alloc _⟩
      · have hk3' : ¬ (k : Int) = 30 := by omega
        have HE := Lib.hid (HR2.out.trans (if_neg hk3))
        clear HR2
        obtain ⟨X, cX, rfl⟩ := la.sl
        have cl := ql.cell
        have fl := ql.frozen
        have ll := ql.lt
        obtain ⟨i1, hi, hz0, hz1, hz2⟩ := info_parts infoLL
        obtain ⟨ws, hwl, ho, hin⟩ := la.out
        have hLl : L.length ≤ 31 := by have := hfew.n; omega
        have hnl : (⟨w1.heap.size + 1, 0, none⟩ : Addr).block < w1.heap.size + 3 := by simp only; omega
        have ho3 := ((ownsRow_setCell_below ho hnl (.int .i64 ((k : Int) + 1))).alloc (.cells #[.string ⟨t1.n.toArray⟩, .int .i64 t1.o, .int .i64 t1.e, .string ⟨t1.u.toArray⟩, .string ⟨t1.r.toArray⟩] 83)).alloc (.cells #[.slice none 0 0] 25)
        rcases hfi with hi' | hi'
        · have hi2 : (i : Int) = (L.length : Int) := by omega
          gi_wp2_with (gi_at_builtin; refine wpListIn_append_own _ rfl _ _ 24 rfl (w1.heap.size + 3) 25 i1 (.slice none 0 0) 1 24 Tryz.underlying24 hi hz0 hz1 hz2 rfl (by decide) _ _ _ rfl ho3 ⟨w3.heap.size + 1, 0, none⟩ 1 1 [.slice none 0 0] rfl rfl ?g1 (by simp [Value.oneCell']) ?g2 ?g3 ?g4 ?_)
          case g2 => simp [maxLen]; omega
          case g3 => omega
          case g4 => (try simp); omega
          intro v1 w4 hown1 hgrow1 _
          obtain ⟨g, cap, rfl⟩ := ownsRow_succ hown1
          obtain rfl : i = L.length := hi'
          have tK := (K5.new (w3.setCell ⟨w1.heap.size + 1, 0, none⟩ (.int .i64 ((k : Int) + 1))) (.string ⟨t1.n.toArray⟩) (.int .i64 t1.o) (.int .i64 t1.e) (.string ⟨t1.u.toArray⟩) (.string ⟨t1.r.toArray⟩) 83).on (bA1 _ (.cells #[.slice none 0 0] 25))
          rw [World.size_setCell] at tK
          have tne : some w3.heap.size ≠ (Value.slice X L.length cX).ownBlock := fun e => by have := (ho.lt _ e.symm).2; omega
          have tK := (tK.far hgrow1 tne).other (B := w1.heap.size) (by omega) (.slice (some ⟨g, 0, none⟩) (L.length + 1) cap)
          have bx0 := (((((q0.other (B' := w1.heap.size + 1) (by omega) (.int .i64 ((k : Int) + 1))).alloc _).alloc _).kept hgrow1 (box_ne ho3 (by omega))).other (B' := w1.heap.size) (by omega) (.slice (some ⟨g, 0, none⟩) (L.length + 1) cap))
          have bx1 := (((((q1.other (B' := w1.heap.size + 1) (by omega) (.int .i64 ((k : Int) + 1))).alloc _).alloc _).kept hgrow1 (box_ne ho3 (by omega))).other (B' := w1.heap.size) (by omega) (.slice (some ⟨g, 0, none⟩) (L.length + 1) cap))
          have bxn := ((((qn.set (.int .i64 ((k : Int) + 1))).alloc _).alloc _).kept hgrow1 (box_ne ho3 (by omega))).other (B' := w1.heap.size) (by omega) (.slice (some ⟨g, 0, none⟩) (L.length + 1) cap)
          have bxl0 := (((ql.other (B' := w1.heap.size + 1) (by omega) (.int .i64 ((k : Int) + 1))).alloc _).alloc _).kept hgrow1 (box_ne ho3 (by omega))
          have bxl := bxl0.set (.slice (some ⟨g, 0, none⟩) (L.length + 1) cap)
          have lsA := (LS.begun hwl ho3 (fun j hj hj' => ((ownsRow_setCell_below (hin j hj hj') hnl (.int .i64 ((k : Int) + 1))).alloc (.cells #[.string ⟨t1.n.toArray⟩, .int .i64 t1.o, .int .i64 t1.e, .string ⟨t1.u.toArray⟩, .string ⟨t1.r.toArray⟩] 83)).alloc (.cells #[.slice none 0 0] 25)) hown1 hgrow1 (by simp; omega)).set (a := ⟨w1.heap.size, 0, none⟩) (by simp only; omega) (.slice (some ⟨g, 0, none⟩) (L.length + 1) cap)
          have hbA : Below w.heap.size w (w4.setCell ⟨w1.heap.size, 0, none⟩ (.slice (some ⟨g, 0, none⟩) (L.length + 1) cap)) := (((((hb3.setCell (p := ⟨w1.heap.size + 1, 0, none⟩) (by simp only; omega) _).alloc (by simp; omega) _).alloc (by simp; omega) _).grown hgrow1 (by simp; omega) (fun r e => Nat.le_trans (by omega) (ho3.lt r e).1))).setCell (p := ⟨w1.heap.size, 0, none⟩) (by simp only; omega) _
          have koA := (((((ko_below b3).trans (KeepsOthers.setCell _ ⟨w1.heap.size + 1, 0, none⟩ (.int .i64 ((k : Int) + 1)))).trans (KeepsOthers.alloc _ _)).trans (KeepsOthers.alloc _ _)).trans (KeepsOthers.of_grownBy hgrow1 (ko_own ho3))).trans (KeepsOthers.setCell _ ⟨w1.heap.size, 0, none⟩ (.slice (some ⟨g, 0, none⟩) (L.length + 1) cap))
          have c4 := bxl0.cell
          have f4 := bxl0.frozen
          gi_wp2_with fail
          obtain ⟨xl, hxl⟩ : ∃ xl : List Tm, xl = [] := ⟨_, rfl⟩
          rw [← hxl] at lsA
          have h6 : R6 w W w1.heap.size k w3.heap.size g cap t1 L xl ws (.slice none 0 0) w4.heap.size (w4.setCell ⟨w1.heap.size, 0, none⟩ (.slice (some ⟨g, 0, none⟩) (L.length + 1) cap)) :=
            ⟨bxl, bxn, bx0, bx1, tK, hbA, koA, by have := hgrow1.size; simp at this ⊢; omega, lsA⟩
          have HP : Hid (put L L.length t1 = L ++ [xl ++ [t1]]) := by rw [hxl]; exact put_new L t1
          have hx30 : xl.length ≤ k := by rw [hxl]; simp
          have hI30 : L.length ≤ k := hfew.n
          have hIm := hfew.m
          clear hgrow1 hown1 c4 f4 bxl0 ho3 ho hin hnl tne la q0 q1 qn ql c0 c1 cn f0 f1 fn l0 l1 ln b3 hb3 sz3 cl fl ll hI tK bx0 bx1 bxn bxl lsA hbA koA hwl
          generalize w4.setCell ⟨w1.heap.size, 0, none⟩ (.slice (some ⟨g, 0, none⟩) (L.length + 1) cap) = W6 at *
          generalize w4.heap.size = G at *
          generalize w3.heap.size = gt at *
          generalize hu : (Value.slice none 0 0) = u at h6
          clear hu
          obtain ⟨i2, ti, tz0, tz1, tz2⟩ := info_parts infoTm
          have lc := h6.l.cell
          have ho6 := h6.s.out
          have hl6 := h6.s.len
          have uc : W6.cell? ⟨g, L.length, none⟩ = some u := by
            rw [ho6.cellAt L.length (by omega), List.getElem?_append_right (by omega), hl6]; simp
          obtain ⟨t0, t1c, t2, t3, t4, tf, tl⟩ := h6.t
          have hgB : w1.heap.size + 3 ≤ g := (ho6.lt g rfl).1
          refine region_round (fun w' => w'.cell? ⟨w1.heap.size, 0, none⟩ = some (.slice (some ⟨g, 0, none⟩) (L.length + 1) cap)) (by kernel_rfl) (by kernel_rfl) (fun ⟨_, _, h⟩ => h) ?_
          refine wpAnyH_take (i := 0) (v := (.slice (some ⟨g, 0, none⟩) (L.length + 1) cap)) rfl (by kernel_rfl) (by kernel_rfl) (by kernel_rfl) (fun _ _ _ h => h) (.inl ⟨rfl, fun w' hw => by simp [go_sem, hw]⟩) lc ?_
          refine wpAnyH_take (i := 1) (v := (.int .i64 (L.length : Int))) rfl (by kernel_rfl) (by kernel_rfl) (by kernel_rfl) (fun _ _ _ h => h) (.inl ⟨rfl, fun w' _ => by simp [go_sem]⟩) lc ?_
          refine wpAnyH_take (i := 2) (v := (.slice (some ⟨g, 0, none⟩) (L.length + 1) cap)) rfl (by kernel_rfl) (by kernel_rfl) (by kernel_rfl) (fun _ _ _ h => h) (.inl ⟨rfl, fun w' hw => by simp [go_sem, hw]⟩) lc ?_
          refine wpAnyH_take (i := 3) (v := (.int .i64 (L.length : Int))) rfl (by kernel_rfl) (by kernel_rfl) (by kernel_rfl) (fun _ _ _ h => h) (.inl ⟨rfl, fun w' _ => by simp [go_sem]⟩) lc ?_
          refine wpAnyH_take (i := 4) (v := (.pointer (some ⟨g, L.length, none⟩))) rfl (by kernel_rfl) (by kernel_rfl) (by kernel_rfl) (fun _ _ _ h => h) (.inl ⟨rfl, fun w' _ => by simp [go_sem]; intro h; omega⟩) lc ?_
          have lcA := ((bA1 W6 (.cells #[.string ⟨t1.n.toArray⟩, .int .i64 t1.o, .int .i64 t1.e, .string ⟨t1.u.toArray⟩, .string ⟨t1.r.toArray⟩] 83)).cell (p := ⟨w1.heap.size, 0, none⟩) (block_lt_of_cell lc)).trans lc
          have ucA := ((bA1 W6 (.cells #[.string ⟨t1.n.toArray⟩, .int .i64 t1.o, .int .i64 t1.e, .string ⟨t1.u.toArray⟩, .string ⟨t1.r.toArray⟩] 83)).cell (p := ⟨g, L.length, none⟩) (block_lt_of_cell uc)).trans uc
          have bW : Below W6.heap.size W6 (W6.drew.alloc (.cells #[.string ⟨t1.n.toArray⟩, .int .i64 t1.o, .int .i64 t1.e, .string ⟨t1.u.toArray⟩, .string ⟨t1.r.toArray⟩] 83)) := ((Below.refl _ W6).drew).alloc (Nat.le_refl _) _
          have kA := kc_below bW
          have ls := h6.s.on kA
          have l7 := kc_box h6.l kA
          have hGB := h6.s.gb
          have hneL := box_ne ls.last (B0 := w1.heap.size) (by omega)
          refine wpAnyH_all (rs := [5, 6]) (by kernel_rfl) (by simp) ?_
          intro j hj
          have hj' : j = 5 ∨ j = 6 := by simpa using hj
          clear hj
          rcases hj' with rfl | rfl
          case' inl =>
            refine wpOp_go rfl rfl ?_
            unfold Oper.wp
            simp [go_sem, uc]
            refine ⟨lc, wpAnyH_all (rs := [6]) (by kernel_rfl) (by simp) fun j hj => ?_⟩
            obtain rfl : j = 6 := by simpa using hj
            refine wpOp_go rfl rfl ?_
            unfold Oper.wp
            simp [go_sem, t0, t1c, t2, t3, t4]
            refine ⟨lc, wpAnyH_all (rs := [7]) (by kernel_rfl) (by simp) fun j hj => ?_⟩
            obtain rfl : j = 7 := by simpa using hj
            refine wpOp_go rfl rfl ?_
            unfold Oper.wp
            simp [go_sem]
            refine ⟨lcA, ?_⟩
          case' inr =>
            refine wpOp_go rfl rfl ?_
            unfold Oper.wp
            simp [go_sem, t0, t1c, t2, t3, t4]
            refine ⟨lc, wpAnyH_all (rs := [5, 7]) (by kernel_rfl) (by simp) fun j hj => ?_⟩
            have hj' : j = 5 ∨ j = 7 := by simpa using hj
            clear hj
            rcases hj' with rfl | rfl
            case' inl =>
              refine wpOp_go rfl rfl ?_
              unfold Oper.wp
              simp [go_sem, uc]
              refine ⟨lc, wpAnyH_all (rs := [7]) (by kernel_rfl) (by simp) fun j hj => ?_⟩
              obtain rfl : j = 7 := by simpa using hj
              refine wpOp_go rfl rfl ?_
              unfold Oper.wp
              simp [go_sem]
              refine ⟨lcA, ?_⟩
            case' inr =>
              refine wpOp_go rfl rfl ?_
              unfold Oper.wp
              simp [go_sem]
              refine ⟨lcA, wpAnyH_all (rs := [5]) (by kernel_rfl) (by simp) fun j hj => ?_⟩
              obtain rfl : j = 5 := by simpa using hj
              refine wpOp_go rfl rfl ?_
              unfold Oper.wp
              simp [go_sem, ucA]
              refine ⟨lcA, ?_⟩
          all_goals
            refine wpAnyH_all (rs := [8]) (by kernel_rfl) (by simp) fun j hj => ?_
            obtain rfl : j = 8 := by simpa using hj
            refine wpOp_go rfl rfl (wp_append_lies _ (.tmp 42) (.tmp 44) 25 rfl G 83 i2 (.agg #[.string ⟨#[]⟩, .int .i64 0, .int .i64 0, .string ⟨#[]⟩, .string ⟨#[]⟩]) 5 64 Tryz.underlying25 ti tz0 tz1 tz2 rfl (by decide) u xl.length (c5 xl) rfl (h6.s.last.drew.alloc _) ⟨W6.heap.size, 0, none⟩ 1 1 t1.vs rfl rfl (news5 W6 t1) (ones5 t1) (by decide) (by simp [maxLen]; omega) (by omega) (by have := h6.s.gs; simp; omega) _ rfl ?_)
            intro g2 cap2 w7 hown7 hgrow7 _ _
            have ho7 := ls.out.kept hgrow7 (own_ne ls.out ls.last (by decide))
            have lc7 := (l7.kept hgrow7 hneL).cell
            have cg : w7.cell? ⟨g, L.length, none⟩ = some u := by
              rw [ho7.cellAt L.length (by omega), List.getElem?_append_right (by omega), hl6]; simp
            have fg := ho7.frozenAt L.length
            refine ⟨lc7, wpAnyH_all (rs := [9]) (by kernel_rfl) (by simp) fun j hj => ?_⟩
            obtain rfl : j = 9 := by simpa using hj
            refine wpOp_go rfl rfl ?_
            unfold Oper.wp
            simp [go_sem]
            split
            rotate_left
            · omega
            refine ⟨lc7, wpAnyH_all (rs := [10]) (by kernel_rfl) (by simp) fun j hj => ?_⟩
            obtain rfl : j = 10 := by simpa using hj
            refine wpOp_go rfl rfl ?_
            unfold Oper.wp
            simp [go_sem, cg, fg]
            refine ⟨lc7, wpAnyH_done (by kernel_rfl) ?_ _⟩
            exact round_end ⟨#[], []⟩ h6 hIb (by omega) hz bW hown7 hgrow7 HP.out HE.out HF.out hI30 hx30 hIm
        · have hi2 : ¬ (i : Int) = (L.length : Int) := by omega
          rcases la.is with ⟨rfl, _⟩ | ⟨I0, xl, vs, u, G, hL, hls⟩
          · simp at hi'
          have hLe : L.length = I0.length + 1 := by rw [hL]; simp
          obtain rfl : i = I0.length := by omega
          obtain ⟨g, cap, hv⟩ := ownsRow_succ hls.out
          rw [hv] at hls ql cl
          clear hi2
          have h6 : R6 w W w1.heap.size k w3.heap.size g cap t1 I0 xl vs u G ((w3.setCell ⟨w1.heap.size + 1, 0, none⟩ (.int .i64 ((k : Int) + 1))).alloc (.cells #[.string ⟨t1.n.toArray⟩, .int .i64 t1.o, .int .i64 t1.e, .string ⟨t1.u.toArray⟩, .string ⟨t1.r.toArray⟩] 83)) :=
            ⟨(ql.other (by omega) _).alloc _, (qn.set _).alloc _, (q0.other (by omega) _).alloc _, (q1.other (by omega) _).alloc _,
              by have := K5.new (w3.setCell ⟨w1.heap.size + 1, 0, none⟩ (.int .i64 ((k : Int) + 1))) (.string ⟨t1.n.toArray⟩) (.int .i64 t1.o) (.int .i64 t1.e) (.string ⟨t1.u.toArray⟩) (.string ⟨t1.r.toArray⟩) 83; rwa [World.size_setCell] at this,
              (hb3.setCell (p := ⟨w1.heap.size + 1, 0, none⟩) (by simp only; omega) _).alloc (by simp; omega) _, ((ko_below b3).trans (KeepsOthers.setCell _ _ _)).trans (KeepsOthers.alloc _ _), by simp; omega,
              (hls.set (a := ⟨w1.heap.size + 1, 0, none⟩) (by simp only; omega) _).on (kc_below (bA1 _ _))⟩
          have HP : Hid (put L I0.length t1 = I0 ++ [xl ++ [t1]]) := by rw [hL]; exact put_last I0 xl t1
          have hx30 : xl.length ≤ k := hfew.m xl (by rw [hL]; simp)
          have hI30 : I0.length ≤ k := by have := hfew.n; omega
          have hIm : ∀ y ∈ I0, y.length ≤ k := fun y hy => hfew.m y (by rw [hL]; exact List.mem_append_left _ hy)
          have hi2 : ¬ (I0.length : Int) = (I0.length : Int) + 1 := by omega
          clear ho3 ho hin hnl la hls q0 q1 qn ql b3 hb3 hI hwl hv hfew hi' hLe hL hLl
          gi_wp2_with fail
          clear c0 c1 cn f0 f1 fn l0 l1 ln sz3 cl fl ll
          generalize (w3.setCell ⟨w1.heap.size + 1, 0, none⟩ (.int .i64 ((k : Int) + 1))).alloc (.cells #[.string ⟨t1.n.toArray⟩, .int .i64 t1.o, .int .i64 t1.e, .string ⟨t1.u.toArray⟩, .string ⟨t1.r.toArray⟩] 83) = W6 at *
          generalize w3.heap.size = gt at *
          obtain ⟨i2, ti, tz0, tz1, tz2⟩ := info_parts infoTm
          have lc := h6.l.cell
          have ho6 := h6.s.out
          have hl6 := h6.s.len
          have uc : W6.cell? ⟨g, I0.length, none⟩ = some u := by
            rw [ho6.cellAt I0.length (by omega), List.getElem?_append_right (by omega), hl6]; simp
          obtain ⟨t0, t1c, t2, t3, t4, tf, tl⟩ := h6.t
          have hgB : w1.heap.size + 3 ≤ g := (ho6.lt g rfl).1
          refine region_round (fun w' => w'.cell? ⟨w1.heap.size, 0, none⟩ = some (.slice (some ⟨g, 0, none⟩) (I0.length + 1) cap)) (by kernel_rfl) (by kernel_rfl) (fun ⟨_, _, h⟩ => h) ?_
          refine wpAnyH_take (i := 0) (v := (.slice (some ⟨g, 0, none⟩) (I0.length + 1) cap)) rfl (by kernel_rfl) (by kernel_rfl) (by kernel_rfl) (fun _ _ _ h => h) (.inl ⟨rfl, fun w' hw => by simp [go_sem, hw]⟩) lc ?_
          refine wpAnyH_take (i := 1) (v := (.int .i64 (I0.length : Int))) rfl (by kernel_rfl) (by kernel_rfl) (by kernel_rfl) (fun _ _ _ h => h) (.inl ⟨rfl, fun w' _ => by simp [go_sem]⟩) lc ?_
          refine wpAnyH_take (i := 2) (v := (.slice (some ⟨g, 0, none⟩) (I0.length + 1) cap)) rfl (by kernel_rfl) (by kernel_rfl) (by kernel_rfl) (fun _ _ _ h => h) (.inl ⟨rfl, fun w' hw => by simp [go_sem, hw]⟩) lc ?_
          refine wpAnyH_take (i := 3) (v := (.int .i64 (I0.length : Int))) rfl (by kernel_rfl) (by kernel_rfl) (by kernel_rfl) (fun _ _ _ h => h) (.inl ⟨rfl, fun w' _ => by simp [go_sem]⟩) lc ?_
          refine wpAnyH_take (i := 4) (v := (.pointer (some ⟨g, I0.length, none⟩))) rfl (by kernel_rfl) (by kernel_rfl) (by kernel_rfl) (fun _ _ _ h => h) (.inl ⟨rfl, fun w' _ => by simp [go_sem]; intro h; omega⟩) lc ?_
          have lcA := ((bA1 W6 (.cells #[.string ⟨t1.n.toArray⟩, .int .i64 t1.o, .int .i64 t1.e, .string ⟨t1.u.toArray⟩, .string ⟨t1.r.toArray⟩] 83)).cell (p := ⟨w1.heap.size, 0, none⟩) (block_lt_of_cell lc)).trans lc
          have ucA := ((bA1 W6 (.cells #[.string ⟨t1.n.toArray⟩, .int .i64 t1.o, .int .i64 t1.e, .string ⟨t1.u.toArray⟩, .string ⟨t1.r.toArray⟩] 83)).cell (p := ⟨g, I0.length, none⟩) (block_lt_of_cell uc)).trans uc
          have bW : Below W6.heap.size W6 (W6.drew.alloc (.cells #[.string ⟨t1.n.toArray⟩, .int .i64 t1.o, .int .i64 t1.e, .string ⟨t1.u.toArray⟩, .string ⟨t1.r.toArray⟩] 83)) := ((Below.refl _ W6).drew).alloc (Nat.le_refl _) _
          have kA := kc_below bW
          have ls := h6.s.on kA
          have l7 := kc_box h6.l kA
          have hGB := h6.s.gb
          have hneL := box_ne ls.last (B0 := w1.heap.size) (by omega)
          refine wpAnyH_all (rs := [5, 6]) (by kernel_rfl) (by simp) ?_
          intro j hj
          have hj' : j = 5 ∨ j = 6 := by simpa using hj
          clear hj
          rcases hj' with rfl | rfl
          case' inl =>
            refine wpOp_go rfl rfl ?_
            unfold Oper.wp
            simp [go_sem, uc]
            refine ⟨lc, wpAnyH_all (rs := [6]) (by kernel_rfl) (by simp) fun j hj => ?_⟩
            obtain rfl : j = 6 := by simpa using hj
            refine wpOp_go rfl rfl ?_
            unfold Oper.wp
            simp [go_sem, t0, t1c, t2, t3, t4]
            refine ⟨lc, wpAnyH_all (rs := [7]) (by kernel_rfl) (by simp) fun j hj => ?_⟩
            obtain rfl : j = 7 := by simpa using hj
            refine wpOp_go rfl rfl ?_
            unfold Oper.wp
            simp [go_sem]
            refine ⟨lcA, ?_⟩
          case' inr =>
            refine wpOp_go rfl rfl ?_
            unfold Oper.wp
            simp [go_sem, t0, t1c, t2, t3, t4]
            refine ⟨lc, wpAnyH_all (rs := [5, 7]) (by kernel_rfl) (by simp) fun j hj => ?_⟩
            have hj' : j = 5 ∨ j = 7 := by simpa using hj
            clear hj
            rcases hj' with rfl | rfl
            case' inl =>
              refine wpOp_go rfl rfl ?_
              unfold Oper.wp
              simp [go_sem, uc]
              refine ⟨lc, wpAnyH_all (rs := [7]) (by kernel_rfl) (by simp) fun j hj => ?_⟩
              obtain rfl : j = 7 := by simpa using hj
              refine wpOp_go rfl rfl ?_
              unfold Oper.wp
              simp [go_sem]
              refine ⟨lcA, ?_⟩
            case' inr =>
              refine wpOp_go rfl rfl ?_
              unfold Oper.wp
              simp [go_sem]
              refine ⟨lcA, wpAnyH_all (rs := [5]) (by kernel_rfl) (by simp) fun j hj => ?_⟩
              obtain rfl : j = 5 := by simpa using hj
              refine wpOp_go rfl rfl ?_
              unfold Oper.wp
              simp [go_sem, ucA]
              refine ⟨lcA, ?_⟩
          all_goals
            refine wpAnyH_all (rs := [8]) (by kernel_rfl) (by simp) fun j hj => ?_
            obtain rfl : j = 8 := by simpa using hj
            refine wpOp_go rfl rfl (wp_append_lies _ (.tmp 42) (.tmp 44) 25 rfl G 83 i2 (.agg #[.string ⟨#[]⟩, .int .i64 0, .int .i64 0, .string ⟨#[]⟩, .string ⟨#[]⟩]) 5 64 Tryz.underlying25 ti tz0 tz1 tz2 rfl (by decide) u xl.length (c5 xl) rfl (h6.s.last.drew.alloc _) ⟨W6.heap.size, 0, none⟩ 1 1 t1.vs rfl rfl (news5 W6 t1) (ones5 t1) (by decide) (by simp [maxLen]; omega) (by omega) (by have := h6.s.gs; simp; omega) _ rfl ?_)
            intro g2 cap2 w7 hown7 hgrow7 _ _
            have ho7 := ls.out.kept hgrow7 (own_ne ls.out ls.last (by decide))
            have lc7 := (l7.kept hgrow7 hneL).cell
            have cg : w7.cell? ⟨g, I0.length, none⟩ = some u := by
              rw [ho7.cellAt I0.length (by omega), List.getElem?_append_right (by omega), hl6]; simp
            have fg := ho7.frozenAt I0.length
            refine ⟨lc7, wpAnyH_all (rs := [9]) (by kernel_rfl) (by simp) fun j hj => ?_⟩
            obtain rfl : j = 9 := by simpa using hj
            refine wpOp_go rfl rfl ?_
            unfold Oper.wp
            simp [go_sem]
            split
            rotate_left
            · omega
            refine ⟨lc7, wpAnyH_all (rs := [10]) (by kernel_rfl) (by simp) fun j hj => ?_⟩
            obtain rfl : j = 10 := by simpa using hj
            refine wpOp_go rfl rfl ?_
            unfold Oper.wp
            simp [go_sem, cg, fg]
            refine ⟨lc7, wpAnyH_done (by kernel_rfl) ?_ _⟩
            exact round_end ⟨#[], []⟩ h6 hIb (by omega) hz bW hown7 hgrow7 HP.out HE.out HF.out hI30 hx30 hIm

theorem rterms2 (s : List UInt8) (w : World) (hs : s.length ≤ 100000) (hG : Sg w) (hT : Tab w) : Calls Tryz.prog 79 #[.string ⟨s.toArray⟩] w fun e w' => TB2 w.heap.size e w' (rdA s) ∧ Below w.heap.size w w' := by
  by_cases h : Lib.trimS s bls = []
  · have hr : rdA s = .ok [] := by unfold rdA; rw [if_pos h]
    refine (terms_blank s w hs h).mono ?_
    rintro e w' ⟨rfl, hb⟩
    rw [hr]
    exact ⟨⟨_, _, Nat.le_refl _, rfl, ⟨.inl ⟨rfl, rfl⟩⟩⟩, hb⟩
  · exact terms_main2 s w hs h hG hT
end Go.Proofs.YtmlmdncepgcimaaGreatDoor
