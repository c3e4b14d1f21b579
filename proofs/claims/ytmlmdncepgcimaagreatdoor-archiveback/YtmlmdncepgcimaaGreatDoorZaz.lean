/- The walk of record's Fields where the package may not be; packages opened. -/
import Derived.Test.YtmlmdncepgcimaaGreatDoorYh
import Derived.Deep.SlicePairs
import Derived.ArgAppend
import Derived.Test.YtmlmdncepgcimaaGreatDoorZax
namespace Go.Proofs.YtmlmdncepgcimaaGreatDoor
open Go.RowKit Go.Shelf Go.Sort

set_option maxHeartbeats 1600000 in
set_option maxRecDepth 100000 in
theorem recfields_no (p : Pck) (vD vA vG vB vR vP vS vL vF : Value) (w : World) (hz : Pz w p vD vA vG vB vR vP vS vL vF) (hp : Pg p) (hk : rok p = false) (hT : Tab w) (hM : MaxN w) : Calls Tryz.prog 11 #[pkv p.o.n p.o.e p.o.u p.o.r vD vA vG vB vR vP vS vL vF] w fun x w' => x = .returned (.tuple #[.slice none 0 0, .iface 32 (.int .i64 1)]) ∧ Below w.heap.size w w' := by
  have c0 := b1c w (pko p.o.n p.o.e p.o.u p.o.r vD vA vG vB vR vP vS vL vF)
  have cR := recright_any p vD vA vG vB vR vP vS vL vF _ (hz.on c0) hp (tab_on hT c0) (hM.on c0)
  rw [hk] at cR
  have B0 := pb_new w p vD vA vG vB vR vP vS vL vF
  have b0 := B0.c0
  have b1 := B0.c1
  have b2 := B0.c2
  have b3 := B0.c3
  have b4 := B0.c4
  have b5 := B0.c5
  have b6 := B0.c6
  have b7 := B0.c7
  have b8 := B0.c8
  have b9 := B0.c9
  have b10 := B0.c10
  have b11 := B0.c11
  have b12 := B0.c12
  obtain ⟨D1, D2, rfl⟩ := as_sl hz.D
  obtain ⟨A1, A2, rfl⟩ := as_sl hz.A
  obtain ⟨G1, G2, rfl⟩ := ts_sl hz.G
  obtain ⟨B1, B2, rfl⟩ := ts_sl hz.B
  obtain ⟨R1, R2, rfl⟩ := ts_sl hz.R
  obtain ⟨P1, P2, rfl⟩ := ts_sl hz.P
  obtain ⟨S1, S2, rfl⟩ := ss_sl hz.S
  obtain ⟨L1, L2, rfl⟩ := ss_sl hz.L
  clear hz hp hk hT hM B0
  go_enter Tryz.func11, Tryz.ntmps11
  go_wp2_with fail
  refine cR.mono ?_
  rintro x w1 ⟨rfl, bw⟩
  go_wp2
  go_ret2
  exact ⟨rfl, bon c0 bw⟩

theorem cells39 : Tryz.prog.cellsOf 24 = 1 := by kernel_rfl
theorem cells55 : Tryz.prog.cellsOf 26 = 1 := by kernel_rfl
theorem cells56 : Tryz.prog.cellsOf 27 = 1 := by kernel_rfl
theorem cells58 : Tryz.prog.cellsOf 29 = 13 := by kernel_rfl
theorem cells109 : Tryz.prog.cellsOf 61 = 2 := by kernel_rfl
theorem und109 : ∃ f0 f1 : Field, Tryz.prog.underlying 61 = some (.struct #[f0, f1]) ∧ f0.offset = 0 ∧ f1.offset = 1 ∧ f0.type = 9 ∧ f1.type = 9 := ⟨_, _, Tryz.underlying61, rfl, rfl, rfl, rfl⟩
theorem und58 : ∃ f0 f1 f2 f3 f4 f5 f6 f7 f8 f9 f10 : Field, Tryz.prog.underlying 29 = some (.struct #[f0, f1, f2, f3, f4, f5, f6, f7, f8, f9, f10]) ∧ f0.offset = 0 ∧ f1.offset = 1 ∧ f2.offset = 4 ∧ f3.offset = 5 ∧ f4.offset = 6 ∧ f5.offset = 7 ∧ f6.offset = 8 ∧ f7.offset = 9 ∧ f8.offset = 10 ∧ f9.offset = 11 ∧ f10.offset = 12 ∧ f0.type = 9 ∧ f1.type = 23 ∧ f2.type = 24 ∧ f3.type = 24 ∧ f4.type = 25 ∧ f5.type = 25 ∧ f6.type = 25 ∧ f7.type = 25 ∧ f8.type = 26 ∧ f9.type = 26 ∧ f10.type = 27 := ⟨_, _, _, _, _, _, _, _, _, _, _, Tryz.underlying29, rfl, rfl, rfl, rfl, rfl, rfl, rfl, rfl, rfl, rfl, rfl, rfl, rfl, rfl, rfl, rfl, rfl, rfl, rfl, rfl, rfl, rfl⟩

section
variable {H : Type} {enc : TypeId × Value → H} {W : World} {base : Nat} {spare : Nat → Bool} {held : Bool}

theorem strs_of {n : Nat} {v : Value} {x : DataW H × List MemPlace} (h : DataW.trod enc Tryz.prog W base spare held n 26 [v] = some x) : ∃ l : List (List UInt8), Ss W v l := by
  rcases Go.Deep.open_slice1 Tryz.underlying26 cells9' h with ⟨hc, _⟩ | ⟨a, len, cap, m, k, V, D, Pl, hc, _, hl, _, hm, _, hall⟩
  · simp at hc; subst hc
    exact ⟨[], ⟨Or.inl ⟨rfl, _, _, rfl⟩⟩⟩
  · simp at hc; subst hc
    by_cases h0 : len = 0
    · subst h0; exact ⟨[], ⟨Or.inl ⟨rfl, _, _, rfl⟩⟩⟩
    · have hlm : len ≤ m := by rw [hm]; split <;> omega
      have get : ∀ i, i < len → ∃ y : List UInt8, V i = .string ⟨y.toArray⟩ := fun i hi => by
        obtain ⟨u, e1, _, _⟩ := DataW.trod_string Tryz.underlying9 (hall i (by omega)).2
        simp at e1
        exact ⟨u.data.toList, by rw [e1]⟩
      obtain ⟨g, hg⟩ := Go.Deep.choose_lt get
      obtain ⟨b, o, spot⟩ := a
      have hsp : spot = none := by simpa [Addr.add] using World.cell?_spot (hall 0 (by omega)).1
      subst hsp
      have hlen : ((List.range len).map g).length = len := by simp
      refine ⟨(List.range len).map g, ⟨Or.inr ⟨b, o, cap, by rw [hlen], by rw [hlen]; exact hl, ⟨block_lt_of_cell (hall 0 (by omega)).1, fun i hi => ?_⟩⟩⟩⟩
      rw [hlen] at hi
      have h1 := (hall i (by omega)).1
      rw [Go.WideShapes.add_plain, hg i hi] at h1
      simpa using h1
set_option maxRecDepth 100000 in
theorem files_of {n : Nat} {v : Value} {x : DataW H × List MemPlace} (h : DataW.trod enc Tryz.prog W base spare held n 27 [v] = some x) : ∃ l : List (List UInt8 × List UInt8), Fs W v l := by
  obtain ⟨f0, f1, hu, o0, o1, t0, t1⟩ := und109
  rcases Go.Deep.open_slice_pairs Tryz.underlying27 hu cells109 o0 o1 (by rw [t0]; exact cells9') (by rw [t1]; exact cells9') h with ⟨hc, _⟩ | ⟨a, len, cap, m, n, V0, V1, D0, D1, P0, P1, hc, _, hl, _, hm, _, hall⟩
  · simp at hc; subst hc
    exact ⟨[], ⟨Or.inl ⟨rfl, _, _, rfl⟩⟩⟩
  · simp at hc; subst hc
    rw [t0, t1] at hall
    by_cases h0 : len = 0
    · subst h0; exact ⟨[], ⟨Or.inl ⟨rfl, _, _, rfl⟩⟩⟩
    · have hlm : len ≤ m := by rw [hm]; split <;> omega
      have get : ∀ i, i < len → ∃ y : List UInt8 × List UInt8, V0 i = .string ⟨y.1.toArray⟩ ∧ V1 i = .string ⟨y.2.toArray⟩ := fun i hi => by
        obtain ⟨_, _, q0, q1⟩ := hall i (by omega)
        obtain ⟨u, e0, _, _⟩ := DataW.trod_string Tryz.underlying9 q0
        obtain ⟨x, e1, _, _⟩ := DataW.trod_string Tryz.underlying9 q1
        simp at e0 e1
        exact ⟨(u.data.toList, x.data.toList), by rw [e0], by rw [e1]⟩
      obtain ⟨g, hg⟩ := Go.Deep.choose_lt get
      obtain ⟨b, o, spot⟩ := a
      have hsp : spot = none := by simpa [Addr.add] using World.cell?_spot (hall 0 (by omega)).1
      subst hsp
      have hlen : ((List.range len).map g).length = len := by simp
      refine ⟨(List.range len).map g, ⟨Or.inr ⟨b, o, cap, by rw [hlen], by rw [hlen]; exact hl, ⟨block_lt_of_cell (hall 0 (by omega)).1, fun i hi => ?_, fun i hi => ?_⟩⟩⟩⟩
      · rw [hlen] at hi
        have h1 := (hall i (by omega)).1
        rw [Go.WideShapes.add_plain, (hg i hi).1] at h1
        simpa using h1
      · rw [hlen] at hi
        have h1 := (hall i (by omega)).2.1
        rw [Go.WideShapes.add_plain, (hg i hi).2] at h1
        simpa [Nat.add_assoc] using h1

/-- The cells of a package. -/
def Pck.vs (p : Pck) (vD vA vG vB vR vP vS vL vF : Value) : List Value := [.string ⟨p.o.n.toArray⟩, .int .i64 p.o.e, .string ⟨p.o.u.toArray⟩, .string ⟨p.o.r.toArray⟩, vD, vA, vG, vB, vR, vP, vS, vL, vF]
set_option maxRecDepth 100000 in
theorem pack_of {n : Nat} {cs : List Value} {x : DataW H × List MemPlace} (h : DataW.trod enc Tryz.prog W base spare held n 29 cs = some x) : ∃ (p : Pck) (vD vA vG vB vR vP vS vL vF : Value), cs = p.vs vD vA vG vB vR vP vS vL vF ∧ Pz W p vD vA vG vB vR vP vS vL vF ∧ Pw p := by
  obtain ⟨f0, f1, f2, f3, f4, f5, f6, f7, f8, f9, f10, hu, o0, o1, o2, o3, o4, o5, o6, o7, o8, o9, o10, t0, t1, t2, t3, t4, t5, t6, t7, t8, t9, t10⟩ := und58
  obtain ⟨xs, k, _, _, hl, hxl, hf⟩ := DataW.trod_struct hu h
  rw [cells58] at hl
  match xs, hxl, cs, hl with
  | [y0, y1, y2, y3, y4, y5, y6, y7, y8, y9, y10], _, [v0, v1, v2, v3, v4, v5, v6, v7, v8, v9, v10, v11, v12], _ =>
    have g0 := hf 0 f0 rfl
    rw [o0, t0, cells9'] at g0
    have g1 := hf 1 f1 rfl
    rw [o1, t1, cells54] at g1
    have g2 := hf 2 f2 rfl
    rw [o2, t2, cells39] at g2
    have g3 := hf 3 f3 rfl
    rw [o3, t3, cells39] at g3
    have g4 := hf 4 f4 rfl
    rw [o4, t4, cells40] at g4
    have g5 := hf 5 f5 rfl
    rw [o5, t5, cells40] at g5
    have g6 := hf 6 f6 rfl
    rw [o6, t6, cells40] at g6
    have g7 := hf 7 f7 rfl
    rw [o7, t7, cells40] at g7
    have g8 := hf 8 f8 rfl
    rw [o8, t8, cells55] at g8
    have g9 := hf 9 f9 rfl
    rw [o9, t9, cells55] at g9
    have g10 := hf 10 f10 rfl
    rw [o10, t10, cells56] at g10
    obtain ⟨nm, e0, _, _⟩ := DataW.trod_string Tryz.underlying9 (by simpa using g0)
    obtain ⟨e, u, r, e1, ie⟩ := ver_of (by simpa using g1)
    obtain ⟨lD, hD, iD⟩ := asked_of (v := v4) (by simpa using g2)
    obtain ⟨lA, hA, iA⟩ := asked_of (v := v5) (by simpa using g3)
    obtain ⟨lG, hG, iG⟩ := terms_of (v := v6) (by simpa using g4)
    obtain ⟨lB, hB, iB⟩ := terms_of (v := v7) (by simpa using g5)
    obtain ⟨lR, hR, iR⟩ := terms_of (v := v8) (by simpa using g6)
    obtain ⟨lP, hP, iP⟩ := terms_of (v := v9) (by simpa using g7)
    obtain ⟨lS, hS⟩ := strs_of (v := v10) (by simpa using g8)
    obtain ⟨lL, hL⟩ := strs_of (v := v11) (by simpa using g9)
    obtain ⟨lF, hF⟩ := files_of (v := v12) (by simpa using g10)
    simp at e0 e1
    exact ⟨⟨⟨nm.data.toList, e, u, r, lP⟩, lD, lA, lG, lB, lR, lS, lL, lF⟩, v4, v5, v6, v7, v8, v9, v10, v11, v12, by rw [e0, e1.1, e1.2.1, e1.2.2]; rfl, ⟨hD, hA, hG, hB, hR, hP, hS, hL, hF⟩, ⟨ie, iD, iA, iG, iB, iR, iP⟩⟩

end
end Go.Proofs.YtmlmdncepgcimaaGreatDoor

/- A list of two fields that is appended to. -/
namespace Go.Proofs.YtmlmdncepgcimaaGreatDoor
open Go.RowKit Go.Shelf Go.Sort

/-- A list of fields: the first ones, as they were laid, or one in a block behind a world. -/
structure LI (w5 : World) (b0 : Nat) (n0 : List Fd) (W : World) (S : Value) (fs : List Fd) : Prop where
  bel : Below w5.heap.size w5 W
  is : (fs = n0 ∧ S = .slice (some ⟨b0, 0, none⟩) 2 2) ∨ ((∃ g c, S = .slice (some ⟨g, 0, none⟩) fs.length c) ∧ W.ownsRow w5.heap.size 52 2 S fs.length (fcs fs))
/-- What is known of the first ones. -/
structure L0 (w5 : World) (b0 : Nat) (n0 : List Fd) : Prop where
  n : n0.length = 2
  b : b0 < w5.heap.size
  c : ∀ (j : Nat) (u : Value), (fcs n0)[j]? = some u → w5.cell? ⟨b0, j, none⟩ = some u
theorem fcs_len (l : List Fd) : (fcs l).length = l.length * 2 := by
  unfold fcs
  induction l with
  | nil => rfl
  | cons f l ih => simp only [List.flatMap_cons, List.length_append, ih, List.length_cons, List.length_nil]; omega
theorem LI.on {w5 : World} {b0 : Nat} {n0 : List Fd} {W W' : World} {S : Value} {fs : List Fd} (h : LI w5 b0 n0 W S fs) (k : Below W.heap.size W W') : LI w5 b0 n0 W' S fs :=
  ⟨h.bel.trans (k.mono h.bel.size), h.is.imp id fun ⟨h1, h2⟩ => ⟨h1, kc_own h2 (kc_below k)⟩⟩
theorem LI.sl {w5 : World} {b0 : Nat} {n0 : List Fd} {W : World} {S : Value} {fs : List Fd} (h : LI w5 b0 n0 W S fs) (h0 : L0 w5 b0 n0) : ∃ g c, S = .slice (some ⟨g, 0, none⟩) fs.length c := by
  rcases h.is with ⟨rfl, rfl⟩ | ⟨h1, _⟩
  · exact ⟨b0, 2, by rw [h0.n]⟩
  · exact h1
/-- As fields that are read. -/
theorem LI.fl {w5 : World} {b0 : Nat} {n0 : List Fd} {W : World} {S : Value} {fs : List Fd} (h : LI w5 b0 n0 W S fs) (h0 : L0 w5 b0 n0) : Stz.Sl W S fs := by
  rcases h.is with ⟨rfl, rfl⟩ | ⟨⟨g, c, rfl⟩, h2⟩
  · refine ⟨.inr ⟨b0, 0, 2, by rw [h0.n], by rw [h0.n]; omega, Nat.lt_of_lt_of_le h0.b h.bel.size, fun i hi => ?_, fun i hi => ?_⟩⟩
    · rw [h.bel.cell (p := ⟨b0, _, none⟩) h0.b]
      exact h0.c _ _ (by rw [show (0 + i * 2) = i * 2 + 0 from by omega, fcs_get fs i 0 hi (by omega)]; rfl)
    · rw [h.bel.cell (p := ⟨b0, _, none⟩) h0.b]
      exact h0.c _ _ (by rw [show (0 + i * 2 + 1) = i * 2 + 1 from by omega, fcs_get fs i 1 hi (by omega)]; rfl)
  · have hc : fs.length ≤ c := by
      rcases h2.2 with ⟨h', _⟩ | ⟨g', cap', cur, h', hb, hg, hnc, hcm, hcs, htake⟩
      · simp at h'
      · simp only [Value.slice.injEq, Option.some.injEq, Addr.mk.injEq, and_true, true_and] at h'
        omega
    refine ⟨.inr ⟨g, 0, c, rfl, hc, (h2.lt g rfl).2, fun i hi => ?_, fun i hi => ?_⟩⟩
    · rw [show (0 + i * 2) = i * 2 + 0 from by omega, World.ownsRow.cellAt h2 (i * 2 + 0) (by omega), fcs_get fs i 0 hi (by omega)]; rfl
    · rw [show (0 + i * 2 + 1) = i * 2 + 1 from by omega, World.ownsRow.cellAt h2 (i * 2 + 1) (by omega), fcs_get fs i 1 hi (by omega)]; rfl

/-- All but fields are kept. -/
def K52 (W W' : World) : Prop := ∀ (g : Nat) (c : Array Value) (t : TypeId) (f : Nat × Nat), W.heap[g]? = some (Obj.cells c t f) → t ≠ 52 → W'.heap[g]? = some (Obj.cells c t f)
theorem k52_grown {W W' : World} {B n : Nat} {S : Value} {xs : List Value} (h : W.ownsRow B 52 2 S n xs) (hg : W.grownBy W' S.ownBlock) : K52 W W' := fun g c t f h1 ht =>
  (hg.block g (Array.getElem?_eq_some_iff.1 h1).1 (fun e => by
    obtain ⟨c', fz, h2⟩ := Lib.ownsRow_kind h g e.symm
    rw [h1] at h2; cases h2; exact ht rfl)).trans h1
theorem k52_none {W W' : World} (hg : W.grownBy W' none) : K52 W W' := fun g _ _ _ h1 _ =>
  (hg.block g (Array.getElem?_eq_some_iff.1 h1).1 (fun e => by cases e)).trans h1
theorem k52_below {W W' : World} (h : Below W.heap.size W W') : K52 W W' := fun g _ _ _ h1 _ => (kc_below h).2 g _ _ _ h1

/-- One more is appended. -/
theorem wpList_li {w5 : World} {b0 : Nat} {n0 fs : List Fd} {W : World} {S : Value} {n v : List UInt8} (h0 : L0 w5 b0 n0) (h : LI w5 b0 n0 W S fs) (hl : fs.length ≤ 100)
    {ops : Array Oper} {rest : List Oper} {o : Oper} {a : Act} {Q : Exit → Act → World → Prop} (hg : o.guard = none) (s x : Operand) (hop : o.op = Op.call { callee := Callee.builtin Builtin.append, args := #[s, x], argTypes := #[31, 31] }) (hs : a.eval s = S) (N : Nat) (hx : a.eval x = .slice (some ⟨N, 0, none⟩) 1 1) (hN : N = W.heap.size)
    (K : ∀ g c w6, LI w5 b0 n0 w6 (.slice (some ⟨g, 0, none⟩) (fs.length + 1) c) (fs ++ [(n, v)]) → K52 W w6 → wpList Tryz.prog ops Q rest (a.put o.dst (.slice (some ⟨g, 0, none⟩) (fs.length + 1) c)) w6) :
    wpList Tryz.prog ops Q (o :: rest) a (W.alloc (.cells #[.string ⟨n.toArray⟩, .string ⟨v.toArray⟩] 52)) := by
  subst hN
  obtain ⟨i0, hi0, hz0, hz1, hz2⟩ := infoQ info52
  have hba : Below w5.heap.size w5 (W.alloc (.cells #[.string ⟨n.toArray⟩, .string ⟨v.toArray⟩] 52)) := h.bel.alloc h.bel.size _
  have news : ∀ j u, ([Value.string ⟨n.toArray⟩, .string ⟨v.toArray⟩])[j]? = some u → (W.alloc (.cells #[.string ⟨n.toArray⟩, .string ⟨v.toArray⟩] 52)).cell? ((⟨W.heap.size, 0, none⟩ : Addr).add j) = some u := World.news_of_block (nb0 W _)
  have ones : ∀ u ∈ [Value.string ⟨n.toArray⟩, .string ⟨v.toArray⟩], u.oneCell' = true := by intro u hu; simp at hu; rcases hu with rfl | rfl <;> rfl
  rcases h.is with ⟨rfl, rfl⟩ | ⟨⟨g, c, rfl⟩, h2⟩
  · have hn := h0.n
    refine wpList_append_grows _ hg s x 31 hop 52 i0 _ 2 32 Tryz.underlying31 hi0 hz0 hz1 hz2 rfl (by decide) (some ⟨b0, 0, none⟩) 2 2 (fcs fs) hs (by simp) (by rw [fcs_len, hn]) (fun b hb j u hj => ?_) ⟨W.heap.size, 0, none⟩ 1 1 _ hx rfl news ones (by omega) (by unfold maxLen; omega) (by omega) ?_
    · cases hb
      have := h0.c j u hj
      rw [← hba.cell (p := ⟨b0, j, none⟩) h0.b] at this
      rw [Go.WideShapes.add_plain, Nat.zero_add]; exact this
    · intro v' w6 hown hgr
      have hown' : w6.ownsRow w5.heap.size 52 2 v' (fs.length + 1) (fcs (fs ++ [(n, v)])) := by
        rw [fcs_snoc, hn]; exact own_low hown hba.size
      obtain ⟨g, c, rfl⟩ := Go.Joins.ownsRow_form hown' (by omega)
      refine K g c w6 ⟨hba.grown hgr hba.size (fun j e => by cases e), .inr ⟨⟨g, c, by rw [List.length_append]; rfl⟩, ?_⟩⟩ ?_
      · rw [List.length_append]; exact hown'
      · exact fun g c t f h1 ht => k52_none hgr g c t f (k52_below (bA1 W _) g c t f h1 ht) ht
  · refine wpList_append_lies _ hg s x 31 hop w5.heap.size 52 i0 _ 2 32 Tryz.underlying31 hi0 hz0 hz1 hz2 rfl (by decide) _ _ _ hs (h2.alloc _) ⟨W.heap.size, 0, none⟩ 1 1 _ hx rfl news ones (by decide) (by unfold maxLen; omega) (by omega) hba.size _ rfl ?_
    intro g' c' w6 hown hgr _ _
    refine K g' c' w6 ⟨hba.grown hgr hba.size (fun j e => (h2.lt j e).1), .inr ⟨⟨g', c', by rw [List.length_append]; rfl⟩, ?_⟩⟩ ?_
    · rw [fcs_snoc, List.length_append]; exact hown
    · exact fun g c t f h1 ht => k52_grown (h2.alloc _) hgr g c t f (k52_below (bA1 W _) g c t f h1 ht) ht
end Go.Proofs.YtmlmdncepgcimaaGreatDoor

/- The walk of the reference's text of a stanza. -/
namespace Go.Proofs.YtmlmdncepgcimaaGreatDoor.Stz
open Go.RowKit Go.Shelf Go.Sort

/-- A library's variable holds some number. -/
structure MaxL (w : World) : Prop where
  out : ∃ m : Int, w.cell? ⟨2, 0, none⟩ = some (.int .i64 m)
theorem MaxL.on {w w' : World} (h : MaxL w) (b : Below w.heap.size w w') : MaxL w' := by
  obtain ⟨m, hm⟩ := h.out
  exact ⟨m, by rw [b.cell (block_lt_of_cell hm)]; exact hm⟩
/-- Lines in a row. -/
structure Ls (W : World) (g : Nat) (ls : List (List UInt8)) : Prop where
  lt : g < W.heap.size
  c : ∀ j (hj : j < ls.length), W.cell? ⟨g, j, none⟩ = some (.string ⟨ls[j].toArray⟩)
theorem Ls.on {W w' : World} {g : Nat} {ls : List (List UInt8)} (h : Ls W g ls) (k : Below W.heap.size W w') : Ls w' g ls :=
  ⟨Nat.lt_of_lt_of_le h.lt k.size, fun j hj => by rw [k.cell h.lt]; exact h.c j hj⟩

theorem split_any (v : List UInt8) (w : World) (hm : MaxL w) (hl : v.length ≤ 1000000) :
    Calls Tryz.prog 74 #[.string ⟨v.toArray⟩, .string ⟨#[10]⟩] w fun e w' => e = .returned (.slice (some ⟨w.heap.size, 0, none⟩) (Sm.spl v).length (Sm.spl v).length) ∧ Below w.heap.size w w' ∧ Ls w' w.heap.size (Sm.spl v) := by
  obtain ⟨m, hm⟩ := hm.out
  refine (Tryz.strings_Split ⟨v.toArray⟩ ⟨#[10]⟩ m w (by simp [ByteArray.size]; omega) hm (by decide)).mono ?_
  rintro e w' ⟨rfl, rfl⟩
  rw [split_n, split_eq]
  refine ⟨rfl, (Below.refl _ _).alloc (Nat.le_refl _) _, by simp, fun j hj => ?_⟩
  rw [World.cell?_alloc_at _ _ _ _ (by simp)]
  simp [hj]

/-- A field's text behind so many lines. -/
def pl (n : List UInt8) (ls : List (List UInt8)) (j : Nat) : List UInt8 := if j = 0 then [] else n ++ (58 :: (Sm.l0 (ls.headD []) ++ ((ls.take j).drop 1).flatMap Sm.ln))
theorem pl_all (f : Sm.F) : pl f.1 (Sm.spl f.2) (Sm.spl f.2).length = Sm.ft f := by
  have h := Sm.spl_ne f.2
  unfold pl Sm.ft Sm.vt
  cases hs : Sm.spl f.2 with
  | nil => exact absurd hs h
  | cons x r => simp
theorem pl_one (n : List UInt8) (ls : List (List UInt8)) (h : 0 < ls.length) : pl n ls 1 = n ++ (58 :: Sm.l0 ls[0]) := by
  cases ls with
  | nil => simp at h
  | cons x r => simp [pl]
theorem pl_step (n : List UInt8) (ls : List (List UInt8)) (j : Nat) (h : j < ls.length) (hj : 0 < j) : pl n ls (j + 1) = pl n ls j ++ Sm.ln ls[j] := by
  unfold pl
  rw [if_neg (by omega), if_neg (by omega), List.take_succ_eq_append_getElem h, List.drop_append_of_le_length (by simp; omega), List.flatMap_append]
  simp

theorem pl_le (n : List UInt8) (ls : List (List UInt8)) (j : Nat) (hj : j ≤ ls.length) : (pl n ls j).length ≤ (pl n ls ls.length).length := by
  unfold pl
  by_cases h0 : j = 0
  · simp [h0]
  · rw [if_neg h0, if_neg (by omega), List.take_length]
    have e : ls.drop 1 = (ls.take j).drop 1 ++ ls.drop j := by
      rw [← List.drop_append_of_le_length (by simp; omega), List.take_append_drop]
    rw [e, List.flatMap_append]
    simp
theorem str_eq {a : ByteArray} {l : List UInt8} (h : a.data.toList = l) : Value.string a = .string ⟨l.toArray⟩ := by
  subst h; simp

set_option maxHeartbeats 3200000 in
set_option maxRecDepth 100000 in
theorem xt_row (b o c : Nat) (l : List Sm.F) (w : World) (h : Fl w b o l) (hz : Sz l) (hT : (Sm.txt l).length ≤ 1000000) (hm : MaxL w) :
    Calls Tryz.prog 93 #[.slice (some ⟨b, o, none⟩) l.length c] w fun e w' => e = .returned (.string ⟨(Sm.txt l).toArray⟩) ∧ Below w.heap.size w w' := by
  obtain ⟨R, hR⟩ : ∃ R, R = Sm.txt l := ⟨_, rfl⟩
  have HR := Lib.hid hR
  rw [← hR] at hT ⊢
  clear hR
  have hn := hz.n
  have HZ := Lib.hid hz
  clear hz
  go_enter Tryz.func93, Tryz.ntmps93
  go_wp2
  go_loopw [3, 10] (fun v i W => ∃ k : Nat, k ≤ l.length ∧ i = .int .i64 k ∧ v = .string ⟨(Sm.txt (l.take k)).toArray⟩ ∧ Below w.heap.size w W) (fun _ i _ => l.length - (intOf i).toNat)
  case atStart => exact ⟨0, Nat.zero_le _, rfl, rfl, Below.refl _ _⟩
  case round =>
    obtain ⟨k, hk, rfl, rfl, hW⟩ := hrel
    by_cases hlt : k < l.length
    · have hF := h.on hW
      have c0 := hF.c0 k hlt
      have c1 := hF.c1 k hlt
      have hfs := HZ.out.s l[k] (List.getElem_mem hlt)
      have bA : Below w.heap.size w (wr.alloc (.cells #[.string ⟨l[k].1.toArray⟩, .string ⟨l[k].2.toArray⟩] 52)) := hW.alloc hW.size _
      have hle := txt_len (l := l) (k + 1)
      rw [txt_take hlt, ← HR.out] at hle
      have HTX := Lib.hid (txt_take hlt)
      have hPL := pl_all l[k]
      obtain ⟨P, hP⟩ : ∃ P, P = Sm.txt (l.take k) := ⟨_, rfl⟩
      rw [← hP] at hle HTX ⊢
      clear hP
      go_wp2_with fail
      refine (split_any l[k].2 _ (hm.on bA) (by omega)).mono ?_
      rintro e w1 ⟨rfl, b1, L1⟩
      have d0 : w1.cell? ⟨wr.heap.size, 0, none⟩ = some (.string ⟨l[k].1.toArray⟩) := by rw [b1.cell (by simp)]; simp
      have hlin := fun j hj => Sm.spl_len l[k].2 (Sm.spl l[k].2)[j] (List.getElem_mem (n := j) hj)
      have hsn := (Sm.spl_sum l[k].2).2
      have hsp : 0 < (Sm.spl l[k].2).length := List.length_pos_iff.2 (Sm.spl_ne _)
      obtain ⟨ls, hls⟩ : ∃ ls, ls = Sm.spl l[k].2 := ⟨_, rfl⟩
      rw [← hls] at L1 hlin hsn hPL hsp ⊢
      clear hls
      replace L1 : Ls w1 (wr.heap.size + 1) ls := by simpa using L1
      have HPL := Lib.hid hPL
      have HLI := Lib.hid hlin
      clear hPL hlin
      have hple : ∀ j, j ≤ ls.length → (P ++ pl l[k].1 ls j).length ≤ 1000000 := fun j hj => by
        have h1 := pl_le l[k].1 ls j hj
        rw [HPL.out] at h1
        simp at hle ⊢; omega
      have HPE := Lib.hid hple
      clear hple
      go_wp2_with fail
      go_loop [3, 18] (fun v i => ∃ j : Nat, j ≤ ls.length ∧ i = .int .i64 j ∧ v = .string ⟨(P ++ pl l[k].1 ls j).toArray⟩) (fun _ i => ls.length - (intOf i).toNat)
      case atStart => exact ⟨0, Nat.zero_le _, rfl, by simp [pl]⟩
      case round =>
        obtain ⟨j, hj, rfl, rfl⟩ := hrel
        by_cases hjl : j < ls.length
        · have cj := L1.c j hjl
          have hjx := HLI.out j hjl
          have hq := HPE.out j hj
          simp only [List.length_append] at hq
          by_cases hj0 : j = 0
          · subst hj0
            have hp1 := pl_one l[k].1 ls hjl
            have HP1 := Lib.hid hp1
            clear hp1
            have hxx : ls[0].length ≤ 4000 := by omega
            cases hx : ls[0] with
            | nil =>
              rw [hx] at cj HP1
              go_wp2_with fail
              exact ⟨⟨1, by omega, by go_num, str_eq (by rw [HP1.out]; simp [pl, Sm.l0])⟩, by simp [intOf]; omega⟩
            | cons a r =>
              obtain ⟨x, hxe⟩ : ∃ x, x = a :: r := ⟨_, rfl⟩
              have hxi : x.isEmpty = false := by rw [hxe]; rfl
              have hl0 : Sm.l0 x = 32 :: (x ++ [10]) := by rw [hxe]; simp [Sm.l0]
              have HL0 := Lib.hid hl0
              rw [hx, ← hxe] at cj HP1 hxx
              clear hx hxe hl0
              go_wp2_with fail
              exact ⟨⟨1, by omega, by go_num, str_eq (by rw [HP1.out, HL0.out]; simp [pl])⟩, by simp [intOf]; omega⟩
          · have hjp : 0 < j := Nat.pos_of_ne_zero hj0
            have hjb : ((j : Int) == 0) = false := by rw [beq_eq_false_iff_ne]; omega
            have HPS := Lib.hid (pl_step l[k].1 ls j hjl hjp)
            have hxx : ls[j].length ≤ 4000 := by omega
            generalize ls[j] = x at cj HPS hxx
            clear hjx
            cases hd : (x.head? == some 46) with
            | true =>
              have HLN := Lib.hid (show Sm.ln x = [32, 46] ++ (x ++ [10]) from by unfold Sm.ln; rw [if_pos (by simpa using hd)]; rfl)
              have cP : ∀ W, Calls Tryz.prog 106 #[.string ⟨x.toArray⟩, .string ⟨#[46]⟩] W fun e w' => e = .returned (.bool true) ∧ w' = W := fun W => by rw [← hd]; exact hp46 x W
              go_wp2_with (go_at_call 106; with_reducible refine (cP _).mono ?_; rintro x w' ⟨rfl, rfl⟩)
              exact ⟨⟨j + 1, hjl, by go_num, str_eq (by rw [HPS.out, HLN.out]; simp)⟩, by simp [intOf]; omega⟩
            | false =>
              have HLN := Lib.hid (show Sm.ln x = [32] ++ (x ++ [10]) from by unfold Sm.ln; rw [if_neg (by simpa using hd)]; rfl)
              have cP : ∀ W, Calls Tryz.prog 106 #[.string ⟨x.toArray⟩, .string ⟨#[46]⟩] W fun e w' => e = .returned (.bool false) ∧ w' = W := fun W => by rw [← hd]; exact hp46 x W
              go_wp2_with (go_at_call 106; with_reducible refine (cP _).mono ?_; rintro x w' ⟨rfl, rfl⟩)
              exact ⟨⟨j + 1, hjl, by go_num, str_eq (by rw [HPS.out, HLN.out]; simp)⟩, by simp [intOf]; omega⟩
        · have hjl' : j = ls.length := by omega
          subst hjl'
          rw [HPL.out]
          go_wp2_with fail
          exact ⟨⟨k + 1, hlt, by go_num, by rw [HTX.out], onn bA b1⟩, by simp [intOf]; omega⟩
    · have hkl : k = l.length := by omega
      subst hkl
      rw [List.take_length, ← HR.out]
      go_wp2
      go_ret
      exact ⟨rfl, hW⟩

theorem xt_nil (A : Option Addr) (c : Nat) (w : World) : Calls Tryz.prog 93 #[.slice A 0 c] w fun e w' => e = .returned (.string ⟨#[]⟩) ∧ w' = w := by
  go_enter Tryz.func93, Tryz.ntmps93
  go_wp2
  refine wp_loop_rounds 1 ?_
  rw [rounds_succ]
  go_wp2
  go_ret
  exact ⟨rfl, rfl⟩
theorem xt_any (v : Value) (l : List Sm.F) (w : World) (h : Sl w v l) (hz : Sz l) (hT : (Sm.txt l).length ≤ 1000000) (hm : MaxL w) :
    Calls Tryz.prog 93 #[v] w fun e w' => e = .returned (.string ⟨(Sm.txt l).toArray⟩) ∧ Below w.heap.size w w' := by
  rcases h.is with ⟨rfl, A, c, rfl⟩ | ⟨b, o, c, rfl, _, hf⟩
  · exact (xt_nil A c w).mono fun _ _ ⟨he, hw⟩ => ⟨he, by rw [hw]; exact Below.refl _ _⟩
  · exact xt_row b o c l w hf hz hT hm

end Go.Proofs.YtmlmdncepgcimaaGreatDoor.Stz

/- The walk of the reference's Stanza: which fields may be one. -/
namespace Go.Proofs.YtmlmdncepgcimaaGreatDoor.Stz
open Go.RowKit Go.Shelf Go.Sort

/-- A line at its place. -/
def lj (ls : List (List UInt8)) (j : Nat) (hj : j < ls.length) : Bool := Sm.lok ls[j] && !(decide (0 < j) && ls[j] == [])
theorem vok_all (ls : List (List UInt8)) : (match ls with | [] => true | x :: r => Sm.lok x && Sm.mok r) = true ↔ ∀ j hj, lj ls j hj = true := by
  cases ls with
  | nil => simp
  | cons x r =>
    constructor
    · intro h j hj
      rw [Bool.and_eq_true] at h
      cases j with
      | zero => simp [lj, h.1]
      | succ j =>
        have h2 := h.2
        unfold Sm.mok at h2
        rw [List.all_eq_true] at h2
        have hj' : j < r.length := by simpa using hj
        have := h2 r[j] (List.getElem_mem hj')
        simp at this
        simp [lj, this]
    · intro h
      rw [Bool.and_eq_true]
      have h0 := h 0 (Nat.zero_lt_succ _)
      unfold lj at h0
      rw [Bool.and_eq_true] at h0
      refine ⟨h0.1, ?_⟩
      unfold Sm.mok
      rw [List.all_eq_true]
      intro y hy
      obtain ⟨j, hj, rfl⟩ := List.getElem_of_mem hy
      have := h (j + 1) (by simpa using hj)
      simp [lj] at this
      simp [this]
theorem vok_yes {v : List UInt8} (h : ∀ j hj, lj (Sm.spl v) j hj = true) : Sm.vok v = true := (vok_all (Sm.spl v)).2 h
theorem vok_no {v : List UInt8} (j : Nat) (hj : j < (Sm.spl v).length) (h : lj (Sm.spl v) j hj = false) : Sm.vok v = false := by
  cases hv : Sm.vok v with
  | false => rfl
  | true => rw [(vok_all (Sm.spl v)).1 hv j hj] at h; cases h

theorem fok_name {p : List Sm.F} {f : Sm.F} (h : Sm.nok f.1 = false) : Sm.fok p f = false := by unfold Sm.fok; rw [h]; rfl
theorem fok_val {p : List Sm.F} {f : Sm.F} (h : Sm.vok f.2 = false) : Sm.fok p f = false := by unfold Sm.fok; rw [h]; simp
theorem fok_fnd {p : List Sm.F} {f : Sm.F} (i : Nat) (h : Sm.fnd p f.1 = some i) : Sm.fok p f = false := by unfold Sm.fok; rw [h]; simp
theorem fok_yes {p : List Sm.F} {f : Sm.F} (h1 : Sm.nok f.1 = true) (h2 : Sm.vok f.2 = true) (h3 : Sm.fnd p f.1 = none) : Sm.fok p f = true := by unfold Sm.fok; rw [h1, h2, h3]; rfl
theorem fnd_take_none {l : List Sm.F} {k : Nat} {s : List UInt8} (hk : k ≤ l.length) (h : ∀ j (hj : j < l.length), j < k → (Sm.small l[j].1 == Sm.small s) = false) : Sm.fnd (l.take k) s = none :=
  fi_none (fun j hj => by
    have : j < k := by simp at hj; omega
    simpa using h j (by omega) this)
theorem fnd_take_some {l : List Sm.F} {k i : Nat} {s : List UInt8} (hk : k ≤ l.length) (hi : i < k) (h1 : (Sm.small (l[i]'(by omega)).1 == Sm.small s) = true) (h : ∀ j (hj : j < l.length), j < i → (Sm.small l[j].1 == Sm.small s) = false) : Sm.fnd (l.take k) s = some i :=
  fi_some i (by simp; omega) (by simpa using h1) (fun j hj h2 => by simpa using h j (by simp at hj; omega) h2)

set_option maxHeartbeats 3200000 in
set_option maxRecDepth 100000 in
theorem xs_row (b o c : Nat) (l : List Sm.F) (w : World) (h : Fl w b o l) (hz : Sz l) (hc : l.length ≤ c) (h1 : 1 ≤ l.length) (h40 : l.length ≤ 40) (hm : MaxL w) :
    Calls Tryz.prog 42 #[.slice (some ⟨b, o, none⟩) l.length c] w fun e w' => e = .returned (.bool (Sm.rgt l)) ∧ Below w.heap.size w w' := by
  have hts := txt_small hz
  obtain ⟨r, hr⟩ : ∃ r, r = Sm.rgt l := ⟨_, rfl⟩
  have HR := Lib.hid hr
  rw [← hr]
  clear hr
  have HRF : Hid (Sm.foks l = false → r = false) := fun e => by rw [HR.out]; unfold Sm.rgt; rw [e]; simp
  have HRT : Hid (Sm.foks l = true → r = decide ((Sm.txt l).length ≤ 4000)) := fun e => by rw [HR.out]; unfold Sm.rgt; rw [e]; simp [h1, h40]
  have cT := fun W hW hM => xt_any (.slice (some ⟨b, o, none⟩) l.length c) l W hW hz hts hM
  have HT := Lib.hid cT
  have HZ := Lib.hid hz
  clear hz cT
  have cI : ∀ W, Calls Tryz.prog 66 #[.int .i64 l.length, .int .i64 1, .int .i64 40] W fun x w' => x = .returned (.bool true) ∧ w' = W := fun W => by
    have := xin_any l.length 1 40 W
    rw [show (decide (1 ≤ (l.length : Int)) && decide ((l.length : Int) ≤ 40)) = true from by simp; omega] at this; exact this
  go_enter Tryz.func42, Tryz.ntmps42
  go_wp2_with (go_at_call 66; with_reducible refine (cI _).mono ?_; rintro x w' ⟨rfl, rfl⟩)
  go_loopw [15] (fun i W => ∃ k : Nat, k ≤ l.length ∧ i = .int .i64 k ∧ Below w'.heap.size w' W ∧ Hid (∀ j (hj : j < l.length), j < k → Sm.fok (l.take j) l[j] = true)) (fun i _ => l.length - (intOf i).toNat)
  case atStart => exact ⟨0, Nat.zero_le _, rfl, Below.refl _ _, fun j _ h => absurd h (Nat.not_lt_zero _)⟩
  case round =>
    obtain ⟨k, hk, rfl, hW, HP⟩ := hrel
    by_cases hlt : k < l.length
    · have hF := h.on hW
      have c0 := hF.c0 k hlt
      have c1 := hF.c1 k hlt
      have hfs := HZ.out.s l[k] (List.getElem_mem hlt)
      have bA : Below w'.heap.size w' (wr.alloc (.cells #[.string ⟨l[k].1.toArray⟩, .string ⟨l[k].2.toArray⟩] 52)) := hW.alloc hW.size _
      have HNO : Hid (Sm.fok (l.take k) l[k] = false → r = false) := fun e => HRF.out (Sm.foks_no k hlt e)
      cases hn : Sm.nok l[k].1 with
      | false =>
        have cN : ∀ W, Calls Tryz.prog 113 #[.string ⟨l[k].1.toArray⟩] W fun e w' => e = .returned (.bool false) ∧ w' = W := fun W => by rw [← hn]; exact xn_any l[k].1 W (by omega)
        have HF : Hid (r = false) := HNO.out (fok_name hn)
        go_wp2_with (go_at_call 113; with_reducible refine (cN _).mono ?_; rintro x w' ⟨rfl, rfl⟩)
        go_ret
        exact ⟨ret_bool HF.out.symm, bA⟩
      | true =>
        have cN : ∀ W, Calls Tryz.prog 113 #[.string ⟨l[k].1.toArray⟩] W fun e w' => e = .returned (.bool true) ∧ w' = W := fun W => by rw [← hn]; exact xn_any l[k].1 W (by omega)
        have hck : (k : Int) ≤ (c : Int) := by omega
        go_wp2_with (go_at_call 113; with_reducible refine (cN _).mono ?_; rintro x w' ⟨rfl, rfl⟩)
        have bx0 : (wr.alloc (.cells #[.string ⟨l[k].1.toArray⟩, .string ⟨l[k].2.toArray⟩] 52)).cell? ⟨wr.heap.size, 0, none⟩ = some (.string ⟨l[k].1.toArray⟩) := by simp
        have bx1 : (wr.alloc (.cells #[.string ⟨l[k].1.toArray⟩, .string ⟨l[k].2.toArray⟩] 52)).cell? ⟨wr.heap.size, 1, none⟩ = some (.string ⟨l[k].2.toArray⟩) := by simp
        clear c0 c1 hF hW
        generalize (wr.alloc (.cells #[.string ⟨l[k].1.toArray⟩, .string ⟨l[k].2.toArray⟩] 52)) = W0 at bA bx0 bx1 ⊢
        generalize wr.heap.size = g at bx0 bx1 ⊢
        clear wr
        go_loopw [28] (fun i W => ∃ j : Nat, j ≤ k ∧ i = .int .i64 j ∧ Below w'.heap.size w' W ∧ W.cell? ⟨g, 0, none⟩ = some (.string ⟨l[k].1.toArray⟩) ∧ W.cell? ⟨g, 1, none⟩ = some (.string ⟨l[k].2.toArray⟩) ∧ Hid (∀ i (hi : i < l.length), i < j → (Sm.small l[i].1 == Sm.small l[k].1) = false)) (fun i _ => k - (intOf i).toNat)
        case atStart => exact ⟨0, Nat.zero_le _, rfl, bA, bx0, bx1, fun j _ h => absurd h (Nat.not_lt_zero _)⟩
        case round =>
          obtain ⟨j, hj, rfl, hW2, x0, x1, HQ⟩ := hrel
          by_cases hjk : j < k
          · have hjl : j < l.length := by omega
            have hF2 := h.on hW2
            have e0 := hF2.c0 j hjl
            have e1 := hF2.c1 j hjl
            have hfj := HZ.out.s l[j] (List.getElem_mem hjl)
            have bB : Below w'.heap.size w' (wr.alloc (.cells #[.string ⟨l[j].1.toArray⟩, .string ⟨l[j].2.toArray⟩] 52)) := hW2.alloc hW2.size _
            have bC : Below wr.heap.size wr (wr.alloc (.cells #[.string ⟨l[j].1.toArray⟩, .string ⟨l[j].2.toArray⟩] 52)) := (Below.refl _ _).alloc (Nat.le_refl _) _
            have y0 : (wr.alloc (.cells #[.string ⟨l[j].1.toArray⟩, .string ⟨l[j].2.toArray⟩] 52)).cell? ⟨wr.heap.size, 0, none⟩ = some (.string ⟨l[j].1.toArray⟩) := by simp
            have z0 : (wr.alloc (.cells #[.string ⟨l[j].1.toArray⟩, .string ⟨l[j].2.toArray⟩] 52)).cell? ⟨g, 0, none⟩ = some (.string ⟨l[k].1.toArray⟩) := by rw [bC.cell (block_lt_of_cell x0)]; exact x0
            have z1 : (wr.alloc (.cells #[.string ⟨l[j].1.toArray⟩, .string ⟨l[j].2.toArray⟩] 52)).cell? ⟨g, 1, none⟩ = some (.string ⟨l[k].2.toArray⟩) := by rw [bC.cell (block_lt_of_cell x1)]; exact x1
            go_wp2_with fail
            generalize (wr.alloc (.cells #[.string ⟨l[j].1.toArray⟩, .string ⟨l[j].2.toArray⟩] 52)) = wz at bB y0 z0 z1 ⊢
            have k0 := cell_regrown y0
            have k1 := cell_regrown z0
            obtain ⟨t1, ht1⟩ : ∃ t, t = Sm.small l[j].1 := ⟨_, rfl⟩
            obtain ⟨t2, ht2⟩ : ∃ t, t = Sm.small l[k].1 := ⟨_, rfl⟩
            have d1 : ∀ d os, Calls Tryz.prog 114 #[.string ⟨l[j].1.toArray⟩] (grow (redrawn wz d) os) fun x w'' => x = .returned (.string ⟨t1.toArray⟩) ∧ ∃ p : Regrown, w'' = grow (redrawn wz p.d) p.os := fun d os => Calls.regrown_of (by rw [ht1]; exact xsmall_any l[j].1 _ (by omega))
            have d2 : ∀ d os, Calls Tryz.prog 114 #[.string ⟨l[k].1.toArray⟩] (grow (redrawn wz d) os) fun x w'' => x = .returned (.string ⟨t2.toArray⟩) ∧ ∃ p : Regrown, w'' = grow (redrawn wz p.d) p.os := fun d os => Calls.regrown_of (by rw [ht2]; exact xsmall_any l[k].1 _ (by omega))
            have HT1 := Lib.hid ht1
            have HT2 := Lib.hid ht2
            clear bC e0 e1 hF2 hfj x0 x1 ht1 ht2
            cases hq : (t1 == t2) with
            | true =>
              have HF : Hid (r = false) := HNO.out (fok_fnd j (fnd_take_some hk hjk (by rw [← HT1.out, ← HT2.out]; exact hq) (fun i hi h2 => HQ.out i hi h2)))
              refine wp_region_quiet_below (by kernel_rfl) (by kernel_rfl) ?_
              repeat (any_goals (first | go_big_quiet_step ((first | with_reducible exact d1 _ _ | with_reducible exact d2 _ _)) | quiet_step ((first | with_reducible exact d1 _ _ | with_reducible exact d2 _ _))))
              refine wpQuiet_nil ?_
              intro wq hwq
              have hq' := rg bB hwq
              go_wp2_with fail
              go_ret
              exact ⟨ret_bool HF.out.symm, hq'⟩
            | false =>
              have HQ2 : Hid (∀ i (hi : i < l.length), i < j + 1 → (Sm.small l[i].1 == Sm.small l[k].1) = false) := fun i hi h2 => by
                by_cases e : i = j
                · subst e; rw [← HT1.out, ← HT2.out]; exact hq
                · exact HQ.out i hi (by omega)
              refine wp_region_quiet_below (by kernel_rfl) (by kernel_rfl) ?_
              repeat (any_goals (first | go_big_quiet_step ((first | with_reducible exact d1 _ _ | with_reducible exact d2 _ _)) | quiet_step ((first | with_reducible exact d1 _ _ | with_reducible exact d2 _ _))))
              refine wpQuiet_nil ?_
              intro wq hwq
              have hq' := rg bB hwq
              have q0 : wq.cell? ⟨g, 0, none⟩ = some (.string ⟨l[k].1.toArray⟩) := by obtain ⟨p, rfl⟩ := hwq; exact k1 p.d p.os
              have q1 : wq.cell? ⟨g, 1, none⟩ = some (.string ⟨l[k].2.toArray⟩) := by obtain ⟨p, rfl⟩ := hwq; exact cell_regrown z1 p.d p.os
              go_wp2_with fail
              exact ⟨⟨j + 1, hjk, by go_num, hq', q0, q1, HQ2⟩, by simp [intOf]; omega⟩
          · have hjk' : j = k := by omega
            subst hjk'
            go_wp2_with fail
            refine (split_any l[j].2 _ (hm.on hW2) (by omega)).mono ?_
            rintro e w1 ⟨rfl, b1, L1⟩
            have hno : Sm.fnd (l.take j) l[j].1 = none := fnd_take_none hk (fun i hi h2 => HQ.out i hi h2)
            have HY : Hid (Sm.vok l[j].2 = true → Sm.fok (l.take j) l[j] = true) := fun e => fok_yes hn e hno
            have HV0 : Hid (Sm.vok l[j].2 = false → r = false) := fun e => HNO.out (fok_val e)
            have HVN : Hid (∀ i (hi : i < (Sm.spl l[j].2).length), lj (Sm.spl l[j].2) i hi = false → r = false) := fun i hi e => HV0.out (vok_no i hi e)
            have HVY : Hid ((∀ i (hi : i < (Sm.spl l[j].2).length), lj (Sm.spl l[j].2) i hi = true) → Sm.fok (l.take j) l[j] = true) := fun e => HY.out (vok_yes e)
            have hlin := fun i hi => Sm.spl_len l[j].2 (Sm.spl l[j].2)[i] (List.getElem_mem (n := i) hi)
            have hsn := (Sm.spl_sum l[j].2).2
            have bD := onn hW2 b1
            clear hno HY HV0 HQ HNO x0 x1
            obtain ⟨ls, hls⟩ : ∃ ls, ls = Sm.spl l[j].2 := ⟨_, rfl⟩
            rw [← hls] at L1 hlin hsn HVN HVY ⊢
            clear hls
            have HLI := Lib.hid hlin
            clear hlin
            generalize wr.heap.size = g2 at L1 ⊢
            go_wp2_with fail
            go_loop [44] (fun i => ∃ m : Nat, m ≤ ls.length ∧ i = .int .i64 m ∧ Hid (∀ i hi, i < m → lj ls i hi = true)) (fun i => ls.length - (intOf i).toNat)
            case atStart => exact ⟨0, Nat.zero_le _, rfl, fun j _ h => absurd h (Nat.not_lt_zero _)⟩
            case round =>
              obtain ⟨m, hm', rfl, HMM⟩ := hrel
              by_cases hml : m < ls.length
              · have cm := L1.c m hml
                have hxl := HLI.out m hml
                have HB1 : Hid (lj ls m hml = false → r = false) := fun e => HVN.out m hml e
                have HG1 : Hid (lj ls m hml = true → ∀ i hi, i < m + 1 → lj ls i hi = true) := fun e i hi h2 => by
                  by_cases e2 : i = m
                  · subst e2; exact e
                  · exact HMM.out i hi (by omega)
                have hlj : lj ls m hml = (Sm.lok ls[m] && !(decide (0 < m) && ls[m] == [])) := rfl
                rw [hlj] at HB1 HG1
                clear hlj
                generalize ls[m] = x at cm hxl HB1 HG1
                have hx4 : x.length ≤ 1000000 := by omega
                cases hok : Sm.lok x with
                | false =>
                  have cL : ∀ W, Calls Tryz.prog 115 #[.string ⟨x.toArray⟩] W fun e w' => e = .returned (.bool false) ∧ w' = W := fun W => by rw [← hok]; exact xline_any x W hx4
                  have HF : Hid (r = false) := HB1.out (by rw [hok]; rfl)
                  clear HB1 HG1
                  go_wp2_with (go_at_call 115; with_reducible refine (cL _).mono ?_; rintro x w' ⟨rfl, rfl⟩)
                  go_ret
                  exact ⟨ret_bool HF.out.symm, bD⟩
                | true =>
                  have cL : ∀ W, Calls Tryz.prog 115 #[.string ⟨x.toArray⟩] W fun e w' => e = .returned (.bool true) ∧ w' = W := fun W => by rw [← hok]; exact xline_any x W hx4
                  by_cases hm0 : m = 0
                  · subst hm0
                    have HG := Lib.hid (HG1.out (by rw [hok]; rfl))
                    clear HB1 HG1
                    go_wp2_with (go_at_call 115; with_reducible refine (cL _).mono ?_; rintro x w' ⟨rfl, rfl⟩)
                    exact ⟨⟨0 + 1, hml, by go_num, HG⟩, by simp [intOf]; omega⟩
                  · have hmp : 0 < m := Nat.pos_of_ne_zero hm0
                    cases x with
                    | nil =>
                      have HF : Hid (r = false) := HB1.out (by rw [hok]; simp [hmp])
                      clear HB1 HG1
                      go_wp2_with (go_at_call 115; with_reducible refine (cL _).mono ?_; rintro x w' ⟨rfl, rfl⟩)
                      go_ret
                      exact ⟨ret_bool HF.out.symm, bD⟩
                    | cons a t =>
                      have HG := Lib.hid (HG1.out (by rw [hok]; simp))
                      clear HB1 HG1
                      go_wp2_with (go_at_call 115; with_reducible refine (cL _).mono ?_; rintro x w' ⟨rfl, rfl⟩)
                      exact ⟨⟨m + 1, hml, by go_num, HG⟩, by simp [intOf]; omega⟩
              · have HO := Lib.hid (HVY.out (fun i hi => HMM.out i hi (by omega)))
                have HN : Hid (∀ i (hi : i < l.length), i < j + 1 → Sm.fok (l.take i) l[i] = true) := fun i hi h2 => by
                  by_cases e : i = j
                  · subst e; exact HO.out
                  · exact HP.out i hi (by omega)
                go_wp2_with fail
                exact ⟨⟨j + 1, hlt, by go_num, bD, HN⟩, by simp [intOf]; omega⟩
    · have HT2 := Lib.hid (HRT.out (Sm.foks_yes (fun j hj => HP.out j hj (by omega))))
      obtain ⟨t, ht⟩ : ∃ t, t = Sm.txt l := ⟨_, rfl⟩
      rw [← ht] at HT HT2 hts
      clear ht
      go_wp2_with fail
      refine (HT.out _ ⟨Or.inr ⟨b, o, c, rfl, hc, h.on hW⟩⟩ (hm.on hW)).mono ?_
      rintro e w1 ⟨rfl, b1⟩
      go_wp2
      go_ret
      exact ⟨ret_bool (by rw [HT2.out, Bool.eq_iff_iff]; simp; try omega), onn hW b1⟩

theorem xs_nil (A : Option Addr) (c : Nat) (w : World) : Calls Tryz.prog 42 #[.slice A 0 c] w fun e w' => e = .returned (.bool false) ∧ w' = w := by
  go_enter Tryz.func42, Tryz.ntmps42
  go_wp2_with (go_at_call 66; refine (xin_any _ _ _ _).mono ?_; rintro x w' ⟨rfl, rfl⟩)
  go_ret
  exact ⟨rfl, rfl⟩
theorem xs_long (A : Option Addr) (n c : Nat) (w : World) (h1 : 40 < n) (h2 : n ≤ 60) : Calls Tryz.prog 42 #[.slice A n c] w fun e w' => e = .returned (.bool false) ∧ w' = w := by
  have hAB : (decide (1 ≤ (n : Int)) && decide ((n : Int) ≤ 40)) = false := by simp; omega
  go_enter Tryz.func42, Tryz.ntmps42
  go_wp2_with (go_at_call 66; refine (xin_any _ _ _ _).mono ?_; rintro x w' ⟨rfl, rfl⟩; rw [hAB])
  go_ret
  exact ⟨rfl, rfl⟩
theorem xs_any (v : Value) (l : List Sm.F) (w : World) (h : Sl w v l) (hz : Sz l) (hm : MaxL w) : Calls Tryz.prog 42 #[v] w fun e w' => e = .returned (.bool (Sm.rgt l)) ∧ Below w.heap.size w w' := by
  rcases h.is with ⟨rfl, A, c, rfl⟩ | ⟨b, o, c, rfl, hc, hf⟩
  · exact (xs_nil A c w).mono fun _ _ ⟨he, hw⟩ => ⟨he, by rw [hw]; exact Below.refl _ _⟩
  · by_cases h1 : 1 ≤ l.length
    · by_cases h40 : l.length ≤ 40
      · exact xs_row b o c l w hf hz hc h1 h40 hm
      · rw [show Sm.rgt l = false from by simp [Sm.rgt, h40]]
        exact (xs_long _ _ c w (by omega) hz.n).mono fun _ _ ⟨he, hw⟩ => ⟨he, by rw [hw]; exact Below.refl _ _⟩
    · obtain rfl : l = [] := List.length_eq_zero_iff.1 (by omega)
      exact (xs_nil _ c w).mono fun _ _ ⟨he, hw⟩ => ⟨he, by rw [hw]; exact Below.refl _ _⟩

end Go.Proofs.YtmlmdncepgcimaaGreatDoor.Stz
