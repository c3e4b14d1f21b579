/- The walk of beside. -/
import Derived.Test.YthijccmiemlilaaGreatDoorKe
import Derived.Test.YthijccmiemlilaaGreatDoorA6
namespace Go.Proofs.YthijccmiemlilaaGreatDoor
open Go.RowKit Go.Sort

theorem Sok.oh {p : Pck} (h : Sok p) : Oh p.o := by
  have hP := h.P
  unfold fla at hP
  simp only [Bool.and_eq_true, decide_eq_true_eq, List.all_eq_true] at hP
  exact ⟨fun t ht => sh_of (hP.2 t ht), hP.1, h.u, h.r⟩
theorem fla_parts {l : List Tm} (h : fla l = true) : l.length ≤ 40 ∧ ∀ t ∈ l, Sh t := by
  unfold fla at h
  simp only [Bool.and_eq_true, decide_eq_true_eq, List.all_eq_true] at h
  exact ⟨h.1, fun t ht => sh_of (h.2 t ht)⟩
theorem tla_parts {l : List (List Tm)} (h : tla l = true) : l.length ≤ 40 ∧ ∀ x ∈ l, x.length ≤ 40 ∧ ∀ t ∈ x, Sh t := by
  unfold tla at h
  simp only [Bool.and_eq_true, decide_eq_true_eq, List.all_eq_true] at h
  exact ⟨h.1, fun x hx => fla_parts (h.2 x hx)⟩
/-- A package's block as a row. -/
theorem Pb.range {W : World} {b : Nat} {p : Pck} {vD vA vG vB vR vP vS vL vF : Value} (h : Pb W b p vD vA vG vB vR vP vS vL vF) : W.rangeAt b 0 [.string ⟨p.o.n.toArray⟩, .int .i64 p.o.e, .string ⟨p.o.u.toArray⟩, .string ⟨p.o.r.toArray⟩, vD, vA, vG, vB, vR, vP, vS, vL, vF] := fun j v hv => by
  match j, hv with
  | 0, hv => cases hv; exact h.c0
  | 1, hv => cases hv; exact h.c1
  | 2, hv => cases hv; exact h.c2
  | 3, hv => cases hv; exact h.c3
  | 4, hv => cases hv; exact h.c4
  | 5, hv => cases hv; exact h.c5
  | 6, hv => cases hv; exact h.c6
  | 7, hv => cases hv; exact h.c7
  | 8, hv => cases hv; exact h.c8
  | 9, hv => cases hv; exact h.c9
  | 10, hv => cases hv; exact h.c10
  | 11, hv => cases hv; exact h.c11
  | 12, hv => cases hv; exact h.c12
  | n + 13, hv => simp at hv
/-- One that is known, in a block of its own. -/
structure K20 (W : World) (b : Nat) (k : Kn) (vW vT vD vA vG vB vR vP vS vL vF : Value) : Prop where
  c0 : W.cell? ⟨b, 0, none⟩ = some (.int .i64 k.st)
  c1 : W.cell? ⟨b, 1, none⟩ = some (.int .i64 k.e)
  c2 : W.cell? ⟨b, 2, none⟩ = some (.string ⟨k.u.toArray⟩)
  c3 : W.cell? ⟨b, 3, none⟩ = some (.string ⟨k.r.toArray⟩)
  c4 : W.cell? ⟨b, 4, none⟩ = some (.bool k.hd)
  c5 : W.cell? ⟨b, 5, none⟩ = some (vW)
  c6 : W.cell? ⟨b, 6, none⟩ = some (vT)
  c7 : W.cell? ⟨b, 7, none⟩ = some (.string ⟨k.p.o.n.toArray⟩)
  c8 : W.cell? ⟨b, 8, none⟩ = some (.int .i64 k.p.o.e)
  c9 : W.cell? ⟨b, 9, none⟩ = some (.string ⟨k.p.o.u.toArray⟩)
  c10 : W.cell? ⟨b, 10, none⟩ = some (.string ⟨k.p.o.r.toArray⟩)
  c11 : W.cell? ⟨b, 11, none⟩ = some (vD)
  c12 : W.cell? ⟨b, 12, none⟩ = some (vA)
  c13 : W.cell? ⟨b, 13, none⟩ = some (vG)
  c14 : W.cell? ⟨b, 14, none⟩ = some (vB)
  c15 : W.cell? ⟨b, 15, none⟩ = some (vR)
  c16 : W.cell? ⟨b, 16, none⟩ = some (vP)
  c17 : W.cell? ⟨b, 17, none⟩ = some (vS)
  c18 : W.cell? ⟨b, 18, none⟩ = some (vL)
  c19 : W.cell? ⟨b, 19, none⟩ = some (vF)
theorem K20.on {W w' : World} {b : Nat} {k : Kn} {vW vT vD vA vG vB vR vP vS vL vF : Value} (h : K20 W b k vW vT vD vA vG vB vR vP vS vL vF) (q : Below W.heap.size W w') : K20 w' b k vW vT vD vA vG vB vR vP vS vL vF :=
  ⟨by rw [q.cell (block_lt_of_cell h.c0)]; exact h.c0, by rw [q.cell (block_lt_of_cell h.c1)]; exact h.c1, by rw [q.cell (block_lt_of_cell h.c2)]; exact h.c2, by rw [q.cell (block_lt_of_cell h.c3)]; exact h.c3, by rw [q.cell (block_lt_of_cell h.c4)]; exact h.c4, by rw [q.cell (block_lt_of_cell h.c5)]; exact h.c5, by rw [q.cell (block_lt_of_cell h.c6)]; exact h.c6, by rw [q.cell (block_lt_of_cell h.c7)]; exact h.c7, by rw [q.cell (block_lt_of_cell h.c8)]; exact h.c8, by rw [q.cell (block_lt_of_cell h.c9)]; exact h.c9, by rw [q.cell (block_lt_of_cell h.c10)]; exact h.c10, by rw [q.cell (block_lt_of_cell h.c11)]; exact h.c11, by rw [q.cell (block_lt_of_cell h.c12)]; exact h.c12, by rw [q.cell (block_lt_of_cell h.c13)]; exact h.c13, by rw [q.cell (block_lt_of_cell h.c14)]; exact h.c14, by rw [q.cell (block_lt_of_cell h.c15)]; exact h.c15, by rw [q.cell (block_lt_of_cell h.c16)]; exact h.c16, by rw [q.cell (block_lt_of_cell h.c17)]; exact h.c17, by rw [q.cell (block_lt_of_cell h.c18)]; exact h.c18, by rw [q.cell (block_lt_of_cell h.c19)]; exact h.c19⟩
theorem k20_new (w : World) (t : TypeId) (k : Kn) (vW vT vD vA vG vB vR vP vS vL vF : Value) : K20 (w.alloc (kno t k vW vT vD vA vG vB vR vP vS vL vF)) w.heap.size k vW vT vD vA vG vB vR vP vS vL vF :=
  ⟨by simp, by simp, by simp, by simp, by simp, by simp, by simp, by simp, by simp, by simp, by simp, by simp, by simp, by simp, by simp, by simp, by simp, by simp, by simp, by simp⟩
theorem K20.range {W : World} {b : Nat} {k : Kn} {vW vT vD vA vG vB vR vP vS vL vF : Value} (h : K20 W b k vW vT vD vA vG vB vR vP vS vL vF) : W.rangeAt b 0 [.int .i64 k.st, .int .i64 k.e, .string ⟨k.u.toArray⟩, .string ⟨k.r.toArray⟩, .bool k.hd, vW, vT, .string ⟨k.p.o.n.toArray⟩, .int .i64 k.p.o.e, .string ⟨k.p.o.u.toArray⟩, .string ⟨k.p.o.r.toArray⟩, vD, vA, vG, vB, vR, vP, vS, vL, vF] := fun j v hv => by
  match j, hv with
  | 0, hv => cases hv; exact h.c0
  | 1, hv => cases hv; exact h.c1
  | 2, hv => cases hv; exact h.c2
  | 3, hv => cases hv; exact h.c3
  | 4, hv => cases hv; exact h.c4
  | 5, hv => cases hv; exact h.c5
  | 6, hv => cases hv; exact h.c6
  | 7, hv => cases hv; exact h.c7
  | 8, hv => cases hv; exact h.c8
  | 9, hv => cases hv; exact h.c9
  | 10, hv => cases hv; exact h.c10
  | 11, hv => cases hv; exact h.c11
  | 12, hv => cases hv; exact h.c12
  | 13, hv => cases hv; exact h.c13
  | 14, hv => cases hv; exact h.c14
  | 15, hv => cases hv; exact h.c15
  | 16, hv => cases hv; exact h.c16
  | 17, hv => cases hv; exact h.c17
  | 18, hv => cases hv; exact h.c18
  | 19, hv => cases hv; exact h.c19
  | n + 20, hv => simp at hv
theorem K20.pack {W : World} {b : Nat} {k : Kn} {vW vT vD vA vG vB vR vP vS vL vF : Value} (h : K20 W b k vW vT vD vA vG vB vR vP vS vL vF) : W.rangeAt b 7 [.string ⟨k.p.o.n.toArray⟩, .int .i64 k.p.o.e, .string ⟨k.p.o.u.toArray⟩, .string ⟨k.p.o.r.toArray⟩, vD, vA, vG, vB, vR, vP, vS, vL, vF] := fun j v hv => by
  match j, hv with
  | 0, hv => cases hv; exact h.c7
  | 1, hv => cases hv; exact h.c8
  | 2, hv => cases hv; exact h.c9
  | 3, hv => cases hv; exact h.c10
  | 4, hv => cases hv; exact h.c11
  | 5, hv => cases hv; exact h.c12
  | 6, hv => cases hv; exact h.c13
  | 7, hv => cases hv; exact h.c14
  | 8, hv => cases hv; exact h.c15
  | 9, hv => cases hv; exact h.c16
  | 10, hv => cases hv; exact h.c17
  | 11, hv => cases hv; exact h.c18
  | 12, hv => cases hv; exact h.c19
  | n + 13, hv => simp at hv
/-- What is wrong with one that comes beside one that is there. -/
def bs (k : Kn) (p : Pck) : Int := if on1 k.p.o p.G || on1 p.o k.p.G then 13 else if wk k && (on1 k.p.o p.B || on1 p.o k.p.B) then 10 else 0
/-- A state whose temporaries are laid anew, one condition for all. -/
theorem wpAnyH_lays {P : Program} {ops : Array Oper} {Q : Exit → Act → World → Prop} {md : Region.Mode} {S : World → Prop} {a0 : Act} {fuel : Nat} {l0 : Array Bool} {w0 : World} (ds : List Nat) (J : Array Bool → List Value → World → Prop) (xs0 : List Value) (ha : lays a0 (ds.zip xs0) = a0) (h0 : J l0 xs0 w0) (hc : l0.toList.count false ≤ fuel)
    (hd : ∀ l xs w, J l xs w → Region.ready md ops l = [] → Q .normal (lays a0 (ds.zip xs)) w)
    (hs : ∀ l xs w, J l xs w → ∀ i ∈ Region.ready md ops l, wpOp P ops Q i (fun a' w' => S w' ∧ ∃ ys, a' = lays a0 (ds.zip ys) ∧ J (l.setIfInBounds i true) ys w') (lays a0 (ds.zip xs)) w) : wpAnyH P md ops Q S fuel l0 a0 w0 := by
  refine wpAnyH_inv (I := fun l a w => ∃ xs, a = lays a0 (ds.zip xs) ∧ J l xs w) (fun l a w => ?_) (fun l a w => ?_) fuel l0 a0 w0 ⟨xs0, ha.symm, h0⟩ hc
  · rintro ⟨xs, rfl, hj⟩ hr
    exact hd l xs w hj hr
  · rintro ⟨xs, rfl, hj⟩ i hi
    exact hs l xs w hj i hi
/-- Where the two offers stand while they are laid. -/
structure BI (w2 : World) (v5 v6 : Array Value) (t5 t6 t7 t8 : Bool) (x5 x6 : Value) (V : World) : Prop where
  bl : Below w2.heap.size w2 V
  f5 : t5 = true → ∃ g c, x5 = .pointer (some ⟨g, 0, none⟩) ∧ w2.heap.size ≤ g ∧ V.heap[g]? = some (.cells c 65 (0, 0)) ∧ c.size = 5 ∧ (t7 = true → c = v5)
  f6 : t6 = true → ∃ g c, x6 = .pointer (some ⟨g, 0, none⟩) ∧ w2.heap.size ≤ g ∧ V.heap[g]? = some (.cells c 65 (0, 0)) ∧ c.size = 5 ∧ (t8 = true → c = v6)
  ne : t5 = true → t6 = true → x5 ≠ x6
  g7 : t7 = true → t5 = true
  g8 : t8 = true → t6 = true
theorem BI.on {w2 : World} {v5 v6 : Array Value} {t5 t6 t7 t8 : Bool} {x5 x6 : Value} {V V' : World} (h : BI w2 v5 v6 t5 t6 t7 t8 x5 x6 V) (k : Below V.heap.size V V') : BI w2 v5 v6 t5 t6 t7 t8 x5 x6 V' := by
  refine ⟨bon h.bl k, fun ht => ?_, fun ht => ?_, h.ne, h.g7, h.g8⟩
  · obtain ⟨g, c, h1, h2, h3, h4⟩ := h.f5 ht
    exact ⟨g, c, h1, h2, (k.block g (Array.getElem?_eq_some_iff.1 h3).1).trans h3, h4⟩
  · obtain ⟨g, c, h1, h2, h3, h4⟩ := h.f6 ht
    exact ⟨g, c, h1, h2, (k.block g (Array.getElem?_eq_some_iff.1 h3).1).trans h3, h4⟩
theorem BI.swap {w2 : World} {v5 v6 : Array Value} {t5 t6 t7 t8 : Bool} {x5 x6 : Value} {V : World} (h : BI w2 v5 v6 t5 t6 t7 t8 x5 x6 V) : BI w2 v6 v5 t6 t5 t8 t7 x6 x5 V := ⟨h.bl, h.f6, h.f5, fun a b e => h.ne b a e.symm, h.g8, h.g7⟩
theorem BI.make {w2 : World} {v5 v6 : Array Value} {t5 t6 t8 : Bool} {x5 x6 : Value} {V : World} (h : BI w2 v5 v6 t5 t6 false t8 x5 x6 V) (c : Array Value) (hc : c.size = 5) : BI w2 v5 v6 true t6 false t8 (.pointer (some ⟨V.heap.size, 0, none⟩)) x6 (V.alloc (.cells c 65)) := by
  have k := b1c V (.cells c 65)
  have h' := h.on k
  refine ⟨h'.bl, fun _ => ⟨V.heap.size, c, rfl, h.bl.size, nb0 V _, hc, fun e => by cases e⟩, h'.f6, fun _ ht e => ?_, fun e => (by cases e), h.g8⟩
  obtain ⟨g, c', h1, h2, h3, h4⟩ := h.f6 ht
  rw [h1] at e
  cases e
  have := (Array.getElem?_eq_some_iff.1 h3).1
  omega
/-- What has come up, and what it left. -/
def BJ (w2 : World) (v5 v6 : Array Value) (l : Array Bool) (xs : List Value) (V : World) : Prop :=
  ∃ t2 t4 t5 t6 t7 t8 x9 x11 x5 x6, l = #[true, true, t2, true, t4, t5, t6, t7, t8] ∧ xs = [x9, x11, x5, x6] ∧ BI w2 v5 v6 t5 t6 t7 t8 x5 x6 V ∧ (t2 = true → x9 = .agg v5) ∧ (t4 = true → x11 = .agg v6)
theorem heap_setRow (V : World) (g : Nat) (c c' : Array Value) (t : TypeId) (h : V.heap[g]? = some (.cells c t (0, 0))) : (V.setRow g c').heap[g]? = some (.cells c' t (0, 0)) := by
  simp only [World.setRow]
  rw [Array.getElem?_modify, if_pos rfl, h]
  rfl
theorem heap_setRow_ne (V : World) (g j : Nat) (c' : Array Value) (h : g ≠ j) : (V.setRow g c').heap[j]? = V.heap[j]? := by
  simp only [World.setRow]
  rw [Array.getElem?_modify, if_neg h]
theorem below_setRow {B : Nat} {A V : World} (h : Below B A V) (g : Nat) (c : Array Value) (hg : B ≤ g) : Below B A (V.setRow g c) :=
  ⟨h.os, h.tape, h.output, by simp only [World.setRow, Array.size_modify]; exact h.size, fun j hj => by rw [heap_setRow_ne V g j c (by omega)]; exact h.block j hj⟩
theorem BI.put {w2 : World} {v5 v6 : Array Value} {t6 t8 : Bool} {x5 x6 : Value} {V : World} {t7 : Bool} (h : BI w2 v5 v6 true t6 t7 t8 x5 x6 V) (h5 : v5.size = 5) : ∃ g c, x5 = .pointer (some ⟨g, 0, none⟩) ∧ V.heap[g]? = some (.cells c 65 (0, 0)) ∧ c.size = v5.size ∧ BI w2 v5 v6 true t6 true t8 x5 x6 (V.setRow g v5) := by
  obtain ⟨g, c, h1, h2, h3, h4, _⟩ := h.f5 rfl
  refine ⟨g, c, h1, h3, by omega, below_setRow h.bl g v5 h2, fun _ => ⟨g, v5, h1, h2, heap_setRow V g c v5 65 h3, h5, fun _ => rfl⟩, fun ht => ?_, h.ne, fun _ => rfl, h.g8⟩
  obtain ⟨g', c', k1, k2, k3, k4⟩ := h.f6 ht
  refine ⟨g', c', k1, k2, ?_, k4⟩
  rw [heap_setRow_ne V g g' v5 (fun e => h.ne rfl ht (by rw [h1, k1, e]))]
  exact k3
theorem o5_of {V : World} {g : Nat} {o : Ofr} {v : Value} (h : V.heap[g]? = some (.cells #[.string ⟨o.n.toArray⟩, .int .i64 o.e, .string ⟨o.u.toArray⟩, .string ⟨o.r.toArray⟩, v] 65 (0, 0))) : O5 V g o v :=
  ⟨by simp [World.cell?, h], by simp [World.cell?, h], by simp [World.cell?, h], by simp [World.cell?, h], by simp [World.cell?, h]⟩
set_option maxHeartbeats 6400000 in
set_option maxRecDepth 100000 in
theorem beside_any (k : Kn) (vW vT vD vA vG vB vR vP vS vL vF : Value) (p : Pck) (uD uA uG uB uR uP uS uL uF : Value) (w : World) (hk : Kz w k vW vT vD vA vG vB vR vP vS vL vF) (hp : Pz w p uD uA uG uB uR uP uS uL uF) (hok : Sok k.p) (hop : Sok p) : Calls Tryz.prog 34 #[knv k vW vT vD vA vG vB vR vP vS vL vF, pkv p.o.n p.o.e p.o.u p.o.r uD uA uG uB uR uP uS uL uF] w fun x w' => x = .returned (.int .i64 (bs k p)) ∧ Below w.heap.size w w' := by
  obtain ⟨⟨a1, a2, a3, rfl⟩, ⟨b1, b2, b3, rfl⟩, ⟨c1, c2, c3, rfl⟩, ⟨d1, d2, d3, rfl⟩, ⟨e1, e2, e3, rfl⟩, ⟨f1, f2, f3, rfl⟩, ⟨g1, g2, g3, rfl⟩, ⟨i1, i2, i3, rfl⟩, ⟨j1, j2, j3, rfl⟩, ⟨l1, l2, l3, rfl⟩, ⟨m1, m2, m3, rfl⟩⟩ := hk.k11
  obtain ⟨d4, d5, rfl⟩ := hp.D.sl
  obtain ⟨a4, a5, rfl⟩ := hp.A.sl
  obtain ⟨g4, g5, rfl⟩ := hp.G.sl
  obtain ⟨b4, b5, rfl⟩ := hp.B.sl
  obtain ⟨r4, r5, rfl⟩ := hp.R.sl
  obtain ⟨p4, p5, rfl⟩ := hp.P.sl
  obtain ⟨s4, s5, rfl⟩ := hp.S.sl
  obtain ⟨l4, l5, rfl⟩ := hp.L.sl
  obtain ⟨f4, f5, rfl⟩ := hp.F.sl
  obtain ⟨w2, hw2⟩ : ∃ w2, w2 = (w.alloc (kno 60 k (.slice a1 a2 a3) (.slice b1 b2 b3) (.slice c1 c2 c3) (.slice d1 d2 d3) (.slice e1 e2 e3) (.slice f1 f2 f3) (.slice g1 g2 g3) (.slice i1 i2 i3) (.slice j1 j2 j3) (.slice l1 l2 l3) (.slice m1 m2 m3))).alloc (pko p.o.n p.o.e p.o.u p.o.r (.slice d4 p.D.length d5) (.slice a4 p.A.length a5) (.slice g4 p.G.length g5) (.slice b4 p.B.length b5) (.slice r4 p.R.length r5) (.slice p4 p.o.P.length p5) (.slice s4 p.S.length s5) (.slice l4 p.L.length l5) (.slice f4 p.F.length f5)) := ⟨_, rfl⟩
  have hsz : w2.heap.size = w.heap.size + 2 := by rw [hw2]; simp
  have hb2 : Below w.heap.size w w2 := by rw [hw2]; exact b2c _ _ _
  have hKB : K20 w2 w.heap.size k (.slice a1 a2 a3) (.slice b1 b2 b3) (.slice c1 c2 c3) (.slice d1 d2 d3) (.slice e1 e2 e3) (.slice f1 f2 f3) (.slice g1 g2 g3) (.slice i1 i2 i3) (.slice j1 j2 j3) (.slice l1 l2 l3) (.slice m1 m2 m3) := by
    rw [hw2]
    exact (k20_new w 60 k (.slice a1 a2 a3) (.slice b1 b2 b3) (.slice c1 c2 c3) (.slice d1 d2 d3) (.slice e1 e2 e3) (.slice f1 f2 f3) (.slice g1 g2 g3) (.slice i1 i2 i3) (.slice j1 j2 j3) (.slice l1 l2 l3) (.slice m1 m2 m3)).on (b1c _ _)
  have rK := hKB.pack
  have hPB : Pb w2 (w.heap.size + 1) p (.slice d4 p.D.length d5) (.slice a4 p.A.length a5) (.slice g4 p.G.length g5) (.slice b4 p.B.length b5) (.slice r4 p.R.length r5) (.slice p4 p.o.P.length p5) (.slice s4 p.S.length s5) (.slice l4 p.L.length l5) (.slice f4 p.F.length f5) := by
    have h := pb_new (w.alloc (kno 60 k (.slice a1 a2 a3) (.slice b1 b2 b3) (.slice c1 c2 c3) (.slice d1 d2 d3) (.slice e1 e2 e3) (.slice f1 f2 f3) (.slice g1 g2 g3) (.slice i1 i2 i3) (.slice j1 j2 j3) (.slice l1 l2 l3) (.slice m1 m2 m3))) p (.slice d4 p.D.length d5) (.slice a4 p.A.length a5) (.slice g4 p.G.length g5) (.slice b4 p.B.length b5) (.slice r4 p.R.length r5) (.slice p4 p.o.P.length p5) (.slice s4 p.S.length s5) (.slice l4 p.L.length l5) (.slice f4 p.F.length f5)
    rw [World.size_alloc] at h
    rw [hw2]
    exact h
  have rP := hPB.range
  obtain ⟨r, hr⟩ : ∃ r, r = bs k p := ⟨_, rfl⟩
  have HR := Lib.hid hr
  rw [← hr]
  clear hr
  have HK := Lib.hid hk
  have HP := Lib.hid hp
  have HOK := Lib.hid hok
  have HOP := Lib.hid hop
  clear hk hp hok hop
  go_enter Tryz.func34, Tryz.ntmps34
  have hdr : Below w2.heap.size w2 w2.drew := (Below.refl _ _).drew
  go_upto_region 1 with fail
  rw [← hw2]
  refine wp_region_held (S := fun V => Below w2.heap.size w2 V) (by kernel_rfl) ?_
  refine take_d (some 7) (i := 0) (v := .pointer (some ⟨w.heap.size, 7, none⟩)) rfl rfl (by kernel_rfl) (by kernel_rfl) (by kernel_rfl) (fun _ _ _ h => h) (.inl ⟨by kernel_rfl, fun w' _ => by simp [go_sem]⟩) hdr ?_
  refine take_d (some 8) (i := 1) rfl rfl (by kernel_rfl) (by kernel_rfl) (by kernel_rfl) (fun _ _ _ h => h) (yieldsIf_load_mid (by kernel_rfl) 30 _ rfl w.heap.size 7 rfl _ _ (fun V hV j v hv => by rw [hV.cell (p := ⟨w.heap.size, 7 + j, none⟩) (by show w.heap.size < _; omega)]; exact rK j v hv) Tryz.underlying30 rfl (by kernel_rfl)) hdr ?_
  refine take_d (some 10) (i := 3) rfl rfl (by kernel_rfl) (by kernel_rfl) (by kernel_rfl) (fun _ _ _ h => h) (yieldsIf_load_mid (by kernel_rfl) 30 _ rfl (w.heap.size + 1) 0 rfl _ _ (fun V hV j v hv => by rw [hV.cell (p := ⟨w.heap.size + 1, 0 + j, none⟩) (by show w.heap.size + 1 < _; omega)]; exact rP j v hv) Tryz.underlying30 rfl (by kernel_rfl)) hdr ?_
  simp only [Act.put, List.setIfInBounds_toArray, List.set_cons_succ, List.set_cons_zero]
  refine wpAnyH_cast (l2 := #[true, true, false, true, false, false, false, false, false]) (by kernel_rfl) ?_
  refine wpAnyH_lays [9, 11, 5, 6] (BJ w2 #[.string ⟨k.p.o.n.toArray⟩, .int .i64 k.p.o.e, .string ⟨k.p.o.u.toArray⟩, .string ⟨k.p.o.r.toArray⟩, .slice i1 i2 i3] #[.string ⟨p.o.n.toArray⟩, .int .i64 p.o.e, .string ⟨p.o.u.toArray⟩, .string ⟨p.o.r.toArray⟩, .slice p4 p.o.P.length p5]) [undef, undef, undef, undef] (by rfl) ⟨false, false, false, false, false, false, _, _, _, _, rfl, rfl, ⟨hdr, fun e => (by cases e), fun e => (by cases e), fun e => (by cases e), fun e => (by cases e), fun e => (by cases e)⟩, fun e => (by cases e), fun e => (by cases e)⟩ (by decide) ?_ ?_
  · rintro l xs V ⟨t2, t4, t5, t6, t7, t8, x9, x11, x5, x6, rfl, rfl, hB, h9, h11⟩ hr
    have hno : ∀ i, ¬ (i ∈ Region.ready _ _ _) := fun i => by rw [hr]; simp
    obtain rfl : t2 = true := by
      cases h : t2 with
      | true => rfl
      | false => exact absurd (mem_ready.2 ⟨by simp [h], _, rfl, by simp [Region.binds, h]⟩) (hno 2)
    obtain rfl : t4 = true := by
      cases h : t4 with
      | true => rfl
      | false => exact absurd (mem_ready.2 ⟨by simp [h], _, rfl, by simp [Region.binds, h]⟩) (hno 4)
    obtain rfl : t5 = true := by
      cases h : t5 with
      | true => rfl
      | false => exact absurd (mem_ready.2 ⟨by simp [h], _, rfl, by simp [Region.binds, h]⟩) (hno 5)
    obtain rfl : t6 = true := by
      cases h : t6 with
      | true => rfl
      | false => exact absurd (mem_ready.2 ⟨by simp [h], _, rfl, by simp [Region.binds, h]⟩) (hno 6)
    obtain rfl : t7 = true := by
      cases h : t7 with
      | true => rfl
      | false => exact absurd (mem_ready.2 ⟨by simp [h], _, rfl, by simp [Region.binds, h]⟩) (hno 7)
    obtain rfl : t8 = true := by
      cases h : t8 with
      | true => rfl
      | false => exact absurd (mem_ready.2 ⟨by simp [h], _, rfl, by simp [Region.binds, h]⟩) (hno 8)
    clear hno hr
    obtain rfl := h9 rfl
    obtain rfl := h11 rfl
    obtain ⟨y5', c5', rfl, hg5, hh5, _, hc5⟩ := hB.f5 rfl
    obtain ⟨y6', c6', rfl, hg6, hh6, _, hc6⟩ := hB.f6 rfl
    obtain rfl := hc5 rfl
    obtain rfl := hc6 rfl
    have o5 := o5_of hh5
    have o6 := o5_of hh6
    have hV := hB.bl
    simp only [lays, List.zip_cons_cons, List.zip_nil_right, Act.put, List.setIfInBounds_toArray, List.set_cons_succ, List.set_cons_zero]
    have hwV := bon hb2 hV
    have HO5 := Lib.hid o5
    have HO6 := Lib.hid o6
    have HKB := Lib.hid (hKB.on hV)
    have HPB := Lib.hid (hPB.on hV)
    have HWV := Lib.hid hwV
    obtain ⟨hG1, hG2⟩ := fla_parts HOP.out.G
    obtain ⟨hG3, hG4⟩ := fla_parts HOK.out.G
    obtain ⟨hG5, hG6⟩ := fla_parts HOP.out.B
    obtain ⟨hG7, hG8⟩ := fla_parts HOK.out.B
    have M1 : Hid (∀ W, Below V.heap.size V W → Calls Tryz.prog 68 #[ofv k.p.o.n k.p.o.e k.p.o.u k.p.o.r (.slice i1 i2 i3), .slice g4 p.G.length g5] W fun e w' => e = .returned (.bool (on1 k.p.o p.G)) ∧ Below W.heap.size W w') := fun W hW => meets1_any k.p.o _ _ p.G W ((HK.out.on (bon hwV hW)).z.P) ((HP.out.on (bon hwV hW)).G) (by omega) HOK.out.oh hG2
    have M2 : Hid (∀ W, Below V.heap.size V W → Calls Tryz.prog 68 #[ofv p.o.n p.o.e p.o.u p.o.r (.slice p4 p.o.P.length p5), .slice e1 e2 e3] W fun e w' => e = .returned (.bool (on1 p.o k.p.G)) ∧ Below W.heap.size W w') := fun W hW => meets1_any p.o _ _ k.p.G W ((HP.out.on (bon hwV hW)).P) ((HK.out.on (bon hwV hW)).z.G) (by omega) HOP.out.oh hG4
    have M3 : Hid (∀ W, Below V.heap.size V W → Calls Tryz.prog 68 #[ofv k.p.o.n k.p.o.e k.p.o.u k.p.o.r (.slice i1 i2 i3), .slice b4 p.B.length b5] W fun e w' => e = .returned (.bool (on1 k.p.o p.B)) ∧ Below W.heap.size W w') := fun W hW => meets1_any k.p.o _ _ p.B W ((HK.out.on (bon hwV hW)).z.P) ((HP.out.on (bon hwV hW)).B) (by omega) HOK.out.oh hG6
    have M4 : Hid (∀ W, Below V.heap.size V W → Calls Tryz.prog 68 #[ofv p.o.n p.o.e p.o.u p.o.r (.slice p4 p.o.P.length p5), .slice f1 f2 f3] W fun e w' => e = .returned (.bool (on1 p.o k.p.B)) ∧ Below W.heap.size W w') := fun W hW => meets1_any p.o _ _ k.p.B W ((HP.out.on (bon hwV hW)).P) ((HK.out.on (bon hwV hW)).z.B) (by omega) HOP.out.oh hG8
    have M5 : Hid (∀ W, Calls Tryz.prog 31 #[knv k (.slice a1 a2 a3) (.slice b1 b2 b3) (.slice c1 c2 c3) (.slice d1 d2 d3) (.slice e1 e2 e3) (.slice f1 f2 f3) (.slice g1 g2 g3) (.slice i1 i2 i3) (.slice j1 j2 j3) (.slice l1 l2 l3) (.slice m1 m2 m3)] W fun e w' => e = .returned (.bool (wk k)) ∧ Below W.heap.size W w') := fun W => works_any k _ _ _ _ _ _ _ _ _ _ _ W HK.out.k11
    obtain ⟨y1, hy⟩ : ∃ y, on1 k.p.o p.G = y := ⟨_, rfl⟩
    have HY1 := Lib.hid hy
    rw [hy] at M1
    clear hy
    obtain ⟨y2, hy⟩ : ∃ y, on1 p.o k.p.G = y := ⟨_, rfl⟩
    have HY2 := Lib.hid hy
    rw [hy] at M2
    clear hy
    obtain ⟨y4, hy⟩ : ∃ y, on1 k.p.o p.B = y := ⟨_, rfl⟩
    have HY4 := Lib.hid hy
    rw [hy] at M3
    clear hy
    obtain ⟨y5, hy⟩ : ∃ y, on1 p.o k.p.B = y := ⟨_, rfl⟩
    have HY5 := Lib.hid hy
    rw [hy] at M4
    clear hy
    obtain ⟨y3, hy⟩ : ∃ y, wk k = y := ⟨_, rfl⟩
    have HY3 := Lib.hid hy
    rw [hy] at M5
    clear hy
    clear o5 o6 hKB hPB rK rP HOK HOP hG1 hG2 hG3 hG4 hG5 hG6 hG7 hG8 hB hh5 hh6 hV hdr hb2 hw2 hsz hwV h9 h11
    have q0 := HO5.out.c0
    have q1 := HO5.out.c1
    have q2 := HO5.out.c2
    have q3 := HO5.out.c3
    have q4 := HO5.out.c4
    have q5 := HPB.out.c6
    go_wp2_with fail
    refine (M1.out V (Below.refl _ _)).mono ?_
    rintro x V1 ⟨rfl, bV1⟩
    have s0 := (HO6.out.on bV1).c0
    have s1 := (HO6.out.on bV1).c1
    have s2 := (HO6.out.on bV1).c2
    have s3 := (HO6.out.on bV1).c3
    have s4 := (HO6.out.on bV1).c4
    have s5 := (HKB.out.on bV1).c13
    clear q0 q1 q2 q3 q4 q5
    cases y1 with
    | true =>
      have HE : Hid (r = 13) := by show _ = _; rw [HR.out]; unfold bs; simp [HY1.out]
      go_wp2_with fail
      go_ret
      exact ⟨reti HE.out.symm, bon HWV.out bV1⟩
    | false =>
      go_wp2_with fail
      refine (M2.out V1 bV1).mono ?_
      rintro x V2 ⟨rfl, bV2'⟩
      have bV2 := bon bV1 bV2'
      clear s0 s1 s2 s3 s4 s5 bV2' bV1
      cases y2 with
      | true =>
        have HE : Hid (r = 13) := by show _ = _; rw [HR.out]; unfold bs; simp [HY1.out, HY2.out]
        go_wp2_with fail
        go_ret
        exact ⟨reti HE.out.symm, bon HWV.out bV2⟩
      | false =>
        have rK := (HKB.out.on bV2).range
        go_upto_region 4 with fail
        refine wp_region_lit ?_
        refine wpList_load_mid rfl 60 _ rfl w.heap.size 0 rfl _ _ rK Tryz.underlying60 rfl (by kernel_rfl) ?_
        go_frame
        go_wp2_with fail
        refine (M5.out V2).mono ?_
        rintro x V3 ⟨rfl, bV3'⟩
        have bV3 := bon bV2 bV3'
        clear bV3' bV2 rK
        cases y3 with
        | false =>
          have HE : Hid (r = 0) := by show _ = _; rw [HR.out]; unfold bs; simp [HY1.out, HY2.out, HY3.out]
          go_wp2_with fail
          go_ret
          exact ⟨reti HE.out.symm, bon HWV.out bV3⟩
        | true =>
          have q0 := (HO5.out.on bV3).c0
          have q1 := (HO5.out.on bV3).c1
          have q2 := (HO5.out.on bV3).c2
          have q3 := (HO5.out.on bV3).c3
          have q4 := (HO5.out.on bV3).c4
          have q5 := (HPB.out.on bV3).c7
          go_wp2_with fail
          refine (M3.out V3 bV3).mono ?_
          rintro x V4 ⟨rfl, bV4'⟩
          have bV4 := bon bV3 bV4'
          clear q0 q1 q2 q3 q4 q5 bV4' bV3
          cases y4 with
          | true =>
            have HE : Hid (r = 10) := by show _ = _; rw [HR.out]; unfold bs; simp [HY1.out, HY2.out, HY3.out, HY4.out]
            go_wp2_with fail
            go_ret
            exact ⟨reti HE.out.symm, bon HWV.out bV4⟩
          | false =>
            have s0 := (HO6.out.on bV4).c0
            have s1 := (HO6.out.on bV4).c1
            have s2 := (HO6.out.on bV4).c2
            have s3 := (HO6.out.on bV4).c3
            have s4 := (HO6.out.on bV4).c4
            have s5 := (HKB.out.on bV4).c14
            go_wp2_with fail
            refine (M4.out V4 bV4).mono ?_
            rintro x V5 ⟨rfl, bV5'⟩
            have bV5 := bon bV4 bV5'
            clear s0 s1 s2 s3 s4 s5 bV5' bV4
            cases y5 with
            | true =>
              have HE : Hid (r = 10) := by show _ = _; rw [HR.out]; unfold bs; simp [HY1.out, HY2.out, HY3.out, HY4.out, HY5.out]
              go_wp2_with fail
              go_ret
              exact ⟨reti HE.out.symm, bon HWV.out bV5⟩
            | false =>
              have HE : Hid (r = 0) := by show _ = _; rw [HR.out]; unfold bs; simp [HY1.out, HY2.out, HY3.out, HY4.out, HY5.out]
              go_wp2_with fail
              go_ret
              exact ⟨reti HE.out.symm, bon HWV.out bV5⟩
  · rintro l xs V ⟨t2, t4, t5, t6, t7, t8, x9, x11, x5, x6, rfl, rfl, hB, h9, h11⟩ i hi
    obtain ⟨hl, o, ho, haf⟩ := mem_ready.1 hi
    have hi9 : i < 9 := by have := (Array.getElem?_eq_some_iff.1 ho).1; simpa using this
    simp only [lays, List.zip_cons_cons, List.zip_nil_right, Act.put, List.setIfInBounds_toArray, List.set_cons_succ, List.set_cons_zero]
    obtain rfl | rfl | rfl | rfl | rfl | rfl | rfl | rfl | rfl : i = 0 ∨ i = 1 ∨ i = 2 ∨ i = 3 ∨ i = 4 ∨ i = 5 ∨ i = 6 ∨ i = 7 ∨ i = 8 := by omega
    · simp at hl
    · simp at hl
    · clear hl ho haf hi hi9
      refine wpOp_want rfl (by kernel_rfl) ?_
      unfold Oper.wp
      simp [go_sem]
      refine (offer_any k.p (.slice c1 c2 c3) (.slice d1 d2 d3) (.slice e1 e2 e3) (.slice f1 f2 f3) (.slice g1 g2 g3) (.slice i1 i2 i3) (.slice j1 j2 j3) (.slice l1 l2 l3) (.slice m1 m2 m3) V ((HK.out.on (bon hb2 hB.bl)).z)).mono ?_
      rintro z V1 ⟨rfl, bV⟩
      have hB1 := hB.on bV
      exact ⟨hB1.bl, [.agg #[.string ⟨k.p.o.n.toArray⟩, .int .i64 k.p.o.e, .string ⟨k.p.o.u.toArray⟩, .string ⟨k.p.o.r.toArray⟩, .slice i1 i2 i3], x11, x5, x6], rfl, true, t4, t5, t6, t7, t8, _, _, _, _, rfl, rfl, hB1, fun _ => rfl, h11⟩
    · simp at hl
    · clear hl ho haf hi hi9
      refine wpOp_want rfl (by kernel_rfl) ?_
      unfold Oper.wp
      simp [go_sem]
      refine (offer_any p (.slice d4 p.D.length d5) (.slice a4 p.A.length a5) (.slice g4 p.G.length g5) (.slice b4 p.B.length b5) (.slice r4 p.R.length r5) (.slice p4 p.o.P.length p5) (.slice s4 p.S.length s5) (.slice l4 p.L.length l5) (.slice f4 p.F.length f5) V (HP.out.on (bon hb2 hB.bl))).mono ?_
      rintro z V1 ⟨rfl, bV⟩
      have hB1 := hB.on bV
      exact ⟨hB1.bl, [x9, .agg #[.string ⟨p.o.n.toArray⟩, .int .i64 p.o.e, .string ⟨p.o.u.toArray⟩, .string ⟨p.o.r.toArray⟩, .slice p4 p.o.P.length p5], x5, x6], rfl, t2, true, t5, t6, t7, t8, _, _, _, _, rfl, rfl, hB1, h9, fun _ => rfl⟩
    · obtain rfl : t5 = false := by simpa using hl
      have h7 : t7 = false := by cases h : t7 with | false => rfl | true => exact absurd (hB.g7 h) (by simp)
      subst h7
      clear hl ho haf hi hi9
      refine wpOp_want rfl (by kernel_rfl) ?_
      unfold Oper.wp
      simp [go_sem]
      have hB1 := hB.make #[.string ⟨#[]⟩, .int .i64 0, .string ⟨#[]⟩, .string ⟨#[]⟩, .slice none 0 0] rfl
      exact ⟨hB1.bl, [x9, x11, .pointer (some ⟨V.heap.size, 0, none⟩), x6], rfl, t2, t4, true, t6, false, t8, _, _, _, _, rfl, rfl, hB1, h9, h11⟩
    · obtain rfl : t6 = false := by simpa using hl
      have h8 : t8 = false := by cases h : t8 with | false => rfl | true => exact absurd (hB.g8 h) (by simp)
      subst h8
      clear hl ho haf hi hi9
      refine wpOp_want rfl (by kernel_rfl) ?_
      unfold Oper.wp
      simp [go_sem]
      have hB1 := (hB.swap.make #[.string ⟨#[]⟩, .int .i64 0, .string ⟨#[]⟩, .string ⟨#[]⟩, .slice none 0 0] rfl).swap
      exact ⟨hB1.bl, [x9, x11, x5, .pointer (some ⟨V.heap.size, 0, none⟩)], rfl, t2, t4, t5, true, t7, false, _, _, _, _, rfl, rfl, hB1, h9, h11⟩
    · simp at ho
      subst ho
      simp [Region.binds] at haf
      have h25 : t2 = true ∧ t5 = true := by revert haf; cases t2 <;> cases t5 <;> simp
      obtain ⟨rfl, rfl⟩ := h25
      obtain rfl := h9 rfl
      obtain ⟨g, c, rfl, hg, hcs, hB1⟩ := hB.put rfl
      clear hl haf hi hi9
      refine wpOp_want rfl (by kernel_rfl) ?_
      refine wp_store_row 65 _ _ rfl g #[.string ⟨k.p.o.n.toArray⟩, .int .i64 k.p.o.e, .string ⟨k.p.o.u.toArray⟩, .string ⟨k.p.o.r.toArray⟩, .slice i1 i2 i3] rfl rfl 65 c hg (by kernel_rfl) hcs (by first | rfl | simp [Value.oneCell']) ?_
      exact ⟨hB1.bl, [.agg #[.string ⟨k.p.o.n.toArray⟩, .int .i64 k.p.o.e, .string ⟨k.p.o.u.toArray⟩, .string ⟨k.p.o.r.toArray⟩, .slice i1 i2 i3], x11, .pointer (some ⟨g, 0, none⟩), x6], rfl, true, t4, true, t6, true, t8, _, _, _, _, rfl, rfl, hB1, fun _ => rfl, h11⟩
    · simp at ho
      subst ho
      simp [Region.binds] at haf
      have h46 : t4 = true ∧ t6 = true := by revert haf; cases t4 <;> cases t6 <;> simp
      obtain ⟨rfl, rfl⟩ := h46
      obtain rfl := h11 rfl
      obtain ⟨g, c, rfl, hg, hcs, hB1⟩ := hB.swap.put rfl
      clear hl haf hi hi9
      refine wpOp_want rfl (by kernel_rfl) ?_
      refine wp_store_row 65 _ _ rfl g #[.string ⟨p.o.n.toArray⟩, .int .i64 p.o.e, .string ⟨p.o.u.toArray⟩, .string ⟨p.o.r.toArray⟩, .slice p4 p.o.P.length p5] rfl rfl 65 c hg (by kernel_rfl) hcs (by first | rfl | simp [Value.oneCell']) ?_
      exact ⟨hB1.bl, [x9, .agg #[.string ⟨p.o.n.toArray⟩, .int .i64 p.o.e, .string ⟨p.o.u.toArray⟩, .string ⟨p.o.r.toArray⟩, .slice p4 p.o.P.length p5], x5, .pointer (some ⟨g, 0, none⟩)], rfl, t2, true, t5, true, t7, true, _, _, _, _, rfl, rfl, hB1.swap, h9, fun _ => rfl⟩
end Go.Proofs.YthijccmiemlilaaGreatDoor
