/- Packages that are known, in memory; whether they work, have files, may start. -/
import Derived.Test.YthijccmiemlilaaGreatDoorDi
import Derived.Test.YthijccmiemlilaaGreatDoorA5
import Derived.Deep.MidRow
import Derived.Deep.WholeRow
namespace Go.Proofs.YthijccmiemlilaaGreatDoor
open Go.RowKit Go.Sort

/-- One that is known: how it stands (its state, a version, whether it is held), and what it says. -/
structure Kn where
  st : Int
  e : Int
  u : List UInt8
  r : List UInt8
  hd : Bool
  p : Pck
  deriving Inhabited
abbrev knv (k : Kn) (vW vT vD vA vG vB vR vP vS vL vF : Value) : Value := .agg #[.int .i64 k.st, .int .i64 k.e, .string ⟨k.u.toArray⟩, .string ⟨k.r.toArray⟩, .bool k.hd, vW, vT, .string ⟨k.p.o.n.toArray⟩, .int .i64 k.p.o.e, .string ⟨k.p.o.u.toArray⟩, .string ⟨k.p.o.r.toArray⟩, vD, vA, vG, vB, vR, vP, vS, vL, vF]
abbrev kno (t : TypeId) (k : Kn) (vW vT vD vA vG vB vR vP vS vL vF : Value) : Obj := .cells #[.int .i64 k.st, .int .i64 k.e, .string ⟨k.u.toArray⟩, .string ⟨k.r.toArray⟩, .bool k.hd, vW, vT, .string ⟨k.p.o.n.toArray⟩, .int .i64 k.p.o.e, .string ⟨k.p.o.u.toArray⟩, .string ⟨k.p.o.r.toArray⟩, vD, vA, vG, vB, vR, vP, vS, vL, vF] t
/-- Its cells. -/
structure Kc (W : World) (b o : Nat) (k : Kn) (vW vT vD vA vG vB vR vP vS vL vF : Value) : Prop where
  c0 : W.cell? ⟨b, o, none⟩ = some (.int .i64 k.st)
  c1 : W.cell? ⟨b, o + 1, none⟩ = some (.int .i64 k.e)
  c2 : W.cell? ⟨b, o + 2, none⟩ = some (.string ⟨k.u.toArray⟩)
  c3 : W.cell? ⟨b, o + 3, none⟩ = some (.string ⟨k.r.toArray⟩)
  c4 : W.cell? ⟨b, o + 4, none⟩ = some (.bool k.hd)
  c5 : W.cell? ⟨b, o + 5, none⟩ = some (vW)
  c6 : W.cell? ⟨b, o + 6, none⟩ = some (vT)
  c7 : W.cell? ⟨b, o + 7, none⟩ = some (.string ⟨k.p.o.n.toArray⟩)
  c8 : W.cell? ⟨b, o + 8, none⟩ = some (.int .i64 k.p.o.e)
  c9 : W.cell? ⟨b, o + 9, none⟩ = some (.string ⟨k.p.o.u.toArray⟩)
  c10 : W.cell? ⟨b, o + 10, none⟩ = some (.string ⟨k.p.o.r.toArray⟩)
  c11 : W.cell? ⟨b, o + 11, none⟩ = some (vD)
  c12 : W.cell? ⟨b, o + 12, none⟩ = some (vA)
  c13 : W.cell? ⟨b, o + 13, none⟩ = some (vG)
  c14 : W.cell? ⟨b, o + 14, none⟩ = some (vB)
  c15 : W.cell? ⟨b, o + 15, none⟩ = some (vR)
  c16 : W.cell? ⟨b, o + 16, none⟩ = some (vP)
  c17 : W.cell? ⟨b, o + 17, none⟩ = some (vS)
  c18 : W.cell? ⟨b, o + 18, none⟩ = some (vL)
  c19 : W.cell? ⟨b, o + 19, none⟩ = some (vF)
theorem Kc.on {W w' : World} {b o : Nat} {k : Kn} {vW vT vD vA vG vB vR vP vS vL vF : Value} (h : Kc W b o k vW vT vD vA vG vB vR vP vS vL vF) (q : Below W.heap.size W w') : Kc w' b o k vW vT vD vA vG vB vR vP vS vL vF :=
  ⟨by rw [q.cell (block_lt_of_cell h.c0)]; exact h.c0, by rw [q.cell (block_lt_of_cell h.c1)]; exact h.c1, by rw [q.cell (block_lt_of_cell h.c2)]; exact h.c2, by rw [q.cell (block_lt_of_cell h.c3)]; exact h.c3, by rw [q.cell (block_lt_of_cell h.c4)]; exact h.c4, by rw [q.cell (block_lt_of_cell h.c5)]; exact h.c5, by rw [q.cell (block_lt_of_cell h.c6)]; exact h.c6, by rw [q.cell (block_lt_of_cell h.c7)]; exact h.c7, by rw [q.cell (block_lt_of_cell h.c8)]; exact h.c8, by rw [q.cell (block_lt_of_cell h.c9)]; exact h.c9, by rw [q.cell (block_lt_of_cell h.c10)]; exact h.c10, by rw [q.cell (block_lt_of_cell h.c11)]; exact h.c11, by rw [q.cell (block_lt_of_cell h.c12)]; exact h.c12, by rw [q.cell (block_lt_of_cell h.c13)]; exact h.c13, by rw [q.cell (block_lt_of_cell h.c14)]; exact h.c14, by rw [q.cell (block_lt_of_cell h.c15)]; exact h.c15, by rw [q.cell (block_lt_of_cell h.c16)]; exact h.c16, by rw [q.cell (block_lt_of_cell h.c17)]; exact h.c17, by rw [q.cell (block_lt_of_cell h.c18)]; exact h.c18, by rw [q.cell (block_lt_of_cell h.c19)]; exact h.c19⟩
/-- All of its lists are slices by the letter. -/
structure K11 (vW vT vD vA vG vB vR vP vS vL vF : Value) : Prop where
  w : ∃ A n c, vW = .slice A n c
  t : ∃ A n c, vT = .slice A n c
  d : ∃ A n c, vD = .slice A n c
  a : ∃ A n c, vA = .slice A n c
  g : ∃ A n c, vG = .slice A n c
  b : ∃ A n c, vB = .slice A n c
  r : ∃ A n c, vR = .slice A n c
  p : ∃ A n c, vP = .slice A n c
  s : ∃ A n c, vS = .slice A n c
  l : ∃ A n c, vL = .slice A n c
  f : ∃ A n c, vF = .slice A n c
/-- What its lists hold. -/
structure Kz (W : World) (k : Kn) (vW vT vD vA vG vB vR vP vS vL vF : Value) : Prop where
  w : ∃ x, Ss W vW x
  t : ∃ x, Ss W vT x
  z : Pz W k.p vD vA vG vB vR vP vS vL vF
theorem Kz.on {W w' : World} {k : Kn} {vW vT vD vA vG vB vR vP vS vL vF : Value} (h : Kz W k vW vT vD vA vG vB vR vP vS vL vF) (q : Below W.heap.size W w') : Kz w' k vW vT vD vA vG vB vR vP vS vL vF :=
  ⟨by obtain ⟨x, hx⟩ := h.w; exact ⟨x, hx.on q⟩, by obtain ⟨x, hx⟩ := h.t; exact ⟨x, hx.on q⟩, h.z.on q⟩
theorem Kz.k11 {W : World} {k : Kn} {vW vT vD vA vG vB vR vP vS vL vF : Value} (h : Kz W k vW vT vD vA vG vB vR vP vS vL vF) : K11 vW vT vD vA vG vB vR vP vS vL vF := by
  obtain ⟨⟨x, hx⟩, ⟨y, hy⟩, hz⟩ := h
  refine ⟨?_, ?_, ?_, ?_, ?_, ?_, ?_, ?_, ?_, ?_, ?_⟩
  · obtain ⟨A, c, h⟩ := hx.sl; exact ⟨_, _, _, h⟩
  · obtain ⟨A, c, h⟩ := hy.sl; exact ⟨_, _, _, h⟩
  · obtain ⟨A, c, h⟩ := hz.D.sl; exact ⟨_, _, _, h⟩
  · obtain ⟨A, c, h⟩ := hz.A.sl; exact ⟨_, _, _, h⟩
  · obtain ⟨A, c, h⟩ := hz.G.sl; exact ⟨_, _, _, h⟩
  · obtain ⟨A, c, h⟩ := hz.B.sl; exact ⟨_, _, _, h⟩
  · obtain ⟨A, c, h⟩ := hz.R.sl; exact ⟨_, _, _, h⟩
  · obtain ⟨A, c, h⟩ := hz.P.sl; exact ⟨_, _, _, h⟩
  · obtain ⟨A, c, h⟩ := hz.S.sl; exact ⟨_, _, _, h⟩
  · obtain ⟨A, c, h⟩ := hz.L.sl; exact ⟨_, _, _, h⟩
  · obtain ⟨A, c, h⟩ := hz.F.sl; exact ⟨_, _, _, h⟩
/-- Those that are known, in a row; a slice of them. -/
structure Kl (W : World) (b o : Nat) (l : List Kn) : Prop where
  lt : b < W.heap.size
  c : ∀ i (hi : i < l.length), ∃ vW vT vD vA vG vB vR vP vS vL vF, Kc W b (o + i * 20) l[i] vW vT vD vA vG vB vR vP vS vL vF ∧ Kz W l[i] vW vT vD vA vG vB vR vP vS vL vF
theorem Kl.on {W w' : World} {b o : Nat} {l : List Kn} (h : Kl W b o l) (q : Below W.heap.size W w') : Kl w' b o l :=
  ⟨Nat.lt_of_lt_of_le h.lt q.size, fun i hi => by
    obtain ⟨vW, vT, vD, vA, vG, vB, vR, vP, vS, vL, vF, h1, h2⟩ := h.c i hi
    exact ⟨vW, vT, vD, vA, vG, vB, vR, vP, vS, vL, vF, h1.on q, h2.on q⟩⟩
structure Ks (W : World) (v : Value) (l : List Kn) : Prop where
  is : (l = [] ∧ ∃ A c, v = .slice A 0 c) ∨ ∃ b o c, v = .slice (some ⟨b, o, none⟩) l.length c ∧ Kl W b o l
theorem Ks.on {W w' : World} {v : Value} {l : List Kn} (h : Ks W v l) (q : Below W.heap.size W w') : Ks w' v l := by
  rcases h.is with h | ⟨b, o, c, h1, h3⟩
  · exact ⟨Or.inl h⟩
  · exact ⟨Or.inr ⟨b, o, c, h1, h3.on q⟩⟩
theorem Ks.sl {W : World} {v : Value} {l : List Kn} (h : Ks W v l) : ∃ A c, v = .slice A l.length c := by
  rcases h.is with ⟨rfl, A, c, rfl⟩ | ⟨b, o, c, rfl, _⟩
  · exact ⟨A, c, rfl⟩
  · exact ⟨_, c, rfl⟩
theorem Ks.at' {W : World} {A : Option Addr} {n c : Nat} {l : List Kn} (h : Ks W (.slice A n c) l) (k : Nat) (hk : k < l.length) : ∃ b o, A = some ⟨b, o, none⟩ ∧ ∃ vW vT vD vA vG vB vR vP vS vL vF, Kc W b (o + k * 20) l[k] vW vT vD vA vG vB vR vP vS vL vF ∧ Kz W l[k] vW vT vD vA vG vB vR vP vS vL vF := by
  rcases h.is with ⟨rfl, _⟩ | ⟨b, o, c', e, hf⟩
  · simp at hk
  · cases e; exact ⟨b, o, rfl, hf.c k hk⟩

/-- They lie in a row. -/
theorem Kc.range {W : World} {b o : Nat} {k : Kn} {vW vT vD vA vG vB vR vP vS vL vF : Value} (h : Kc W b o k vW vT vD vA vG vB vR vP vS vL vF) : W.rangeAt b o [.int .i64 k.st, .int .i64 k.e, .string ⟨k.u.toArray⟩, .string ⟨k.r.toArray⟩, .bool k.hd, vW, vT, .string ⟨k.p.o.n.toArray⟩, .int .i64 k.p.o.e, .string ⟨k.p.o.u.toArray⟩, .string ⟨k.p.o.r.toArray⟩, vD, vA, vG, vB, vR, vP, vS, vL, vF] := fun j v hv => by
  match j, hv with
  | 0, hv => cases hv; exact h.c0
  | 1, hv => cases hv; exact h.c1
  | 2, hv => cases hv; exact h.c2
  | 3, hv => cases hv; exact h.c3
  | 4, hv => cases hv; exact h.c4
  | 5, hv => cases hv; exact h.c5
  | 6, hv => cases hv; exact h.c6
  | 7, hv => cases hv; exact h.c7
  | 8, hv => cases hv; exact h.c8
  | 9, hv => cases hv; exact h.c9
  | 10, hv => cases hv; exact h.c10
  | 11, hv => cases hv; exact h.c11
  | 12, hv => cases hv; exact h.c12
  | 13, hv => cases hv; exact h.c13
  | 14, hv => cases hv; exact h.c14
  | 15, hv => cases hv; exact h.c15
  | 16, hv => cases hv; exact h.c16
  | 17, hv => cases hv; exact h.c17
  | 18, hv => cases hv; exact h.c18
  | 19, hv => cases hv; exact h.c19
  | n + 20, hv => simp at hv
/-- A struct into the block that was made last. -/
theorem wpList_store_new {ops : Array Oper} {rest : List Oper} {o : Oper} {a : Act} {w : World} {Q : Exit → Act → World → Prop} (hgd : o.guard = none) (ty : TypeId) (x y : Operand) (ho : o.op = .store ty x y)
    (cells old : Array Value) (hx : a.eval x = .pointer (some ⟨w.heap.size, 0, none⟩)) (hy : a.eval y = .agg cells) (hi : (Tryz.prog.info? ty).map (·.size) = some cells.size) (hold : old.size = cells.size) (h1 : cells.all (·.oneCell') = true)
    (h : wpList Tryz.prog ops Q rest (a.put o.dst undef) (w.alloc (.cells cells ty))) : wpList Tryz.prog ops Q (o :: rest) a (w.alloc (.cells old ty)) :=
  wpList_store_row hgd ty x y ho w.heap.size cells hx hy ty old (heap_alloc_last w _) hi hold h1 (by rw [World.setRow_alloc_new]; exact h)
/-- Does it work? Has it files? May it start? -/
def wk (k : Kn) : Bool := k.st == 7 || k.st == 6 || k.st == 5
def hf (k : Kn) : Bool := !(k.st == 0) && !(k.st == 1)
def ms (k : Kn) : Bool := mayB k.st 3
set_option maxHeartbeats 1600000 in
set_option maxRecDepth 100000 in
theorem works_any (k : Kn) (vW vT vD vA vG vB vR vP vS vL vF : Value) (w : World) (h : K11 vW vT vD vA vG vB vR vP vS vL vF) : Calls Tryz.prog 31 #[knv k vW vT vD vA vG vB vR vP vS vL vF] w fun x w' => x = .returned (.bool (wk k)) ∧ Below w.heap.size w w' := by
  obtain ⟨⟨a1, a2, a3, rfl⟩, ⟨b1, b2, b3, rfl⟩, ⟨c1, c2, c3, rfl⟩, ⟨d1, d2, d3, rfl⟩, ⟨e1, e2, e3, rfl⟩, ⟨f1, f2, f3, rfl⟩, ⟨g1, g2, g3, rfl⟩, ⟨i1, i2, i3, rfl⟩, ⟨j1, j2, j3, rfl⟩, ⟨l1, l2, l3, rfl⟩, ⟨m1, m2, m3, rfl⟩⟩ := h
  have hb1 := b1c w (kno 60 k (.slice a1 a2 a3) (.slice b1 b2 b3) (.slice c1 c2 c3) (.slice d1 d2 d3) (.slice e1 e2 e3) (.slice f1 f2 f3) (.slice g1 g2 g3) (.slice i1 i2 i3) (.slice j1 j2 j3) (.slice l1 l2 l3) (.slice m1 m2 m3))
  unfold wk
  cases h7 : k.st == 7 with
  | true =>
    go_enter Tryz.func31, Tryz.ntmps31
    go_wp2
    go_ret
    exact ⟨rfl, hb1⟩
  | false =>
    cases h6 : k.st == 6 with
    | true =>
      go_enter Tryz.func31, Tryz.ntmps31
      go_wp2
      go_ret
      exact ⟨rfl, hb1⟩
    | false =>
      cases h5 : k.st == 5 with
      | true =>
        go_enter Tryz.func31, Tryz.ntmps31
        go_wp2
        go_ret
        exact ⟨rfl, hb1⟩
      | false =>
        go_enter Tryz.func31, Tryz.ntmps31
        go_wp2
        go_ret
        exact ⟨rfl, hb1⟩
set_option maxHeartbeats 1600000 in
set_option maxRecDepth 100000 in
theorem hasf_any (k : Kn) (vW vT vD vA vG vB vR vP vS vL vF : Value) (w : World) (h : K11 vW vT vD vA vG vB vR vP vS vL vF) : Calls Tryz.prog 33 #[knv k vW vT vD vA vG vB vR vP vS vL vF] w fun x w' => x = .returned (.bool (hf k)) ∧ Below w.heap.size w w' := by
  obtain ⟨⟨a1, a2, a3, rfl⟩, ⟨b1, b2, b3, rfl⟩, ⟨c1, c2, c3, rfl⟩, ⟨d1, d2, d3, rfl⟩, ⟨e1, e2, e3, rfl⟩, ⟨f1, f2, f3, rfl⟩, ⟨g1, g2, g3, rfl⟩, ⟨i1, i2, i3, rfl⟩, ⟨j1, j2, j3, rfl⟩, ⟨l1, l2, l3, rfl⟩, ⟨m1, m2, m3, rfl⟩⟩ := h
  unfold hf
  go_enter Tryz.func33, Tryz.ntmps33
  go_wp2
  all_goals go_ret
  all_goals exact ⟨ret_bool (by rw [Bool.eq_iff_iff]; simp; try omega), b1c _ _⟩
set_option maxHeartbeats 1600000 in
set_option maxRecDepth 100000 in
theorem mays_any (k : Kn) (vW vT vD vA vG vB vR vP vS vL vF : Value) (w : World) (h : K11 vW vT vD vA vG vB vR vP vS vL vF) (hO : Oc w) : Calls Tryz.prog 40 #[knv k vW vT vD vA vG vB vR vP vS vL vF] w fun x w' => x = .returned (.bool (ms k)) ∧ Below w.heap.size w w' := by
  obtain ⟨⟨a1, a2, a3, rfl⟩, ⟨b1, b2, b3, rfl⟩, ⟨c1, c2, c3, rfl⟩, ⟨d1, d2, d3, rfl⟩, ⟨e1, e2, e3, rfl⟩, ⟨f1, f2, f3, rfl⟩, ⟨g1, g2, g3, rfl⟩, ⟨i1, i2, i3, rfl⟩, ⟨j1, j2, j3, rfl⟩, ⟨l1, l2, l3, rfl⟩, ⟨m1, m2, m3, rfl⟩⟩ := h
  have hb1 := b1c w (kno 60 k (.slice a1 a2 a3) (.slice b1 b2 b3) (.slice c1 c2 c3) (.slice d1 d2 d3) (.slice e1 e2 e3) (.slice f1 f2 f3) (.slice g1 g2 g3) (.slice i1 i2 i3) (.slice j1 j2 j3) (.slice l1 l2 l3) (.slice m1 m2 m3))
  have cM := may_any k.st 3 _ (hO.on hb1)
  unfold ms
  generalize mayB k.st 3 = z at cM ⊢
  go_enter Tryz.func40, Tryz.ntmps40
  go_wp2_with fail
  refine cM.mono ?_
  rintro x w1 ⟨rfl, rfl⟩
  go_wp2_with fail
  go_ret
  exact ⟨rfl, hb1⟩
set_option maxHeartbeats 1600000 in
set_option maxRecDepth 100000 in
theorem xworks_any (k : Kn) (vW vT vD vA vG vB vR vP vS vL vF : Value) (w : World) (h : K11 vW vT vD vA vG vB vR vP vS vL vF) : Calls Tryz.prog 39 #[knv k vW vT vD vA vG vB vR vP vS vL vF] w fun x w' => x = .returned (.bool (wk k)) ∧ Below w.heap.size w w' := by
  obtain ⟨⟨a1, a2, a3, rfl⟩, ⟨b1, b2, b3, rfl⟩, ⟨c1, c2, c3, rfl⟩, ⟨d1, d2, d3, rfl⟩, ⟨e1, e2, e3, rfl⟩, ⟨f1, f2, f3, rfl⟩, ⟨g1, g2, g3, rfl⟩, ⟨i1, i2, i3, rfl⟩, ⟨j1, j2, j3, rfl⟩, ⟨l1, l2, l3, rfl⟩, ⟨m1, m2, m3, rfl⟩⟩ := h
  have hb1 := b1c w (kno 71 k (.slice a1 a2 a3) (.slice b1 b2 b3) (.slice c1 c2 c3) (.slice d1 d2 d3) (.slice e1 e2 e3) (.slice f1 f2 f3) (.slice g1 g2 g3) (.slice i1 i2 i3) (.slice j1 j2 j3) (.slice l1 l2 l3) (.slice m1 m2 m3))
  have cM := in_any k.st 5 7 (w.alloc (kno 71 k (.slice a1 a2 a3) (.slice b1 b2 b3) (.slice c1 c2 c3) (.slice d1 d2 d3) (.slice e1 e2 e3) (.slice f1 f2 f3) (.slice g1 g2 g3) (.slice i1 i2 i3) (.slice j1 j2 j3) (.slice l1 l2 l3) (.slice m1 m2 m3)))
  have e : wk k = (decide (5 ≤ k.st) && decide (k.st ≤ 7)) := by
    unfold wk
    rw [Bool.eq_iff_iff]
    simp
    omega
  rw [e]
  generalize (decide (5 ≤ k.st) && decide (k.st ≤ 7)) = z at cM ⊢
  clear e
  go_enter Tryz.func39, Tryz.ntmps39
  go_wp2_with fail
  refine cM.mono ?_
  rintro x w1 ⟨rfl, rfl⟩
  go_wp2_with fail
  go_ret
  exact ⟨rfl, hb1⟩
end Go.Proofs.YthijccmiemlilaaGreatDoor
