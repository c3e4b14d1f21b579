/- Rows that are appended to: offers, packages, those that are known. -/
import Derived.Test.YthijccmiemlilaaGreatDoorKa
import Derived.Deep.AppendLies
import Derived.Laws.OwnMore
import Derived.Lib.SmallJoins
import Derived.Deep.RegionLaw
import Derived.OrdersHeld
import Derived.WalkKit
namespace Go.Proofs.YthijccmiemlilaaGreatDoor
open Go.RowKit Go.Sort

theorem nb0 (w : World) (o : Obj) : (w.alloc o).heap[w.heap.size]? = some o := by
  show (w.heap.push o)[w.heap.size]? = some o
  simp
theorem info_of {t : TypeId} {s b : Nat} (h : (Tryz.prog.info? t).map (fun i => (i.zero.map (·.cells.size), i.size, i.bytes)) = some (some s, s, b)) : ∃ i z, Tryz.prog.info? t = some i ∧ i.zero = some z ∧ i.size = s ∧ i.bytes = b ∧ z.cells.size = s := by
  obtain ⟨i, hi, he⟩ := Option.map_eq_some_iff.1 h
  simp only [Prod.mk.injEq] at he
  obtain ⟨z, hz, hs⟩ := Option.map_eq_some_iff.1 he.1
  exact ⟨i, z, hi, hz, he.2.1, he.2.2, hs⟩
theorem info65 : (Tryz.prog.info? 65).map (fun i => (i.zero.map (·.cells.size), i.size, i.bytes)) = some (some 5, 5, 80) := by kernel_rfl
theorem info30 : (Tryz.prog.info? 30).map (fun i => (i.zero.map (·.cells.size), i.size, i.bytes)) = some (some 13, 13, 272) := by kernel_rfl
theorem info60 : (Tryz.prog.info? 60).map (fun i => (i.zero.map (·.cells.size), i.size, i.bytes)) = some (some 20, 20, 376) := by kernel_rfl
theorem info3 : (Tryz.prog.info? 3).map (fun i => (i.zero.map (·.cells.size), i.size, i.bytes)) = some (some 1, 1, 8) := by kernel_rfl
theorem own_on {W W' : World} {B : Nat} {e : TypeId} {s n : Nat} {v : Value} {xs : List Value} (h : W.ownsRow B e s v n xs) (k : Below W.heap.size W W') : W'.ownsRow B e s v n xs := by
  refine ⟨h.1, ?_⟩
  rcases h.2 with hn | ⟨g, cap, cur, rfl, hb, hgg, rest⟩
  · exact .inl hn
  · exact .inr ⟨g, cap, cur, rfl, hb, (k.block g (Array.getElem?_eq_some_iff.1 hgg).1).trans hgg, rest⟩
/-- One more is appended to a row of one's own. -/
theorem wpList_apG {t e : TypeId} {sz by_ : Nat} (hu : Tryz.prog.underlying t = some (.slice e)) (hI : (Tryz.prog.info? e).map (fun i => (i.zero.map (·.cells.size), i.size, i.bytes)) = some (some sz, sz, by_)) (hsz : 0 < sz) (hby : by_ ≤ 1000)
    {W : World} {B n : Nat} {S : Value} {xs : List Value} (cs : List Value) (hcs : cs.length = 1 * sz) (ones : ∀ u ∈ cs, u.oneCell' = true) (h : W.ownsRow B e sz S n xs) (hl : n ≤ 1000000) (hB : B ≤ W.heap.size)
    {ops : Array Oper} {rest : List Oper} {o : Oper} {a : Act} {Q : Exit → Act → World → Prop} (hg : o.guard = none) (s x : Operand) (hop : o.op = Op.call { callee := Callee.builtin Builtin.append, args := #[s, x], argTypes := #[t, t] }) (hs : a.eval s = S) (N : Nat) (hx : a.eval x = .slice (some ⟨N, 0, none⟩) 1 1) (hN : N = W.heap.size)
    (K : ∀ g c w6, w6.ownsRow B e sz (.slice (some ⟨g, 0, none⟩) (n + 1) c) (n + 1) (xs ++ cs) → (∀ B', B' ≤ B → Below B' W w6) → wpList Tryz.prog ops Q rest (a.put o.dst (.slice (some ⟨g, 0, none⟩) (n + 1) c)) w6) :
    wpList Tryz.prog ops Q (o :: rest) a (W.alloc (.cells cs.toArray e)) := by
  subst hN
  obtain ⟨i0, z0, hi0, hz0, hz1, hz2, hz3⟩ := info_of hI
  have news : ∀ j u, cs[j]? = some u → (W.alloc (.cells cs.toArray e)).cell? ((⟨W.heap.size, 0, none⟩ : Addr).add j) = some u := by
    have := World.news_of_block (nb0 W (.cells cs.toArray e))
    simpa using this
  refine wpList_append_lies _ hg s x t hop B e i0 z0 sz by_ hu hi0 hz0 hz1 hz2 hz3 hsz _ _ _ hs (h.alloc _) ⟨W.heap.size, 0, none⟩ 1 1 cs hx hcs news ones (by decide) (by unfold maxLen; omega) ?_ (by rw [World.size_alloc]; omega) _ rfl ?_
  · have : (n + 1) * by_ ≤ 1000001 * 1000 := Nat.mul_le_mul (by omega) hby
    omega
  intro g' c' w6 hown hgr _ _
  exact K g' c' w6 hown (fun B' hB' => ((b1c W _).mono (Nat.le_trans hB' hB)).grown hgr (by rw [World.size_alloc]; omega) (fun j e => Nat.le_trans hB' (h.lt j e).1))
theorem flat_len {α : Type} (f : α → List Value) (s : Nat) (hf : ∀ x, (f x).length = s) : ∀ l : List α, (l.flatMap f).length = l.length * s
  | [] => by simp
  | x :: l => by rw [List.flatMap_cons, List.length_append, hf, flat_len f s hf l, List.length_cons, Nat.add_mul]; omega
theorem flat_get {α : Type} (f : α → List Value) (s : Nat) (hf : ∀ x, (f x).length = s) : ∀ (l : List α) (i j : Nat) (hi : i < l.length), j < s → (l.flatMap f)[i * s + j]? = (f l[i])[j]?
  | x :: l, 0, j, _, hj => by
    rw [List.flatMap_cons, Nat.zero_mul, Nat.zero_add, List.getElem?_append_left (by rw [hf]; exact hj)]; rfl
  | x :: l, i + 1, j, hi, hj => by
    rw [List.flatMap_cons, List.getElem?_append_right (by rw [hf, Nat.add_mul]; omega), hf, show (i + 1) * s + j - s = i * s + j by rw [Nat.add_mul]; omega]
    exact flat_get f s hf l i j (by simpa using hi) hj
/-- Offers of the call's own. -/
abbrev of5 (x : Ofr × Value) : List Value := [.string ⟨x.1.n.toArray⟩, .int .i64 x.1.e, .string ⟨x.1.u.toArray⟩, .string ⟨x.1.r.toArray⟩, x.2]
structure OW (V W : World) (S : Value) (l : List Ofr) (q : List (Ofr × Value)) : Prop where
  m : q.map (·.1) = l
  o : W.ownsRow V.heap.size 65 5 S q.length (q.flatMap of5)
  t : ∀ x ∈ q, Ts V x.2 x.1.P
  b : Below V.heap.size V W
theorem OW.on {V W W' : World} {S : Value} {l : List Ofr} {q : List (Ofr × Value)} (h : OW V W S l q) (k : Below W.heap.size W W') : OW V W' S l q :=
  ⟨h.m, own_on h.o k, h.t, bon h.b k⟩
theorem OW.os {V W : World} {S : Value} {l : List Ofr} {q : List (Ofr × Value)} (h : OW V W S l q) : Os' W S l := by
  have hm := h.m
  subst hm
  have ho := h.o
  rcases ho.2 with ⟨rfl, h0⟩ | ⟨g, cap, cur, rfl, hb, hg, hnc, hcm, hcs, htake⟩
  · exact ⟨.inl ⟨by rw [List.length_eq_zero_iff.1 h0]; rfl, none, 0, rfl⟩⟩
  · refine ⟨.inr ⟨g, 0, cap, by rw [List.length_map], (Array.getElem?_eq_some_iff.1 hg).1, fun i hi => ?_⟩⟩
    have hi' : i < q.length := by simpa using hi
    have cell : ∀ j, j < 5 → W.cell? ⟨g, 0 + i * 5 + j, none⟩ = (of5 q[i])[j]? := fun j hj => by
      rw [Nat.zero_add, World.ownsRow.cellAt ho (i * 5 + j) (by omega), flat_get of5 5 (fun _ => rfl) q i j hi' hj]
    refine ⟨q[i].2, ?_, ?_, ?_, ?_, ?_, ?_⟩
    · have := cell 0 (by omega); simpa using this
    · have := cell 1 (by omega); simpa using this
    · have := cell 2 (by omega); simpa using this
    · have := cell 3 (by omega); simpa using this
    · have := cell 4 (by omega); simpa using this
    · simpa using (h.t q[i] (List.getElem_mem hi')).on h.b
/-- Nine lists of a package, as values. -/
structure V9 where
  d : Value
  a : Value
  g : Value
  b : Value
  r : Value
  p : Value
  s : Value
  l : Value
  f : Value
abbrev pk13 (x : Pck × V9) : List Value := [.string ⟨x.1.o.n.toArray⟩, .int .i64 x.1.o.e, .string ⟨x.1.o.u.toArray⟩, .string ⟨x.1.o.r.toArray⟩, x.2.d, x.2.a, x.2.g, x.2.b, x.2.r, x.2.p, x.2.s, x.2.l, x.2.f]
structure PW (V W : World) (S : Value) (l : List Pck) (q : List (Pck × V9)) : Prop where
  m : q.map (·.1) = l
  o : W.ownsRow V.heap.size 30 13 S q.length (q.flatMap pk13)
  t : ∀ x ∈ q, Pz V x.1 x.2.d x.2.a x.2.g x.2.b x.2.r x.2.p x.2.s x.2.l x.2.f
  b : Below V.heap.size V W
theorem PW.on {V W W' : World} {S : Value} {l : List Pck} {q : List (Pck × V9)} (h : PW V W S l q) (k : Below W.heap.size W W') : PW V W' S l q :=
  ⟨h.m, own_on h.o k, h.t, bon h.b k⟩
theorem PW.ps {V W : World} {S : Value} {l : List Pck} {q : List (Pck × V9)} (h : PW V W S l q) : Ps W S l := by
  have hm := h.m
  subst hm
  have ho := h.o
  rcases ho.2 with ⟨rfl, h0⟩ | ⟨g, cap, cur, rfl, hb, hg, hnc, hcm, hcs, htake⟩
  · exact ⟨.inl ⟨by rw [List.length_eq_zero_iff.1 h0]; rfl, none, 0, rfl⟩⟩
  · refine ⟨.inr ⟨g, 0, cap, by rw [List.length_map], (Array.getElem?_eq_some_iff.1 hg).1, fun i hi => ?_⟩⟩
    have hi' : i < q.length := by simpa using hi
    have cell : ∀ j, j < 13 → W.cell? ⟨g, 0 + i * 13 + j, none⟩ = (pk13 q[i])[j]? := fun j hj => by
      rw [Nat.zero_add, World.ownsRow.cellAt ho (i * 13 + j) (by omega), flat_get pk13 13 (fun _ => rfl) q i j hi' hj]
    refine ⟨q[i].2.d, q[i].2.a, q[i].2.g, q[i].2.b, q[i].2.r, q[i].2.p, q[i].2.s, q[i].2.l, q[i].2.f, ⟨?_, ?_, ?_, ?_, ?_, ?_, ?_, ?_, ?_, ?_, ?_, ?_, ?_⟩, ?_⟩
    · have := cell 0 (by omega); simpa using this
    · have := cell 1 (by omega); simpa using this
    · have := cell 2 (by omega); simpa using this
    · have := cell 3 (by omega); simpa using this
    · have := cell 4 (by omega); simpa using this
    · have := cell 5 (by omega); simpa using this
    · have := cell 6 (by omega); simpa using this
    · have := cell 7 (by omega); simpa using this
    · have := cell 8 (by omega); simpa using this
    · have := cell 9 (by omega); simpa using this
    · have := cell 10 (by omega); simpa using this
    · have := cell 11 (by omega); simpa using this
    · have := cell 12 (by omega); simpa using this
    · simpa using (h.t q[i] (List.getElem_mem hi')).on h.b
abbrev kn20 (x : Kn × V9) : List Value := [.int .i64 x.1.st, .int .i64 x.1.e, .string ⟨x.1.u.toArray⟩, .string ⟨x.1.r.toArray⟩, .bool x.1.hd, .slice none 0 0, .slice none 0 0, .string ⟨x.1.p.o.n.toArray⟩, .int .i64 x.1.p.o.e, .string ⟨x.1.p.o.u.toArray⟩, .string ⟨x.1.p.o.r.toArray⟩, x.2.d, x.2.a, x.2.g, x.2.b, x.2.r, x.2.p, x.2.s, x.2.l, x.2.f]
structure KW (V W : World) (S : Value) (l : List Kn) (q : List (Kn × V9)) : Prop where
  m : q.map (·.1) = l
  o : W.ownsRow V.heap.size 60 20 S q.length (q.flatMap kn20)
  t : ∀ x ∈ q, Pz V x.1.p x.2.d x.2.a x.2.g x.2.b x.2.r x.2.p x.2.s x.2.l x.2.f
  b : Below V.heap.size V W
theorem KW.on {V W W' : World} {S : Value} {l : List Kn} {q : List (Kn × V9)} (h : KW V W S l q) (k : Below W.heap.size W W') : KW V W' S l q :=
  ⟨h.m, own_on h.o k, h.t, bon h.b k⟩
theorem KW.ks {V W : World} {S : Value} {l : List Kn} {q : List (Kn × V9)} (h : KW V W S l q) : Ks W S l := by
  have hm := h.m
  subst hm
  have ho := h.o
  rcases ho.2 with ⟨rfl, h0⟩ | ⟨g, cap, cur, rfl, hb, hg, hnc, hcm, hcs, htake⟩
  · exact ⟨.inl ⟨by rw [List.length_eq_zero_iff.1 h0]; rfl, none, 0, rfl⟩⟩
  · refine ⟨.inr ⟨g, 0, cap, by rw [List.length_map], (Array.getElem?_eq_some_iff.1 hg).1, fun i hi => ?_⟩⟩
    have hi' : i < q.length := by simpa using hi
    have cell : ∀ j, j < 20 → W.cell? ⟨g, 0 + i * 20 + j, none⟩ = (kn20 q[i])[j]? := fun j hj => by
      rw [Nat.zero_add, World.ownsRow.cellAt ho (i * 20 + j) (by omega), flat_get kn20 20 (fun _ => rfl) q i j hi' hj]
    refine ⟨.slice none 0 0, .slice none 0 0, q[i].2.d, q[i].2.a, q[i].2.g, q[i].2.b, q[i].2.r, q[i].2.p, q[i].2.s, q[i].2.l, q[i].2.f, ⟨?_, ?_, ?_, ?_, ?_, ?_, ?_, ?_, ?_, ?_, ?_, ?_, ?_, ?_, ?_, ?_, ?_, ?_, ?_, ?_⟩, ⟨⟨[], ⟨.inl ⟨rfl, _, _, rfl⟩⟩⟩, ⟨[], ⟨.inl ⟨rfl, _, _, rfl⟩⟩⟩, ?_⟩⟩
    · have := cell 0 (by omega); simpa using this
    · have := cell 1 (by omega); simpa using this
    · have := cell 2 (by omega); simpa using this
    · have := cell 3 (by omega); simpa using this
    · have := cell 4 (by omega); simpa using this
    · have := cell 5 (by omega); simpa using this
    · have := cell 6 (by omega); simpa using this
    · have := cell 7 (by omega); simpa using this
    · have := cell 8 (by omega); simpa using this
    · have := cell 9 (by omega); simpa using this
    · have := cell 10 (by omega); simpa using this
    · have := cell 11 (by omega); simpa using this
    · have := cell 12 (by omega); simpa using this
    · have := cell 13 (by omega); simpa using this
    · have := cell 14 (by omega); simpa using this
    · have := cell 15 (by omega); simpa using this
    · have := cell 16 (by omega); simpa using this
    · have := cell 17 (by omega); simpa using this
    · have := cell 18 (by omega); simpa using this
    · have := cell 19 (by omega); simpa using this
    · simpa using (h.t q[i] (List.getElem_mem hi')).on h.b
end Go.Proofs.YthijccmiemlilaaGreatDoor
namespace Go.Proofs.YthijccmiemlilaaGreatDoor
open Go.RowKit Go.Sort

set_option maxHeartbeats 1600000 in
set_option maxRecDepth 100000 in
theorem offer_any (p : Pck) (vD vA vG vB vR vP vS vL vF : Value) (w : World) (hz : Pz w p vD vA vG vB vR vP vS vL vF) : Calls Tryz.prog 47 #[pkv p.o.n p.o.e p.o.u p.o.r vD vA vG vB vR vP vS vL vF] w fun x w' => x = .returned (ofv p.o.n p.o.e p.o.u p.o.r vP) ∧ Below w.heap.size w w' := by
  obtain ⟨d1, d2, rfl⟩ := hz.D.sl
  obtain ⟨a1, a2, rfl⟩ := hz.A.sl
  obtain ⟨g1, g2, rfl⟩ := hz.G.sl
  obtain ⟨b1, b2, rfl⟩ := hz.B.sl
  obtain ⟨r1, r2, rfl⟩ := hz.R.sl
  obtain ⟨p1, p2, rfl⟩ := hz.P.sl
  obtain ⟨s1, s2, rfl⟩ := hz.S.sl
  obtain ⟨l1, l2, rfl⟩ := hz.L.sl
  obtain ⟨f1, f2, rfl⟩ := hz.F.sl
  clear hz
  go_enter Tryz.func47, Tryz.ntmps47
  go_wp2
  exact bodyPost_ret (v := ofv p.o.n p.o.e p.o.u p.o.r (.slice p1 p.o.P.length p2)) (by simp [results, Tryz.results47, go_sem]) rfl ⟨rfl, b2c _ _ _⟩

theorem filt_succ (f : Nat → Bool) (k : Nat) : (List.range (k + 1)).filter f = (List.range k).filter f ++ (if f k then [k] else []) := by
  rw [List.range_succ, List.filter_append]
  cases h : f k <;> simp [h]
theorem filt_le (f : Nat → Bool) (k : Nat) : ((List.range k).filter f).length ≤ k := by
  have := List.length_filter_le f (List.range k)
  simpa using this
/-- Those that count, by their numbers. -/
def sel (l : List Kn) (f : Nat → Bool) (k : Nat) : List Kn := ((List.range k).filter f).map fun i => l.getD i default
theorem sel_yes {l : List Kn} {f : Nat → Bool} {k : Nat} (hk : k < l.length) (h : f k = true) : sel l f (k + 1) = sel l f k ++ [l[k]] := by
  unfold sel
  rw [filt_succ, if_pos h, List.map_append]
  simp [List.getD, hk]
theorem sel_no {l : List Kn} {f : Nat → Bool} {k : Nat} (h : f k = false) : sel l f (k + 1) = sel l f k := by
  unfold sel
  rw [filt_succ, if_neg (by rw [h]; simp), List.append_nil]
theorem sel_le (l : List Kn) (f : Nat → Bool) (k : Nat) : (sel l f k).length ≤ k := by
  unfold sel
  rw [List.length_map]
  exact filt_le f k
set_option maxHeartbeats 3200000 in
set_option maxRecDepth 100000 in
theorem offers_row (F : Nat) (hF : ∀ (args : Array Value) (w : World), Sem.run Tryz.prog (callFunc F args) w = .ok (Next.enter F args) w) (p q : Value) (b o c : Nat) (l : List Kn) (f : Nat → Bool) (w : World) (h : Kl w b o l) (hn : l.length ≤ 1000) (hq : ∀ i, i < l.length → ∀ W, Below w.heap.size w W → Calls Tryz.prog F #[.int .i64 i, p, q] W fun e w' => e = .returned (.bool (f i)) ∧ Below W.heap.size W w') :
    Calls Tryz.prog 29 #[.slice (some ⟨b, o, none⟩) l.length c, .func (Fn.func F) #[] #[p, q]] w fun e w' => ∃ S, e = .returned S ∧ Os' w' S ((sel l f l.length).map (·.p.o)) ∧ Below w.heap.size w w' := by
  have HQ := Lib.hid hq
  have HF := Lib.hid h
  clear h hq
  go_enter Tryz.func29, Tryz.ntmps29
  go_wp2_with fail
  go_loopw [5, 10] (fun S i W => ∃ (k : Nat) (r : List (Ofr × Value)), k ≤ l.length ∧ i = .int .i64 k ∧ Hid (OW w W S ((sel l f k).map (·.p.o)) r)) (fun _ i _ => l.length - (intOf i).toNat)
  case atStart => exact ⟨0, [], Nat.zero_le _, rfl, ⟨rfl, World.ownsRow_nil _ _ _ _, fun x hx => (by cases hx), Below.refl _ _⟩⟩
  case round =>
    obtain ⟨k, r, hk, rfl, HOW⟩ := hrel
    have hW := HOW.out.b
    by_cases hlt : k < l.length
    · obtain ⟨vW, vT, vD, vA, vG, vB, vR, vP, vS, vL, vF, kc0, kz⟩ := HF.out.c k hlt
      have kc : Kc wr b (o + k * 20) l[k] vW vT vD vA vG vB vR vP vS vL vF := kc0.on hW
      obtain ⟨⟨a1, a2, a3, rfl⟩, ⟨b1, b2, b3, rfl⟩, ⟨c1, c2, c3, rfl⟩, ⟨d1, d2, d3, rfl⟩, ⟨e1, e2, e3, rfl⟩, ⟨f1, f2, f3, rfl⟩, ⟨g1, g2, g3, rfl⟩, ⟨i1, i2, i3, rfl⟩, ⟨j1, j2, j3, rfl⟩, ⟨l1, l2, l3, rfl⟩, ⟨m1, m2, m3, rfl⟩⟩ := kz.k11
      have hra := kc.range
      have HZ := Lib.hid kz
      have HSY := Lib.hid (sel_yes (f := f) hlt)
      have HSL := Lib.hid (sel_le l f k)
      generalize l[k] = x at hra HZ HSY
      have hb1 := b1c wr (kno 60 x (.slice a1 a2 a3) (.slice b1 b2 b3) (.slice c1 c2 c3) (.slice d1 d2 d3) (.slice e1 e2 e3) (.slice f1 f2 f3) (.slice g1 g2 g3) (.slice i1 i2 i3) (.slice j1 j2 j3) (.slice l1 l2 l3) (.slice m1 m2 m3))
      have cC := HQ.out k hlt _ (bon hW hb1)
      clear kc kc0 kz
      obtain ⟨y, hy⟩ : ∃ y, f k = y := ⟨_, rfl⟩
      rw [hy] at cC
      have HY := Lib.hid hy
      clear hy
      go_upto_region 4 with fail
      refine wp_region_lit ?_
      refine wpList_plain rfl fun K hK => ?_
      unfold Oper.wp
      simp [go_sem]
      refine hK _ _ ?_
      clear hK K
      refine wpList_plain rfl fun K hK => ?_
      unfold Oper.wp
      simp [go_sem, hlt]
      refine hK _ _ ?_
      clear hK K
      refine wpList_load_mid rfl 60 _ rfl b (o + k * 20) rfl _ _ hra Tryz.underlying60 rfl (by kernel_rfl) ?_
      refine wpList_plain rfl fun K hK => ?_
      unfold Oper.wp
      simp [go_sem]
      refine hK _ _ ?_
      clear hK K
      refine wpList_plain rfl fun K hK => ?_
      unfold Oper.wp
      simp [go_sem]
      refine hK _ _ ?_
      clear hK K
      refine wpList_store_new rfl 60 _ _ rfl _ _ rfl rfl (by kernel_rfl) (by rfl) (by first | rfl | simp [Value.oneCell']) ?_
      go_frame
      go_wp2_with fail
      refine cC.mono ?_
      rintro e w1 ⟨rfl, bw⟩
      have bw1 := bon hb1 bw
      have HO1 := Lib.hid (HOW.out.on bw1)
      clear cC HOW hra
      cases y with
      | false =>
        have HO2 : Hid (OW w w1 u5 ((sel l f (k + 1)).map (·.p.o)) r) := by
          show OW _ _ _ _ _
          rw [sel_no (l := l) HY.out]; exact HO1.out
        clear HSY HY HO1
        go_wp2_with fail
        exact ⟨⟨k + 1, r, hlt, by go_num, HO2⟩, by simp [intOf]; omega⟩
      | true =>
        have HSE := Lib.hid (HSY.out HY.out)
        clear HSY HY
        have hW1 := bon hW bw1
        have q7 : w1.cell? ⟨wr.heap.size, 7, none⟩ = some (.string ⟨x.p.o.n.toArray⟩) := by rw [bw.cell (by simp)]; simp
        have q8 : w1.cell? ⟨wr.heap.size, 8, none⟩ = some (.int .i64 x.p.o.e) := by rw [bw.cell (by simp)]; simp
        have q9 : w1.cell? ⟨wr.heap.size, 9, none⟩ = some (.string ⟨x.p.o.u.toArray⟩) := by rw [bw.cell (by simp)]; simp
        have q10 : w1.cell? ⟨wr.heap.size, 10, none⟩ = some (.string ⟨x.p.o.r.toArray⟩) := by rw [bw.cell (by simp)]; simp
        have q11 : w1.cell? ⟨wr.heap.size, 11, none⟩ = some (.slice c1 c2 c3) := by rw [bw.cell (by simp)]; simp
        have q12 : w1.cell? ⟨wr.heap.size, 12, none⟩ = some (.slice d1 d2 d3) := by rw [bw.cell (by simp)]; simp
        have q13 : w1.cell? ⟨wr.heap.size, 13, none⟩ = some (.slice e1 e2 e3) := by rw [bw.cell (by simp)]; simp
        have q14 : w1.cell? ⟨wr.heap.size, 14, none⟩ = some (.slice f1 f2 f3) := by rw [bw.cell (by simp)]; simp
        have q15 : w1.cell? ⟨wr.heap.size, 15, none⟩ = some (.slice g1 g2 g3) := by rw [bw.cell (by simp)]; simp
        have q16 : w1.cell? ⟨wr.heap.size, 16, none⟩ = some (.slice i1 i2 i3) := by rw [bw.cell (by simp)]; simp
        have q17 : w1.cell? ⟨wr.heap.size, 17, none⟩ = some (.slice j1 j2 j3) := by rw [bw.cell (by simp)]; simp
        have q18 : w1.cell? ⟨wr.heap.size, 18, none⟩ = some (.slice l1 l2 l3) := by rw [bw.cell (by simp)]; simp
        have q19 : w1.cell? ⟨wr.heap.size, 19, none⟩ = some (.slice m1 m2 m3) := by rw [bw.cell (by simp)]; simp
        have cO := offer_any x.p (.slice c1 c2 c3) (.slice d1 d2 d3) (.slice e1 e2 e3) (.slice f1 f2 f3) (.slice g1 g2 g3) (.slice i1 i2 i3) (.slice j1 j2 j3) (.slice l1 l2 l3) (.slice m1 m2 m3) w1 (HZ.out.on hW1).z
        clear bw
        go_wp2_with fail
        refine cO.mono ?_
        rintro e w2 ⟨rfl, bw2⟩
        have HO2 := Lib.hid (HO1.out.on bw2)
        have hr : r.length ≤ 1000 := by have := congrArg List.length HO2.out.m; simp at this; have := HSL.out; omega
        have hsz := HO2.out.b.size
        clear cO HO1 q7 q8 q9 q10 q11 q12 q13 q14 q15 q16 q17 q18 q19
        go_wp2_with (first | (at_builtin; refine wpList_apG Tryz.underlying63 info65 (by decide) (by decide) (of5 (x.p.o, .slice i1 i2 i3)) rfl (by intro u hu; simp at hu; rcases hu with rfl | rfl | rfl | rfl | rfl <;> rfl) HO2.out.o (by omega) hsz rfl _ _ rfl rfl _ rfl rfl ?_; intro g9 c9 w9 hR9 hB9; have HB9 := Lib.hid (hB9 _ (Nat.le_refl _)); have HR9 := Lib.hid hR9; clear hR9 hB9) | fail)
        refine ⟨⟨k + 1, r ++ [(x.p.o, .slice i1 i2 i3)], hlt, by go_num, ⟨?_, ?_, ?_, ?_⟩⟩, by simp [intOf]; omega⟩
        · rw [HSE.out, List.map_append, List.map_append, HO2.out.m]; rfl
        · rw [List.length_append, List.flatMap_append]; exact HR9.out
        · intro y hy
          rw [List.mem_append] at hy
          rcases hy with hy | hy
          · exact HO2.out.t y hy
          · rw [List.mem_singleton.1 hy]; exact HZ.out.z.P
        · exact HO2.out.b.trans HB9.out
    · have hke : k = l.length := by omega
      subst hke
      go_wp2_with fail
      go_ret
      exact ⟨_, rfl, HOW.out.os, hW⟩
theorem f30 (args : Array Value) (w : World) : Sem.run Tryz.prog (callFunc 30 args) w = .ok (Next.enter 30 args) w := by simp [go_sem]
theorem f41 (args : Array Value) (w : World) : Sem.run Tryz.prog (callFunc 41 args) w = .ok (Next.enter 41 args) w := by simp [go_sem]
end Go.Proofs.YthijccmiemlilaaGreatDoor
namespace Go.Proofs.YthijccmiemlilaaGreatDoor
open Go.RowKit

section
variable {P : Program} {ops : Array Oper} {Q : Exit → Act → World → Prop} {md : Region.Mode} {S : World → Prop}
theorem count_down {l : Array Bool} {i n : Nat} (h : l.getD i true = false) (hn : l.toList.count false ≤ n + 1) : (l.setIfInBounds i true).toList.count false ≤ n := by
  rcases Nat.lt_or_ge i l.size with hi | hi
  · have e : l[i] = false := by simpa [Array.getD, hi] using h
    rw [Array.toList_setIfInBounds, List.count_set (by simpa using hi)]
    have h0 : 0 < l.toList.count false := List.count_pos_iff.2 (by rw [← e]; simp)
    simp only [Array.count_toList] at h0 hn ⊢
    simp [e]
    omega
  · simp [Array.getD, Nat.not_lt.2 hi] at h
theorem ready_none {l : Array Bool} (h : l.toList.count false = 0) : Region.ready md ops l = [] := by
  rcases hr : Region.ready md ops l with _ | ⟨j, t⟩
  · rfl
  · exfalso
    have hj : j ∈ Region.ready md ops l := by rw [hr]; simp
    have h1 := (mem_ready.1 hj).1
    rcases Nat.lt_or_ge j l.size with hi | hi
    · have e : l[j] = false := by simpa [Array.getD, hi] using h1
      rw [List.count_eq_zero] at h
      exact h (by rw [← e]; simp)
    · simp [Array.getD, Nat.not_lt.2 hi] at h1
/-- THE LAW. -/
theorem wpAnyH_inv {I : Array Bool → Act → World → Prop} (hd : ∀ l a w, I l a w → Region.ready md ops l = [] → Q .normal a w)
    (hs : ∀ l a w, I l a w → ∀ i ∈ Region.ready md ops l, wpOp P ops Q i (fun a' w' => S w' ∧ I (l.setIfInBounds i true) a' w') a w) :
    ∀ (fuel : Nat) (l : Array Bool) (a : Act) (w : World), I l a w → l.toList.count false ≤ fuel → wpAnyH P md ops Q S fuel l a w
  | 0, l, a, w, h, hc => ⟨ready_none (by omega), hd l a w h (ready_none (by omega))⟩
  | fuel + 1, l, a, w, h, hc => ⟨hd l a w h, fun i hi => wpOp_mono (fun a' w' h' => ⟨h'.1, wpAnyH_inv hd hs fuel _ a' w' h'.2 (count_down (mem_ready.1 hi).1 hc)⟩) (hs l a w h i hi)⟩
/-- A state with some of its temporaries laid anew. -/
def lays (a : Act) : List (Nat × Value) → Act
  | [] => a
  | (d, v) :: t => lays (a.put (some d) v) t
theorem wpOp_want {i : Nat} {o : Oper} {K : Act → World → Prop} {a : Act} {w : World} (hi : ops[i]? = some o) (hg : Region.wanted o (yielded ops a.tmps) = true) (h : o.wp P a w K Q) : wpOp P ops Q i K a w := by
  unfold wpOp
  simp only [hi]
  rw [if_pos hg]
  exact .inl h
theorem take_d {i : Nat} {oi : Oper} {v : Value} {fuel : Nat} {listed : Array Bool} {a : Act} {w : World} (d : Option Nat) (hi : ops[i]? = some oi) (hd : oi.dst = d)
    (hs : Region.noSelect ops = true) (hf : Region.free md ops listed i = true) (hr : (Region.ready md ops listed).contains i = true)
    (hQ : ∀ c a w, Q (.panic c) (a.put d v) w → Q (.panic c) a w) (hy : YieldsIf P ops S oi v a) (hS : S w)
    (h : wpAnyH P md ops Q S fuel (listed.setIfInBounds i true) (a.put d v) w) : wpAnyH P md ops Q S (fuel + 1) listed a w := by
  subst hd
  exact wpAnyH_take hi hs hf hr hQ hy hS h
theorem wpAnyH_cast {f : Nat} {l1 l2 : Array Bool} {a : Act} {w : World} (h : l1 = l2) (k : wpAnyH P md ops Q S f l2 a w) : wpAnyH P md ops Q S f l1 a w := h ▸ k
end
end Go.Proofs.YthijccmiemlilaaGreatDoor
