/- Rows that are appended to: offers, packages, those that are known. -/
import Derived.Test.YtoijkbhgajghdaaGreatDoorKa
import Derived.Deep.AppendLies
import Derived.Laws.OwnMore
import Derived.Lib.SmallJoins
import Derived.Deep.RegionLaw
namespace Go.Proofs.YtoijkbhgajghdaaGreatDoor
open Go.RowKit Go.Sort

theorem nb0 (w : World) (o : Obj) : (w.alloc o).heap[w.heap.size]? = some o := by
  show (w.heap.push o)[w.heap.size]? = some o
  simp
theorem info_of {t : TypeId} {s b : Nat} (h : (Tryz.prog.info? t).map (fun i => (i.zero.map (·.cells.size), i.size, i.bytes)) = some (some s, s, b)) : ∃ i z, Tryz.prog.info? t = some i ∧ i.zero = some z ∧ i.size = s ∧ i.bytes = b ∧ z.cells.size = s := by
  obtain ⟨i, hi, he⟩ := Option.map_eq_some_iff.1 h
  simp only [Prod.mk.injEq] at he
  obtain ⟨z, hz, hs⟩ := Option.map_eq_some_iff.1 he.1
  exact ⟨i, z, hi, hz, he.2.1, he.2.2, hs⟩
theorem info65 : (Tryz.prog.info? 65).map (fun i => (i.zero.map (·.cells.size), i.size, i.bytes)) = some (some 5, 5, 80) := by kernel_rfl
theorem info30 : (Tryz.prog.info? 30).map (fun i => (i.zero.map (·.cells.size), i.size, i.bytes)) = some (some 13, 13, 272) := by kernel_rfl
theorem info60 : (Tryz.prog.info? 60).map (fun i => (i.zero.map (·.cells.size), i.size, i.bytes)) = some (some 20, 20, 376) := by kernel_rfl
theorem info3 : (Tryz.prog.info? 3).map (fun i => (i.zero.map (·.cells.size), i.size, i.bytes)) = some (some 1, 1, 8) := by kernel_rfl
theorem own_on {W W' : World} {B : Nat} {e : TypeId} {s n : Nat} {v : Value} {xs : List Value} (h : W.ownsRow B e s v n xs) (k : Below W.heap.size W W') : W'.ownsRow B e s v n xs := by
  refine ⟨h.1, ?_⟩
  rcases h.2 with hn | ⟨g, cap, cur, rfl, hb, hgg, rest⟩
  · exact .inl hn
  · exact .inr ⟨g, cap, cur, rfl, hb, (k.block g (Array.getElem?_eq_some_iff.1 hgg).1).trans hgg, rest⟩
/-- One more is appended to a row of one's own. -/
theorem wpList_apG {t e : TypeId} {sz by_ : Nat} (hu : Tryz.prog.underlying t = some (.slice e)) (hI : (Tryz.prog.info? e).map (fun i => (i.zero.map (·.cells.size), i.size, i.bytes)) = some (some sz, sz, by_)) (hsz : 0 < sz) (hby : by_ ≤ 1000)
    {W : World} {B n : Nat} {S : Value} {xs : List Value} (cs : List Value) (hcs : cs.length = 1 * sz) (ones : ∀ u ∈ cs, u.oneCell' = true) (h : W.ownsRow B e sz S n xs) (hl : n ≤ 1000000) (hB : B ≤ W.heap.size)
    {ops : Array Oper} {rest : List Oper} {o : Oper} {a : Act} {Q : Exit → Act → World → Prop} (hg : o.guard = none) (s x : Operand) (hop : o.op = Op.call { callee := Callee.builtin Builtin.append, args := #[s, x], argTypes := #[t, t] }) (hs : a.eval s = S) (N : Nat) (hx : a.eval x = .slice (some ⟨N, 0, none⟩) 1 1) (hN : N = W.heap.size)
    (K : ∀ g c w6, w6.ownsRow B e sz (.slice (some ⟨g, 0, none⟩) (n + 1) c) (n + 1) (xs ++ cs) → (∀ B', B' ≤ B → Below B' W w6) → wpList Tryz.prog ops Q rest (a.put o.dst (.slice (some ⟨g, 0, none⟩) (n + 1) c)) w6) :
    wpList Tryz.prog ops Q (o :: rest) a (W.alloc (.cells cs.toArray e)) := by
  subst hN
  obtain ⟨i0, z0, hi0, hz0, hz1, hz2, hz3⟩ := info_of hI
  have news : ∀ j u, cs[j]? = some u → (W.alloc (.cells cs.toArray e)).cell? ((⟨W.heap.size, 0, none⟩ : Addr).add j) = some u := by
    have := World.news_of_block (nb0 W (.cells cs.toArray e))
    simpa using this
  refine wpList_append_lies _ hg s x t hop B e i0 z0 sz by_ hu hi0 hz0 hz1 hz2 hz3 hsz _ _ _ hs (h.alloc _) ⟨W.heap.size, 0, none⟩ 1 1 cs hx hcs news ones (by decide) (by unfold maxLen; omega) ?_ (by rw [World.size_alloc]; omega) _ rfl ?_
  · have : (n + 1) * by_ ≤ 1000001 * 1000 := Nat.mul_le_mul (by omega) hby
    omega
  intro g' c' w6 hown hgr _ _
  exact K g' c' w6 hown (fun B' hB' => ((b1c W _).mono (Nat.le_trans hB' hB)).grown hgr (by rw [World.size_alloc]; omega) (fun j e => Nat.le_trans hB' (h.lt j e).1))
theorem flat_len {α : Type} (f : α → List Value) (s : Nat) (hf : ∀ x, (f x).length = s) : ∀ l : List α, (l.flatMap f).length = l.length * s
  | [] => by simp
  | x :: l => by rw [List.flatMap_cons, List.length_append, hf, flat_len f s hf l, List.length_cons, Nat.add_mul]; omega
theorem flat_get {α : Type} (f : α → List Value) (s : Nat) (hf : ∀ x, (f x).length = s) : ∀ (l : List α) (i j : Nat) (hi : i < l.length), j < s → (l.flatMap f)[i * s + j]? = (f l[i])[j]?
  | x :: l, 0, j, _, hj => by
    rw [List.flatMap_cons, Nat.zero_mul, Nat.zero_add, List.getElem?_append_left (by rw [hf]; exact hj)]; rfl
  | x :: l, i + 1, j, hi, hj => by
    rw [List.flatMap_cons, List.getElem?_append_right (by rw [hf, Nat.add_mul]; omega), hf, show (i + 1) * s + j - s = i * s + j by rw [Nat.add_mul]; omega]
    exact flat_get f s hf l i j (by simpa using hi) hj
/-- Offers of the call's own. -/
abbrev of5 (x : Ofr × Value) : List Value := [.string ⟨x.1.n.toArray⟩, .int .i64 x.1.e, .string ⟨x.1.u.toArray⟩, .string ⟨x.1.r.toArray⟩, x.2]
structure OW (V W : World) (S : Value) (l : List Ofr) (q : List (Ofr × Value)) : Prop where
  m : q.map (·.1) = l
  o : W.ownsRow V.heap.size 65 5 S q.length (q.flatMap of5)
  t : ∀ x ∈ q, Ts V x.2 x.1.P
  b : Below V.heap.size V W
theorem OW.on {V W W' : World} {S : Value} {l : List Ofr} {q : List (Ofr × Value)} (h : OW V W S l q) (k : Below W.heap.size W W') : OW V W' S l q :=
  ⟨h.m, own_on h.o k, h.t, bon h.b k⟩
theorem OW.os {V W : World} {S : Value} {l : List Ofr} {q : List (Ofr × Value)} (h : OW V W S l q) : Os' W S l := by
  have hm := h.m
  subst hm
  have ho := h.o
  rcases ho.2 with ⟨rfl, h0⟩ | ⟨g, cap, cur, rfl, hb, hg, hnc, hcm, hcs, htake⟩
  · exact ⟨.inl ⟨by rw [List.length_eq_zero_iff.1 h0]; rfl, none, 0, rfl⟩⟩
  · refine ⟨.inr ⟨g, 0, cap, by rw [List.length_map], (Array.getElem?_eq_some_iff.1 hg).1, fun i hi => ?_⟩⟩
    have hi' : i < q.length := by simpa using hi
    have cell : ∀ j, j < 5 → W.cell? ⟨g, 0 + i * 5 + j, none⟩ = (of5 q[i])[j]? := fun j hj => by
      rw [Nat.zero_add, World.ownsRow.cellAt ho (i * 5 + j) (by omega), flat_get of5 5 (fun _ => rfl) q i j hi' hj]
    refine ⟨q[i].2, ?_, ?_, ?_, ?_, ?_, ?_⟩
    · have := cell 0 (by omega); simpa using this
    · have := cell 1 (by omega); simpa using this
    · have := cell 2 (by omega); simpa using this
    · have := cell 3 (by omega); simpa using this
    · have := cell 4 (by omega); simpa using this
    · simpa using (h.t q[i] (List.getElem_mem hi')).on h.b
/-- Nine lists of a package, as values. -/
structure V9 where
  d : Value
  a : Value
  g : Value
  b : Value
  r : Value
  p : Value
  s : Value
  l : Value
  f : Value
abbrev pk13 (x : Pck × V9) : List Value := [.string ⟨x.1.o.n.toArray⟩, .int .i64 x.1.o.e, .string ⟨x.1.o.u.toArray⟩, .string ⟨x.1.o.r.toArray⟩, x.2.d, x.2.a, x.2.g, x.2.b, x.2.r, x.2.p, x.2.s, x.2.l, x.2.f]
structure PW (V W : World) (S : Value) (l : List Pck) (q : List (Pck × V9)) : Prop where
  m : q.map (·.1) = l
  o : W.ownsRow V.heap.size 30 13 S q.length (q.flatMap pk13)
  t : ∀ x ∈ q, Pz V x.1 x.2.d x.2.a x.2.g x.2.b x.2.r x.2.p x.2.s x.2.l x.2.f
  b : Below V.heap.size V W
theorem PW.on {V W W' : World} {S : Value} {l : List Pck} {q : List (Pck × V9)} (h : PW V W S l q) (k : Below W.heap.size W W') : PW V W' S l q :=
  ⟨h.m, own_on h.o k, h.t, bon h.b k⟩
theorem PW.ps {V W : World} {S : Value} {l : List Pck} {q : List (Pck × V9)} (h : PW V W S l q) : Ps W S l := by
  have hm := h.m
  subst hm
  have ho := h.o
  rcases ho.2 with ⟨rfl, h0⟩ | ⟨g, cap, cur, rfl, hb, hg, hnc, hcm, hcs, htake⟩
  · exact ⟨.inl ⟨by rw [List.length_eq_zero_iff.1 h0]; rfl, none, 0, rfl⟩⟩
  · refine ⟨.inr ⟨g, 0, cap, by rw [List.length_map], (Array.getElem?_eq_some_iff.1 hg).1, fun i hi => ?_⟩⟩
    have hi' : i < q.length := by simpa using hi
    have cell : ∀ j, j < 13 → W.cell? ⟨g, 0 + i * 13 + j, none⟩ = (pk13 q[i])[j]? := fun j hj => by
      rw [Nat.zero_add, World.ownsRow.cellAt ho (i * 13 + j) (by omega), flat_get pk13 13 (fun _ => rfl) q i j hi' hj]
    refine ⟨q[i].2.d, q[i].2.a, q[i].2.g, q[i].2.b, q[i].2.r, q[i].2.p, q[i].2.s, q[i].2.l, q[i].2.f, ⟨?_, ?_, ?_, ?_, ?_, ?_, ?_, ?_, ?_, ?_, ?_, ?_, ?_⟩, ?_⟩
    · have := cell 0 (by omega); simpa using this
    · have := cell 1 (by omega); simpa using this
    · have := cell 2 (by omega); simpa using this
    · have := cell 3 (by omega); simpa using this
    · have := cell 4 (by omega); simpa using this
    · have := cell 5 (by omega); simpa using this
    · have := cell 6 (by omega); simpa using this
    · have := cell 7 (by omega); simpa using this
    · have := cell 8 (by omega); simpa using this
    · have := cell 9 (by omega); simpa using this
    · have := cell 10 (by omega); simpa using this
    · have := cell 11 (by omega); simpa using this
    · have := cell 12 (by omega); simpa using this
    · simpa using (h.t q[i] (List.getElem_mem hi')).on h.b
abbrev kn20 (x : Kn × V9) : List Value := [.int .i64 x.1.st, .int .i64 x.1.e, .string ⟨x.1.u.toArray⟩, .string ⟨x.1.r.toArray⟩, .bool x.1.hd, .slice none 0 0, .slice none 0 0, .string ⟨x.1.p.o.n.toArray⟩, .int .i64 x.1.p.o.e, .string ⟨x.1.p.o.u.toArray⟩, .string ⟨x.1.p.o.r.toArray⟩, x.2.d, x.2.a, x.2.g, x.2.b, x.2.r, x.2.p, x.2.s, x.2.l, x.2.f]
structure KW (V W : World) (S : Value) (l : List Kn) (q : List (Kn × V9)) : Prop where
  m : q.map (·.1) = l
  o : W.ownsRow V.heap.size 60 20 S q.length (q.flatMap kn20)
  t : ∀ x ∈ q, Pz V x.1.p x.2.d x.2.a x.2.g x.2.b x.2.r x.2.p x.2.s x.2.l x.2.f
  b : Below V.heap.size V W
theorem KW.on {V W W' : World} {S : Value} {l : List Kn} {q : List (Kn × V9)} (h : KW V W S l q) (k : Below W.heap.size W W') : KW V W' S l q :=
  ⟨h.m, own_on h.o k, h.t, bon h.b k⟩
theorem KW.ks {V W : World} {S : Value} {l : List Kn} {q : List (Kn × V9)} (h : KW V W S l q) : Ks W S l := by
  have hm := h.m
  subst hm
  have ho := h.o
  rcases ho.2 with ⟨rfl, h0⟩ | ⟨g, cap, cur, rfl, hb, hg, hnc, hcm, hcs, htake⟩
  · exact ⟨.inl ⟨by rw [List.length_eq_zero_iff.1 h0]; rfl, none, 0, rfl⟩⟩
  · refine ⟨.inr ⟨g, 0, cap, by rw [List.length_map], (Array.getElem?_eq_some_iff.1 hg).1, fun i hi => ?_⟩⟩
    have hi' : i < q.length := by simpa using hi
    have cell : ∀ j, j < 20 → W.cell? ⟨g, 0 + i * 20 + j, none⟩ = (kn20 q[i])[j]? := fun j hj => by
      rw [Nat.zero_add, World.ownsRow.cellAt ho (i * 20 + j) (by omega), flat_get kn20 20 (fun _ => rfl) q i j hi' hj]
    refine ⟨.slice none 0 0, .slice none 0 0, q[i].2.d, q[i].2.a, q[i].2.g, q[i].2.b, q[i].2.r, q[i].2.p, q[i].2.s, q[i].2.l, q[i].2.f, ⟨?_, ?_, ?_, ?_, ?_, ?_, ?_, ?_, ?_, ?_, ?_, ?_, ?_, ?_, ?_, ?_, ?_, ?_, ?_, ?_⟩, ⟨⟨[], ⟨.inl ⟨rfl, _, _, rfl⟩⟩⟩, ⟨[], ⟨.inl ⟨rfl, _, _, rfl⟩⟩⟩, ?_⟩⟩
    · have := cell 0 (by omega); simpa using this
    · have := cell 1 (by omega); simpa using this
    · have := cell 2 (by omega); simpa using this
    · have := cell 3 (by omega); simpa using this
    · have := cell 4 (by omega); simpa using this
    · have := cell 5 (by omega); simpa using this
    · have := cell 6 (by omega); simpa using this
    · have := cell 7 (by omega); simpa using this
    · have := cell 8 (by omega); simpa using this
    · have := cell 9 (by omega); simpa using this
    · have := cell 10 (by omega); simpa using this
    · have := cell 11 (by omega); simpa using this
    · have := cell 12 (by omega); simpa using this
    · have := cell 13 (by omega); simpa using this
    · have := cell 14 (by omega); simpa using this
    · have := cell 15 (by omega); simpa using this
    · have := cell 16 (by omega); simpa using this
    · have := cell 17 (by omega); simpa using this
    · have := cell 18 (by omega); simpa using this
    · have := cell 19 (by omega); simpa using this
    · simpa using (h.t q[i] (List.getElem_mem hi')).on h.b
end Go.Proofs.YtoijkbhgajghdaaGreatDoor
