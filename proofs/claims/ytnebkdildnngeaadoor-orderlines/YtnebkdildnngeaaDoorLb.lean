/- Maps from numbers to numbers; edges that are appended. -/
import Derived.Test.YtnebkdildnngeaaDoorLa
import Derived.Test.YtnebkdildnngeaaDoorOx
import Derived.Maps.OwnSet
import Derived.Maps.Views
import Derived.Maps.Own
namespace Go.Proofs.YtnebkdildnngeaaDoor
open Go.RowKit Go.Sort Go.Maps

def Rv (v : Value) : Option (DataW Value × List MemPlace) := some (.held v, [])
theorem law3 : Keyed Tryd.prog 3 := int_keyed Tryd.underlying3
theorem wf3 (k : Nat) (hk : k ≤ 1000000) : (Lit.int .i64 (k : Int)).wf = true := by
  have h1 : IntKind.i64.min = -9223372036854775808 := by decide
  have h2 : IntKind.i64.max = 9223372036854775807 := by decide
  simp [Lit.wf, h1, h2]
  omega
theorem key3 (k : Nat) (hk : k ≤ 1000000) : keyOf Tryd.prog 3 (eI k) = some (.int .i64 k) := keyOf_int_mk Tryd.underlying3 (wf3 k hk)
theorem zero3 (w : World) : (zeroValue 3).run Tryd.prog w = .ok (.int .i64 0) w := Tryd.zeroValue3 w
/-- A map: what it says of numbers, which it has, how many. -/
structure IM (W : World) (b : Nat) (f : Nat → Int) (h : Nat → Bool) (c : Nat) : Prop where
  own : ∃ n D, n ≤ c ∧ W.ownsMap Tryd.prog 3 Rv b n D ∧ (∀ k : Nat, D.atKey (.int .i64 k) (.held (.int .i64 0)) = .held (.int .i64 (f k))) ∧ (∀ k : Nat, Maps.has D (.int .i64 k) = h k) ∧ Maps.size D = c
theorem IM.new {W : World} {b : Nat} (h : W.heap[b]? = some (.map #[] 0)) : IM W b (fun _ => 0) (fun _ => false) 0 := by
  refine ⟨0, .map [], Nat.le_refl _, Joins.ownsMap_empty h, fun k => rfl, fun k => rfl, rfl⟩
theorem IM.lt {W : World} {b : Nat} {f : Nat → Int} {h : Nat → Bool} {c : Nat} (x : IM W b f h c) : b < W.heap.size := by obtain ⟨n, D, _, h2, _⟩ := x.own; exact h2.lt
theorem IM.kp {W W' : World} {b : Nat} {f : Nat → Int} {h : Nat → Bool} {c : Nat} {S : Nat → Prop} (x : IM W b f h c) (k : Kp S W W') (hs : ¬ S b) : IM W' b f h c := by
  obtain ⟨n, D, h1, ⟨es, cl, h2, h3⟩, h4⟩ := x.own
  exact ⟨n, D, h1, ⟨es, cl, (k.block b (Array.getElem?_eq_some_iff.1 h2).1 hs).trans h2, h3⟩, h4⟩
theorem kp_below {W W' : World} (k : Below W.heap.size W W') (S : Nat → Prop) : Kp S W W' := ⟨k.os, k.tape, k.output, k.size, fun i hi _ => k.block i hi⟩
theorem IM.on {W W' : World} {b : Nat} {f : Nat → Int} {h : Nat → Bool} {c : Nat} (x : IM W b f h c) (k : Below W.heap.size W W') : IM W' b f h c := x.kp (kp_below k fun _ => False) (fun e => e)
theorem IM.look {W : World} {b : Nat} {f : Nat → Int} {h : Nat → Bool} {c : Nat} (x : IM W b f h c) (k : Nat) (hk : k ≤ 1000000) :
    (Instr.lookup 54 (.map (some b)) (eI k) false).run Tryd.prog W = .ok (.int .i64 (f k)) W := by
  obtain ⟨n, D, _, h2, h3, _⟩ := x.own
  obtain ⟨v, ps, e1, e2⟩ := h2.lookup law3 Tryd.underlying54 (zero3 W) (zd := .held (.int .i64 0)) (zp := []) rfl (key3 k hk)
  rw [h3 k] at e2
  have : v = .int .i64 (f k) := by simpa [Rv] using congrArg (fun o => o.map Prod.fst) e2
  rw [e1, this]
theorem IM.len {W : World} {b : Nat} {f : Nat → Int} {h : Nat → Bool} {c : Nat} (x : IM W b f h c) (ty : TypeId) : (Builtin.len_ #[54] ty #[.map (some b)]).run Tryd.prog W = .ok (.int .i64 c) W := by
  obtain ⟨n, D, _, h2, _, _, h5⟩ := x.own
  rw [h2.len Tryd.underlying54, h5]
theorem lit_ne {j k : Nat} (hj : j ≠ k) : (Lit.int .i64 (j : Int)) ≠ .int .i64 (k : Int) := fun e => hj (by injection e with _ e; omega)
theorem IM.put {W : World} {b : Nat} {f : Nat → Int} {h : Nat → Bool} {c : Nat} (x : IM W b f h c) (k : Nat) (hk : k ≤ 1000000) (hc : c ≤ 1000000) (v : Int) (hn : h k = false) :
    ∃ W', (Instr.mapUpdate 54 (.map (some b)) (eI k) (.int .i64 v)).run Tryd.prog W = .ok () W' ∧ IM W' b (fun j => if j = k then v else f j) (fun j => decide (j = k) || h j) (c + 1) ∧ Kp (· = b) W W' := by
  obtain ⟨n, D, h1, h2, h3, h4, h5⟩ := x.own
  obtain ⟨W', e1, e2, e3⟩ := h2.store law3 Tryd.underlying54 (by unfold maxLen; omega) (key3 k hk) (val := .int .i64 v) (d := .held (.int .i64 v)) (ps := []) rfl
  have hkl : WideAt.IsKeyLit (.int .i64 (k : Int)) := by trivial
  have hne : ∀ j : Nat, j ≠ k → (Lit.int .i64 (j : Int)) ≠ .int .i64 (k : Int) := fun j hj => lit_ne hj
  refine ⟨W', e1, ⟨n + 1, _, by omega, e2, fun j => ?_, fun j => ?_, ?_⟩, ?_⟩
  · by_cases e : j = k
    · subst e; rw [if_pos rfl]; exact atKey_put_same h2.isMap hkl _ _
    · rw [if_neg e, atKey_put_other (hne j e), h3]
  · by_cases e : j = k
    · subst e; rw [has_put_same h2.isMap hkl]; simp
    · rw [has_put_other (hne j e), h4]; simp [e]
  · rw [size_put (h2.tidy law3), h4, hn, h5]; rfl
  · have g := e3.grown
    exact ⟨g.os, g.tape, g.output, g.size, fun i hi hs => g.block i hi (fun e => hs (by cases e; rfl))⟩

def ecs (l : List E) : List Value := l.flatMap fun e => [.int .i64 e.1, .int .i64 e.2]
theorem ecs_len (l : List E) : (ecs l).length = l.length * 2 := by
  unfold ecs
  induction l with
  | nil => rfl
  | cons f l ih => simp only [List.flatMap_cons, List.length_append, ih, List.length_cons, List.length_nil]; omega
theorem ecs_app (a b : List E) : ecs (a ++ b) = ecs a ++ ecs b := by unfold ecs; rw [List.flatMap_append]
theorem ecs_get : ∀ (l : List E) (i : Nat) (hi : i < l.length), (ecs l)[i * 2]? = some (.int .i64 l[i].1) ∧ (ecs l)[i * 2 + 1]? = some (.int .i64 l[i].2)
  | e :: l, 0, _ => ⟨rfl, rfl⟩
  | e :: l, i + 1, h => by
    have ih := ecs_get l i (by simpa using h)
    have e1 : ecs (e :: l) = .int .i64 e.1 :: .int .i64 e.2 :: ecs l := rfl
    rw [e1, show (i + 1) * 2 = i * 2 + 1 + 1 by omega]
    simpa using ih
theorem ecs_at : ∀ (l : List E) (j : Nat) (u : Value), (ecs l)[j]? = some u → ∃ i, ∃ hi : i < l.length, (j = i * 2 ∧ u = .int .i64 l[i].1) ∨ (j = i * 2 + 1 ∧ u = .int .i64 l[i].2)
  | [], j, u, h => by simp [ecs] at h
  | f :: l, 0, u, h => by
    simp [ecs] at h
    exact ⟨0, by simp, .inl ⟨rfl, by simpa using h.symm⟩⟩
  | f :: l, 1, u, h => by
    simp [ecs] at h
    exact ⟨0, by simp, .inr ⟨rfl, by simpa using h.symm⟩⟩
  | f :: l, j + 2, u, h => by
    have h' : (ecs l)[j]? = some u := by simpa [ecs] using h
    obtain ⟨i, hi, hh⟩ := ecs_at l j u h'
    refine ⟨i + 1, by simpa using hi, ?_⟩
    rcases hh with ⟨e1, e2⟩ | ⟨e1, e2⟩
    · exact .inl ⟨by omega, by simpa using e2⟩
    · exact .inr ⟨by omega, by simpa using e2⟩
theorem ecs_ones (l : List E) : ∀ u ∈ ecs l, u.oneCell' = true := fun u hu => by
  obtain ⟨f, _, hf⟩ := List.mem_flatMap.1 hu
  simp at hf
  rcases hf with rfl | rfl <;> rfl
theorem es_news {W : World} {b o : Nat} {l : List E} (h : Er W b o l) : ∀ j u, (ecs l)[j]? = some u → W.cell? (Addr.add ⟨b, o, none⟩ j) = some u := fun j u hj => by
  obtain ⟨i, hi, hh⟩ := ecs_at l j u hj
  rcases hh with ⟨rfl, rfl⟩ | ⟨rfl, rfl⟩
  · rw [Addr.add_lit]; exact h.c0 i hi
  · rw [Addr.add_lit, ← Nat.add_assoc]; exact h.c1 i hi
abbrev Ex (W : World) (B : Nat) (v : Value) (l : List E) : Prop := W.ownsRow B 48 2 v l.length (ecs l)
theorem ex_es {W : World} {B g n c : Nat} {l : List E} (h : Ex W B (.slice (some ⟨g, 0, none⟩) n c) l) (hn : n = l.length) : Es W (.slice (some ⟨g, 0, none⟩) n c) l := by
  subst hn
  have h' := h
  rcases h'.2 with ⟨h', _⟩ | ⟨g', cap, cur, h', hb, hg, hnc, hcm, hcs, htake⟩
  · cases h'
  · cases h'
    refine ⟨.inr ⟨g, 0, c, rfl, hnc, (Array.getElem?_eq_some_iff.1 hg).1, fun i hi => ?_, fun i hi => ?_⟩⟩
    · rw [Nat.zero_add, World.ownsRow.cellAt h (i * 2) (by omega)]; exact (ecs_get l i hi).1
    · rw [Nat.zero_add, World.ownsRow.cellAt h (i * 2 + 1) (by omega)]; exact (ecs_get l i hi).2
theorem info48 : (Tryd.prog.info? 48).map (fun i => (i.zero, i.size, i.bytes)) = some (some (.agg #[.int .i64 0, .int .i64 0]), 2, 16) := by kernel_rfl
/-- More edges are appended. -/
theorem wpList_apX {W : World} {B g n cap : Nat} {l m : List E} {A : Option Addr} {cx : Nat} (h : Ex W B (.slice (some ⟨g, 0, none⟩) n cap) l) (hn : n = l.length) (hm : Es W (.slice A m.length cx) m) (hA : A = none → cx = 0) (hl : l.length ≤ 1000000) (hml : m.length ≤ 1000000) (hB : B ≤ W.heap.size)
    {ops : Array Oper} {rest : List Oper} {op : Oper} {a : Act} {Q : Exit → Act → World → Prop} (hg : op.guard = none) (s x : Operand) (hop : op.op = Op.call { callee := Callee.builtin Builtin.append, args := #[s, x], argTypes := #[22, 22] }) (hs : a.eval s = .slice (some ⟨g, 0, none⟩) n cap) (hx : a.eval x = .slice A m.length cx)
    (K : ∀ g' c' w6, Ex w6 B (.slice (some ⟨g', 0, none⟩) (n + m.length) c') (l ++ m) → (∀ B', B' ≤ B → Below B' W w6) → wpList Tryd.prog ops Q rest (a.put op.dst (.slice (some ⟨g', 0, none⟩) (n + m.length) c')) w6) :
    wpList Tryd.prog ops Q (op :: rest) a W := by
  subst hn
  obtain ⟨i0, hi0, hz0, hz1, hz2⟩ := infoQ info48
  have e : (l ++ m).length = l.length + m.length := by simp
  have hgb : ∀ B', B' ≤ B → ∀ k, (Value.slice (some ⟨g, 0, none⟩) l.length cap).ownBlock = some k → B' ≤ k := fun B' hB' k hk => Nat.le_trans hB' (h.lt k hk).1
  cases A with
  | none =>
    have h0 : m = [] := by
      rcases hm.is with ⟨h0, _⟩ | ⟨b, o, c, h1, _⟩
      · exact h0
      · cases h1
    subst h0
    obtain rfl := hA rfl
    have hcap : l.length ≤ cap := by
      rcases h.2 with ⟨h', _⟩ | ⟨g', cap', cur, h', hb, hg, hnc, hcm, hcs, htake⟩
      · cases h'
      · cases h'; exact hnc
    refine wpList_append_fits_any _ hg s x 22 hop B 48 i0 2 Tryd.underlying22 hi0 hz1 g l.length cap (ecs l) hs h none 0 0 [] hx rfl (fun _ => ⟨rfl, rfl⟩) (fun ad e => by cases e) (by simp) (by omega) ?_
    intro w6 hown hgr
    exact K g cap w6 (by unfold Ex; rw [e, ecs_app]; exact hown) (fun B' hB' => (Below.refl _ _).grown hgr (Nat.le_trans hB' hB) (fun k e => by cases e; exact hgb B' hB' g rfl))
  | some ad =>
    have hnews : ∀ j u, (ecs m)[j]? = some u → W.cell? (ad.add j) = some u := fun j u hj => by
      rcases hm.is with ⟨rfl, _⟩ | ⟨b, o, c, h1, _, h2⟩
      · simp [ecs] at hj
      · cases h1; exact es_news h2 j u hj
    refine wpList_append_own _ hg s x 22 hop B 48 i0 _ 2 16 Tryd.underlying22 hi0 hz0 hz1 hz2 rfl (by decide) _ _ _ hs h ad m.length cx (ecs m) hx (ecs_len m) hnews (ecs_ones m) (by unfold maxLen; omega) (by omega) hB ?_
    intro v' w6 hown hgr hiff
    have hne : v' ≠ .slice none 0 0 := fun e => by cases (hiff.1 e).1
    obtain ⟨g', c', rfl⟩ : ∃ g' c', v' = .slice (some ⟨g', 0, none⟩) (l.length + m.length) c' := by
      rcases hown.2 with ⟨h', _⟩ | ⟨g', cap', cur, h', _⟩
      · exact absurd h' hne
      · exact ⟨g', cap', h'⟩
    exact K g' c' w6 (by unfold Ex; rw [e, ecs_app]; exact hown) (fun B' hB' => (Below.refl _ _).grown hgr (Nat.le_trans hB' hB) (hgb B' hB'))

/-- A row stays where a map turns. -/
theorem own_map {W W' : World} {B mb : Nat} {e : TypeId} {s n : Nat} {v : Value} {xs : List Value} {f : Nat → Int} {h : Nat → Bool} {c : Nat} (x : W.ownsRow B e s v n xs) (hm : IM W mb f h c) (k : Kp (· = mb) W W') : W'.ownsRow B e s v n xs := by
  obtain ⟨_, _, _, ⟨es, cl, h2, _⟩, _⟩ := hm.own
  refine ⟨x.1, ?_⟩
  rcases x.2 with hn | ⟨g, cap, cur, rfl, hb, hgg, rest⟩
  · exact .inl hn
  · refine .inr ⟨g, cap, cur, rfl, hb, (k.block g (Array.getElem?_eq_some_iff.1 hgg).1 (fun e => ?_)).trans hgg, rest⟩
    subst e
    rw [hgg] at h2
    cases h2
/-- A map stays where a row grows. -/
theorem IM.grown {W W' : World} {B mb : Nat} {e : TypeId} {s n : Nat} {v : Value} {xs : List Value} {f : Nat → Int} {h : Nat → Bool} {c : Nat} (hm : IM W mb f h c) (x : W.ownsRow B e s v n xs) (hg : W.grownBy W' v.ownBlock) : IM W' mb f h c := by
  refine hm.kp (S := fun i => v.ownBlock = some i) ⟨hg.os, hg.tape, hg.output, hg.size, fun i hi hs => hg.block i hi (fun e => hs e.symm)⟩ (fun e => ?_)
  obtain ⟨_, _, _, ⟨es, cl, h2, _⟩, _⟩ := hm.own
  obtain ⟨c', fz, h3⟩ := Lib.ownsRow_kind x mb e
  rw [h3] at h2
  cases h2
end Go.Proofs.YtnebkdildnngeaaDoor
