/- The order within a set, as the reference finds it: mathematics. -/
import Derived.Test.YthijccmiemlilaaGreatDoorB3
import Derived.Test.YthijccmiemlilaaGreatDoorXOx
import Derived.Maps.OwnSet
import Derived.Maps.Views
import Derived.Maps.Own
namespace Go.Proofs.YthijccmiemlilaaGreatDoor.Ord
open Om

def frL (S : T) (r : List Nat) (told : Nat → Bool) (v : Nat) : Bool := !told v && !(r.any fun u => !decide (u = v) && (S u v && !told u))
def unt (r : List Nat) (told : Nat → Bool) : List Nat := r.filter fun v => !told v
def bst (S : T) (r : List Nat) (told : Nat → Bool) : Option Nat := (r.find? (frL S r told)).or (r.find? fun v => !told v)
theorem frL_eq (S : T) (r : List Nat) (told : Nat → Bool) : frL S r told = fun v => !told v && !wts S (unt r told) v := by
  funext v
  unfold frL wts unt
  rw [List.any_filter]
  congr 2
  congr 1
  funext u
  cases told u <;> simp
theorem find_and (p q : Nat → Bool) : ∀ r : List Nat, r.find? (fun v => p v && q v) = (r.filter p).find? q
  | [] => rfl
  | x :: r => by
    have ih := find_and p q r
    rw [List.find?_cons, List.filter_cons]
    cases h : p x
    · simp only [Bool.false_and, Bool.false_eq_true, if_false]; exact ih
    · simp only [Bool.true_and, if_true, List.find?_cons]; rw [ih]
theorem bst_nx {S : T} {r : List Nat} {told : Nat → Bool} (h : 0 < (unt r told).length) : bst S r told = some ((unt r told).getD (nx S (unt r told)) 0) := by
  unfold bst
  rw [frL_eq, find_and]
  have e2 : (r.find? fun v => !told v) = (unt r told).find? fun _ => true := by
    rw [show (unt r told) = r.filter (fun v => !told v) from rfl, ← find_and]; simp
  rw [e2, show r.filter (fun v => !told v) = unt r told from rfl]
  generalize unt r told = L at h
  unfold nx
  cases e : L.findIdx? fun b => !wts S L b with
  | none =>
    rw [List.findIdx?_eq_none_iff] at e
    have e3 : (L.find? fun b => !wts S L b) = none := by
      rw [List.find?_eq_none]
      intro x hx
      simp [e x hx]
    rw [e3]
    cases L with
    | nil => simp at h
    | cons a L =>
      have e4 : (max 0 (-1 : Int)).toNat = 0 := by decide
      simp [fx, e4]
  | some k =>
    obtain ⟨hk, hp, hmin⟩ := List.findIdx?_eq_some_iff_getElem.1 e
    have e3 : (L.find? fun b => !wts S L b) = some L[k] := by
      rw [List.find?_eq_some_iff_getElem]
      exact ⟨hp, k, hk, rfl, fun j hj => by simpa using hmin j hj⟩
    rw [e3]
    simp [fx, List.getD, hk]
theorem filt_erase : ∀ (L : List Nat) (i : Nat) (hi : i < L.length), L.Nodup → L.filter (fun v => !decide (v = L[i])) = L.eraseIdx i
  | [], i, hi, _ => absurd hi (by simp)
  | x :: L, 0, _, hn => by
    have hx := (List.nodup_cons.1 hn).1
    have : L.filter (fun v => !decide (v = x)) = L := List.filter_eq_self.2 fun a ha => by simp; intro e; exact hx (e ▸ ha)
    simp [this]
  | x :: L, i + 1, hi, hn => by
    have hx := (List.nodup_cons.1 hn).1
    have hi' : i < L.length := by simpa using hi
    have ih := filt_erase L i hi' (List.nodup_cons.1 hn).2
    have hne : x ≠ L[i] := fun e => hx (e ▸ List.getElem_mem hi')
    simp [hne]
    simpa using ih
theorem unt_put {S : T} {r : List Nat} {told : Nat → Bool} {b : Nat} (hn : r.Nodup) (h : 0 < (unt r told).length) (hb : b = (unt r told).getD (nx S (unt r told)) 0) : unt r (fun v => decide (v = b) || told v) = (unt r told).eraseIdx (nx S (unt r told)) := by
  have hi := (nx_lt S (unt r told) h).1
  have e : b = (unt r told)[nx S (unt r told)] := by rw [hb]; simp [List.getD, hi]
  have hnd : (unt r told).Nodup := hn.sublist List.filter_sublist
  rw [← filt_erase _ _ hi hnd, ← e]
  unfold unt
  rw [List.filter_filter]
  congr 1
  funext v
  by_cases h1 : v = b <;> cases h2 : told v <;> simp [h1, h2]
theorem bst_in {S : T} {r : List Nat} {told : Nat → Bool} {b : Nat} (h : bst S r told = some b) : b ∈ r ∧ told b = false := by
  unfold bst at h
  rcases e : r.find? (frL S r told) with _ | x
  · rw [e] at h
    have h2 : r.find? (fun v => !told v) = some b := by simpa using h
    exact ⟨List.mem_of_find?_eq_some h2, by simpa using List.find?_some h2⟩
  · rw [e] at h
    obtain rfl : x = b := by simpa using h
    have := List.find?_some e
    unfold frL at this
    exact ⟨List.mem_of_find?_eq_some e, by simp at this; exact this.1⟩
/-- What is told, and what is left. -/
structure Tl (S : T) (r : List Nat) (q : Nat) (told : Nat → Bool) (D : List Nat) : Prop where
  len : (unt r told).length = r.length - q
  eq : D ++ obo S (r.length - q) (unt r told) = ob S r
  dl : D.length = q
theorem tl_0 (S : T) (r : List Nat) : Tl S r 0 (fun _ => false) [] := by
  have e : unt r (fun _ => false) = r := by unfold unt; simp
  exact ⟨by rw [e]; rfl, by rw [e]; rfl, rfl⟩
theorem tl_next {S : T} {r : List Nat} {q : Nat} {told : Nat → Bool} {D : List Nat} (h : Tl S r q told D) (hq : q < r.length) (hn : r.Nodup) : ∃ b, bst S r told = some b ∧ Tl S r (q + 1) (fun v => decide (v = b) || told v) (D ++ [b]) := by
  have h0 : 0 < (unt r told).length := by rw [h.len]; omega
  refine ⟨_, bst_nx h0, ?_⟩
  have hi := (nx_lt S (unt r told) h0).1
  have e := unt_put (S := S) hn h0 rfl
  refine ⟨?_, ?_, by simp [h.dl]⟩
  · rw [e, List.length_eraseIdx_of_lt hi, h.len]; omega
  · rw [e]
    have h1 := h.eq
    rw [show r.length - q = r.length - (q + 1) + 1 by omega] at h1
    rw [← h1]
    show _ = D ++ (_ :: _)
    simp
theorem tl_end {S : T} {r : List Nat} {told : Nat → Bool} {D : List Nat} (h : Tl S r r.length told D) : D = ob S r := by
  have := h.eq
  rw [Nat.sub_self] at this
  simpa [obo] using this
/-- The best so far. -/
def bI : Option Nat → Int
  | none => -1
  | some v => v
theorem find_take (p : Nat → Bool) (r : List Nat) (k : Nat) (hk : k < r.length) : (r.take (k + 1)).find? p = ((r.take k).find? p).or (if p r[k] then some r[k] else none) := by
  rw [List.take_succ_eq_append_getElem hk, List.find?_append]
  cases h : p r[k] <;> simp [h]
theorem strong_any (l : List (Int × Int)) (r : List Nat) (told : Nat → Bool) (v : Nat) : (l.any fun e => r.any fun u => decide (e.1 = (u : Int)) && (decide (e.2 = (v : Int)) && (!decide (u = v) && !told u))) = r.any fun u => !decide (u = v) && (et l u v && !told u) := by
  rw [Bool.eq_iff_iff]
  simp only [List.any_eq_true, Bool.and_eq_true, decide_eq_true_eq, et]
  constructor
  · rintro ⟨e, he, u, hu, h1, h2, h3, h4⟩
    exact ⟨u, hu, h3, by rw [← h1, ← h2]; exact he, h4⟩
  · rintro ⟨u, hu, h3, he, h4⟩
    exact ⟨_, he, u, hu, rfl, rfl, h3, h4⟩
end Go.Proofs.YthijccmiemlilaaGreatDoor.Ord
namespace Go.Proofs.YthijccmiemlilaaGreatDoor.Ord
open Go.RowKit Go.Sort Go.Maps

def Rv (v : Value) : Option (DataW Value × List MemPlace) := some (.held v, [])
theorem law3 : Keyed Tryz.prog 3 := int_keyed Tryz.underlying3
theorem wf3 (k : Nat) (hk : k ≤ 1000000) : (Lit.int .i64 (k : Int)).wf = true := by
  have h1 : IntKind.i64.min = -9223372036854775808 := by decide
  have h2 : IntKind.i64.max = 9223372036854775807 := by decide
  simp [Lit.wf, h1, h2]
  omega
theorem key3 (k : Nat) (hk : k ≤ 1000000) : keyOf Tryz.prog 3 (eI k) = some (.int .i64 k) := keyOf_int_mk Tryz.underlying3 (wf3 k hk)
theorem zero3 (w : World) : (zeroValue 3).run Tryz.prog w = .ok (.int .i64 0) w := Tryz.zeroValue3 w
/-- A map: what it says of numbers, which it has, how many. -/
structure IM (W : World) (b : Nat) (f : Nat → Int) (h : Nat → Bool) (c : Nat) : Prop where
  own : ∃ n D, n ≤ c ∧ W.ownsMap Tryz.prog 3 Rv b n D ∧ (∀ k : Nat, D.atKey (.int .i64 k) (.held (.int .i64 0)) = .held (.int .i64 (f k))) ∧ (∀ k : Nat, Maps.has D (.int .i64 k) = h k) ∧ Maps.size D = c
theorem IM.new {W : World} {b : Nat} (h : W.heap[b]? = some (.map #[] 0)) : IM W b (fun _ => 0) (fun _ => false) 0 := by
  refine ⟨0, .map [], Nat.le_refl _, Joins.ownsMap_empty h, fun k => rfl, fun k => rfl, rfl⟩
theorem IM.lt {W : World} {b : Nat} {f : Nat → Int} {h : Nat → Bool} {c : Nat} (x : IM W b f h c) : b < W.heap.size := by obtain ⟨n, D, _, h2, _⟩ := x.own; exact h2.lt
theorem IM.kp {W W' : World} {b : Nat} {f : Nat → Int} {h : Nat → Bool} {c : Nat} {S : Nat → Prop} (x : IM W b f h c) (k : Kp S W W') (hs : ¬ S b) : IM W' b f h c := by
  obtain ⟨n, D, h1, ⟨es, cl, h2, h3⟩, h4⟩ := x.own
  exact ⟨n, D, h1, ⟨es, cl, (k.block b (Array.getElem?_eq_some_iff.1 h2).1 hs).trans h2, h3⟩, h4⟩
theorem kp_below {W W' : World} (k : Below W.heap.size W W') (S : Nat → Prop) : Kp S W W' := ⟨k.os, k.tape, k.output, k.size, fun i hi _ => k.block i hi⟩
theorem IM.on {W W' : World} {b : Nat} {f : Nat → Int} {h : Nat → Bool} {c : Nat} (x : IM W b f h c) (k : Below W.heap.size W W') : IM W' b f h c := x.kp (kp_below k fun _ => False) (fun e => e)
theorem IM.look {W : World} {b : Nat} {f : Nat → Int} {h : Nat → Bool} {c : Nat} (x : IM W b f h c) (k : Nat) (hk : k ≤ 1000000) :
    (Instr.lookup 55 (.map (some b)) (eI k) false).run Tryz.prog W = .ok (.int .i64 (f k)) W := by
  obtain ⟨n, D, _, h2, h3, _⟩ := x.own
  obtain ⟨v, ps, e1, e2⟩ := h2.lookup law3 Tryz.underlying55 (zero3 W) (zd := .held (.int .i64 0)) (zp := []) rfl (key3 k hk)
  rw [h3 k] at e2
  have : v = .int .i64 (f k) := by simpa [Rv] using congrArg (fun o => o.map Prod.fst) e2
  rw [e1, this]
theorem IM.len {W : World} {b : Nat} {f : Nat → Int} {h : Nat → Bool} {c : Nat} (x : IM W b f h c) (ty : TypeId) : (Builtin.len_ #[55] ty #[.map (some b)]).run Tryz.prog W = .ok (.int .i64 c) W := by
  obtain ⟨n, D, _, h2, _, _, h5⟩ := x.own
  rw [h2.len Tryz.underlying55, h5]
theorem lit_ne {j k : Nat} (hj : j ≠ k) : (Lit.int .i64 (j : Int)) ≠ .int .i64 (k : Int) := fun e => hj (by injection e with _ e; omega)
theorem IM.put {W : World} {b : Nat} {f : Nat → Int} {h : Nat → Bool} {c : Nat} (x : IM W b f h c) (k : Nat) (hk : k ≤ 1000000) (hc : c ≤ 1000000) (v : Int) (hn : h k = false) :
    ∃ W', (Instr.mapUpdate 55 (.map (some b)) (eI k) (.int .i64 v)).run Tryz.prog W = .ok () W' ∧ IM W' b (fun j => if j = k then v else f j) (fun j => decide (j = k) || h j) (c + 1) ∧ Kp (· = b) W W' := by
  obtain ⟨n, D, h1, h2, h3, h4, h5⟩ := x.own
  obtain ⟨W', e1, e2, e3⟩ := h2.store law3 Tryz.underlying55 (by unfold maxLen; omega) (key3 k hk) (val := .int .i64 v) (d := .held (.int .i64 v)) (ps := []) rfl
  have hkl : WideAt.IsKeyLit (.int .i64 (k : Int)) := by trivial
  have hne : ∀ j : Nat, j ≠ k → (Lit.int .i64 (j : Int)) ≠ .int .i64 (k : Int) := fun j hj => lit_ne hj
  refine ⟨W', e1, ⟨n + 1, _, by omega, e2, fun j => ?_, fun j => ?_, ?_⟩, ?_⟩
  · by_cases e : j = k
    · subst e; rw [if_pos rfl]; exact atKey_put_same h2.isMap hkl _ _
    · rw [if_neg e, atKey_put_other (hne j e), h3]
  · by_cases e : j = k
    · subst e; rw [has_put_same h2.isMap hkl]; simp
    · rw [has_put_other (hne j e), h4]; simp [e]
  · rw [size_put (h2.tidy law3), h4, hn, h5]; rfl
  · have g := e3.grown
    exact ⟨g.os, g.tape, g.output, g.size, fun i hi hs => g.block i hi (fun e => hs (by cases e; rfl))⟩

def ecs (l : List E) : List Value := l.flatMap fun e => [.int .i64 e.1, .int .i64 e.2]
theorem ecs_len (l : List E) : (ecs l).length = l.length * 2 := by
  unfold ecs
  induction l with
  | nil => rfl
  | cons f l ih => simp only [List.flatMap_cons, List.length_append, ih, List.length_cons, List.length_nil]; omega
theorem ecs_app (a b : List E) : ecs (a ++ b) = ecs a ++ ecs b := by unfold ecs; rw [List.flatMap_append]
theorem ecs_get : ∀ (l : List E) (i : Nat) (hi : i < l.length), (ecs l)[i * 2]? = some (.int .i64 l[i].1) ∧ (ecs l)[i * 2 + 1]? = some (.int .i64 l[i].2)
  | e :: l, 0, _ => ⟨rfl, rfl⟩
  | e :: l, i + 1, h => by
    have ih := ecs_get l i (by simpa using h)
    have e1 : ecs (e :: l) = .int .i64 e.1 :: .int .i64 e.2 :: ecs l := rfl
    rw [e1, show (i + 1) * 2 = i * 2 + 1 + 1 by omega]
    simpa using ih
theorem ecs_at : ∀ (l : List E) (j : Nat) (u : Value), (ecs l)[j]? = some u → ∃ i, ∃ hi : i < l.length, (j = i * 2 ∧ u = .int .i64 l[i].1) ∨ (j = i * 2 + 1 ∧ u = .int .i64 l[i].2)
  | [], j, u, h => by simp [ecs] at h
  | f :: l, 0, u, h => by
    simp [ecs] at h
    exact ⟨0, by simp, .inl ⟨rfl, by simpa using h.symm⟩⟩
  | f :: l, 1, u, h => by
    simp [ecs] at h
    exact ⟨0, by simp, .inr ⟨rfl, by simpa using h.symm⟩⟩
  | f :: l, j + 2, u, h => by
    have h' : (ecs l)[j]? = some u := by simpa [ecs] using h
    obtain ⟨i, hi, hh⟩ := ecs_at l j u h'
    refine ⟨i + 1, by simpa using hi, ?_⟩
    rcases hh with ⟨e1, e2⟩ | ⟨e1, e2⟩
    · exact .inl ⟨by omega, by simpa using e2⟩
    · exact .inr ⟨by omega, by simpa using e2⟩
theorem ecs_ones (l : List E) : ∀ u ∈ ecs l, u.oneCell' = true := fun u hu => by
  obtain ⟨f, _, hf⟩ := List.mem_flatMap.1 hu
  simp at hf
  rcases hf with rfl | rfl <;> rfl
theorem es_news {W : World} {b o : Nat} {l : List E} (h : Er W b o l) : ∀ j u, (ecs l)[j]? = some u → W.cell? (Addr.add ⟨b, o, none⟩ j) = some u := fun j u hj => by
  obtain ⟨i, hi, hh⟩ := ecs_at l j u hj
  rcases hh with ⟨rfl, rfl⟩ | ⟨rfl, rfl⟩
  · rw [Addr.add_lit]; exact h.c0 i hi
  · rw [Addr.add_lit, ← Nat.add_assoc]; exact h.c1 i hi
abbrev Ex (W : World) (B : Nat) (v : Value) (l : List E) : Prop := W.ownsRow B 107 2 v l.length (ecs l)
theorem ex_es {W : World} {B g n c : Nat} {l : List E} (h : Ex W B (.slice (some ⟨g, 0, none⟩) n c) l) (hn : n = l.length) : Es W (.slice (some ⟨g, 0, none⟩) n c) l := by
  subst hn
  have h' := h
  rcases h'.2 with ⟨h', _⟩ | ⟨g', cap, cur, h', hb, hg, hnc, hcm, hcs, htake⟩
  · cases h'
  · cases h'
    refine ⟨.inr ⟨g, 0, c, rfl, hnc, (Array.getElem?_eq_some_iff.1 hg).1, fun i hi => ?_, fun i hi => ?_⟩⟩
    · rw [Nat.zero_add, World.ownsRow.cellAt h (i * 2) (by omega)]; exact (ecs_get l i hi).1
    · rw [Nat.zero_add, World.ownsRow.cellAt h (i * 2 + 1) (by omega)]; exact (ecs_get l i hi).2
theorem info48 : (Tryz.prog.info? 107).map (fun i => (i.zero, i.size, i.bytes)) = some (some (.agg #[.int .i64 0, .int .i64 0]), 2, 16) := by kernel_rfl
/-- More edges are appended. -/
theorem wpList_apX {W : World} {B g n cap : Nat} {l m : List E} {A : Option Addr} {cx : Nat} (h : Ex W B (.slice (some ⟨g, 0, none⟩) n cap) l) (hn : n = l.length) (hm : Es W (.slice A m.length cx) m) (hA : A = none → cx = 0) (hl : l.length ≤ 1000000) (hml : m.length ≤ 1000000) (hB : B ≤ W.heap.size)
    {ops : Array Oper} {rest : List Oper} {op : Oper} {a : Act} {Q : Exit → Act → World → Prop} (hg : op.guard = none) (s x : Operand) (hop : op.op = Op.call { callee := Callee.builtin Builtin.append, args := #[s, x], argTypes := #[105, 105] }) (hs : a.eval s = .slice (some ⟨g, 0, none⟩) n cap) (hx : a.eval x = .slice A m.length cx)
    (K : ∀ g' c' w6, Ex w6 B (.slice (some ⟨g', 0, none⟩) (n + m.length) c') (l ++ m) → (∀ B', B' ≤ B → Below B' W w6) → wpList Tryz.prog ops Q rest (a.put op.dst (.slice (some ⟨g', 0, none⟩) (n + m.length) c')) w6) :
    wpList Tryz.prog ops Q (op :: rest) a W := by
  subst hn
  obtain ⟨i0, hi0, hz0, hz1, hz2⟩ := infoQ info48
  have e : (l ++ m).length = l.length + m.length := by simp
  have hgb : ∀ B', B' ≤ B → ∀ k, (Value.slice (some ⟨g, 0, none⟩) l.length cap).ownBlock = some k → B' ≤ k := fun B' hB' k hk => Nat.le_trans hB' (h.lt k hk).1
  cases A with
  | none =>
    have h0 : m = [] := by
      rcases hm.is with ⟨h0, _⟩ | ⟨b, o, c, h1, _⟩
      · exact h0
      · cases h1
    subst h0
    obtain rfl := hA rfl
    have hcap : l.length ≤ cap := by
      rcases h.2 with ⟨h', _⟩ | ⟨g', cap', cur, h', hb, hg, hnc, hcm, hcs, htake⟩
      · cases h'
      · cases h'; exact hnc
    refine wpList_append_fits_any _ hg s x 105 hop B 107 i0 2 Tryz.underlying105 hi0 hz1 g l.length cap (ecs l) hs h none 0 0 [] hx rfl (fun _ => ⟨rfl, rfl⟩) (fun ad e => by cases e) (by simp) (by omega) ?_
    intro w6 hown hgr
    exact K g cap w6 (by unfold Ex; rw [e, ecs_app]; exact hown) (fun B' hB' => (Below.refl _ _).grown hgr (Nat.le_trans hB' hB) (fun k e => by cases e; exact hgb B' hB' g rfl))
  | some ad =>
    have hnews : ∀ j u, (ecs m)[j]? = some u → W.cell? (ad.add j) = some u := fun j u hj => by
      rcases hm.is with ⟨rfl, _⟩ | ⟨b, o, c, h1, _, h2⟩
      · simp [ecs] at hj
      · cases h1; exact es_news h2 j u hj
    refine wpList_append_own _ hg s x 105 hop B 107 i0 _ 2 16 Tryz.underlying105 hi0 hz0 hz1 hz2 rfl (by decide) _ _ _ hs h ad m.length cx (ecs m) hx (ecs_len m) hnews (ecs_ones m) (by unfold maxLen; omega) (by omega) hB ?_
    intro v' w6 hown hgr hiff
    have hne : v' ≠ .slice none 0 0 := fun e => by cases (hiff.1 e).1
    obtain ⟨g', c', rfl⟩ : ∃ g' c', v' = .slice (some ⟨g', 0, none⟩) (l.length + m.length) c' := by
      rcases hown.2 with ⟨h', _⟩ | ⟨g', cap', cur, h', _⟩
      · exact absurd h' hne
      · exact ⟨g', cap', h'⟩
    exact K g' c' w6 (by unfold Ex; rw [e, ecs_app]; exact hown) (fun B' hB' => (Below.refl _ _).grown hgr (Nat.le_trans hB' hB) (hgb B' hB'))

/-- A row stays where a map turns. -/
theorem own_map {W W' : World} {B mb : Nat} {e : TypeId} {s n : Nat} {v : Value} {xs : List Value} {f : Nat → Int} {h : Nat → Bool} {c : Nat} (x : W.ownsRow B e s v n xs) (hm : IM W mb f h c) (k : Kp (· = mb) W W') : W'.ownsRow B e s v n xs := by
  obtain ⟨_, _, _, ⟨es, cl, h2, _⟩, _⟩ := hm.own
  refine ⟨x.1, ?_⟩
  rcases x.2 with hn | ⟨g, cap, cur, rfl, hb, hgg, rest⟩
  · exact .inl hn
  · refine .inr ⟨g, cap, cur, rfl, hb, (k.block g (Array.getElem?_eq_some_iff.1 hgg).1 (fun e => ?_)).trans hgg, rest⟩
    subst e
    rw [hgg] at h2
    cases h2
/-- A map stays where a row grows. -/
theorem IM.grown {W W' : World} {B mb : Nat} {e : TypeId} {s n : Nat} {v : Value} {xs : List Value} {f : Nat → Int} {h : Nat → Bool} {c : Nat} (hm : IM W mb f h c) (x : W.ownsRow B e s v n xs) (hg : W.grownBy W' v.ownBlock) : IM W' mb f h c := by
  refine hm.kp (S := fun i => v.ownBlock = some i) ⟨hg.os, hg.tape, hg.output, hg.size, fun i hi hs => hg.block i hi (fun e => hs e.symm)⟩ (fun e => ?_)
  obtain ⟨_, _, _, ⟨es, cl, h2, _⟩, _⟩ := hm.own
  obtain ⟨c', fz, h3⟩ := Lib.ownsRow_kind x mb e
  rw [h3] at h2
  cases h2
end Go.Proofs.YthijccmiemlilaaGreatDoor.Ord
