/- Slices that come in, appended to a row of one's own. -/
import Derived.Test.YtkaeiofolknoeabDoorGb
import Derived.Test.YtkaeiofolknoeabDoorDj
import Derived.Laws.AppendOwnNone
namespace Go.Proofs.YtkaeiofolknoeabDoor
open Go.RowKit Go.Sort

/-- A slice is nil, or has an address. -/
structure Ns (v : Value) : Prop where
  is : v = .slice none 0 0 ∨ ∃ ad n c, v = .slice (some ad) n c

theorem wpList_append_in {w : World} {ops : Array Oper} {rest : List Oper} {o : Oper} {a : Act} {Q : Exit → Act → World → Prop} (hgd : o.guard = none) (s x : Operand) (t : TypeId)
    (ho : o.op = .call { callee := .builtin .append, args := #[s, x], argTypes := #[t, t] })
    (base : Nat) (e : TypeId) (i : TypeInfo) (z : Value) (size bytes : Nat) (ht : Tryd.prog.underlying t = some (.slice e)) (hi : Tryd.prog.info? e = some i) (hz : i.zero = some z)
    (hsize : i.size = size) (hby : i.bytes = bytes) (hzs : z.cells.size = size) (hsz : 0 < size)
    (v : Value) (n : Nat) (xs : List Value) (hs : a.eval s = v) (hown : w.ownsRow base e size v n xs)
    (X : Value) (m : Nat) (news : List Value) (hx : a.eval x = X) (hX : (X = .slice none 0 0 ∧ m = 0) ∨ ∃ ad c, X = .slice (some ad) m c ∧ ∀ j u, news[j]? = some u → w.cell? (ad.add j) = some u)
    (hl : news.length = m * size) (h1 : ∀ u ∈ news, u.oneCell' = true) (h63 : n + m ≤ maxLen) (hbytes : (n + m) * bytes ≤ 140737488355328) (hbase : base ≤ w.heap.size)
    (h : ∀ v' w', w'.ownsRow base e size v' (n + m) (xs ++ news) → w.grownBy w' v.ownBlock → wpList Tryd.prog ops Q rest (a.put o.dst v') w') : wpList Tryd.prog ops Q (o :: rest) a w := by
  rcases hX with ⟨rfl, rfl⟩ | ⟨ad, c, rfl, hn⟩
  · refine wpList_append_own_none hgd s x t ho base e i size ht hi v n xs hs hown hx ?_
    have hnil : news = [] := List.length_eq_zero_iff.1 (by simpa using hl)
    subst hnil
    exact h v w (by simpa using hown) ⟨rfl, rfl, rfl, Nat.le_refl _, fun _ _ _ => rfl⟩
  · exact wpList_append_own w hgd s x t ho base e i z size bytes ht hi hz hsize hby hzs hsz v n xs hs hown ad m c news hx hl hn h1 h63 hbytes hbase (fun v' w' h2 h3 _ => h v' w' h2 h3)

/-- The cells of offers. -/
def oc2 (l : List Ofr) (g : Nat → Value) (i : Nat) : List Value := (l.getD i default).vs (g i)
def ocs2 (l : List Ofr) (g : Nat → Value) : List Value := (List.range l.length).flatMap (oc2 l g)
theorem ocs2_len (l : List Ofr) (g : Nat → Value) : (ocs2 l g).length = l.length * 5 := five_len _ (fun _ => rfl) _
/-- What is appended of offers that came in. -/
theorem offers_in {W : World} {v : Value} {l : List Ofr} (h : Os' W v l) (hn : Ns v) : ∃ g, ((v = .slice none 0 0 ∧ l.length = 0) ∨ ∃ ad c, v = .slice (some ad) l.length c ∧ ∀ j u, (ocs2 l g)[j]? = some u → W.cell? (ad.add j) = some u) ∧ (∀ u ∈ ocs2 l g, u.oneCell' = true) ∧ ∀ i (hi : i < l.length), Ts W (g i) l[i].P := by
  by_cases h0 : l = []
  · subst h0
    refine ⟨fun _ => .slice none 0 0, ?_, by simp [ocs2], fun i hi => by simp at hi⟩
    rcases hn.is with rfl | ⟨ad, n, c, rfl⟩
    · exact Or.inl ⟨rfl, rfl⟩
    · obtain ⟨A, c', e⟩ := h.sl
      cases e
      exact Or.inr ⟨ad, _, rfl, fun j u hj => by simp [ocs2] at hj⟩
  · rcases h.is with ⟨rfl, _⟩ | ⟨b, o, c, rfl, hf⟩
    · exact absurd rfl h0
    · have get : ∀ i, i < l.length → ∃ v : Value, (∀ k, k < 5 → W.cell? ⟨b, o + i * 5 + k, none⟩ = ((l.getD i default).vs v)[k]?) ∧ Ts W v (l.getD i default).P := fun i hi => by
        obtain ⟨v, c0, c1, c2, c3, c4, ht⟩ := hf.c i hi
        have e : l.getD i default = l[i] := by simp [List.getD, hi]
        rw [e]
        refine ⟨v, fun k hk => ?_, ht⟩
        match k, hk with
        | 0, _ => exact c0
        | 1, _ => exact c1
        | 2, _ => exact c2
        | 3, _ => exact c3
        | 4, _ => exact c4
      obtain ⟨g, hg⟩ := Go.Deep.choose_lt get
      refine ⟨g, Or.inr ⟨⟨b, o, none⟩, c, rfl, fun j u hj => ?_⟩, fun u hu => ?_, fun i hi => by have := (hg i hi).2; rwa [show l.getD i default = l[i] from by simp [List.getD, hi]] at this⟩
      · have hjl : j < l.length * 5 := by
          rw [← ocs2_len l g]
          exact (List.getElem?_eq_some_iff.1 hj).1
        have hi : j / 5 < l.length := by omega
        have h2 := five_get (oc2 l g) (fun _ => rfl) l.length (j / 5) (j % 5) hi (by omega)
        rw [show j / 5 * 5 + j % 5 = j from by omega] at h2
        have h3 : (ocs2 l g)[j]? = (oc2 l g (j / 5))[j % 5]? := h2
        rw [h3] at hj
        have h4 := (hg (j / 5) hi).1 (j % 5) (by omega)
        rw [Go.WideShapes.add_plain, show o + j = o + j / 5 * 5 + j % 5 from by omega, h4]
        exact hj
      · obtain ⟨i, hi, hu⟩ := List.mem_flatMap.1 hu
        have hi' : i < l.length := by simpa using hi
        obtain ⟨A, c', e⟩ := (hg i hi').2.sl
        unfold oc2 Ofr.vs at hu
        simp at hu
        rcases hu with rfl | rfl | rfl | rfl | rfl
        · rfl
        · rfl
        · rfl
        · rfl
        · rw [e]; rfl

/-- A row of offers of one's own: two lists, one behind the other. -/
theorem os_two {W : World} {B n : Nat} {S : Value} {a b : List Ofr} {g h : Nat → Value} (hn : n = a.length + b.length) (ho : W.ownsRow B 66 5 S n (ocs2 a g ++ ocs2 b h)) (ha : ∀ i (hi : i < a.length), Ts W (g i) a[i].P) (hb : ∀ i (hi : i < b.length), Ts W (h i) b[i].P) : Os' W S (a ++ b) := by
  subst hn
  by_cases h0 : a.length + b.length = 0
  · have e1 : a = [] := List.length_eq_zero_iff.1 (by omega)
    have e2 : b = [] := List.length_eq_zero_iff.1 (by omega)
    subst e1 e2
    rcases ho.2 with ⟨rfl, _⟩ | ⟨g', cap, cur, rfl, _⟩
    · exact ⟨Or.inl ⟨rfl, _, _, rfl⟩⟩
    · exact ⟨Or.inl ⟨rfl, _, _, rfl⟩⟩
  · obtain ⟨q, c, rfl⟩ := Go.Joins.ownsRow_form ho (by omega)
    have hl : (a ++ b).length = a.length + b.length := by simp
    have cell : ∀ (i j : Nat) (u : Value), i < a.length + b.length → j < 5 → (ocs2 a g ++ ocs2 b h)[i * 5 + j]? = some u → W.cell? ⟨q, 0 + i * 5 + j, none⟩ = some u := fun i j u hi hj hu => by
      have h1 := ho.cellAt (g := q) (i * 5 + j) (by omega)
      rw [Nat.zero_add, h1]; exact hu
    refine ⟨Or.inr ⟨q, 0, c, by rw [hl], ⟨(ho.lt q rfl).2, fun i hi => ?_⟩⟩⟩
    rw [hl] at hi
    by_cases hia : i < a.length
    · have hx : ∀ j, j < 5 → (ocs2 a g ++ ocs2 b h)[i * 5 + j]? = (oc2 a g i)[j]? := fun j hj => by
        rw [List.getElem?_append_left (by rw [ocs2_len]; omega)]
        exact five_get (oc2 a g) (fun _ => rfl) a.length i j hia hj
      have e : (a ++ b)[i] = a[i] := List.getElem_append_left hia
      have e' : a.getD i default = a[i] := by simp [List.getD, hia]
      rw [e]
      unfold oc2 at hx
      rw [e'] at hx
      exact ⟨g i, cell i 0 _ hi (by omega) (hx 0 (by omega)), cell i 1 _ hi (by omega) (hx 1 (by omega)), cell i 2 _ hi (by omega) (hx 2 (by omega)), cell i 3 _ hi (by omega) (hx 3 (by omega)), cell i 4 _ hi (by omega) (hx 4 (by omega)), ha i hia⟩
    · have hib : i - a.length < b.length := by omega
      have hx : ∀ j, j < 5 → (ocs2 a g ++ ocs2 b h)[i * 5 + j]? = (oc2 b h (i - a.length))[j]? := fun j hj => by
        rw [List.getElem?_append_right (by rw [ocs2_len]; omega), ocs2_len, show i * 5 + j - a.length * 5 = (i - a.length) * 5 + j from by omega]
        exact five_get (oc2 b h) (fun _ => rfl) b.length (i - a.length) j hib hj
      have e : (a ++ b)[i]'(by rw [hl]; exact hi) = b[i - a.length] := List.getElem_append_right (by omega)
      have e' : b.getD (i - a.length) default = b[i - a.length] := by simp [List.getD, hib]
      rw [e]
      unfold oc2 at hx
      rw [e'] at hx
      exact ⟨h (i - a.length), cell i 0 _ hi (by omega) (hx 0 (by omega)), cell i 1 _ hi (by omega) (hx 1 (by omega)), cell i 2 _ hi (by omega) (hx 2 (by omega)), cell i 3 _ hi (by omega) (hx 3 (by omega)), cell i 4 _ hi (by omega) (hx 4 (by omega)), hb _ hib⟩

/-- What is appended of lists of terms that came in. -/
theorem asked_in {W : World} {v : Value} {l : List (List Tm)} (h : As W v l) (hn : Ns v) : ∃ ws : List Value, ws.length = l.length ∧ ((v = .slice none 0 0 ∧ l.length = 0) ∨ ∃ ad c, v = .slice (some ad) l.length c ∧ ∀ j u, ws[j]? = some u → W.cell? (ad.add j) = some u) ∧ (∀ u ∈ ws, u.oneCell' = true) ∧ ∀ i (hi : i < l.length) u, ws[i]? = some u → Ts W u l[i] := by
  by_cases h0 : l = []
  · subst h0
    refine ⟨[], rfl, ?_, by simp, fun i hi => by simp at hi⟩
    rcases hn.is with rfl | ⟨ad, n, c, rfl⟩
    · exact Or.inl ⟨rfl, rfl⟩
    · obtain ⟨A, c', e⟩ := h.sl
      cases e
      exact Or.inr ⟨ad, _, rfl, fun j u hj => by simp at hj⟩
  · rcases h.is with ⟨rfl, _⟩ | ⟨b, o, c, rfl, _, hf⟩
    · exact absurd rfl h0
    · have get : ∀ i, i < l.length → ∃ v : Value, W.cell? ⟨b, o + i, none⟩ = some v ∧ ∀ hi : i < l.length, Ts W v l[i] := fun i hi => by
        obtain ⟨v, c0, ht⟩ := hf.c i hi
        exact ⟨v, c0, fun _ => ht⟩
      obtain ⟨g, hg⟩ := Go.Deep.choose_lt get
      have at1 : ∀ j u, ((List.range l.length).map g)[j]? = some u → ∃ hj : j < l.length, u = g j := fun j u hj => by
        obtain ⟨h1, h2⟩ := List.getElem?_eq_some_iff.1 hj
        simp at h1 h2
        exact ⟨h1, h2.symm⟩
      refine ⟨(List.range l.length).map g, by simp, Or.inr ⟨⟨b, o, none⟩, c, rfl, fun j u hj => ?_⟩, fun u hu => ?_, fun i hi u hu => ?_⟩
      · obtain ⟨h1, rfl⟩ := at1 j u hj
        rw [Go.WideShapes.add_plain]; exact (hg j h1).1
      · obtain ⟨i, hi, rfl⟩ := List.mem_map.1 hu
        have hi' : i < l.length := by simpa using hi
        obtain ⟨A, c', e⟩ := ((hg i hi').2 hi').sl
        rw [e]; rfl
      · obtain ⟨h1, rfl⟩ := at1 i u hu
        exact (hg i h1).2 hi

/-- A row of lists of one's own: two, one behind the other. -/
theorem as_two {W : World} {B n : Nat} {S : Value} {a b : List (List Tm)} {x y : List Value} (hx : x.length = a.length) (hy : y.length = b.length) (hn : n = a.length + b.length) (ho : W.ownsRow B 40 1 S n (x ++ y)) (ha : ∀ i (hi : i < a.length) u, x[i]? = some u → Ts W u a[i]) (hb : ∀ i (hi : i < b.length) u, y[i]? = some u → Ts W u b[i]) : As W S (a ++ b) := by
  subst hn
  by_cases h0 : a.length + b.length = 0
  · have e1 : a = [] := List.length_eq_zero_iff.1 (by omega)
    have e2 : b = [] := List.length_eq_zero_iff.1 (by omega)
    subst e1 e2
    rcases ho.2 with ⟨rfl, _⟩ | ⟨g', cap, cur, rfl, _⟩
    · exact ⟨Or.inl ⟨rfl, _, _, rfl⟩⟩
    · exact ⟨Or.inl ⟨rfl, _, _, rfl⟩⟩
  · rcases ho.2 with ⟨_, h⟩ | ⟨q, c, cur, rfl, _, _, hc, _⟩
    · exact absurd h h0
    · have hl : (a ++ b).length = a.length + b.length := by simp
      refine ⟨Or.inr ⟨q, 0, c, by rw [hl], by rw [hl]; exact hc, ⟨(ho.lt q rfl).2, fun i hi => ?_⟩⟩⟩
      rw [hl] at hi
      have h1 := ho.cellAt (g := q) i (by omega)
      have hlt : i < (x ++ y).length := by simp; omega
      rw [List.getElem?_eq_getElem hlt] at h1
      refine ⟨(x ++ y)[i], by rw [Nat.zero_add]; exact h1, ?_⟩
      by_cases hia : i < a.length
      · rw [List.getElem_append_left hia]
        exact ha i hia _ (by rw [List.getElem_append_left (by omega)]; exact List.getElem?_eq_getElem (by omega))
      · rw [show (a ++ b)[i]'(by rw [hl]; exact hi) = b[i - a.length] from List.getElem_append_right (by omega)]
        refine hb (i - a.length) (by omega) _ ?_
        rw [List.getElem_append_right (by omega)]
        rw [List.getElem?_eq_getElem (by omega)]
        congr 1
        simp only [hx]

/-- What is appended lies there. -/
structure In' (W : World) (v : Value) (m : Nat) (news : List Value) : Prop where
  is : (v = .slice none 0 0 ∧ m = 0) ∨ ∃ ad c, v = .slice (some ad) m c ∧ ∀ j u, news[j]? = some u → W.cell? (ad.add j) = some u
theorem In'.on {W w' : World} {v : Value} {m : Nat} {news : List Value} (h : In' W v m news) (k : Below W.heap.size W w') : In' w' v m news := by
  rcases h.is with h | ⟨ad, c, h1, h2⟩
  · exact ⟨Or.inl h⟩
  · exact ⟨Or.inr ⟨ad, c, h1, fun j u hu => by rw [k.cell (block_lt_of_cell (h2 j u hu))]; exact h2 j u hu⟩⟩
/-- An empty row of one's own. -/
theorem own0 (B : Nat) (w : World) (e sz : Nat) (hB : B ≤ w.heap.size) : (w.alloc (.cells #[] e)).ownsRow B e sz (.slice (some ⟨w.heap.size, 0, none⟩) 0 0) 0 [] :=
  ⟨by simp, Or.inr ⟨w.heap.size, 0, #[], rfl, hB, nb0 _ _, Nat.le_refl _, Nat.zero_le _, by simp, by simp⟩⟩
theorem infoL : (Tryd.prog.info? 40).map (fun i => (i.zero, i.size, i.bytes)) = some (some (.slice none 0 0), 1, 24) := by kernel_rfl
/-- A row that has grown: what lay ahead of it lies as it lay. -/
theorem below_grown {B : Nat} {w W W' : World} {e sz n : Nat} {S : Value} {xs : List Value} (h : Below B w W) (hB : B ≤ W.heap.size) (ho : W.ownsRow B e sz S n xs) (hg : W.grownBy W' S.ownBlock) : Below B w W' := h.grown hg hB (fun k e => (ho.lt k e).1)
end Go.Proofs.YtkaeiofolknoeabDoor
