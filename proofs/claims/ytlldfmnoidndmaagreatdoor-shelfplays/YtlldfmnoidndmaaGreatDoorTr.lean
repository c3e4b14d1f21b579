/- Lists of lists of terms that are built: what is owned of them, and how it is kept. -/
import Derived.Test.YtlldfmnoidndmaaGreatDoorTq
import Derived.Laws.OwnMore
import Derived.Lib.OwnKind
import Derived.RangeFuncBox
import Derived.OneCell
import Derived.Test.YtlldfmnoidndmaaGreatDoorRx
import Derived.OrdersIn
import Derived.OrdersHeld
import Derived.RangeFuncCalls
namespace Go.Proofs.YtlldfmnoidndmaaGreatDoor
open Go.RowKit

def c5 (l : List Tm) : List Value := l.flatMap Tm.vs
theorem c5_len (l : List Tm) : (c5 l).length = l.length * 5 := by
  induction l with
  | nil => rfl
  | cons t l ih => simp only [c5, List.flatMap_cons, List.length_append, List.length_cons] at ih ⊢; rw [ih]; simp [Tm.vs]; omega
theorem c5_snoc (l : List Tm) (t : Tm) : c5 (l ++ [t]) = c5 l ++ t.vs := by simp [c5]
theorem c5_get : ∀ (l : List Tm) (i j : Nat) (hi : i < l.length), j < 5 → (c5 l)[i * 5 + j]? = (l[i].vs)[j]?
  | t :: l, 0, j, _, hj => by
    simp only [c5, List.flatMap_cons, Nat.zero_mul, Nat.zero_add, List.getElem_cons_zero]
    rw [List.getElem?_append_left (by simp [Tm.vs]; omega)]
  | t :: l, i + 1, j, hi, hj => by
    simp only [List.getElem_cons_succ]
    rw [← c5_get l i j (by simpa using hi) hj]
    simp only [c5, List.flatMap_cons]
    rw [List.getElem?_append_right (by simp [Tm.vs]; omega)]
    congr 1
    simp [Tm.vs]; omega

/-- Lists laid into each other: the last one is still built. -/
structure LS (W : World) (B : Nat) (v : Value) (I0 : List (List Tm)) (x : List Tm) (vs : List Value) (u : Value) (G : Nat) : Prop where
  len : vs.length = I0.length
  out : W.ownsRow B 39 1 v (I0.length + 1) (vs ++ [u])
  ins : ∀ i (hi : i < I0.length), W.ownsRow B 125 5 (vs[i]'(by omega)) I0[i].length (c5 I0[i])
  bel : ∀ i (hi : i < I0.length), ∀ g, (vs[i]'(by omega)).ownBlock = some g → g < G
  last : W.ownsRow G 125 5 u x.length (c5 x)
  gb : B ≤ G
  gs : G ≤ W.heap.size
/-- .. or there is none yet. -/
structure LA (W : World) (B : Nat) (v : Value) (L : List (List Tm)) : Prop where
  is : (L = [] ∧ v = .slice none 0 0) ∨ ∃ I0 x vs u G, L = I0 ++ [x] ∧ LS W B v I0 x vs u G

theorem own_ne {W : World} {B B' : Nat} {e e' : TypeId} {s s' n n' : Nat} {v v' : Value} {xs xs' : List Value} (h : W.ownsRow B e s v n xs) (h' : W.ownsRow B' e' s' v' n' xs') (he : e ≠ e') : v.ownBlock = none ∨ v.ownBlock ≠ v'.ownBlock := by
  cases hv : v.ownBlock with
  | none => exact .inl rfl
  | some g =>
    right
    intro hh
    obtain ⟨c, fz, h1⟩ := Lib.ownsRow_kind h g hv
    obtain ⟨c', fz', h2⟩ := Lib.ownsRow_kind h' g hh.symm
    rw [h1] at h2; cases h2; exact he rfl

theorem own_low {W : World} {B B' : Nat} {e : TypeId} {s n : Nat} {v : Value} {xs : List Value} (h : W.ownsRow B e s v n xs) (hb : B' ≤ B) : W.ownsRow B' e s v n xs :=
  ⟨h.1, h.2.imp id fun ⟨g, cap, cur, a, b, c⟩ => ⟨g, cap, cur, a, Nat.le_trans hb b, c⟩⟩
/-- Cells that are kept. -/
def Kc (W W' : World) : Prop := W.heap.size ≤ W'.heap.size ∧ ∀ (g : Nat) (c : Array Value) (t : TypeId) (f : Nat × Nat), W.heap[g]? = some (Obj.cells c t f) → W'.heap[g]? = some (Obj.cells c t f)
theorem kc_own {W W' : World} {B : Nat} {e : TypeId} {s n : Nat} {v : Value} {xs : List Value} (h : W.ownsRow B e s v n xs) (k : Kc W W') : W'.ownsRow B e s v n xs := by
  refine ⟨h.1, ?_⟩
  rcases h.2 with hn | ⟨g, cap, cur, rfl, hb, hgg, rest⟩
  · exact .inl hn
  · exact .inr ⟨g, cap, cur, rfl, hb, k.2 _ _ _ _ hgg, rest⟩
theorem LS.on {W W' : World} {B : Nat} {v : Value} {I0 : List (List Tm)} {x : List Tm} {vs : List Value} {u : Value} {G : Nat} (h : LS W B v I0 x vs u G) (k : Kc W W') : LS W' B v I0 x vs u G :=
  ⟨h.len, kc_own h.out k, fun i hi => kc_own (h.ins i hi) k, h.bel, kc_own h.last k, h.gb, Nat.le_trans h.gs k.1⟩
theorem LA.on {W W' : World} {B : Nat} {v : Value} {L : List (List Tm)} (h : LA W B v L) (k : Kc W W') : LA W' B v L := by
  rcases h.is with h | ⟨I0, x, vs, u, G, h1, h2⟩
  · exact ⟨.inl h⟩
  · exact ⟨.inr ⟨I0, x, vs, u, G, h1, h2.on k⟩⟩
theorem kc_below {W W' : World} (h : Below W.heap.size W W') : Kc W W' := ⟨h.size, fun g _ _ _ hg => (h.block g (Array.getElem?_eq_some_iff.1 hg).1).trans hg⟩
theorem kc_grown {W W' : World} {row : Option Nat} (hg : W.grownBy W' row) (hr : ∀ r, row = some r → ∃ o : Obj, W.heap[r]? = some o ∧ o.isCells = false) : Kc W W' :=
  ⟨hg.size, fun g _ _ _ h => (hg.block g (Array.getElem?_eq_some_iff.1 h).1 (fun e => by
    obtain ⟨o, ho, hc⟩ := hr g e.symm
    rw [h] at ho; cases ho; cases hc)).trans h⟩

/-- The outer slice, as it may be appended to. -/
theorem LA.out {W : World} {B : Nat} {v : Value} {L : List (List Tm)} (h : LA W B v L) : ∃ ws, ws.length = L.length ∧ W.ownsRow B 39 1 v L.length ws ∧ (∀ i (hi : i < L.length) (hi' : i < ws.length), W.ownsRow B 125 5 ws[i] L[i].length (c5 L[i])) := by
  rcases h.is with ⟨rfl, rfl⟩ | ⟨I0, x, vs, u, G, rfl, h'⟩
  · exact ⟨[], rfl, World.ownsRow_nil _ _ _ _, fun i hi => absurd hi (by simp)⟩
  · have hl := h'.len
    refine ⟨vs ++ [u], by simp [h'.len], by simpa using h'.out, fun i hi hi' => ?_⟩
    by_cases e : i < I0.length
    · rw [List.getElem_append_left (by omega)]
      have := h'.ins i e
      rw [show (I0 ++ [x])[i] = I0[i] from List.getElem_append_left e]
      exact this
    · have e' : i = I0.length := by simp at hi; omega
      subst e'
      rw [show (vs ++ [u])[I0.length] = u by rw [List.getElem_append_right (by omega)]; simp [hl]]
      rw [show (I0 ++ [x])[I0.length] = x by simp]
      exact own_low h'.last h'.gb

/-- A new list is begun. -/
theorem LS.begun {W W1 : World} {B : Nat} {v v1 : Value} {L : List (List Tm)} {ws : List Value} (hl : ws.length = L.length) (ho : W.ownsRow B 39 1 v L.length ws) (hi : ∀ i (hi : i < L.length) (hi' : i < ws.length), W.ownsRow B 125 5 ws[i] L[i].length (c5 L[i]))
    (h1 : W1.ownsRow B 39 1 v1 (L.length + 1) (ws ++ [.slice none 0 0])) (hg : W.grownBy W1 v.ownBlock) (hB : B ≤ W.heap.size) : LS W1 B v1 L [] ws (.slice none 0 0) W1.heap.size :=
  ⟨hl, h1, fun i h => (hi i h (by omega)).kept hg (own_ne (hi i h (by omega)) ho (by decide)), fun i h g e => Nat.lt_of_lt_of_le ((hi i h (by omega)).lt g e).2 hg.size, World.ownsRow_nil _ _ _ _, Nat.le_trans hB hg.size, Nat.le_refl _⟩

/-- A term is laid behind the last list's. -/
theorem LS.step {W W2 : World} {B : Nat} {v : Value} {I0 : List (List Tm)} {x : List Tm} {vs : List Value} {u u2 : Value} {G g cap : Nat} (t : Tm) (h : LS W B v I0 x vs u G) (hv : v = .slice (some ⟨g, 0, none⟩) (I0.length + 1) cap)
    (h2 : W2.ownsRow G 125 5 u2 (x.length + 1) (c5 x ++ t.vs)) (hg : W.grownBy W2 u.ownBlock) : LS (W2.setCell ⟨g, I0.length, none⟩ u2) B v I0 (x ++ [t]) vs u2 G := by
  have ho := h.out.kept hg (own_ne h.out h.last (by decide))
  have hs := (hv ▸ ho).stored I0.length u2
  have hset : (vs ++ [u]).set I0.length u2 = vs ++ [u2] := by
    rw [← h.len]
    simp
  have hne : ∀ {B' n' : Nat} {v' : Value} {xs' : List Value}, W2.ownsRow B' 125 5 v' n' xs' → v'.ownBlock ≠ some g := fun h' => by
    rcases own_ne h' ho (by decide) with e | e
    · rw [e]; simp
    · rw [hv] at e; exact e
  refine ⟨h.len, ?_, fun i hi => ?_, h.bel, ?_, h.gb, ?_⟩
  · rw [hv]
    have := hs.1
    rw [hset] at this
    exact this
  · have h3 := (h.ins i hi).kept hg (by
      cases e : (vs[i]'(by rw [h.len]; exact hi)).ownBlock with
      | none => exact .inl rfl
      | some b =>
        right
        intro e2
        have b1 := h.bel i hi b e
        have b2 := (h.last.lt b e2.symm).1
        omega)
    exact ownsRow_setCell_other h3 (hne h3) _
  · rw [c5_snoc, List.length_append]
    exact ownsRow_setCell_other h2 (hne h2) _
  · have := h.gs
    have := hg.size
    simp; omega

theorem own_ts {W : World} {B : Nat} {v : Value} {l : List Tm} (h : W.ownsRow B 125 5 v l.length (c5 l)) : Ts W v l := by
  rcases h.2 with ⟨hv, h0⟩ | ⟨g, cap, cur, hv, _, hg, hc, _⟩
  · have : l = [] := List.length_eq_zero_iff.1 h0
    exact ⟨.inl ⟨this, _, _, hv⟩⟩
  · refine ⟨.inr ⟨g, 0, cap, hv, hc, ?_⟩⟩
    have cell : ∀ i (hi : i < l.length) j, j < 5 → W.cell? ⟨g, 0 + i * 5 + j, none⟩ = (l[i].vs)[j]? := fun i hi j hj => by
      rw [Nat.zero_add, World.ownsRow.cellAt (hv ▸ h) (i * 5 + j) (by omega), c5_get l i j hi hj]
    exact ⟨(Array.getElem?_eq_some_iff.1 hg).1, fun i hi => cell i hi 0 (by omega), fun i hi => cell i hi 1 (by omega), fun i hi => cell i hi 2 (by omega), fun i hi => cell i hi 3 (by omega), fun i hi => cell i hi 4 (by omega)⟩
/-- What was built may be read. -/
theorem LA.as {W : World} {B : Nat} {v : Value} {L : List (List Tm)} (h : LA W B v L) : As W v L := by
  obtain ⟨ws, hl, ho, hi⟩ := h.out
  rcases ho.2 with ⟨hv, h0⟩ | ⟨g, cap, cur, hv, _, hg, hc, _⟩
  · exact ⟨.inl ⟨List.length_eq_zero_iff.1 h0, _, _, hv⟩⟩
  · refine ⟨.inr ⟨g, 0, cap, hv, hc, (Array.getElem?_eq_some_iff.1 hg).1, fun i hi' => ⟨ws[i]'(by omega), ?_, own_ts (hi i hi' (by omega))⟩⟩⟩
    rw [Nat.zero_add, World.ownsRow.cellAt (hv ▸ ho) i (by omega)]
    exact List.getElem?_eq_getElem (by omega)

theorem LS.set {W : World} {B : Nat} {v : Value} {I0 : List (List Tm)} {x : List Tm} {vs : List Value} {u : Value} {G : Nat} (h : LS W B v I0 x vs u G) {a : Addr} (ha : a.block < B) (y : Value) : LS (W.setCell a y) B v I0 x vs u G :=
  ⟨h.len, ownsRow_setCell_below h.out ha y, fun i hi => ownsRow_setCell_below (h.ins i hi) ha y, h.bel, ownsRow_setCell_below h.last (Nat.lt_of_lt_of_le ha h.gb) y, h.gb, by simpa using h.gs⟩
theorem LA.set {W : World} {B : Nat} {v : Value} {L : List (List Tm)} (h : LA W B v L) {a : Addr} (ha : a.block < B) (y : Value) : LA (W.setCell a y) B v L := by
  rcases h.is with h | ⟨I0, x, vs, u, G, h1, h2⟩
  · exact ⟨.inl h⟩
  · exact ⟨.inr ⟨I0, x, vs, u, G, h1, h2.set ha y⟩⟩
theorem LA.sl {W : World} {B : Nat} {v : Value} {L : List (List Tm)} (h : LA W B v L) : ∃ X c, v = .slice X L.length c := by
  obtain ⟨ws, _, ho, _⟩ := h.out
  rcases ho.2 with ⟨hv, h0⟩ | ⟨g, cap, cur, hv, _⟩
  · exact ⟨_, _, by rw [hv, h0]⟩
  · exact ⟨_, _, hv⟩

end Go.Proofs.YtlldfmnoidndmaaGreatDoor
namespace Go.Proofs.YtlldfmnoidndmaaGreatDoor
open Go.RowKit

theorem upon_round {P : Program} {l n : Nat} {o : Oper} {a : Act} {next : Act → World → Prop} {Q : Exit → Act → World → Prop} : ∀ {r : Result Next}, o.upon P a next Q r → o.uponIn (Fence.wide.inRound l) n P a next Q r
  | .ok (.value _) _, h => h
  | .ok .skip _, h => h
  | .ok (.defer _) _, h => h
  | .ok (.enter _ _) _, h => ⟨fun h => (by cases h), CallsIn.inRound l (callsIn_wide.2 h)⟩
  | .ok (.row _ _) _, h => ⟨fun h => (by cases h), fun c cs _ => by obtain ⟨v, w', hr, hs⟩ := h c cs; exact ⟨v, w', hr, stepsIn_wide.2 hs⟩⟩
  | .ok (.round ..) _, h => h.elim
  | .halt (.panic _) _, h => h

/-- No operation of a region defers a call. -/
def noDefer (ops : Array Oper) : Bool := ops.all fun o => match o.op with
  | .defer _ => false
  | _ => true
theorem noDefer_at {ops : Array Oper} (h : noDefer ops = true) {i : Nat} {o : Oper} (hi : ops[i]? = some o) : ∀ c, o.op ≠ .defer c := by
  intro c hc
  obtain ⟨hlt, rfl⟩ := Array.getElem?_eq_some_iff.1 hi
  have := (Array.all_eq_true.1 h) i hlt
  rw [hc] at this
  cases this
theorem wpOp_round {P : Program} {l n : Nat} {ops : Array Oper} {Q : Exit → Act → World → Prop} (hd : noDefer ops = true) (hQ : ¬ LetsOut Q) {i : Nat} {K : Act → World → Prop} {a : Act} {w : World} (h : wpOp P ops Q i K a w) : wpOpIn (Fence.wide.inRound l) n P ops Q i K a w := by
  unfold wpOp at h
  unfold wpOpIn
  cases ho : ops[i]? with
  | none => rw [ho] at h; exact h
  | some o =>
    rw [ho] at h
    simp only at h ⊢
    split
    · rename_i hw
      rw [if_pos hw] at h
      rcases h with h | h
      · refine ⟨fun _ _ => trivial, ?_⟩
        rw [Oper.semAt_eq _ _ _ (noDefer_at hd ho)]
        exact upon_round h
      · exact absurd h.2 hQ
    · rename_i hw
      rw [if_neg hw] at h
      exact ⟨fun _ _ => trivial, h⟩
theorem any_round {P : Program} {md : Region.Mode} {l n : Nat} {ops : Array Oper} {Q : Exit → Act → World → Prop} (hd : noDefer ops = true) (hQ : ¬ LetsOut Q) : ∀ (fuel : Nat) (listed : Array Bool) (a : Act) (w : World), wpAny P md ops Q fuel listed a w → wpAnyIn (Fence.wide.inRound l) n P md ops Q fuel listed a w
  | 0, _, _, _, h => h
  | fuel + 1, _, _, _, h => ⟨h.1, fun i hi => wpOpIn_mono (fun a' w' h' => any_round hd hQ fuel _ a' w' h') (wpOp_round hd hQ (h.2 i hi))⟩
/-- A region that draws its order, within a round. -/
theorem region_round {P : Program} {l n : Nat} {ops : Array Oper} {Q : Exit → Act → World → Prop} {id : Nat} {a : Act} {w : World} (S : World → Prop) (hm : P.follows .mixedOrders = true) (hd : noDefer ops = true) (hQ : ¬ LetsOut Q)
    (h : wpAnyH P .any ops Q S ops.size (Array.replicate ops.size false) a w.drew) : (Code.region id ops true).wpIn (Fence.wide.inRound l) n P Q a w :=
  wpIn_region_any hm (any_round hd hQ _ _ _ _ (wpAny_of_held _ _ _ _ h))

/-- An operation that is carried out. -/
theorem wpOp_go {P : Program} {ops : Array Oper} {Q : Exit → Act → World → Prop} {i : Nat} {o : Oper} {K : Act → World → Prop} {a : Act} {w : World} (hi : ops[i]? = some o) (hg : o.guard = none) (h : o.wp P a w K Q) : wpOp P ops Q i K a w := by
  unfold wpOp
  simp only [hi]
  rw [if_pos (by simp [Region.wanted, hg])]
  exact .inl h

end Go.Proofs.YtlldfmnoidndmaaGreatDoor
