/- What is met, as the mathematics of Needs has it; sorted lists of the same members. -/
import Derived.Test.YthijccmiemlilaaGreatDoorA8
import Derived.Test.YthijccmiemlilaaGreatDoorA7
import Derived.Test.YthijccmiemlilaaGreatDoorKq
import Derived.Lib.AppendZerosOnto
namespace Go.Proofs.YthijccmiemlilaaGreatDoor
open Go.RowKit Go.Sort

/-- Who works; what one asks for. -/
def ndW (l : List Kn) (j : Nat) : Bool := wk (l.getD j default)
def ndL (l : List Kn) (i : Nat) : List (List Tm) := (l.getD i default).p.D ++ (l.getD i default).p.A
def ndA (l : List Kn) (i : Nat) : List (Nat → Bool) := (ndL l i).map fun x j => on1 (l.getD j default).p.o x
theorem met_all (O : List Ofr) (l : List (List Tm)) : (met O l).2 = l.all fun x => x.any (tm O) := by
  unfold met
  cases h : l.findIdx? (fun x => !(x.any (tm O))) with
  | none =>
    rw [List.findIdx?_eq_none_iff] at h
    symm
    show (l.all fun x => x.any (tm O)) = true
    rw [List.all_eq_true]
    intro x hx
    have := h x hx
    simpa using this
  | some i =>
    rw [List.findIdx?_eq_some_iff_getElem] at h
    obtain ⟨hi, h1, _⟩ := h
    symm
    show (l.all fun x => x.any (tm O)) = false
    rw [List.all_eq_false]
    exact ⟨l[i], List.getElem_mem hi, by simpa using h1⟩
theorem any_swap {α β : Type} (p : α → β → Bool) (l : List α) (m : List β) : (l.any fun x => m.any fun y => p x y) = m.any fun y => l.any fun x => p x y := by
  rw [Bool.eq_iff_iff]
  simp only [List.any_eq_true]
  constructor
  · rintro ⟨x, hx, y, hy, h⟩; exact ⟨y, hy, x, hx, h⟩
  · rintro ⟨y, hy, x, hx, h⟩; exact ⟨x, hx, y, hy, h⟩
theorem tm_sel (l : List Kn) (f : Nat → Bool) (x : List Tm) : x.any (tm ((sel l f l.length).map (·.p.o))) = (List.range l.length).any fun j => f j && on1 (l.getD j default).p.o x := by
  have e : (tm ((sel l f l.length).map (·.p.o))) = fun t => (List.range l.length).any fun i => f i && om t (l.getD i default).p.o := by
    funext t
    exact sel_any l f t
  rw [e, any_swap]
  congr 1
  funext j
  unfold on1
  cases f j <;> simp
theorem met_mt (l : List Kn) (G : Nat → Bool) (i : Nat) : (met ((sel l (fun j => ndW l j && !G j) l.length).map (·.p.o)) (ndL l i)).2 = Nds.mt l.length (ndW l) (ndA l) G i := by
  rw [met_all]
  unfold Nds.mt ndA
  rw [List.all_map]
  congr 1
  funext x
  rw [tm_sel]
  rfl
theorem asq_ask (l : List Kn) (i j : Nat) : asq (l.getD j default).p.o (ndL l i) = Nds.ask (ndA l) i j := by
  unfold asq Nds.ask ndA
  rw [List.any_map]
  rfl
/-- Rising lists of the same members are the same. -/
theorem rising_same : ∀ {a b : List Nat}, a.Pairwise (· < ·) → b.Pairwise (· < ·) → (∀ i, i ∈ a ↔ i ∈ b) → a = b
  | [], [], _, _, _ => rfl
  | [], y :: b, _, _, h => by have := (h y).2 (by simp); cases this
  | x :: a, [], _, _, h => by have := (h x).1 (by simp); cases this
  | x :: a, y :: b, ha, hb, h => by
    rw [List.pairwise_cons] at ha hb
    have hxy : x = y := by
      rcases List.mem_cons.1 ((h x).1 (by simp)) with e | h1
      · exact e
      · rcases List.mem_cons.1 ((h y).2 (by simp)) with e | h2
        · exact e.symm
        · have h3 := hb.1 x h1
          have h4 := ha.1 y h2
          omega
    subst hxy
    rw [rising_same ha.2 hb.2 (fun i => ?_)]
    constructor
    · intro hi
      rcases List.mem_cons.1 ((h i).1 (List.mem_cons_of_mem _ hi)) with e | h1
      · subst e; exact absurd (ha.1 i hi) (Nat.lt_irrefl _)
      · exact h1
    · intro hi
      rcases List.mem_cons.1 ((h i).2 (List.mem_cons_of_mem _ hi)) with e | h1
      · subst e; exact absurd (hb.1 i hi) (Nat.lt_irrefl _)
      · exact h1
end Go.Proofs.YthijccmiemlilaaGreatDoor
namespace Go.Proofs.YthijccmiemlilaaGreatDoor
open Go.RowKit Go.Sort

theorem info26 : (Tryz.prog.info? 26).map (fun i => (i.zero.map (·.cells.size), i.size, i.bytes)) = some (some 1, 1, 24) := by kernel_rfl
theorem info26z : (Tryz.prog.info? 26).map (fun i => (i.zero, i.size, i.bytes)) = some (some (.slice none 0 0), 1, 24) := by kernel_rfl
/-- What is asked for, in a row of the call's own. -/
structure AW (V W : World) (S : Value) (l : List (List Tm)) (q : List Value) : Prop where
  n : q.length = l.length
  o : W.ownsRow V.heap.size 26 1 S q.length q
  t : ∀ i (h : i < l.length) (h' : i < q.length), Ts V q[i] l[i]
  b : Below V.heap.size V W
theorem AW.on {V W W' : World} {S : Value} {l : List (List Tm)} {q : List Value} (h : AW V W S l q) (k : Below W.heap.size W W') : AW V W' S l q :=
  ⟨h.n, own_on h.o k, h.t, bon h.b k⟩
theorem AW.sl {V W : World} {S : Value} {l : List (List Tm)} {q : List Value} (h : AW V W S l q) : ∃ A c, S = .slice A l.length c := by
  rw [← h.n]
  rcases h.o.2 with ⟨h1, h2⟩ | ⟨g, cap, cur, h1, _⟩
  · exact ⟨none, 0, by rw [h1, h2]⟩
  · exact ⟨_, _, h1⟩
theorem AW.as {V W : World} {S : Value} {l : List (List Tm)} {q : List Value} (h : AW V W S l q) : As W S l := by
  have ho := h.o
  rcases ho.2 with ⟨rfl, h0⟩ | ⟨g, cap, cur, rfl, hb, hg, hnc, hcm, hcs, htake⟩
  · exact ⟨.inl ⟨List.length_eq_zero_iff.1 (by rw [← h.n]; exact h0), none, 0, rfl⟩⟩
  · refine ⟨.inr ⟨g, 0, cap, by rw [h.n], by rw [← h.n]; exact hnc, (Array.getElem?_eq_some_iff.1 hg).1, fun i hi => ?_⟩⟩
    have hi' : i < q.length := by rw [h.n]; exact hi
    refine ⟨q[i], ?_, (h.t i hi hi').on h.b⟩
    rw [Nat.zero_add, World.ownsRow.cellAt ho i (by omega)]
    simp [hi']
theorem aw_nil (V W : World) (h : Below V.heap.size V W) : AW V W (.slice none 0 0) [] [] := ⟨rfl, World.ownsRow_nil _ _ _ _, fun _i h => absurd h (Nat.not_lt_zero _), h⟩
/-- Their cells, as a list. -/
theorem al_vals {W : World} {b o : Nat} {m : List (List Tm)} (h : Al W b o m) : ∃ q : List Value, q.length = m.length ∧ (∀ j u, q[j]? = some u → W.cell? ⟨b, o + j, none⟩ = some u) ∧ ∀ i (hi : i < m.length) (h' : i < q.length), Ts W q[i] m[i] := by
  refine ⟨(List.range m.length).map fun i => (W.cell? ⟨b, o + i, none⟩).getD (.bool false), by simp, fun j u hj => ?_, fun i hi h' => ?_⟩
  · rw [List.getElem?_map] at hj
    obtain ⟨k, hk, rfl⟩ := Option.map_eq_some_iff.1 hj
    obtain ⟨h1, h2⟩ := List.getElem?_eq_some_iff.1 hk
    simp at h1 h2
    subst h2
    obtain ⟨v, hv, _⟩ := h.c j h1
    rw [hv]; rfl
  · obtain ⟨v, hv, ht⟩ := h.c i hi
    simp [hv, ht]
theorem aw_app {l m : List (List Tm)} {q r : List Value} {V : World} (h1 : q.length = l.length) (h2 : r.length = m.length) (hq : ∀ i (h : i < l.length) (h' : i < q.length), Ts V q[i] l[i]) (hr : ∀ i (h : i < m.length) (h' : i < r.length), Ts V r[i] m[i]) : ∀ i (h : i < (l ++ m).length) (h' : i < (q ++ r).length), Ts V (q ++ r)[i] (l ++ m)[i] := fun i h h' => by
  by_cases hi : i < l.length
  · rw [List.getElem_append_left hi, List.getElem_append_left (by omega)]
    exact hq i hi _
  · rw [List.getElem_append_right (by omega), List.getElem_append_right (by omega)]
    have := hr (i - l.length) (by simp at h; omega) (by simp at h; omega)
    simp only [h1]
    exact this
/-- All of another list are appended. -/
theorem wpList_apA {V W : World} {S v : Value} {l m : List (List Tm)} {q : List Value} (h : AW V W S l q) (hm : As V v m) (hl : l.length ≤ 1000) (hml : m.length ≤ 1000)
    {ops : Array Oper} {rest : List Oper} {o : Oper} {a : Act} {Q : Exit → Act → World → Prop} (hg : o.guard = none) (s x : Operand) (hop : o.op = Op.call { callee := Callee.builtin Builtin.append, args := #[s, x], argTypes := #[25, 25] }) (hs : a.eval s = S) (hx : a.eval x = v)
    (K : ∀ A c q' w6, AW V w6 (.slice A (l ++ m).length c) (l ++ m) q' → wpList Tryz.prog ops Q rest (a.put o.dst (.slice A (l ++ m).length c)) w6) :
    wpList Tryz.prog ops Q (o :: rest) a W := by
  obtain ⟨i0, z0, hi0, hz0, hz1, hz2, hz3⟩ := info_of info26
  by_cases h0 : m.length = 0
  · obtain rfl := List.length_eq_zero_iff.1 h0
    obtain ⟨A, c, rfl⟩ := hm.sl
    obtain ⟨A', c', hS⟩ := h.sl
    have hle : l.length ≤ c' := by
      rcases h.o.2 with ⟨h1, h2⟩ | ⟨g, cap, cur, h1, _, _, h3, _⟩
      · rw [← h.n, h2]; exact Nat.zero_le _
      · rw [hS, Value.slice.injEq] at h1; obtain ⟨_, _, rfl⟩ := h1; rw [← h.n]; exact h3
    subst hS
    have hrun : (Builtin.append_ #[25, 25] o.type #[.slice A' l.length c', .slice A 0 c]).run Tryz.prog W = .ok (.slice A' l.length c') W := by
      cases A <;> cases A' <;> simp [Builtin.append_, run_underlying Tryz.underlying25, Go.sizeOf, typeInfo, hi0, Builtin.lenOf, Builtin.firstCells, hle, storeCells, loadCells, loadCellsFrom]
    refine wpList_plain hg fun K' hK => ?_
    unfold Oper.wp
    simp [execOp, hop, resolve, invoke, builtin, hs, hx, hrun, Result.andThen]
    refine hK _ _ ?_
    have := K A' c' q W (by rw [List.append_nil]; exact h)
    rw [List.append_nil] at this
    exact this
  · rcases hm.is with ⟨rfl, _⟩ | ⟨b, o', c, rfl, _, hf⟩
    · exact absurd rfl h0
    obtain ⟨r, hr1, hr2, hr3⟩ := al_vals hf
    have news : ∀ j u, r[j]? = some u → W.cell? ((⟨b, o', none⟩ : Addr).add j) = some u := fun j u hj => by
      rw [Addr.add_lit, h.b.cell (p := ⟨b, o' + j, none⟩) hf.lt]
      exact hr2 j u hj
    have ones : ∀ u ∈ r, u.oneCell' = true := fun u hu => by
      obtain ⟨i, hi, rfl⟩ := List.getElem_of_mem hu
      obtain ⟨A, c, e⟩ := (hr3 i (by omega) hi).sl
      rw [e]; rfl
    refine wpList_append_lies _ hg s x 25 hop V.heap.size 26 i0 z0 1 24 Tryz.underlying25 hi0 hz0 hz1 hz2 hz3 (by decide) _ _ _ hs h.o ⟨b, o', none⟩ m.length c r hx (by omega) news ones (by omega) (by have := h.n; unfold maxLen; omega) (by have := h.n; omega) h.b.size _ rfl ?_
    intro g' c' w6 hown hgr _ _
    have e : (l ++ m).length = q.length + m.length := by rw [List.length_append, h.n]
    have h2 : AW V w6 (.slice (some ⟨g', 0, none⟩) (l ++ m).length c') (l ++ m) (q ++ r) := by
      refine ⟨by rw [List.length_append, List.length_append, h.n, hr1], ?_, aw_app h.n hr1 h.t hr3, h.b.grown hgr h.b.size (fun j e => (h.o.lt j e).1)⟩
      rw [e, List.length_append, hr1]; exact hown
    have := K _ c' _ w6 h2
    rw [e] at this
    exact this
set_option maxHeartbeats 1600000 in
set_option maxRecDepth 100000 in
theorem grow71 (n : Nat) (w : World) (hn : n ≤ 100000) : Calls Tryz.prog 71 #[.slice none 0 0, .int .i64 n] w fun e w' => ∃ A c, e = .returned (.slice A 0 c) ∧ AW w w' (.slice A 0 c) [] [] := by
  by_cases h0 : n = 0
  · subst h0
    go_enter Tryz.func71, Tryz.ntmps71
    go_wp2
    go_ret
    exact ⟨_, _, rfl, aw_nil _ _ (Below.refl _ _)⟩
  · obtain ⟨i0, hi0, he⟩ := Option.map_eq_some_iff.1 info26z
    simp only [Prod.mk.injEq] at he
    obtain ⟨hz0, hs0, hby⟩ := he
    have h1 : ¬ ((n : Int) < 0) := by omega
    have h2 : wrap64 ((n : Int)) = (n : Int) := by unfold wrap64; omega
    have h4 : (n : Int) > 0 := by omega
    have hold : (Builtin.firstCells i0.size 0 (.slice none 0 0)).run Tryz.prog w.drew = .ok (#[] : Array Value) w.drew := run_firstCells_none w.drew i0.size 0 0 0
    have hG1 := grownCap_ge w n 0 26
    have hG2 := grownCap_le_maxLen w n 0 26 (by unfold maxLen; omega)
    have hrz : ∀ ty, (Builtin.append_ #[25, 3] ty #[.slice none 0 0, .int .i64 n]).run Tryz.prog w = .ok (.slice (some ⟨w.heap.size, 0, none⟩) n (grownCap w n 0 26)) (w.drew.alloc (.cells ((#[] : Array Value) ++ Builtin.zeroCells #[.slice none 0 0] n ++ Builtin.zeroCells #[.slice none 0 0] (grownCap w n 0 26 - n)) 26)) := fun ty => by
      have h := Lib.run_append_grow_zeros w 25 3 ty 26 i0 (.slice none 0 0) .i64 .i64 Tryz.underlying25 Tryz.underlying3 hi0 hz0 none 0 0 [] hold n (by omega) (by omega) (by omega) (by omega) (by rw [hby]; omega)
        (by rw [Nat.zero_add]; exact growslice_fits (by omega) (by rw [hby]; omega))
      rw [Nat.zero_add] at h
      exact h
    generalize grownCap w n 0 26 = G at hrz hG1 hG2
    have hG63 : G ≤ 9223372036854775807 := by unfold maxLen at hG2; omega
    obtain ⟨cs, hcs⟩ : ∃ cs, cs = ((#[] : Array Value) ++ Builtin.zeroCells #[.slice none 0 0] n ++ Builtin.zeroCells #[.slice none 0 0] (G - n)) := ⟨_, rfl⟩
    have hsz : cs.size = G * 1 := by rw [hcs]; simp [Builtin.zeroCells]; omega
    rw [← hcs] at hrz
    have HA : Hid (AW w (w.drew.alloc (.cells cs 26)) (.slice (some ⟨w.heap.size, 0, none⟩) 0 G) [] []) := ⟨rfl, ⟨rfl, .inr ⟨w.heap.size, G, cs, rfl, Nat.le_refl _, heap_alloc_new w.drew _, Nat.zero_le _, hG2, hsz, by simp⟩⟩, fun i h => absurd h (Nat.not_lt_zero _), ((Below.refl _ _).drew).alloc (Nat.le_refl _) _⟩
    clear hcs hsz hold hz0 hs0 hby hi0
    go_enter Tryz.func71, Tryz.ntmps71
    go_wp2_with (at_builtin; refine Lib.wpList_append_run _ rfl _ _ _ _ rfl _ _ rfl rfl _ _ (hrz _) ?_)
    all_goals (go_ret; exact ⟨_, _, rfl, HA.out⟩)
end Go.Proofs.YthijccmiemlilaaGreatDoor
