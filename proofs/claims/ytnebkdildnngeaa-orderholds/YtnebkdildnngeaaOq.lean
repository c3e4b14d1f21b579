/- The keeper's fact of a line; edges that are appended. -/
import Derived.Test.YtnebkdildnngeaaOn
namespace Go.Proofs.Ytnebkdildnngeaa
open Go.RowKit Go.Sort Go.Maps

theorem ro_set : ro2 4 [(3, 0), (1, 2), (2, 1)] [(2, 1)] = .ok := rfl
theorem lin_set : lin (Om.cl 4 (et ([(3, 0), (1, 2), (2, 1)] ++ [(2, 1)]))) (et [(2, 1)]) 4 = [2, 1, 3, 0] := by decide
def ecs (l : List E) : List Value := l.flatMap fun e => [.int .i64 e.1, .int .i64 e.2]
theorem ecs_len (l : List E) : (ecs l).length = l.length * 2 := by
  unfold ecs
  induction l with
  | nil => rfl
  | cons f l ih => simp only [List.flatMap_cons, List.length_append, ih, List.length_cons, List.length_nil]; omega
theorem ecs_app (a b : List E) : ecs (a ++ b) = ecs a ++ ecs b := by unfold ecs; rw [List.flatMap_append]
theorem ecs_get : ∀ (l : List E) (i : Nat) (hi : i < l.length), (ecs l)[i * 2]? = some (.int .i64 l[i].1) ∧ (ecs l)[i * 2 + 1]? = some (.int .i64 l[i].2)
  | e :: l, 0, _ => ⟨rfl, rfl⟩
  | e :: l, i + 1, h => by
    have ih := ecs_get l i (by simpa using h)
    have e1 : ecs (e :: l) = .int .i64 e.1 :: .int .i64 e.2 :: ecs l := rfl
    rw [e1, show (i + 1) * 2 = i * 2 + 1 + 1 by omega]
    simpa using ih
theorem ecs_at : ∀ (l : List E) (j : Nat) (u : Value), (ecs l)[j]? = some u → ∃ i, ∃ hi : i < l.length, (j = i * 2 ∧ u = .int .i64 l[i].1) ∨ (j = i * 2 + 1 ∧ u = .int .i64 l[i].2)
  | [], j, u, h => by simp [ecs] at h
  | f :: l, 0, u, h => by
    simp [ecs] at h
    exact ⟨0, by simp, .inl ⟨rfl, by simpa using h.symm⟩⟩
  | f :: l, 1, u, h => by
    simp [ecs] at h
    exact ⟨0, by simp, .inr ⟨rfl, by simpa using h.symm⟩⟩
  | f :: l, j + 2, u, h => by
    have h' : (ecs l)[j]? = some u := by simpa [ecs] using h
    obtain ⟨i, hi, hh⟩ := ecs_at l j u h'
    refine ⟨i + 1, by simpa using hi, ?_⟩
    rcases hh with ⟨e1, e2⟩ | ⟨e1, e2⟩
    · exact .inl ⟨by omega, by simpa using e2⟩
    · exact .inr ⟨by omega, by simpa using e2⟩
theorem ecs_ones (l : List E) : ∀ u ∈ ecs l, u.oneCell' = true := fun u hu => by
  obtain ⟨f, _, hf⟩ := List.mem_flatMap.1 hu
  simp at hf
  rcases hf with rfl | rfl <;> rfl
theorem es_news {W : World} {b o : Nat} {l : List E} (h : Er W b o l) : ∀ j u, (ecs l)[j]? = some u → W.cell? (Addr.add ⟨b, o, none⟩ j) = some u := fun j u hj => by
  obtain ⟨i, hi, hh⟩ := ecs_at l j u hj
  rcases hh with ⟨rfl, rfl⟩ | ⟨rfl, rfl⟩
  · rw [Addr.add_lit]; exact h.c0 i hi
  · rw [Addr.add_lit, ← Nat.add_assoc]; exact h.c1 i hi
abbrev Ew (W : World) (B : Nat) (v : Value) (l : List E) : Prop := W.ownsRow B 34 2 v l.length (ecs l)
theorem ew_es {W : World} {B g n c : Nat} {l : List E} (h : Ew W B (.slice (some ⟨g, 0, none⟩) n c) l) (hn : n = l.length) : Es W (.slice (some ⟨g, 0, none⟩) n c) l := by
  subst hn
  have h' := h
  rcases h'.2 with ⟨h', _⟩ | ⟨g', cap, cur, h', hb, hg, hnc, hcm, hcs, htake⟩
  · cases h'
  · cases h'
    refine ⟨.inr ⟨g, 0, c, rfl, hnc, (Array.getElem?_eq_some_iff.1 hg).1, fun i hi => ?_, fun i hi => ?_⟩⟩
    · rw [Nat.zero_add, World.ownsRow.cellAt h (i * 2) (by omega)]; exact (ecs_get l i hi).1
    · rw [Nat.zero_add, World.ownsRow.cellAt h (i * 2 + 1) (by omega)]; exact (ecs_get l i hi).2
theorem info34 : (Try.prog.info? 34).map (fun i => (i.zero, i.size, i.bytes)) = some (some (.agg #[.int .i64 0, .int .i64 0]), 2, 16) := by kernel_rfl
/-- More edges are appended. -/
theorem wpList_apE {W : World} {B g n cap : Nat} {l m : List E} {A : Option Addr} {cx : Nat} (h : Ew W B (.slice (some ⟨g, 0, none⟩) n cap) l) (hn : n = l.length) (hm : Es W (.slice A m.length cx) m) (hA : A = none → cx = 0) (hl : l.length ≤ 1000000) (hml : m.length ≤ 1000000) (hB : B ≤ W.heap.size)
    {ops : Array Oper} {rest : List Oper} {op : Oper} {a : Act} {Q : Exit → Act → World → Prop} (hg : op.guard = none) (s x : Operand) (hop : op.op = Op.call { callee := Callee.builtin Builtin.append, args := #[s, x], argTypes := #[22, 22] }) (hs : a.eval s = .slice (some ⟨g, 0, none⟩) n cap) (hx : a.eval x = .slice A m.length cx)
    (K : ∀ g' c' w6, Ew w6 B (.slice (some ⟨g', 0, none⟩) (n + m.length) c') (l ++ m) → (∀ B', B' ≤ B → Below B' W w6) → wpList Try.prog ops Q rest (a.put op.dst (.slice (some ⟨g', 0, none⟩) (n + m.length) c')) w6) :
    wpList Try.prog ops Q (op :: rest) a W := by
  subst hn
  obtain ⟨i0, hi0, hz0, hz1, hz2⟩ := infoQ info34
  have e : (l ++ m).length = l.length + m.length := by simp
  have hgb : ∀ B', B' ≤ B → ∀ k, (Value.slice (some ⟨g, 0, none⟩) l.length cap).ownBlock = some k → B' ≤ k := fun B' hB' k hk => Nat.le_trans hB' (h.lt k hk).1
  cases A with
  | none =>
    have h0 : m = [] := by
      rcases hm.is with ⟨h0, _⟩ | ⟨b, o, c, h1, _⟩
      · exact h0
      · cases h1
    subst h0
    obtain rfl := hA rfl
    have hcap : l.length ≤ cap := by
      rcases h.2 with ⟨h', _⟩ | ⟨g', cap', cur, h', hb, hg, hnc, hcm, hcs, htake⟩
      · cases h'
      · cases h'; exact hnc
    refine wpList_append_fits_any _ hg s x 22 hop B 34 i0 2 Try.underlying22 hi0 hz1 g l.length cap (ecs l) hs h none 0 0 [] hx rfl (fun _ => ⟨rfl, rfl⟩) (fun ad e => by cases e) (by simp) (by omega) ?_
    intro w6 hown hgr
    exact K g cap w6 (by unfold Ew; rw [e, ecs_app]; exact hown) (fun B' hB' => (Below.refl _ _).grown hgr (Nat.le_trans hB' hB) (fun k e => by cases e; exact hgb B' hB' g rfl))
  | some ad =>
    have hnews : ∀ j u, (ecs m)[j]? = some u → W.cell? (ad.add j) = some u := fun j u hj => by
      rcases hm.is with ⟨rfl, _⟩ | ⟨b, o, c, h1, _, h2⟩
      · simp [ecs] at hj
      · cases h1; exact es_news h2 j u hj
    refine wpList_append_own _ hg s x 22 hop B 34 i0 _ 2 16 Try.underlying22 hi0 hz0 hz1 hz2 rfl (by decide) _ _ _ hs h ad m.length cx (ecs m) hx (ecs_len m) hnews (ecs_ones m) (by unfold maxLen; omega) (by omega) hB ?_
    intro v' w6 hown hgr hiff
    have hne : v' ≠ .slice none 0 0 := fun e => by cases (hiff.1 e).1
    obtain ⟨g', c', rfl⟩ : ∃ g' c', v' = .slice (some ⟨g', 0, none⟩) (l.length + m.length) c' := by
      rcases hown.2 with ⟨h', _⟩ | ⟨g', cap', cur, h', _⟩
      · exact absurd h' hne
      · exact ⟨g', cap', h'⟩
    exact K g' c' w6 (by unfold Ew; rw [e, ecs_app]; exact hown) (fun B' hB' => (Below.refl _ _).grown hgr (Nat.le_trans hB' hB) (hgb B' hB'))
set_option maxHeartbeats 1600000 in
set_option maxRecDepth 100000 in
theorem lineup_any (w : World) : Calls Try.prog 4 #[] w fun e w' => e = .returned (.bool true) ∧ Below w.heap.size w w' := by
  have h1 := ro2_ok ro_set
  obtain ⟨k, hk, _, hr⟩ := ro_ok h1.1
  obtain ⟨k', hk', _, hr'⟩ := ro_ok h1.2
  have e4 : k = 4 := by omega
  have e4' : k' = 4 := by omega
  subst e4 e4'
  have b1 := bA1 w (.cells #[.int .i64 3, .int .i64 0, .int .i64 1, .int .i64 2, .int .i64 2, .int .i64 1] 34)
  have b2 := bA1 (w.alloc (.cells #[.int .i64 3, .int .i64 0, .int .i64 1, .int .i64 2, .int .i64 2, .int .i64 1] 34)) (.cells #[.int .i64 2, .int .i64 1] 34)
  have E1 : Es (w.alloc (.cells #[.int .i64 3, .int .i64 0, .int .i64 1, .int .i64 2, .int .i64 2, .int .i64 1] 34)) (.slice (some ⟨w.heap.size, 0, none⟩) 3 3) [(3, 0), (1, 2), (2, 1)] := ew_es (B := w.heap.size) (World.ownsRow_lit w _ 3 (Nat.le_refl _) (by unfold maxLen; omega) (by simp)) rfl
  have E2 : Es ((w.alloc (.cells #[.int .i64 3, .int .i64 0, .int .i64 1, .int .i64 2, .int .i64 2, .int .i64 1] 34)).alloc (.cells #[.int .i64 2, .int .i64 1] 34)) (.slice (some ⟨w.heap.size + 1, 0, none⟩) 1 1) [(2, 1)] := by
    have := ew_es (B := w.heap.size) (l := [(2, 1)]) (World.ownsRow_lit (w.alloc (.cells #[.int .i64 3, .int .i64 0, .int .i64 1, .int .i64 2, .int .i64 2, .int .i64 1] 34)) #[.int .i64 2, .int .i64 1] 1 (by simp) (by unfold maxLen; omega) (by simp)) rfl
    rw [World.size_alloc] at this
    exact this
  have cL := Line_ok 4 (some ⟨w.heap.size, 0, none⟩) (some ⟨w.heap.size + 1, 0, none⟩) 3 1 [(3, 0), (1, 2), (2, 1)] [(2, 1)] _ (by decide) (by simp) (by simp) (E1.on b2) E2 hr hr'
  rw [lin_set] at cL
  have k2 := bon b1 b2
  clear E1 E2 b1 b2 h1 hk hk' hr hr'
  go_enter Try.func4, Try.ntmps4
  go_wp2_with fail
  refine cL.mono ?_
  rintro e w3 ⟨v, rfl, hI, b3⟩
  have k3 := bon k2 b3
  obtain ⟨A, c, rfl⟩ := iw_sl hI
  obtain ⟨g, o, rfl, hIr⟩ := is_row (iw_is hI) (by simp)
  have c0 : w3.cell? ⟨g, o, none⟩ = some (.int .i64 2) := hIr.c 0 (by simp)
  have c1 : w3.cell? ⟨g, o + 1, none⟩ = some (.int .i64 1) := hIr.c 1 (by simp)
  have c2 : w3.cell? ⟨g, o + 2, none⟩ = some (.int .i64 3) := hIr.c 2 (by simp)
  have c3 : w3.cell? ⟨g, o + 3, none⟩ = some (.int .i64 0) := hIr.c 3 (by simp)
  clear cL hI hIr b3 k2
  go_wp2
  go_ret
  exact ⟨rfl, k3⟩
end Go.Proofs.Ytnebkdildnngeaa
