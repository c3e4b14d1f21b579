/- The law's edges, and the law's sameInts. -/
import Derived.Test.YtnebkdildnngeaaDoorOx
namespace Go.Proofs.YtnebkdildnngeaaDoor
open Go.RowKit Go.Sort

theorem info51 : (Tryd.prog.info? 51).map (fun i => (i.zero, i.size, i.bytes)) = some (some (.agg #[.int .i64 0, .int .i64 0]), 2, 16) := by kernel_rfl
def fl : List E → List Value
  | [] => []
  | e :: l => .int .i64 e.1 :: .int .i64 e.2 :: fl l
theorem fl_app : ∀ l m : List E, fl (l ++ m) = fl l ++ fl m
  | [], _ => rfl
  | e :: l, m => by show _ :: _ :: fl (l ++ m) = _; rw [fl_app l m]; rfl
theorem fl_0 : ∀ (l : List E) (i : Nat) (h : i < l.length), (fl l)[i * 2]? = some (.int .i64 l[i].1)
  | [], _, h => absurd h (by simp)
  | e :: l, 0, _ => rfl
  | e :: l, i + 1, h => by
    have := fl_0 l i (by simpa using h)
    rw [show (i + 1) * 2 = i * 2 + 1 + 1 by omega]
    simpa [fl] using this
theorem fl_1 : ∀ (l : List E) (i : Nat) (h : i < l.length), (fl l)[i * 2 + 1]? = some (.int .i64 l[i].2)
  | [], _, h => absurd h (by simp)
  | e :: l, 0, _ => rfl
  | e :: l, i + 1, h => by
    have := fl_1 l i (by simpa using h)
    rw [show (i + 1) * 2 + 1 = i * 2 + 1 + 1 + 1 by omega]
    simpa [fl] using this
/-- Edges of the program's, owned. -/
abbrev Ew (W : World) (B : Nat) (v : Value) (l : List E) : Prop := W.ownsRow B 51 2 v l.length (fl l)
theorem ew_es {W : World} {B : Nat} {v : Value} {l : List E} (h : Ew W B v l) : Es W v l := by
  rcases h.2 with ⟨rfl, h0⟩ | ⟨g, cap, cur, rfl, hb, hg, hnc, hcm, hcs, htake⟩
  · exact ⟨.inl ⟨List.length_eq_zero_iff.1 h0, none, 0, rfl⟩⟩
  · refine ⟨.inr ⟨g, 0, cap, rfl, hnc, (Array.getElem?_eq_some_iff.1 hg).1, fun i hi => ?_, fun i hi => ?_⟩⟩
    · rw [Nat.zero_add, World.ownsRow.cellAt h (i * 2) (by omega), fl_0 l i hi]
    · rw [Nat.zero_add, World.ownsRow.cellAt h (i * 2 + 1) (by omega), fl_1 l i hi]
/-- One more edge is appended. -/
theorem wpList_apE {W : World} {B : Nat} {S : Value} {l : List E} (e : E) (h : Ew W B S l) (hl : l.length ≤ 1000000) (hB : B ≤ W.heap.size)
    {ops : Array Oper} {rest : List Oper} {o : Oper} {a : Act} {Q : Exit → Act → World → Prop} (hg : o.guard = none) (s x : Operand) (hop : o.op = Op.call { callee := Callee.builtin Builtin.append, args := #[s, x], argTypes := #[33, 33] }) (hs : a.eval s = S) (N : Nat) (hx : a.eval x = .slice (some ⟨N, 0, none⟩) 1 1) (hN : N = W.heap.size)
    (K : ∀ g c w6, Ew w6 B (.slice (some ⟨g, 0, none⟩) (l.length + 1) c) (l ++ [e]) → (∀ B', B' ≤ B → Below B' W w6) → wpList Tryd.prog ops Q rest (a.put o.dst (.slice (some ⟨g, 0, none⟩) (l.length + 1) c)) w6) :
    wpList Tryd.prog ops Q (o :: rest) a (W.alloc (.cells #[.int .i64 e.1, .int .i64 e.2] 51)) := by
  subst hN
  obtain ⟨i0, hi0, hz0, hz1, hz2⟩ := infoQ info51
  have news : ∀ j u, ([.int .i64 e.1, .int .i64 e.2] : List Value)[j]? = some u → (W.alloc (.cells #[.int .i64 e.1, .int .i64 e.2] 51)).cell? ((⟨W.heap.size, 0, none⟩ : Addr).add j) = some u := World.news_of_block (nb0 W _)
  have ones : ∀ u ∈ ([.int .i64 e.1, .int .i64 e.2] : List Value), u.oneCell' = true := by intro u hu; simp at hu; rcases hu with rfl | rfl <;> rfl
  refine wpList_append_lies _ hg s x 33 hop B 51 i0 _ 2 16 Tryd.underlying33 hi0 hz0 hz1 hz2 rfl (by decide) _ _ _ hs (h.alloc _) ⟨W.heap.size, 0, none⟩ 1 1 _ hx rfl news ones (by decide) (by unfold maxLen; omega) (by omega) (by rw [World.size_alloc]; omega) _ rfl ?_
  intro g' c' w6 hown hgr _ _
  have e2 : (l ++ [e]).length = l.length + 1 := by simp
  have h2 : Ew w6 B (.slice (some ⟨g', 0, none⟩) (l.length + 1) c') (l ++ [e]) := by
    unfold Ew
    rw [e2, fl_app]; exact hown
  exact K g' c' w6 h2 (fun B' hB' => ((bA1 W _).mono (Nat.le_trans hB' hB)).grown hgr (by rw [World.size_alloc]; omega) (fun j e => Nat.le_trans hB' (h.lt j e).1))
set_option maxHeartbeats 1600000 in
set_option maxRecDepth 100000 in
theorem ledges_any (A : Option Addr) (c : Nat) (l : List E) (w : World) (hl : l.length ≤ 1000) (h : Es w (.slice A l.length c) l) : Calls Tryd.prog 7 #[.slice A l.length c] w fun e w' => ∃ v, e = .returned v ∧ Es w' v l ∧ Below w.heap.size w w' := by
  have HE := Lib.hid h
  clear h
  go_enter Tryd.func7, Tryd.ntmps7
  go_wp2
  go_loopw [3, 4] (fun v i W => ∃ k : Nat, k ≤ l.length ∧ i = .int .i64 k ∧ Hid (Below w.heap.size w W) ∧ Hid (Ew W w.heap.size v (l.take k))) (fun _ i _ => l.length - (intOf i).toNat)
  case atStart => exact ⟨0, Nat.zero_le _, rfl, Below.refl _ _, World.ownsRow_nil _ _ _ _⟩
  case round =>
    obtain ⟨k, hk, rfl, HB, HW⟩ := hrel
    by_cases hlt : k < l.length
    · obtain ⟨b, o, rfl, hEr⟩ := es_row (HE.out.on HB.out) (by omega)
      have c0 := hEr.c0 k hlt
      have c1 := hEr.c1 k hlt
      have HTk : Hid (l.take (k + 1) = l.take k ++ [l[k]]) := List.take_succ_eq_append_getElem hlt
      have hlen : (l.take k).length ≤ 1000000 := by simp; omega
      have hsz := HB.out.size
      generalize l.take k = l0 at HW HTk hlen
      generalize l[k] = e at c0 c1 HTk
      have hW := HW.out
      clear hEr HW
      go_wp2_with (first | (at_builtin; refine wpList_apE e hW hlen hsz rfl _ _ rfl rfl _ rfl rfl ?_; intro g9 c9 w9 hR9 hB9; have HB9 := Lib.hid (hB9 _ (Nat.le_refl _)); have HR9 := Lib.hid hR9; clear hR9 hB9 hW) | fail)
      refine ⟨⟨k + 1, hlt, by go_num, HB.out.trans HB9.out, ?_⟩, by simp [intOf]; omega⟩
      rw [HTk.out]
      have h5 : Ew w9 w.heap.size (.slice (some ⟨g9, 0, none⟩) (l0.length + 1) c9) (l0 ++ [e]) := HR9.out
      exact h5
    · have ek : k = l.length := by omega
      subst ek
      rw [List.take_of_length_le (Nat.le_refl _)] at HW
      go_wp2
      go_ret
      exact ⟨_, rfl, ew_es HW.out, HB.out⟩
set_option maxHeartbeats 1600000 in
set_option maxRecDepth 100000 in
theorem same_any (v v' : Value) (l : List Nat) (w : World) (hl : l.length ≤ 100000) (h : Is w v l) (h' : Is w v' l) : Calls Tryd.prog 9 #[v, v'] w fun e w' => e = .returned (.bool true) ∧ Below w.heap.size w w' := by
  obtain ⟨A, c, rfl⟩ := is_len h
  obtain ⟨A', c', rfl⟩ := is_len h'
  have H1 := Lib.hid h
  have H2 := Lib.hid h'
  clear h h'
  go_enter Tryd.func9, Tryd.ntmps9
  go_wp2
  go_loopw [5] (fun i W => ∃ k : Nat, k ≤ l.length ∧ i = .int .i64 k ∧ Hid (Below w.heap.size w W)) (fun i _ => l.length - (intOf i).toNat)
  case atStart => exact ⟨0, Nat.zero_le _, rfl, Below.refl _ _⟩
  case round =>
    obtain ⟨k, hk, rfl, HB⟩ := hrel
    by_cases hlt : k < l.length
    · obtain ⟨b, o, rfl, h1⟩ := is_row (H1.out.on HB.out) (by omega)
      obtain ⟨b', o', rfl, h2⟩ := is_row (H2.out.on HB.out) (by omega)
      have c1 := h1.c k hlt
      have c2 := h2.c k hlt
      generalize l[k] = x at c1 c2
      clear h1 h2
      go_wp2
      go_region
      go_wp2
      exact ⟨⟨k + 1, hlt, by go_num, HB.out.drew⟩, by simp [intOf]; omega⟩
    · go_wp2
      go_ret
      exact ⟨rfl, HB.out⟩
end Go.Proofs.YtnebkdildnngeaaDoor
