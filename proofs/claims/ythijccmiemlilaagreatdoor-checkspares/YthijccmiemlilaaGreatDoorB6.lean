/- The law's edges, and the law's sameInts. -/
import Derived.Test.YthijccmiemlilaaGreatDoorXOx
namespace Go.Proofs.YthijccmiemlilaaGreatDoor.Ord
open Go.RowKit Go.Sort

theorem info51 : (Tryz.prog.info? 135).map (fun i => (i.zero, i.size, i.bytes)) = some (some (.agg #[.int .i64 0, .int .i64 0]), 2, 16) := by kernel_rfl
def fl : List E → List Value
  | [] => []
  | e :: l => .int .i64 e.1 :: .int .i64 e.2 :: fl l
theorem fl_app : ∀ l m : List E, fl (l ++ m) = fl l ++ fl m
  | [], _ => rfl
  | e :: l, m => by show _ :: _ :: fl (l ++ m) = _; rw [fl_app l m]; rfl
theorem fl_0 : ∀ (l : List E) (i : Nat) (h : i < l.length), (fl l)[i * 2]? = some (.int .i64 l[i].1)
  | [], _, h => absurd h (by simp)
  | e :: l, 0, _ => rfl
  | e :: l, i + 1, h => by
    have := fl_0 l i (by simpa using h)
    rw [show (i + 1) * 2 = i * 2 + 1 + 1 by omega]
    simpa [fl] using this
theorem fl_1 : ∀ (l : List E) (i : Nat) (h : i < l.length), (fl l)[i * 2 + 1]? = some (.int .i64 l[i].2)
  | [], _, h => absurd h (by simp)
  | e :: l, 0, _ => rfl
  | e :: l, i + 1, h => by
    have := fl_1 l i (by simpa using h)
    rw [show (i + 1) * 2 + 1 = i * 2 + 1 + 1 + 1 by omega]
    simpa [fl] using this
/-- Edges of the program's, owned. -/
abbrev Ew (W : World) (B : Nat) (v : Value) (l : List E) : Prop := W.ownsRow B 135 2 v l.length (fl l)
theorem ew_es {W : World} {B : Nat} {v : Value} {l : List E} (h : Ew W B v l) : Es W v l := by
  rcases h.2 with ⟨rfl, h0⟩ | ⟨g, cap, cur, rfl, hb, hg, hnc, hcm, hcs, htake⟩
  · exact ⟨.inl ⟨List.length_eq_zero_iff.1 h0, none, 0, rfl⟩⟩
  · refine ⟨.inr ⟨g, 0, cap, rfl, hnc, (Array.getElem?_eq_some_iff.1 hg).1, fun i hi => ?_, fun i hi => ?_⟩⟩
    · rw [Nat.zero_add, World.ownsRow.cellAt h (i * 2) (by omega), fl_0 l i hi]
    · rw [Nat.zero_add, World.ownsRow.cellAt h (i * 2 + 1) (by omega), fl_1 l i hi]
/-- One more edge is appended. -/
theorem wpList_apE {W : World} {B : Nat} {S : Value} {l : List E} (e : E) (h : Ew W B S l) (hl : l.length ≤ 1000000) (hB : B ≤ W.heap.size)
    {ops : Array Oper} {rest : List Oper} {o : Oper} {a : Act} {Q : Exit → Act → World → Prop} (hg : o.guard = none) (s x : Operand) (hop : o.op = Op.call { callee := Callee.builtin Builtin.append, args := #[s, x], argTypes := #[100, 100] }) (hs : a.eval s = S) (N : Nat) (hx : a.eval x = .slice (some ⟨N, 0, none⟩) 1 1) (hN : N = W.heap.size)
    (K : ∀ g c w6, Ew w6 B (.slice (some ⟨g, 0, none⟩) (l.length + 1) c) (l ++ [e]) → (∀ B', B' ≤ B → Below B' W w6) → wpList Tryz.prog ops Q rest (a.put o.dst (.slice (some ⟨g, 0, none⟩) (l.length + 1) c)) w6) :
    wpList Tryz.prog ops Q (o :: rest) a (W.alloc (.cells #[.int .i64 e.1, .int .i64 e.2] 135)) := by
  subst hN
  obtain ⟨i0, hi0, hz0, hz1, hz2⟩ := infoQ info51
  have news : ∀ j u, ([.int .i64 e.1, .int .i64 e.2] : List Value)[j]? = some u → (W.alloc (.cells #[.int .i64 e.1, .int .i64 e.2] 135)).cell? ((⟨W.heap.size, 0, none⟩ : Addr).add j) = some u := World.news_of_block (nb0 W _)
  have ones : ∀ u ∈ ([.int .i64 e.1, .int .i64 e.2] : List Value), u.oneCell' = true := by intro u hu; simp at hu; rcases hu with rfl | rfl <;> rfl
  refine wpList_append_lies _ hg s x 100 hop B 135 i0 _ 2 16 Tryz.underlying100 hi0 hz0 hz1 hz2 rfl (by decide) _ _ _ hs (h.alloc _) ⟨W.heap.size, 0, none⟩ 1 1 _ hx rfl news ones (by decide) (by unfold maxLen; omega) (by omega) (by rw [World.size_alloc]; omega) _ rfl ?_
  intro g' c' w6 hown hgr _ _
  have e2 : (l ++ [e]).length = l.length + 1 := by simp
  have h2 : Ew w6 B (.slice (some ⟨g', 0, none⟩) (l.length + 1) c') (l ++ [e]) := by
    unfold Ew
    rw [e2, fl_app]; exact hown
  exact K g' c' w6 h2 (fun B' hB' => ((bA1 W _).mono (Nat.le_trans hB' hB)).grown hgr (by rw [World.size_alloc]; omega) (fun j e => Nat.le_trans hB' (h.lt j e).1))
set_option maxHeartbeats 1600000 in
set_option maxRecDepth 100000 in
theorem same_any (v v' : Value) (l : List Nat) (w : World) (hl : l.length ≤ 100000) (h : Is w v l) (h' : Is w v' l) : Calls Tryz.prog 13 #[v, v'] w fun e w' => e = .returned (.bool true) ∧ Below w.heap.size w w' := by
  obtain ⟨A, c, rfl⟩ := is_len h
  obtain ⟨A', c', rfl⟩ := is_len h'
  have H1 := Lib.hid h
  have H2 := Lib.hid h'
  clear h h'
  go_enter Tryz.func13, Tryz.ntmps13
  go_wp2
  go_loopw [5] (fun i W => ∃ k : Nat, k ≤ l.length ∧ i = .int .i64 k ∧ Hid (Below w.heap.size w W)) (fun i _ => l.length - (intOf i).toNat)
  case atStart => exact ⟨0, Nat.zero_le _, rfl, Below.refl _ _⟩
  case round =>
    obtain ⟨k, hk, rfl, HB⟩ := hrel
    by_cases hlt : k < l.length
    · obtain ⟨b, o, rfl, h1⟩ := is_row (H1.out.on HB.out) (by omega)
      obtain ⟨b', o', rfl, h2⟩ := is_row (H2.out.on HB.out) (by omega)
      have c1 := h1.c k hlt
      have c2 := h2.c k hlt
      generalize l[k] = x at c1 c2
      clear h1 h2
      go_wp2
      go_region
      go_wp2
      exact ⟨⟨k + 1, hlt, by go_num, HB.out.drew⟩, by simp [intOf]; omega⟩
    · go_wp2
      go_ret
      exact ⟨rfl, HB.out⟩
end Go.Proofs.YthijccmiemlilaaGreatDoor.Ord
namespace Go.Proofs.YthijccmiemlilaaGreatDoor.Ord
open Go.RowKit Go.Sort

theorem cell_of {W : World} {q t : Nat} {cs : Array Value} (h : W.heap[q]? = some (.cells cs t)) (j : Nat) (v : Value) (hv : cs[j]? = some v) : W.cell? ⟨q, j, none⟩ = some v := by
  unfold World.cell?
  rw [h]
  simp [hv]
theorem is_any (r : Ro) (u : Value) (W : World) (hg : ErrT W) (h : Ev W r u) : Calls Tryz.prog 8 #[u, fv r] W fun x w' => x = .returned (.bool true) ∧ Below W.heap.size W w' := by
  rcases r with _ | _ | i
  · obtain rfl : u = .nilIface := h
    exact is_nil W
  · obtain rfl : u = .iface 40 (.int .i64 4) := h
    exact is_errno 4 W hg
  · obtain ⟨q, rfl, hq⟩ := h
    exact is_at 2 i q W hg (cell_of hq 0 _ rfl) (cell_of hq 1 _ rfl)
theorem redges_any (n : Int) (A : Option Addr) (c : Nat) (l : List E) (w : World) (hl : l.length ≤ 1000000) (h : Es w (.slice A l.length c) l) (hF : Fi w) : Calls Tryz.prog 80 #[.int .i64 n, .slice A l.length c] w fun e w' => e = .returned (fv (ro n l)) ∧ Below w.heap.size w w' := by
  by_cases hn : n < 0 ∨ 40 < n
  · have e : ro n l = .lim := by unfold ro; rw [if_pos hn]
    rw [e]
    exact redges_lim n A l.length c w hn
  · obtain ⟨k, rfl, hk⟩ : ∃ k : Nat, n = k ∧ k ≤ 40 := ⟨n.toNat, by omega, by omega⟩
    have e : ro k l = roL k l := by unfold ro; rw [if_neg hn]
    rw [e]
    exact redges_in k A c l w hk hl h hF
/-- What the sets are. -/
def rg (n : Int) (l : List E) : List (List Nat) := match ro n l with
  | .ok => rgs (Om.cl n.toNat (et l)) n.toNat
  | _ => []
theorem rg_ok {n : Nat} {l : List E} (h : ro n l = .ok) : rg n l = rgs (Om.cl n (et l)) n := by unfold rg; rw [h]; rfl
theorem rg_no {n : Int} {l : List E} (h : ro n l ≠ .ok) : rg n l = [] := by
  unfold rg
  rcases e : ro n l with _ | _ | i
  · exact absurd e h
  · rfl
  · rfl
theorem rg_len (n : Int) (l : List E) : (rg n l).length ≤ 40 := by
  by_cases h : ro n l = .ok
  · obtain ⟨k, rfl, hk, _⟩ := ro_ok h
    rw [rg_ok h]
    have := rgs_len (Om.cl k (et l)) k
    omega
  · rw [rg_no h]; simp
theorem rg_at {n : Int} {l : List E} {r : List Nat} (h : r ∈ rg n l) : r.length ≤ 40 := by
  by_cases e : ro n l = .ok
  · obtain ⟨k, rfl, hk, _⟩ := ro_ok e
    rw [rg_ok e] at h
    have := (rgs_at (fun a ha => Om.cl_refl _ ha) h).2.1
    omega
  · rw [rg_no e] at h; simp at h
theorem rrings_any (n : Int) (A : Option Addr) (c : Nat) (l : List E) (w : World) (hl : l.length ≤ 1000000) (h : Es w (.slice A l.length c) l) (hF : Fi w) : Calls Tryz.prog 81 #[.int .i64 n, .slice A l.length c] w fun e w' => ∃ v, e = .returned (.tuple #[v, fv (ro n l)]) ∧ Rl w' w.heap.size v (rg n l) ∧ Below w.heap.size w w' := by
  by_cases hr : ro n l = .ok
  · obtain ⟨k, rfl, hk, hr2⟩ := ro_ok hr
    rw [hr, rg_ok hr, ← rr_rgs (cl_wy _ _)]
    exact rrings_in k A c l w hk hl h hF hr2 (roL_ok hr2)
  · refine (rrings_no n A l.length c (ro n l) w hF hr (fun W b => redges_any n A c l W hl (h.on b) (hF.on b))).mono ?_
    rintro e w1 ⟨rfl, b1⟩
    rw [rg_no hr]
    exact ⟨_, rfl, rl_nil (World.ownsRow_nil _ _ _ _), b1⟩
end Go.Proofs.YthijccmiemlilaaGreatDoor.Ord
