/- The walk of the law StanzaParses. -/
import Derived.Test.YtniknhfpbcbcbaaDoorQl
import Derived.Test.YtniknhfpbcbcbaaDoorQm
namespace Go.Proofs.YtniknhfpbcbcbaaDoor
open Go.RowKit Go.Shelf Go.Sort

/-- What is read stays within its bounds. -/
theorem step_forty {out : List (List Sm.F)} {cu : List Sm.F} {x : List UInt8} {o : List (List Sm.F) × List Sm.F} (h1 : ∀ y ∈ out, y.length ≤ 40) (h2 : cu.length ≤ 40) (hs : step out cu x = some o) : (∀ y ∈ o.1, y.length ≤ 40) ∧ o.2.length ≤ 40 ∧ o.1.length ≤ out.length + 1 := by
  have hn := step_len hs
  unfold Go.Proofs.YtniknhfpbcbcbaaDoor.step at hs
  split at hs
  · cases hs; exact ⟨h1, h2, hn⟩
  · split at hs
    · cases hs
      refine ⟨fun y hy => ?_, by simp, hn⟩
      have hy' : y ∈ endO out cu := hy
      unfold endO at hy'
      split at hy'
      · exact h1 y hy'
      · rcases List.mem_append.1 hy' with h | h
        · exact h1 y h
        · simp at h; subst h; exact h2
    · split at hs
      · cases hg : gOk cu (Lib.trimS x [32, 9]) with
        | none => rw [hg] at hs; cases hs
        | some u => rw [hg] at hs; cases hs; exact ⟨h1, by show (addL cu u).length ≤ 40; rw [addL_length]; exact h2, hn⟩
      · cases hg : bg cu x with
        | none => rw [hg] at hs; cases hs
        | some u =>
          rw [hg] at hs; cases hs
          obtain ⟨_, _, k3⟩ := bg_len hg
          exact ⟨h1, by show (cu ++ [u]).length ≤ 40; simp; omega, hn⟩
theorem run_forty (ls : List (List UInt8)) : ∀ (i : Nat) (out : List (List Sm.F)) (cu : List Sm.F) (o : List (List Sm.F)), (∀ y ∈ out, y.length ≤ 40) → cu.length ≤ 40 → run i out cu ls = .ok o → (∀ y ∈ o, y.length ≤ 40) ∧ o.length ≤ out.length + ls.length + 1 := by
  induction ls with
  | nil =>
    intro i out cu o h1 h2 h
    simp only [run] at h
    cases h
    refine ⟨fun y hy => ?_, by have := endO_len out cu; simpa using this⟩
    unfold endO at hy
    split at hy
    · exact h1 y hy
    · rcases List.mem_append.1 hy with h | h
      · exact h1 y h
      · simp at h; subst h; exact h2
  | cons x ls ih =>
    intro i out cu o h1 h2 h
    simp only [run] at h
    cases hs : step out cu x with
    | none => rw [hs] at h; cases h
    | some p =>
      rw [hs] at h
      obtain ⟨k1, k2, k3⟩ := step_forty h1 h2 hs
      obtain ⟨m1, m2⟩ := ih _ _ _ _ k1 k2 h
      exact ⟨m1, by simp; omega⟩

theorem parses_long (l : List UInt8) (w : World) (h : 1500 < l.length) : Calls Tryd.prog 8 #[.string ⟨l.toArray⟩] w fun x w' => x = .returned (.bool true) ∧ Below w.heap.size w w' := by
  go_enter Tryd.func8, Tryd.ntmps8
  go_wp2
  go_ret
  exact ⟨rfl, Below.refl _ _⟩

/-- A row of owned rows: its cells, and what each is. -/
structure Rw (W : World) (S : Value) (o : List (List Sm.F)) : Prop where
  ex : ∃ (A : Option Addr) (c : Nat), S = .slice A o.length c
  at' : ∀ i (hi : i < o.length), ∃ g c v, S = .slice (some ⟨g, 0, none⟩) o.length c ∧ W.cell? ⟨g, i, none⟩ = some v ∧ Sl W v o[i]
theorem Rw.on {W W' : World} {S : Value} {o : List (List Sm.F)} (h : Rw W S o) (b : Below W.heap.size W W') : Rw W' S o :=
  ⟨h.ex, fun i hi => by
    obtain ⟨g, c, v, h1, h2, h3⟩ := h.at' i hi
    exact ⟨g, c, v, h1, by rw [b.cell (block_lt_of_cell h2)]; exact h2, h3.on b⟩⟩
theorem rw_of {W : World} {B : Nat} {S : Value} {vs : List Value} {o : List (List Sm.F)} (h : W.ownsRow B 47 1 S vs.length vs) (hl : vs.length = o.length) (hv : ∀ i (hi : i < vs.length) (hj : i < o.length), W.ownsRow B 92 2 vs[i] o[i].length (fcl o[i])) : Rw W S o := by
  refine ⟨?_, fun i hi => ?_⟩
  · obtain ⟨X, c, h1⟩ := isSlice h
    exact ⟨X, c, by rw [h1, hl]⟩
  · have hi' : i < vs.length := by omega
    obtain ⟨g, c, rfl⟩ := Go.Joins.ownsRow_form h (by omega)
    refine ⟨g, c, vs[i], by rw [hl], ?_, sl_owned (hv i hi' hi)⟩
    have := h.cellAt (g := g) i (by omega)
    rw [this]
    simp [hi']

set_option maxHeartbeats 3200000 in
set_option maxRecDepth 100000 in
theorem parses_error (l : List UInt8) (n : Nat) (w : World) (hl : l.length ≤ 1500) (hm : MaxL w) (hf : Fin0 w) (hg : ErrT w) (hr : run 0 [] [] (Sm.spl l) = .error n) : Calls Tryd.prog 8 #[.string ⟨l.toArray⟩] w fun x w' => x = .returned (.bool true) ∧ Below w.heap.size w w' := by
  have A1 := xparse_any l w hl hm hf
  have A2 := fun W => parse_any l W hl
  rw [hr] at A1
  simp only [hr] at A2
  have H1 := Lib.hid A1
  have H2 := Lib.hid A2
  clear A1 A2 hr hm hf
  go_enter Tryd.func8, Tryd.ntmps8
  go_wp2_with fail
  refine H1.out.mono ?_
  rintro e w1 ⟨rfl, b1⟩
  go_wp2_with fail
  refine (H2.out _).mono ?_
  rintro e w2 ⟨p, rfl, hp, b2'⟩
  have bA : Below w.heap.size w (w1.alloc (.cells #[.int .i64 3, .int .i64 n] 59)) := b1.alloc b1.size _
  have b2 := onn bA b2'
  have f0 : w2.cell? ⟨w1.heap.size, 0, none⟩ = some (.int .i64 3) := by rw [b2'.cell (by simp)]; simp
  have f1 : w2.cell? ⟨w1.heap.size, 1, none⟩ = some (.int .i64 n) := by rw [b2'.cell (by simp)]; simp
  have p0 : w2.cell? ⟨p, 0, none⟩ = some (.int .i64 3) := by rw [Lib.cell_of_heap hp]; rfl
  have p1 : w2.cell? ⟨p, 1, none⟩ = some (.int .i64 n) := by rw [Lib.cell_of_heap hp]; rfl
  go_wp2_with fail
  refine (is_at 3 n p _ (hg.on b2) p0 p1).mono ?_
  rintro e w3 ⟨rfl, b3⟩
  go_wp2
  refine wp_loop_rounds 1 ?_
  rw [rounds_succ]
  go_wp2
  go_ret
  exact ⟨rfl, onn b2 b3⟩

set_option maxHeartbeats 3200000 in
set_option maxRecDepth 100000 in
theorem parses_ok (l : List UInt8) (o : List (List Sm.F)) (w : World) (hl : l.length ≤ 1500) (hm : MaxL w) (hf : Fin0 w) (hr : run 0 [] [] (Sm.spl l) = .ok o) (ho : o.length ≤ 2000) (hof : ∀ x ∈ o, x.length ≤ 1000000) : Calls Tryd.prog 8 #[.string ⟨l.toArray⟩] w fun x w' => x = .returned (.bool true) ∧ Below w.heap.size w w' := by
  have A1 := xparse_any l w hl hm hf
  have A2 := fun W => parse_any l W hl
  rw [hr] at A1
  simp only [hr] at A2
  have H1 := Lib.hid A1
  have H2 := Lib.hid A2
  have HO := Lib.hid hof
  clear A1 A2 hr hm hf hof
  go_enter Tryd.func8, Tryd.ntmps8
  go_wp2_with fail
  refine H1.out.mono ?_
  rintro e w1 ⟨S1, vs1, rfl, o1, l1, r1, b1⟩
  have R1 := rw_of o1 l1 r1
  clear o1 l1 r1
  obtain ⟨A1, c1, rfl⟩ := R1.ex
  have HR1 := Lib.hid R1
  clear R1
  go_wp2_with fail
  refine (H2.out _).mono ?_
  rintro e w2 ⟨S2, vs2, rfl, o2, l2, r2, b2'⟩
  have R2 := rw_of o2 l2 r2
  clear o2 l2 r2
  obtain ⟨A2, c2, rfl⟩ := R2.ex
  have bA : Below w.heap.size w (w1.alloc (.cells #[.int .i64 0, .int .i64 (-1)] 59)) := b1.alloc b1.size _
  have bB : Below w1.heap.size w1 (w1.alloc (.cells #[.int .i64 0, .int .i64 (-1)] 59)) := (Below.refl _ _).alloc (Nat.le_refl _) _
  have b2 := onn bA b2'
  have HX1 := Lib.hid (HR1.out.on (onn bB b2'))
  have HX2 := Lib.hid R2
  have f0 : w2.cell? ⟨w1.heap.size, 0, none⟩ = some (.int .i64 0) := by rw [b2'.cell (by simp)]; simp
  have f1 : w2.cell? ⟨w1.heap.size, 1, none⟩ = some (.int .i64 (-1)) := by rw [b2'.cell (by simp)]; simp
  clear R2 bA bB b2' HR1 b1 H1 H2
  go_wp2_with fail
  refine (is_nil _).mono ?_
  rintro e w3 ⟨rfl, b3'⟩
  have b3 := onn b2 b3'
  have HY1 := Lib.hid (HX1.out.on b3')
  have HY2 := Lib.hid (HX2.out.on b3')
  clear HX1 HX2 b2 b3' f0 f1
  go_wp2
  go_loopw [7] (fun i W => ∃ k : Nat, k ≤ o.length ∧ i = .int .i64 k ∧ Below w3.heap.size w3 W) (fun i _ => o.length - (intOf i).toNat)
  case atStart => exact ⟨0, Nat.zero_le _, rfl, Below.refl _ _⟩
  case round =>
    obtain ⟨k, hk, rfl, hW⟩ := hrel
    by_cases hlt : k < o.length
    · have hD := hW.drew
      obtain ⟨g1, d1, v1, e1, q1, s1⟩ := (HY1.out.on hD).at' k hlt
      obtain ⟨g2, d2, v2, e2, q2, s2⟩ := (HY2.out.on hD).at' k hlt
      cases e1
      cases e2
      have hS := fun W (h1 : Sl W v2 o[k]) (h2 : Sl W v1 o[k]) => same_any v2 v1 o[k] W h1 h2 (HO.out _ (List.getElem_mem hlt))
      have HS := Lib.hid hS
      have Hs1 := Lib.hid s1
      have Hs2 := Lib.hid s2
      clear hS s1 s2
      go_wp2_with fail
      go_region_law (first | (go_simp; go_at_call 41; refine (HS.out _ Hs2.out Hs1.out).mono ?_; rintro e w4 ⟨rfl, b4⟩))
      all_goals go_wp2
      all_goals exact ⟨⟨k + 1, hlt, by go_num, onn hD b4⟩, by simp [intOf]; omega⟩
    · go_wp2
      go_ret
      exact ⟨rfl, onn b3 hW⟩

theorem parses_any (l : List UInt8) (w : World) (hm : MaxL w) (hf : Fin0 w) (hg : ErrT w) : Calls Tryd.prog 8 #[.string ⟨l.toArray⟩] w fun x w' => x = .returned (.bool true) ∧ Below w.heap.size w w' := by
  by_cases hl : l.length ≤ 1500
  · cases hr : run 0 [] [] (Sm.spl l) with
    | error n => exact parses_error l n w hl hm hf hg hr
    | ok o =>
      obtain ⟨h1, h2⟩ := run_forty _ _ _ _ _ (by simp) (by simp) hr
      have hsn := (Sm.spl_sum l).2
      exact parses_ok l o w hl hm hf hr (by simp at h2; omega) (fun x hx => by have := h1 x hx; omega)
  · exact parses_long l w (by omega)
end Go.Proofs.YtniknhfpbcbcbaaDoor
