/- The walk of slices.Concat of two lists of what is asked for. -/
import Derived.Test.YthijccmiemlilaaGreatDoorG1
import Derived.Test.YthijccmiemlilaaGreatDoorB6
namespace Go.Proofs.YthijccmiemlilaaGreatDoor
open Go.RowKit Go.Sort

set_option maxHeartbeats 3200000 in
set_option maxRecDepth 100000 in
theorem concat_any (v1 v2 : Value) (l1 l2 : List (List Tm)) (a : Nat) (w : World) (h1 : As w v1 l1) (h2 : As w v2 l2) (hn1 : l1.length ≤ 500) (hn2 : l2.length ≤ 500) (q0 : w.cell? ⟨a, 0, none⟩ = some v1) (q1 : w.cell? ⟨a, 1, none⟩ = some v2) :
    Calls Tryz.prog 48 #[.slice (some ⟨a, 0, none⟩) 2 2] w fun e w' => ∃ S, e = .returned S ∧ As w' S (l1 ++ l2) ∧ Below w.heap.size w w' := by
  obtain ⟨A1, c1', rfl⟩ := h1.sl
  obtain ⟨A2, c2', rfl⟩ := h2.sl
  have H1 := Lib.hid h1
  have H2 := Lib.hid h2
  have cG := grow71 (l1.length + l2.length) w (by omega)
  rw [show (((l1.length + l2.length : Nat)) : Int) = (l1.length : Int) + (l2.length : Int) from Int.natCast_add _ _] at cG
  clear h1 h2
  go_enter Tryz.func48, Tryz.ntmps48
  go_wp2
  refine wp_loop_rounds 3 ?_
  rw [rounds_succ]
  go_wp2
  rw [rounds_succ]
  go_wp2
  rw [rounds_succ]
  go_wp2_with fail
  with_reducible refine cG.mono ?_
  rintro x wA ⟨A, c, rfl, hA⟩
  have HA := Lib.hid hA
  have p0 : wA.cell? ⟨a, 0, none⟩ = some (.slice A1 l1.length c1') := by rw [hA.b.cell (block_lt_of_cell q0)]; exact q0
  have p1 : wA.cell? ⟨a, 1, none⟩ = some (.slice A2 l2.length c2') := by rw [hA.b.cell (block_lt_of_cell q1)]; exact q1
  clear cG hA
  go_wp2_with fail
  refine wp_loop_rounds 3 ?_
  rw [rounds_succ]
  go_wp2_with (first | (at_builtin; refine wpList_apA HA.out H1.out (by simp) (by omega) rfl _ _ rfl rfl rfl ?_; intro A5 c5 q5 w5 h5; have H5 := Lib.hid h5; clear h5) | fail)
  rw [rounds_succ]
  have r1 : w5.cell? ⟨a, 1, none⟩ = some (.slice A2 l2.length c2') := by rw [H5.out.b.cell (block_lt_of_cell q1)]; exact q1
  clear p0 p1 HA
  go_wp2_with (first | (at_builtin; refine wpList_apA H5.out H2.out (by simp; omega) (by omega) rfl _ _ rfl rfl rfl ?_; intro A6 c6 q6 w6 h6; have H6 := Lib.hid h6; clear h6) | fail)
  rw [rounds_succ]
  go_wp2_with fail
  go_ret
  have h9 := H6.out.as
  rw [List.nil_append, List.length_append] at h9
  exact ⟨_, rfl, h9, H6.out.b⟩
end Go.Proofs.YthijccmiemlilaaGreatDoor
namespace Go.Proofs.YthijccmiemlilaaGreatDoor
open Go.RowKit Go.Sort

/-- All of another list are appended, at the operation. -/
theorem wp_apA {V W : World} {S v : Value} {l m : List (List Tm)} {q : List Value} (h : AW V W S l q) (hm : As V v m) (hl : l.length ≤ 1000) (hml : m.length ≤ 1000)
    {o : Oper} {a : Act} {K0 : Act → World → Prop} {Q : Exit → Act → World → Prop} (s x : Operand) (hop : o.op = Op.call { callee := Callee.builtin Builtin.append, args := #[s, x], argTypes := #[25, 25] }) (hs : a.eval s = S) (hx : a.eval x = v)
    (K : ∀ A c q' w6, AW V w6 (.slice A (l ++ m).length c) (l ++ m) q' → K0 (a.put o.dst (.slice A (l ++ m).length c)) w6) :
    o.wp Tryz.prog a W K0 Q := by
  obtain ⟨i0, z0, hi0, hz0, hz1, hz2, hz3⟩ := info_of info26
  by_cases h0 : m.length = 0
  · obtain rfl := List.length_eq_zero_iff.1 h0
    obtain ⟨A, c, rfl⟩ := hm.sl
    obtain ⟨A', c', hS⟩ := h.sl
    have hle : l.length ≤ c' := by
      rcases h.o.2 with ⟨h1, h2⟩ | ⟨g, cap, cur, h1, _, _, h3, _⟩
      · rw [← h.n, h2]; exact Nat.zero_le _
      · rw [hS, Value.slice.injEq] at h1; obtain ⟨_, _, rfl⟩ := h1; rw [← h.n]; exact h3
    subst hS
    have hrun : (Builtin.append_ #[25, 25] o.type #[.slice A' l.length c', .slice A 0 c]).run Tryz.prog W = .ok (.slice A' l.length c') W := by
      cases A <;> cases A' <;> simp [Builtin.append_, run_underlying Tryz.underlying25, Go.sizeOf, typeInfo, hi0, Builtin.lenOf, Builtin.firstCells, hle, storeCells, loadCells, loadCellsFrom]
    unfold Oper.wp
    simp [execOp, hop, resolve, invoke, builtin, hs, hx, hrun, Result.andThen]
    have := K A' c' q W (by rw [List.append_nil]; exact h)
    rw [List.append_nil] at this
    exact this
  · rcases hm.is with ⟨rfl, _⟩ | ⟨b, o', c, rfl, _, hf⟩
    · exact absurd rfl h0
    obtain ⟨r, hr1, hr2, hr3⟩ := al_vals hf
    have news : ∀ j u, r[j]? = some u → W.cell? ((⟨b, o', none⟩ : Addr).add j) = some u := fun j u hj => by
      rw [Addr.add_lit, h.b.cell (p := ⟨b, o' + j, none⟩) hf.lt]
      exact hr2 j u hj
    have ones : ∀ u ∈ r, u.oneCell' = true := fun u hu => by
      obtain ⟨i, hi, rfl⟩ := List.getElem_of_mem hu
      obtain ⟨A, c, e⟩ := (hr3 i (by omega) hi).sl
      rw [e]; rfl
    refine wp_append_lies _ s x 25 hop V.heap.size 26 i0 z0 1 24 Tryz.underlying25 hi0 hz0 hz1 hz2 hz3 (by decide) _ _ _ hs h.o ⟨b, o', none⟩ m.length c r hx (by omega) news ones (by omega) (by have := h.n; unfold maxLen; omega) (by have := h.n; omega) h.b.size _ rfl ?_
    intro g' c' w6 hown hgr _ _
    have e : (l ++ m).length = q.length + m.length := by rw [List.length_append, h.n]
    have h2 : AW V w6 (.slice (some ⟨g', 0, none⟩) (l ++ m).length c') (l ++ m) (q ++ r) := by
      refine ⟨by rw [List.length_append, List.length_append, h.n, hr1], ?_, aw_app h.n hr1 h.t hr3, h.b.grown hgr h.b.size (fun j e => (h.o.lt j e).1)⟩
      rw [e, List.length_append, hr1]; exact hown
    have := K _ c' _ w6 h2
    rw [e] at this
    exact this
/-- Numbers: all of another list are appended. -/
theorem wpList_apI {W : World} {B : Nat} {S v : Value} {l m : List Nat} (h : Ord.Iw W B S l) (hm : Ord.Is W v m) (hl : l.length ≤ 100000) (hml : m.length ≤ 100000) (hB : B ≤ W.heap.size)
    {ops : Array Oper} {rest : List Oper} {o : Oper} {a : Act} {Q : Exit → Act → World → Prop} (hg : o.guard = none) (s x : Operand) (hop : o.op = Op.call { callee := Callee.builtin Builtin.append, args := #[s, x], argTypes := #[31, 31] }) (hs : a.eval s = S) (hx : a.eval x = v)
    (K : ∀ A c w6, Ord.Iw w6 B (.slice A (l ++ m).length c) (l ++ m) → Below B W w6 → wpList Tryz.prog ops Q rest (a.put o.dst (.slice A (l ++ m).length c)) w6) :
    wpList Tryz.prog ops Q (o :: rest) a W := by
  by_cases h0 : m.length = 0
  · obtain ⟨i0, hi0, hz0, hz1, hz2⟩ := Ord.infoQ Ord.info3
    obtain rfl := List.length_eq_zero_iff.1 h0
    obtain ⟨A, c, rfl⟩ := Ord.is_len hm
    obtain ⟨A', c', hS⟩ : ∃ A' c', S = .slice A' l.length c' ∧ l.length ≤ c' := by
      rcases h.2 with ⟨h1, h2⟩ | ⟨g, cap, cur, h1, _, _, h3, _⟩
      · exact ⟨none, 0, by rw [h1, h2], by rw [h2]; exact Nat.zero_le _⟩
      · exact ⟨_, _, h1, h3⟩
    obtain ⟨rfl, hle⟩ := hS
    have hrun : (Builtin.append_ #[31, 31] o.type #[.slice A' l.length c', .slice A 0 c]).run Tryz.prog W = .ok (.slice A' l.length c') W := by
      cases A <;> cases A' <;> simp [Builtin.append_, run_underlying Tryz.underlying31, Go.sizeOf, typeInfo, hi0, Builtin.lenOf, Builtin.firstCells, hle, storeCells, loadCells, loadCellsFrom]
    refine wpList_plain hg fun K' hK => ?_
    unfold Oper.wp
    simp [execOp, hop, resolve, invoke, builtin, hs, hx, hrun, Result.andThen]
    refine hK _ _ ?_
    have := K A' c' W (by rw [List.append_nil]; exact h) (Below.refl _ _)
    rw [List.append_nil] at this
    exact this
  · rcases hm.is with ⟨rfl, _⟩ | ⟨b, o', c, rfl, _, hf⟩
    · exact absurd rfl h0
    refine Ord.wpList_ap2 h hf (by omega) (by omega) (by omega) hB hg s x hop hs hx ?_
    intro g c6 w6 h1 h2 _
    exact K _ c6 w6 h1 ((Below.refl _ _).grown h2 hB (fun j e => (h.lt j e).1))
end Go.Proofs.YthijccmiemlilaaGreatDoor
