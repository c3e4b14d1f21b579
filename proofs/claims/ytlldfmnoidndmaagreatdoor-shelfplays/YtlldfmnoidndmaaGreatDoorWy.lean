/- Moves that come in, opened. -/
import Derived.Test.YtlldfmnoidndmaaGreatDoorWu
import Derived.Test.YtlldfmnoidndmaaGreatDoorQy
namespace Go.Proofs.YtlldfmnoidndmaaGreatDoor
open Go.RowKit Go.Sort Go.Proofs.YtlldfmnoidndmaaGreatDoor.Dsk

theorem cells46 : Tryz.prog.cellsOf 46 = 19 := by kernel_rfl
theorem cells44 : Tryz.prog.cellsOf 44 = 1 := by kernel_rfl
theorem cells4' : Tryz.prog.cellsOf 4 = 1 := by kernel_rfl
theorem und46 : ∃ f0 f1 f2 f3 f4 f5 f6 : Field, Tryz.prog.underlying 46 = some (.struct #[f0, f1, f2, f3, f4, f5, f6]) ∧ f0.offset = 0 ∧ f1.offset = 1 ∧ f2.offset = 14 ∧ f3.offset = 15 ∧ f4.offset = 16 ∧ f5.offset = 17 ∧ f6.offset = 18 ∧ f0.type = 3 ∧ f1.type = 43 ∧ f2.type = 9 ∧ f3.type = 44 ∧ f4.type = 9 ∧ f5.type = 9 ∧ f6.type = 4 := ⟨_, _, _, _, _, _, _, Tryz.underlying46, rfl, rfl, rfl, rfl, rfl, rfl, rfl, rfl, rfl, rfl, rfl, rfl, rfl, rfl⟩
section
variable {H : Type} {enc : TypeId × Value → H} {W : World} {base : Nat} {spare : Nat → Bool} {held : Bool}
theorem bools_of {n : Nat} {v : Value} {x : DataW H × List MemPlace} (h : DataW.trod enc Tryz.prog W base spare held n 44 [v] = some x) : ∃ l : List Bool, An W v l := by
  rcases Go.Deep.open_slice1 Tryz.underlying44 cells4' h with ⟨hc, _⟩ | ⟨a, len, cap, m, k, V, D, Pl, hc, _, hl, _, hm, _, hall⟩
  · simp at hc; subst hc
    exact ⟨[], ⟨Or.inl ⟨rfl, _, _, rfl⟩⟩⟩
  · simp at hc; subst hc
    by_cases h0 : len = 0
    · subst h0; exact ⟨[], ⟨Or.inl ⟨rfl, _, _, rfl⟩⟩⟩
    · have hlm : len ≤ m := by rw [hm]; split <;> omega
      have get : ∀ i, i < len → ∃ y : Bool, V i = .bool y := fun i hi => by
        obtain ⟨u, e1, _⟩ := DataW.trod_bool Tryz.underlying4 (hall i (by omega)).2
        simp at e1
        exact ⟨u, e1⟩
      obtain ⟨g, hg⟩ := Go.Deep.choose_lt get
      obtain ⟨b, o, spot⟩ := a
      have hsp : spot = none := by simpa [Addr.add] using World.cell?_spot (hall 0 (by omega)).1
      subst hsp
      have hlen : ((List.range len).map g).length = len := by simp
      refine ⟨(List.range len).map g, ⟨Or.inr ⟨b, o, cap, by rw [hlen], by rw [hlen]; exact hl, block_lt_of_cell (hall 0 (by omega)).1, fun i hi => ?_⟩⟩⟩
      rw [hlen] at hi
      have h1 := (hall i (by omega)).1
      rw [Go.WideShapes.add_plain, hg i hi] at h1
      simpa using h1
set_option maxRecDepth 100000 in
theorem move_of {n : Nat} {cs : List Value} {x : DataW H × List MemPlace} (h : DataW.trod enc Tryz.prog W base spare held n 46 cs = some x) : ∃ (m : Mv) (vD vA vG vB vR vP vS vL vF va : Value), cs = mvl m vD vA vG vB vR vP vS vL vF va ∧ Pz W m.p vD vA vG vB vR vP vS vL vF ∧ An W va m.w ∧ Pw m.p := by
  obtain ⟨f0, f1, f2, f3, f4, f5, f6, hu, o0, o1, o2, o3, o4, o5, o6, t0, t1, t2, t3, t4, t5, t6⟩ := und46
  obtain ⟨xs, k, _, _, hl, hxl, hf⟩ := DataW.trod_struct hu h
  rw [cells46] at hl
  match xs, hxl, cs, hl with
  | [y0, y1, y2, y3, y4, y5, y6], _, [v0, v1, v2, v3, v4, v5, v6, v7, v8, v9, v10, v11, v12, v13, v14, v15, v16, v17, v18], _ =>
    have g0 := hf 0 f0 rfl
    rw [o0, t0, cells3'] at g0
    have g1 := hf 1 f1 rfl
    rw [o1, t1, cells58] at g1
    have g2 := hf 2 f2 rfl
    rw [o2, t2, cells9'] at g2
    have g3 := hf 3 f3 rfl
    rw [o3, t3, cells44] at g3
    have g4 := hf 4 f4 rfl
    rw [o4, t4, cells9'] at g4
    have g5 := hf 5 f5 rfl
    rw [o5, t5, cells9'] at g5
    have g6 := hf 6 f6 rfl
    rw [o6, t6, cells4'] at g6
    obtain ⟨a, e0, _, _⟩ := DataW.trod_int Tryz.underlying3 (by simpa using g0)
    obtain ⟨p, vD, vA, vG, vB, vR, vP, vS, vL, vF, e1, hz, hw⟩ := pack_of (cs := [v1, v2, v3, v4, v5, v6, v7, v8, v9, v10, v11, v12, v13]) (by simpa using g1)
    obtain ⟨tk, e2, _, _⟩ := DataW.trod_string Tryz.underlying9 (by simpa using g2)
    obtain ⟨aw, hA⟩ := bools_of (v := v15) (by simpa using g3)
    obtain ⟨pa, e4, _, _⟩ := DataW.trod_string Tryz.underlying9 (by simpa using g4)
    obtain ⟨da, e5, _, _⟩ := DataW.trod_string Tryz.underlying9 (by simpa using g5)
    obtain ⟨y, e6, _⟩ := DataW.trod_bool Tryz.underlying4 (by simpa using g6)
    simp at e0 e2 e4 e5 e6
    simp only [Pck.vs, List.cons.injEq, and_true] at e1
    obtain ⟨r1, r2, r3, r4, r5, r6, r7, r8, r9, r10, r11, r12, r13⟩ := e1
    subst r1 r2 r3 r4 r5 r6 r7 r8 r9 r10 r11 r12 r13
    exact ⟨⟨a, p, tk.data.toList, aw, pa.data.toList, da.data.toList, y⟩, _, _, _, _, _, _, _, _, _, _, by rw [e0, e2, e4, e5, e6], hz, hA, hw⟩
theorem moves_of {n : Nat} {v : Value} {x : DataW H × List MemPlace} (h : DataW.trod enc Tryz.prog W base spare held n 22 [v] = some x) : ∃ l : List Mv, MR W v l ∧ ∀ m ∈ l, Pw m.p := by
  rcases Go.Deep.open_slice Tryz.underlying22 h with ⟨hc, _⟩ | ⟨a, len, cap, m, k, D, Pl, hc, _, hl, _, hm, _, hall⟩
  · simp at hc; subst hc
    exact ⟨[], ⟨Or.inl ⟨rfl, _, _, rfl⟩⟩, fun p hp => by cases hp⟩
  · simp at hc; subst hc
    rw [cells46] at hall
    by_cases h0 : len = 0
    · subst h0; exact ⟨[], ⟨Or.inl ⟨rfl, _, _, rfl⟩⟩, fun p hp => by cases hp⟩
    · have hlm : len ≤ m := by rw [hm]; split <;> omega
      have get : ∀ i, i < len → ∃ p : Mv, ∃ vD vA vG vB vR vP vS vL vF va : Value, (∀ j (hj : j < 19), W.cell? (a.add (i * 19 + j)) = some ((mvl p vD vA vG vB vR vP vS vL vF va)[j]'(by simpa using hj))) ∧ Pz W p.p vD vA vG vB vR vP vS vL vF ∧ An W va p.w ∧ Pw p.p := fun i hi => by
        obtain ⟨cs, h1, h2⟩ := hall i (by omega)
        obtain ⟨_, hlen, hcell⟩ := World.cells?_some h1
        obtain ⟨p, vD, vA, vG, vB, vR, vP, vS, vL, vF, va, rfl, hz, ha, hw⟩ := move_of h2
        refine ⟨p, vD, vA, vG, vB, vR, vP, vS, vL, vF, va, fun j hj => ?_, hz, ha, hw⟩
        have := hcell j hj
        rw [Go.Deep.add_add] at this
        rw [this, List.getElem?_eq_getElem]
      obtain ⟨g, hg⟩ := Go.Deep.choose_lt get
      obtain ⟨b, o, spot⟩ := a
      have hsp : spot = none := by
        obtain ⟨vD, vA, vG, vB, vR, vP, vS, vL, vF, va, h1, _⟩ := hg 0 (by omega)
        simpa [Addr.add] using World.cell?_spot (h1 0 (by omega))
      subst hsp
      have hlen : ((List.range len).map g).length = len := by simp
      refine ⟨(List.range len).map g, ⟨Or.inr ⟨b, o, cap, by rw [hlen], by rw [hlen]; exact hl, ?_, fun i hi => ?_⟩⟩, fun p hp => ?_⟩
      · obtain ⟨vD, vA, vG, vB, vR, vP, vS, vL, vF, va, h1, _⟩ := hg 0 (by omega)
        exact block_lt_of_cell (h1 0 (by omega))
      · rw [hlen] at hi
        obtain ⟨vD, vA, vG, vB, vR, vP, vS, vL, vF, va, h1, h2, h3, _⟩ := hg i hi
        have e : ((List.range len).map g)[i]'(by rw [hlen]; exact hi) = g i := by simp
        rw [e]
        refine ⟨vD, vA, vG, vB, vR, vP, vS, vL, vF, va, fun j u hj => ?_, h2, h3⟩
        have hj19 : j < 19 := (List.getElem?_eq_some_iff.1 hj).1
        have := h1 j hj19
        rw [Go.WideShapes.add_plain] at this
        have e2 : (mvl (g i) vD vA vG vB vR vP vS vL vF va)[j]'hj19 = u := (List.getElem?_eq_some_iff.1 hj).2
        rw [e2] at this
        simpa [Nat.add_assoc] using this
      · obtain ⟨i, hi, rfl⟩ := List.mem_map.1 hp
        obtain ⟨_, _, _, _, _, _, _, _, _, _, _, _, _, h3⟩ := hg i (List.mem_range.1 hi)
        exact h3
end
end Go.Proofs.YtlldfmnoidndmaaGreatDoor
