/- Packages that come in, opened. -/
import Derived.Test.YtlldfmnoidndmaaGreatDoorQu
import Derived.Deep.SlicePairs
namespace Go.Proofs.YtlldfmnoidndmaaGreatDoor
open Go.RowKit Go.Sort Go.Proofs.YtlldfmnoidndmaaGreatDoor.Dsk

theorem cells39 : Tryz.prog.cellsOf 38 = 1 := by kernel_rfl
theorem cells55 : Tryz.prog.cellsOf 40 = 1 := by kernel_rfl
theorem cells56 : Tryz.prog.cellsOf 41 = 1 := by kernel_rfl
theorem cells58 : Tryz.prog.cellsOf 43 = 13 := by kernel_rfl
theorem cells109 : Tryz.prog.cellsOf 73 = 2 := by kernel_rfl
theorem und109 : ∃ f0 f1 : Field, Tryz.prog.underlying 73 = some (.struct #[f0, f1]) ∧ f0.offset = 0 ∧ f1.offset = 1 ∧ f0.type = 9 ∧ f1.type = 9 := ⟨_, _, Tryz.underlying73, rfl, rfl, rfl, rfl⟩
theorem und58 : ∃ f0 f1 f2 f3 f4 f5 f6 f7 f8 f9 f10 : Field, Tryz.prog.underlying 43 = some (.struct #[f0, f1, f2, f3, f4, f5, f6, f7, f8, f9, f10]) ∧ f0.offset = 0 ∧ f1.offset = 1 ∧ f2.offset = 4 ∧ f3.offset = 5 ∧ f4.offset = 6 ∧ f5.offset = 7 ∧ f6.offset = 8 ∧ f7.offset = 9 ∧ f8.offset = 10 ∧ f9.offset = 11 ∧ f10.offset = 12 ∧ f0.type = 9 ∧ f1.type = 37 ∧ f2.type = 38 ∧ f3.type = 38 ∧ f4.type = 39 ∧ f5.type = 39 ∧ f6.type = 39 ∧ f7.type = 39 ∧ f8.type = 40 ∧ f9.type = 40 ∧ f10.type = 41 := ⟨_, _, _, _, _, _, _, _, _, _, _, Tryz.underlying43, rfl, rfl, rfl, rfl, rfl, rfl, rfl, rfl, rfl, rfl, rfl, rfl, rfl, rfl, rfl, rfl, rfl, rfl, rfl, rfl, rfl, rfl⟩

section
variable {H : Type} {enc : TypeId × Value → H} {W : World} {base : Nat} {spare : Nat → Bool} {held : Bool}

theorem strs_of {n : Nat} {v : Value} {x : DataW H × List MemPlace} (h : DataW.trod enc Tryz.prog W base spare held n 40 [v] = some x) : ∃ l : List (List UInt8), Ss W v l := by
  rcases Go.Deep.open_slice1 Tryz.underlying40 cells9' h with ⟨hc, _⟩ | ⟨a, len, cap, m, k, V, D, Pl, hc, _, hl, _, hm, _, hall⟩
  · simp at hc; subst hc
    exact ⟨[], ⟨Or.inl ⟨rfl, _, _, rfl⟩⟩⟩
  · simp at hc; subst hc
    by_cases h0 : len = 0
    · subst h0; exact ⟨[], ⟨Or.inl ⟨rfl, _, _, rfl⟩⟩⟩
    · have hlm : len ≤ m := by rw [hm]; split <;> omega
      have get : ∀ i, i < len → ∃ y : List UInt8, V i = .string ⟨y.toArray⟩ := fun i hi => by
        obtain ⟨u, e1, _, _⟩ := DataW.trod_string Tryz.underlying9 (hall i (by omega)).2
        simp at e1
        exact ⟨u.data.toList, by rw [e1]⟩
      obtain ⟨g, hg⟩ := Go.Deep.choose_lt get
      obtain ⟨b, o, spot⟩ := a
      have hsp : spot = none := by simpa [Addr.add] using World.cell?_spot (hall 0 (by omega)).1
      subst hsp
      have hlen : ((List.range len).map g).length = len := by simp
      refine ⟨(List.range len).map g, ⟨Or.inr ⟨b, o, cap, by rw [hlen], by rw [hlen]; exact hl, ⟨block_lt_of_cell (hall 0 (by omega)).1, fun i hi => ?_⟩⟩⟩⟩
      rw [hlen] at hi
      have h1 := (hall i (by omega)).1
      rw [Go.WideShapes.add_plain, hg i hi] at h1
      simpa using h1
set_option maxRecDepth 100000 in
theorem files_of {n : Nat} {v : Value} {x : DataW H × List MemPlace} (h : DataW.trod enc Tryz.prog W base spare held n 41 [v] = some x) : ∃ l : List (List UInt8 × List UInt8), Fs W v l := by
  obtain ⟨f0, f1, hu, o0, o1, t0, t1⟩ := und109
  rcases Go.Deep.open_slice_pairs Tryz.underlying41 hu cells109 o0 o1 (by rw [t0]; exact cells9') (by rw [t1]; exact cells9') h with ⟨hc, _⟩ | ⟨a, len, cap, m, n, V0, V1, D0, D1, P0, P1, hc, _, hl, _, hm, _, hall⟩
  · simp at hc; subst hc
    exact ⟨[], ⟨Or.inl ⟨rfl, _, _, rfl⟩⟩⟩
  · simp at hc; subst hc
    rw [t0, t1] at hall
    by_cases h0 : len = 0
    · subst h0; exact ⟨[], ⟨Or.inl ⟨rfl, _, _, rfl⟩⟩⟩
    · have hlm : len ≤ m := by rw [hm]; split <;> omega
      have get : ∀ i, i < len → ∃ y : List UInt8 × List UInt8, V0 i = .string ⟨y.1.toArray⟩ ∧ V1 i = .string ⟨y.2.toArray⟩ := fun i hi => by
        obtain ⟨_, _, q0, q1⟩ := hall i (by omega)
        obtain ⟨u, e0, _, _⟩ := DataW.trod_string Tryz.underlying9 q0
        obtain ⟨x, e1, _, _⟩ := DataW.trod_string Tryz.underlying9 q1
        simp at e0 e1
        exact ⟨(u.data.toList, x.data.toList), by rw [e0], by rw [e1]⟩
      obtain ⟨g, hg⟩ := Go.Deep.choose_lt get
      obtain ⟨b, o, spot⟩ := a
      have hsp : spot = none := by simpa [Addr.add] using World.cell?_spot (hall 0 (by omega)).1
      subst hsp
      have hlen : ((List.range len).map g).length = len := by simp
      refine ⟨(List.range len).map g, ⟨Or.inr ⟨b, o, cap, by rw [hlen], by rw [hlen]; exact hl, ⟨block_lt_of_cell (hall 0 (by omega)).1, fun i hi => ?_, fun i hi => ?_⟩⟩⟩⟩
      · rw [hlen] at hi
        have h1 := (hall i (by omega)).1
        rw [Go.WideShapes.add_plain, (hg i hi).1] at h1
        simpa using h1
      · rw [hlen] at hi
        have h1 := (hall i (by omega)).2.1
        rw [Go.WideShapes.add_plain, (hg i hi).2] at h1
        simpa [Nat.add_assoc] using h1

/-- The cells of a package. -/
def Pck.vs (p : Pck) (vD vA vG vB vR vP vS vL vF : Value) : List Value := [.string ⟨p.o.n.toArray⟩, .int .i64 p.o.e, .string ⟨p.o.u.toArray⟩, .string ⟨p.o.r.toArray⟩, vD, vA, vG, vB, vR, vP, vS, vL, vF]
set_option maxRecDepth 100000 in
theorem pack_of {n : Nat} {cs : List Value} {x : DataW H × List MemPlace} (h : DataW.trod enc Tryz.prog W base spare held n 43 cs = some x) : ∃ (p : Pck) (vD vA vG vB vR vP vS vL vF : Value), cs = p.vs vD vA vG vB vR vP vS vL vF ∧ Pz W p vD vA vG vB vR vP vS vL vF ∧ Pw p := by
  obtain ⟨f0, f1, f2, f3, f4, f5, f6, f7, f8, f9, f10, hu, o0, o1, o2, o3, o4, o5, o6, o7, o8, o9, o10, t0, t1, t2, t3, t4, t5, t6, t7, t8, t9, t10⟩ := und58
  obtain ⟨xs, k, _, _, hl, hxl, hf⟩ := DataW.trod_struct hu h
  rw [cells58] at hl
  match xs, hxl, cs, hl with
  | [y0, y1, y2, y3, y4, y5, y6, y7, y8, y9, y10], _, [v0, v1, v2, v3, v4, v5, v6, v7, v8, v9, v10, v11, v12], _ =>
    have g0 := hf 0 f0 rfl
    rw [o0, t0, cells9'] at g0
    have g1 := hf 1 f1 rfl
    rw [o1, t1, cells54] at g1
    have g2 := hf 2 f2 rfl
    rw [o2, t2, cells39] at g2
    have g3 := hf 3 f3 rfl
    rw [o3, t3, cells39] at g3
    have g4 := hf 4 f4 rfl
    rw [o4, t4, cells40] at g4
    have g5 := hf 5 f5 rfl
    rw [o5, t5, cells40] at g5
    have g6 := hf 6 f6 rfl
    rw [o6, t6, cells40] at g6
    have g7 := hf 7 f7 rfl
    rw [o7, t7, cells40] at g7
    have g8 := hf 8 f8 rfl
    rw [o8, t8, cells55] at g8
    have g9 := hf 9 f9 rfl
    rw [o9, t9, cells55] at g9
    have g10 := hf 10 f10 rfl
    rw [o10, t10, cells56] at g10
    obtain ⟨nm, e0, _, _⟩ := DataW.trod_string Tryz.underlying9 (by simpa using g0)
    obtain ⟨e, u, r, e1, hie⟩ := ver_of (by simpa using g1)
    obtain ⟨lD, hD, iD⟩ := asked_of (v := v4) (by simpa using g2)
    obtain ⟨lA, hA, iA⟩ := asked_of (v := v5) (by simpa using g3)
    obtain ⟨lG, hG, iG⟩ := terms_of (v := v6) (by simpa using g4)
    obtain ⟨lB, hB, iB⟩ := terms_of (v := v7) (by simpa using g5)
    obtain ⟨lR, hR, iR⟩ := terms_of (v := v8) (by simpa using g6)
    obtain ⟨lP, hP, iP⟩ := terms_of (v := v9) (by simpa using g7)
    obtain ⟨lS, hS⟩ := strs_of (v := v10) (by simpa using g8)
    obtain ⟨lL, hL⟩ := strs_of (v := v11) (by simpa using g9)
    obtain ⟨lF, hF⟩ := files_of (v := v12) (by simpa using g10)
    simp at e0 e1
    exact ⟨⟨⟨nm.data.toList, e, u, r, lP⟩, lD, lA, lG, lB, lR, lS, lL, lF⟩, v4, v5, v6, v7, v8, v9, v10, v11, v12, by rw [e0, e1.1, e1.2.1, e1.2.2]; rfl, ⟨hD, hA, hG, hB, hR, hP, hS, hL, hF⟩, ⟨hie, iD, iA, iG, iB, iR, iP⟩⟩

theorem cells13 : Tryz.prog.cellsOf 43 = 13 := by kernel_rfl
theorem packs_of {n : Nat} {v : Value} {x : DataW H × List MemPlace} (h : DataW.trod enc Tryz.prog W base spare held n 62 [v] = some x) : ∃ l : List Pck, PR W v l ∧ ∀ p ∈ l, Pw p := by
  rcases Go.Deep.open_slice Tryz.underlying62 h with ⟨hc, _⟩ | ⟨a, len, cap, m, k, D, Pl, hc, _, hl, _, hm, _, hall⟩
  · simp at hc; subst hc
    exact ⟨[], ⟨Or.inl ⟨rfl, _, _, rfl⟩⟩, fun p hp => by cases hp⟩
  · simp at hc; subst hc
    rw [cells13] at hall
    by_cases h0 : len = 0
    · subst h0; exact ⟨[], ⟨Or.inl ⟨rfl, _, _, rfl⟩⟩, fun p hp => by cases hp⟩
    · have hlm : len ≤ m := by rw [hm]; split <;> omega
      have get : ∀ i, i < len → ∃ p : Pck, ∃ vD vA vG vB vR vP vS vL vF : Value, (∀ j (hj : j < 13), W.cell? (a.add (i * 13 + j)) = some ((p.vs vD vA vG vB vR vP vS vL vF)[j]'(by simpa [Pck.vs] using hj))) ∧ Pz W p vD vA vG vB vR vP vS vL vF ∧ Pw p := fun i hi => by
        obtain ⟨cs, h1, h2⟩ := hall i (by omega)
        obtain ⟨_, hlen, hcell⟩ := World.cells?_some h1
        obtain ⟨p, vD, vA, vG, vB, vR, vP, vS, vL, vF, rfl, hz, hw⟩ := pack_of h2
        refine ⟨p, vD, vA, vG, vB, vR, vP, vS, vL, vF, fun j hj => ?_, hz, hw⟩
        have := hcell j hj
        rw [Go.Deep.add_add] at this
        rw [this, List.getElem?_eq_getElem]
      obtain ⟨g, hg⟩ := Go.Deep.choose_lt get
      obtain ⟨b, o, spot⟩ := a
      have hsp : spot = none := by
        obtain ⟨vD, vA, vG, vB, vR, vP, vS, vL, vF, h1, _⟩ := hg 0 (by omega)
        simpa [Addr.add] using World.cell?_spot (h1 0 (by omega))
      subst hsp
      have hlen : ((List.range len).map g).length = len := by simp
      refine ⟨(List.range len).map g, ⟨Or.inr ⟨b, o, cap, by rw [hlen], by rw [hlen]; exact hl, ?_, fun i hi => ?_⟩⟩, fun p hp => ?_⟩
      · obtain ⟨vD, vA, vG, vB, vR, vP, vS, vL, vF, h1, _⟩ := hg 0 (by omega)
        exact block_lt_of_cell (h1 0 (by omega))
      · rw [hlen] at hi
        obtain ⟨vD, vA, vG, vB, vR, vP, vS, vL, vF, h1, h2, _⟩ := hg i hi
        have cell : ∀ j (hj : j < 13), W.cell? ⟨b, o + i * 13 + j, none⟩ = some (((((List.range len).map g)[i]'(by rw [hlen]; exact hi)).vs vD vA vG vB vR vP vS vL vF)[j]'(by simpa [Pck.vs] using hj)) := fun j hj => by
          have := h1 j hj
          rw [Go.WideShapes.add_plain] at this
          simpa [Nat.add_assoc] using this
        have e : ((List.range len).map g)[i]'(by rw [hlen]; exact hi) = g i := by simp
        refine ⟨vD, vA, vG, vB, vR, vP, vS, vL, vF, ⟨cell 0 (by omega), cell 1 (by omega), cell 2 (by omega), cell 3 (by omega), cell 4 (by omega), cell 5 (by omega), cell 6 (by omega), cell 7 (by omega), cell 8 (by omega), cell 9 (by omega), cell 10 (by omega), cell 11 (by omega), cell 12 (by omega)⟩, ?_⟩
        rw [e]
        exact h2
      · obtain ⟨i, hi, rfl⟩ := List.mem_map.1 hp
        obtain ⟨_, _, _, _, _, _, _, _, _, _, _, h3⟩ := hg i (List.mem_range.1 hi)
        exact h3
theorem ints_of {n : Nat} {v : Value} {x : DataW H × List MemPlace} (h : DataW.trod enc Tryz.prog W base spare held n 63 [v] = some x) : ∃ l : List Int, IR W v l ∧ ∀ x ∈ l, I64 x := by
  rcases Go.Deep.open_slice1 Tryz.underlying63 cells3' h with ⟨hc, _⟩ | ⟨a, len, cap, m, k, V, D, Pl, hc, _, hl, _, hm, _, hall⟩
  · simp at hc; subst hc
    exact ⟨[], ⟨Or.inl ⟨rfl, _, _, rfl⟩⟩, fun x hx => by cases hx⟩
  · simp at hc; subst hc
    by_cases h0 : len = 0
    · subst h0; exact ⟨[], ⟨Or.inl ⟨rfl, _, _, rfl⟩⟩, fun x hx => by cases hx⟩
    · have hlm : len ≤ m := by rw [hm]; split <;> omega
      have get : ∀ i, i < len → ∃ y : Int, V i = .int .i64 y ∧ I64 y := fun i hi => by
        obtain ⟨u, e1, _, hw⟩ := DataW.trod_int Tryz.underlying3 (hall i (by omega)).2
        simp at e1
        exact ⟨u, e1, ⟨hw⟩⟩
      obtain ⟨g, hg⟩ := Go.Deep.choose_lt get
      obtain ⟨b, o, spot⟩ := a
      have hsp : spot = none := by simpa [Addr.add] using World.cell?_spot (hall 0 (by omega)).1
      subst hsp
      have hlen : ((List.range len).map g).length = len := by simp
      refine ⟨(List.range len).map g, ⟨Or.inr ⟨b, o, cap, by rw [hlen], by rw [hlen]; exact hl, block_lt_of_cell (hall 0 (by omega)).1, fun i hi => ?_⟩⟩, fun x hx => ?_⟩
      case refine_2 =>
        obtain ⟨i, hi, rfl⟩ := List.mem_map.1 hx
        exact (hg i (List.mem_range.1 hi)).2
      rw [hlen] at hi
      have h1 := (hall i (by omega)).1
      rw [Go.WideShapes.add_plain, (hg i hi).1] at h1
      simpa using h1
end
end Go.Proofs.YtlldfmnoidndmaaGreatDoor
