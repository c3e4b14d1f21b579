/- Those that are known, opened: the keeper's. -/
import Derived.Test.YthijccmiemlilaaGreatDoorKv
namespace Go.Proofs.YthijccmiemlilaaGreatDoor.Kee
open Go.RowKit Go.Sort
variable {H : Type} {enc : TypeId × Value → H} {W : World} {base : Nat} {spare : Nat → Bool} {held : Bool}
theorem c58 : Tryz.prog.cellsOf 58 = 7 := by kernel_rfl
theorem c60 : Tryz.prog.cellsOf 60 = 20 := by kernel_rfl
theorem u58 : ∃ f0 f1 f2 f3 f4 : Field, Tryz.prog.underlying 58 = some (.struct #[f0, f1, f2, f3, f4]) ∧ f0.offset = 0 ∧ f1.offset = 1 ∧ f2.offset = 4 ∧ f3.offset = 5 ∧ f4.offset = 6 ∧ f0.type = 3 ∧ f1.type = 24 ∧ f2.type = 4 ∧ f3.type = 27 ∧ f4.type = 27 := ⟨_, _, _, _, _, Tryz.underlying58, rfl, rfl, rfl, rfl, rfl, rfl, rfl, rfl, rfl, rfl⟩
theorem u60 : ∃ f0 f1 : Field, Tryz.prog.underlying 60 = some (.struct #[f0, f1]) ∧ f0.offset = 0 ∧ f1.offset = 7 ∧ f0.type = 58 ∧ f1.type = 30 := ⟨_, _, Tryz.underlying60, rfl, rfl, rfl, rfl⟩
set_option maxRecDepth 100000 in
theorem status_of {n : Nat} {cs : List Value} {x : DataW H × List MemPlace} (h : DataW.trod enc Tryz.prog W base spare held n 58 cs = some x) : ∃ (st e : Int) (u r : List UInt8) (hd : Bool) (vW vT : Value), cs = [.int .i64 st, .int .i64 e, .string ⟨u.toArray⟩, .string ⟨r.toArray⟩, .bool hd, vW, vT] ∧ (∃ y, Ss W vW y) ∧ ∃ y, Ss W vT y := by
  obtain ⟨f0, f1, f2, f3, f4, hu, o0, o1, o2, o3, o4, t0, t1, t2, t3, t4⟩ := u58
  obtain ⟨xs, k, _, _, hl, hxl, hf⟩ := DataW.trod_struct hu h
  rw [c58] at hl
  match xs, hxl, cs, hl with
  | [y0, y1, y2, y3, y4], _, [v0, v1, v2, v3, v4, v5, v6], _ =>
    have g0 := hf 0 f0 rfl
    rw [o0, t0, cells3'] at g0
    have g1 := hf 1 f1 rfl
    rw [o1, t1, cells54] at g1
    have g2 := hf 2 f2 rfl
    rw [o2, t2, cells4'] at g2
    have g3 := hf 3 f3 rfl
    rw [o3, t3, cells55] at g3
    have g4 := hf 4 f4 rfl
    rw [o4, t4, cells55] at g4
    obtain ⟨st, e0, _, _⟩ := DataW.trod_int Tryz.underlying3 (by simpa using g0)
    obtain ⟨e, u, r, e1, _⟩ := ver_of (by simpa using g1)
    obtain ⟨hd, e2, _⟩ := DataW.trod_bool Tryz.underlying4 (by simpa using g2)
    obtain ⟨lW, hW⟩ := strs_of (v := v5) (by simpa using g3)
    obtain ⟨lT, hT⟩ := strs_of (v := v6) (by simpa using g4)
    simp at e0 e1 e2
    exact ⟨st, e, u, r, hd, v5, v6, by rw [e0, e1.1, e1.2.1, e1.2.2, e2], ⟨_, hW⟩, ⟨_, hT⟩⟩
set_option maxRecDepth 100000 in
theorem known_of {n : Nat} {cs : List Value} {x : DataW H × List MemPlace} (h : DataW.trod enc Tryz.prog W base spare held n 60 cs = some x) : ∃ (k : Kn) (vW vT vD vA vG vB vR vP vS vL vF : Value), cs = k.vs vW vT vD vA vG vB vR vP vS vL vF ∧ Kz W k vW vT vD vA vG vB vR vP vS vL vF := by
  obtain ⟨f0, f1, hu, o0, o1, t0, t1⟩ := u60
  obtain ⟨xs, k, _, _, hl, hxl, hf⟩ := DataW.trod_struct hu h
  rw [c60] at hl
  match xs, hxl, hl with
  | [y0, y1], _, hl =>
    have g0 := hf 0 f0 rfl
    rw [o0, t0, c58] at g0
    have g1 := hf 1 f1 rfl
    rw [o1, t1, cells58] at g1
    obtain ⟨st, e, u, r, hd, vW, vT, e0, hW, hT⟩ := status_of g0
    obtain ⟨p, vD, vA, vG, vB, vR, vP, vS, vL, vF, e1, hz⟩ := pack_of g1
    refine ⟨⟨st, e, u, r, hd, p⟩, vW, vT, vD, vA, vG, vB, vR, vP, vS, vL, vF, ?_, ⟨hW, hT, hz⟩⟩
    have hc : cs = (cs.drop 0).take 7 ++ (cs.drop 7).take 13 := by
      rw [List.drop_zero, List.take_of_length_le (l := cs.drop 7) (by rw [List.length_drop]; omega), List.take_append_drop]
    rw [hc, e0, e1]
    rfl
theorem knowns_of {n : Nat} {v : Value} {x : DataW H × List MemPlace} (h : DataW.trod enc Tryz.prog W base spare held n 32 [v] = some x) : ∃ l : List Kn, Ks W v l := by
  rcases Go.Deep.open_slice Tryz.underlying32 h with ⟨hc, _⟩ | ⟨a, len, cap, m, k, D, Pl, hc, _, hl, _, hm, _, hall⟩
  · simp at hc; subst hc
    exact ⟨[], ⟨Or.inl ⟨rfl, _, _, rfl⟩⟩⟩
  · simp at hc; subst hc
    rw [c60] at hall
    by_cases h0 : len = 0
    · subst h0; exact ⟨[], ⟨Or.inl ⟨rfl, _, _, rfl⟩⟩⟩
    · have hlm : len ≤ m := by rw [hm]; split <;> omega
      have get : ∀ i, i < len → ∃ p : Kn, ∃ vW vT vD vA vG vB vR vP vS vL vF : Value, (∀ j (hj : j < 20), W.cell? (a.add (i * 20 + j)) = some ((p.vs vW vT vD vA vG vB vR vP vS vL vF)[j]'(by simpa [Kn.vs] using hj))) ∧ Kz W p vW vT vD vA vG vB vR vP vS vL vF := fun i hi => by
        obtain ⟨cs, h1, h2⟩ := hall i (by omega)
        obtain ⟨_, hlen, hcell⟩ := World.cells?_some h1
        obtain ⟨p, vW, vT, vD, vA, vG, vB, vR, vP, vS, vL, vF, rfl, hz⟩ := known_of h2
        refine ⟨p, vW, vT, vD, vA, vG, vB, vR, vP, vS, vL, vF, fun j hj => ?_, hz⟩
        have := hcell j hj
        rw [Go.Deep.add_add] at this
        rw [this, List.getElem?_eq_getElem]
      obtain ⟨g, hg⟩ := Go.Deep.choose_lt get
      obtain ⟨b, o, spot⟩ := a
      have hsp : spot = none := by
        obtain ⟨vW, vT, vD, vA, vG, vB, vR, vP, vS, vL, vF, h1, _⟩ := hg 0 (by omega)
        simpa [Addr.add] using World.cell?_spot (h1 0 (by omega))
      subst hsp
      have hlen : ((List.range len).map g).length = len := by simp
      refine ⟨(List.range len).map g, ⟨Or.inr ⟨b, o, cap, by rw [hlen], ⟨?_, fun i hi => ?_⟩⟩⟩⟩
      · obtain ⟨vW, vT, vD, vA, vG, vB, vR, vP, vS, vL, vF, h1, _⟩ := hg 0 (by omega)
        exact block_lt_of_cell (h1 0 (by omega))
      · rw [hlen] at hi
        obtain ⟨vW, vT, vD, vA, vG, vB, vR, vP, vS, vL, vF, h1, h2⟩ := hg i hi
        have cell : ∀ j (hj : j < 20), W.cell? ⟨b, o + i * 20 + j, none⟩ = some (((((List.range len).map g)[i]'(by rw [hlen]; exact hi)).vs vW vT vD vA vG vB vR vP vS vL vF)[j]'(by simpa [Kn.vs] using hj)) := fun j hj => by
          have := h1 j hj
          rw [Go.WideShapes.add_plain] at this
          simpa [Nat.add_assoc] using this
        exact ⟨vW, vT, vD, vA, vG, vB, vR, vP, vS, vL, vF, ⟨cell 0 (by omega), cell 1 (by omega), cell 2 (by omega), cell 3 (by omega), cell 4 (by omega), cell 5 (by omega), cell 6 (by omega), cell 7 (by omega), cell 8 (by omega), cell 9 (by omega), cell 10 (by omega), cell 11 (by omega), cell 12 (by omega), cell 13 (by omega), cell 14 (by omega), cell 15 (by omega), cell 16 (by omega), cell 17 (by omega), cell 18 (by omega), cell 19 (by omega)⟩, by simpa using h2⟩
end Go.Proofs.YthijccmiemlilaaGreatDoor.Kee
