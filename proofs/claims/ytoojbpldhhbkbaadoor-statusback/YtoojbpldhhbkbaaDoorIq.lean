/- What a status is read as, when it comes in. -/
import Derived.Test.YtoojbpldhhbkbaaDoorHb
import Derived.Test.YtoojbpldhhbkbaaDoorDa
import Derived.Deep.SlicePairs
import Derived.WideShapes
import Derived.Deep.Strs
namespace Go.Proofs.YtoojbpldhhbkbaaDoor
open Go.RowKit Go.Shelf Go.Sort

theorem cells33 : Tryd.prog.cellsOf 33 = 1 := by kernel_rfl
theorem cells35 : Tryd.prog.cellsOf 35 = 7 := by kernel_rfl
theorem cells4' : Tryd.prog.cellsOf 4 = 1 := by kernel_rfl
theorem und35 : ∃ f0 f1 f2 f3 f4 : Field, Tryd.prog.underlying 35 = some (.struct #[f0, f1, f2, f3, f4]) ∧ f0.offset = 0 ∧ f1.offset = 1 ∧ f2.offset = 4 ∧ f3.offset = 5 ∧ f4.offset = 6 ∧ f0.type = 3 ∧ f1.type = 32 ∧ f2.type = 4 ∧ f3.type = 33 ∧ f4.type = 33 := ⟨_, _, _, _, _, Tryd.underlying35, rfl, rfl, rfl, rfl, rfl, rfl, rfl, rfl, rfl, rfl⟩
section
variable {H : Type} {enc : TypeId × Value → H} {W : World} {base : Nat} {spare : Nat → Bool} {held : Bool}

theorem strs_of {n : Nat} {v : Value} {x : DataW H × List MemPlace} (h : DataW.trod enc Tryd.prog W base spare held n 33 [v] = some x) : ∃ l : List (List UInt8), Ss W v l := by
  rcases Go.Deep.open_slice1 Tryd.underlying33 cells9' h with ⟨hc, _⟩ | ⟨a, len, cap, m, k, V, D, Pl, hc, _, hl, _, hm, _, hall⟩
  · simp at hc; subst hc
    exact ⟨[], ⟨Or.inl ⟨rfl, _, _, rfl⟩⟩⟩
  · simp at hc; subst hc
    by_cases h0 : len = 0
    · subst h0; exact ⟨[], ⟨Or.inl ⟨rfl, _, _, rfl⟩⟩⟩
    · have hlm : len ≤ m := by rw [hm]; split <;> omega
      have get : ∀ i, i < len → ∃ y : List UInt8, V i = .string ⟨y.toArray⟩ := fun i hi => by
        obtain ⟨u, e1, _, _⟩ := DataW.trod_string Tryd.underlying9 (hall i (by omega)).2
        simp at e1
        exact ⟨u.data.toList, by rw [e1]⟩
      obtain ⟨g, hg⟩ := Go.Deep.choose_lt get
      obtain ⟨b, o, spot⟩ := a
      have hsp : spot = none := by simpa [Addr.add] using World.cell?_spot (hall 0 (by omega)).1
      subst hsp
      have hlen : ((List.range len).map g).length = len := by simp
      refine ⟨(List.range len).map g, ⟨Or.inr ⟨b, o, cap, by rw [hlen], by rw [hlen]; exact hl, ⟨block_lt_of_cell (hall 0 (by omega)).1, fun i hi => ?_⟩⟩⟩⟩
      rw [hlen] at hi
      have h1 := (hall i (by omega)).1
      rw [Go.WideShapes.add_plain, hg i hi] at h1
      simpa using h1
set_option maxRecDepth 100000 in
theorem stat_of {n : Nat} {cs : List Value} {x : DataW H × List MemPlace} (h : DataW.trod enc Tryd.prog W base spare held n 35 cs = some x) : ∃ (s : Sta) (vW vT : Value), cs = [.int .i64 s.n, .int .i64 s.e, .string ⟨s.u.toArray⟩, .string ⟨s.r.toArray⟩, .bool s.held, vW, vT] ∧ Ss W vW s.W ∧ Ss W vT s.T ∧ I64 s.e := by
  obtain ⟨f0, f1, f2, f3, f4, hu, o0, o1, o2, o3, o4, t0, t1, t2, t3, t4⟩ := und35
  obtain ⟨xs, k, _, _, hl, hxl, hf⟩ := DataW.trod_struct hu h
  rw [cells35] at hl
  match xs, hxl, cs, hl with
  | [y0, y1, y2, y3, y4], _, [v0, v1, v2, v3, v4, v5, v6], _ =>
    have g0 := hf 0 f0 rfl
    rw [o0, t0, cells3'] at g0
    have g1 := hf 1 f1 rfl
    rw [o1, t1, cells54] at g1
    have g2 := hf 2 f2 rfl
    rw [o2, t2, cells4'] at g2
    have g3 := hf 3 f3 rfl
    rw [o3, t3, cells33] at g3
    have g4 := hf 4 f4 rfl
    rw [o4, t4, cells33] at g4
    obtain ⟨nn, e0, _, _⟩ := DataW.trod_int Tryd.underlying3 (by simpa using g0)
    obtain ⟨e, u, r, e1, ie⟩ := ver_of (by simpa using g1)
    obtain ⟨hb, e2, _⟩ := DataW.trod_bool Tryd.underlying4 (by simpa using g2)
    obtain ⟨lW, hW⟩ := strs_of (v := v5) (by simpa using g3)
    obtain ⟨lT, hT⟩ := strs_of (v := v6) (by simpa using g4)
    simp at e0 e1 e2
    exact ⟨⟨nn, e, u, r, hb, lW, lT⟩, v5, v6, by rw [e0, e1.1, e1.2.1, e1.2.2, e2], hW, hT, ie⟩
end
end Go.Proofs.YtoojbpldhhbkbaaDoor
