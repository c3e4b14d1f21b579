/- For all texts and every number the law ShelfChooses returns true: what is done with a setting is the document's. -/
import Derived.Test.YtkjimcbpdommaaaCa
import Derived.Test.YtkjimcbpdommaaaRows
import Derived.ProofKit
namespace Go.Proofs.Ytkjimcbpdommaaa
open Go.ChangeShapes Go.WideShapes Go.ChangeAt Go.RowKit

theorem p_any (q : Value) (k bit : Int) (x : Nat) (w : World) (hx : w.cell? ⟨x, 0, none⟩ = some (.int .i64 k)) : Calls Try.prog 4 #[q, .int .i64 bit, .pointer (some ⟨x, 0, none⟩)] w fun e w' => ∃ v, e = .returned v ∧ (v = .pointer none ∨ v = q) ∧ w' = w := by
  go_enter Try.func4, Try.ntmps4
  go_wp2
  all_goals go_ret
  · exact ⟨_, rfl, .inl rfl, rfl⟩
  · exact ⟨_, rfl, .inr rfl, rfl⟩
theorem tp_of {w : World} {v : Value} {b : Nat} {s : ByteArray} (h : v = .pointer none ∨ v = .pointer (some ⟨b, 0, none⟩)) (hc : w.cell? ⟨b, 0, none⟩ = some (.string s)) : ∃ o, Tp w v o := by
  rcases h with h | h
  · exact ⟨none, ⟨.inl ⟨rfl, h⟩⟩⟩
  · exact ⟨some s, ⟨.inr ⟨b, s, rfl, h, hc⟩⟩⟩
theorem nb0 (w : World) (o : Obj) : (w.alloc o).heap[w.heap.size]? = some o := by
  show (w.heap.push o)[w.heap.size]? = some o
  simp
theorem nb1 (w : World) (o : Obj) {k : Nat} (h : k = w.heap.size) : (w.alloc o).heap[k]? = some o := by rw [h]; exact nb0 w o
abbrev W4 (w : World) (a b c : ByteArray) (k : Int) : World := (((w.alloc (.cells #[.string a] 9)).alloc (.cells #[.string b] 9)).alloc (.cells #[.string c] 9)).alloc (.cells #[.int .i64 k] 3)
theorem w4 (w : World) (a b c : ByteArray) (k : Int) : (W4 w a b c k).cell? ⟨w.heap.size, 0, none⟩ = some (.string a) ∧ (W4 w a b c k).cell? ⟨w.heap.size + 1, 0, none⟩ = some (.string b) ∧ (W4 w a b c k).cell? ⟨w.heap.size + 2, 0, none⟩ = some (.string c) ∧ (W4 w a b c k).cell? ⟨w.heap.size + 3, 0, none⟩ = some (.int .i64 k) := by
  have e1 : (W4 w a b c k).heap[w.heap.size]? = some (.cells #[.string a] 9) := (Below.heap_alloc _ _ _ (by simp; omega)).trans ((Below.heap_alloc _ _ _ (by simp; omega)).trans ((Below.heap_alloc _ _ _ (by simp)).trans (nb0 _ _)))
  have e2 : (W4 w a b c k).heap[w.heap.size + 1]? = some (.cells #[.string b] 9) := (Below.heap_alloc _ _ _ (by simp)).trans ((Below.heap_alloc _ _ _ (by simp)).trans (nb1 _ _ (by simp)))
  have e3 : (W4 w a b c k).heap[w.heap.size + 2]? = some (.cells #[.string c] 9) := (Below.heap_alloc _ _ _ (by simp)).trans (nb1 _ _ (by simp))
  have e4 : (W4 w a b c k).heap[w.heap.size + 3]? = some (.cells #[.int .i64 k] 3) := nb1 _ _ (by simp)
  exact ⟨by unfold World.cell?; rw [e1]; rfl, by unfold World.cell?; rw [e2]; rfl, by unfold World.cell?; rw [e3]; rfl, by unfold World.cell?; rw [e4]; rfl⟩
set_option maxHeartbeats 1600000 in
theorem chooses_any (a b c : ByteArray) (k : Int) (w : World) : Calls Try.prog 3 #[.string a, .string b, .string c, .int .i64 k] w fun e w' => e = .returned (.bool true) ∧ Below w.heap.size w w' := by
  obtain ⟨k1, k2, k3, k4⟩ := w4 w a b c k
  go_enter Try.func3, Try.ntmps3
  go_wp2_with fail
  refine (p_any _ k 1 _ _ k4).mono ?_
  rintro e w1 ⟨v1, rfl, h1, rfl⟩
  go_wp2_with fail
  refine (p_any _ k 2 _ _ k4).mono ?_
  rintro e w1 ⟨v2, rfl, h2, rfl⟩
  go_wp2_with fail
  refine (p_any _ k 4 _ _ k4).mono ?_
  rintro e w1 ⟨v3, rfl, h3, rfl⟩
  obtain ⟨o1, t1⟩ := tp_of h1 k1
  obtain ⟨o2, t2⟩ := tp_of h2 k2
  obtain ⟨o3, t3⟩ := tp_of h3 k3
  have c1 := choice_any v1 v2 v3 o1 o2 o3 _ t1 t2 t3
  have c2 := fun w1 b => rchoice_any v1 v2 v3 o1 o2 o3 w1 (t1.on b) (t2.on b) (t3.on b)
  have hB : Below w.heap.size w (W4 w a b c k) := ((((Below.refl _ _).alloc (Nat.le_refl _) _).alloc (by simp) _).alloc (by simp; omega) _).alloc (by simp; omega) _
  clear h1 h2 h3 t1 t2 t3
  generalize cho o1 o2 o3 = r at c1 c2
  go_wp2_with fail
  refine c1.mono ?_
  rintro e w1 ⟨rfl, b1⟩
  go_wp2_with fail
  refine (c2 w1 b1).mono ?_
  rintro e w2 ⟨rfl, b2⟩
  go_wp2
  go_ret
  exact ⟨ret_bool (by simp), (hB.trans (b1.mono hB.size)).trans (b2.mono (Nat.le_trans hB.size b1.size))⟩
theorem own : ownKnob Try.prog.godebug = none := by kernel_rfl
theorem laidOut : laidOutB Try.prog = true := by kernel_rfl
set_option maxRecDepth 100000 in
theorem lifted (os : Os) (started : os.Started) (H : Type) (enc : TypeId × Value → H) :
    ReturnsInHanded {} Try.checked os 3 .any (Rows.shelfChoosesSpec.pre6 enc Try.prog Try.f3 Rows.shelfChoosesRow.domain false) (Rows.shelfChoosesSpec.post enc Try.prog Try.f3 false true false false) := by
  refine returnsInHanded_of_change (C := Try.checked) own started (by kernel_rfl) Try.func3
    (ChangeSpec.witness6 (enc := enc) (C := Try.checked) false ⟨#[], #[.string ⟨#[]⟩, .string ⟨#[]⟩, .string ⟨#[]⟩, .int .i64 0], []⟩ 8 (by kernel_rfl) (by kernel_rfl) (by kernel_rfl) (by kernel_rfl)) ?_
  intro W base args ds gs before hval0 hW hcnd _
  have hval : ∀ (j : Nat) t v, Try.f3.params[j]? = some t → args[j]? = some v → Value.okWide Try.prog W .any base t v := hval0
  have hW' := hW
  obtain ⟨p, q, hA0, hV, rfl, hfz, hnd⟩ := hW
  have hA : DataW.TrodAll enc Try.prog W 0 (fun _ => true) true Try.f3.params.toList args.toList ds p := hA0
  rw [Try.params3] at hA hval
  obtain ⟨v0, v1, v2, v3, d0, d1, d2, d3, p0, p1, p2, p3, rfl, rfl, rfl, h0, h1, h2, h3⟩ := trodAll_four hA
  obtain ⟨rfl, rfl⟩ := trodVars_none hV
  obtain ⟨a, rfl, rfl, rfl, wa⟩ := Go.ChangeMaps.open_string Try.underlying9 (hval 0 9 v0 rfl rfl) h0
  obtain ⟨b, rfl, rfl, rfl, wb⟩ := Go.ChangeMaps.open_string Try.underlying9 (hval 1 9 v1 rfl rfl) h1
  obtain ⟨c, rfl, rfl, rfl, wc⟩ := Go.ChangeMaps.open_string Try.underlying9 (hval 2 9 v2 rfl rfl) h2
  obtain ⟨k, rfl, rfl, rfl, wk⟩ := open_int Try.underlying3 (hval 3 3 v3 rfl rfl) h3
  clear hA0 hval0 hval
  simp only [List.append_nil] at hW'
  refine (chooses_any a b c k W).mono fun e W' ⟨he, hg⟩ => ?_
  subst he
  refine ⟨_, rfl, _, _, _, [], [], [], hW', ?_, ?_, ?_, hg.frame _, fun h => by cases h⟩
  · exact trodAll_mk1 (shut_bool Try.underlying4 _)
  · exact trodAll_mk4 (Go.ChangeMaps.shut_string Try.underlying9 wa) (Go.ChangeMaps.shut_string Try.underlying9 wb) (Go.ChangeMaps.shut_string Try.underlying9 wc) (shut_int Try.underlying3 wk)
  · rfl
theorem shelfChooses_holds : Rows.ShelfChoosesSaid :=
  OpenClaim.holds_of_wide 3 Try.f3 rfl rfl rfl rfl rfl rfl rfl ⟨rfl, rfl, rfl, rfl, rfl⟩ rfl rfl rfl rfl rfl (by kernel_rfl) Try.func3 (by kernel_rfl)
    (of_decide_eq_true (by kernel_rfl)) (by unfold Func.isWrapper; rw [if_neg (of_decide_eq_false (by kernel_rfl))]; exact ⟨rfl, rfl⟩)
    (fun os started H enc _ => lifted os started H enc)
end Go.Proofs.Ytkjimcbpdommaaa
