/- For every number and all weak and strong edges the law OrderHolds returns true: all are told, each once; who comes ahead, and not the other way round by any ways, stands ahead; without rings of strong edges all of these are kept. -/
import Derived.Test.YtnebkdildnngeaaRows
import Derived.Test.YtnebkdildnngeaaOr
import Derived.ProofKit
import Derived.Deep.SlicePairs
namespace Go.Proofs.Ytnebkdildnngeaa
open Go.ChangeShapes Go.WideShapes Go.ChangeAt Go.RowKit Go.Sort

set_option maxRecDepth 100000 in
theorem holds_long1 (n : Int) (A A' : Option Addr) (m m' c c' : Nat) (w : World) (hm : 60 < m) (h9 : m ≤ 9223372036854775807) : Calls Try.prog 3 #[.int .i64 n, .slice A m c, .slice A' m' c'] w fun e w' => e = .returned (.bool true) ∧ Below w.heap.size w w' := by
  go_enter Try.func3, Try.ntmps3
  go_wp2
  go_ret
  exact ⟨rfl, Below.refl _ _⟩
set_option maxRecDepth 100000 in
theorem holds_long2 (n : Int) (A A' : Option Addr) (m m' c c' : Nat) (w : World) (h0 : m ≤ 60) (hm : 60 < m') (h9 : m' ≤ 9223372036854775807) : Calls Try.prog 3 #[.int .i64 n, .slice A m c, .slice A' m' c'] w fun e w' => e = .returned (.bool true) ∧ Below w.heap.size w w' := by
  go_enter Try.func3, Try.ntmps3
  go_wp2
  go_ret
  exact ⟨rfl, Below.refl _ _⟩
set_option maxRecDepth 100000 in
set_option maxHeartbeats 1600000 in
theorem holds_no (n : Int) (A A' : Option Addr) (c c' : Nat) (l l' : List E) (w : World) (hl : l.length ≤ 60) (hl' : l'.length ≤ 60) (h : Es w (.slice A l.length c) l) (h' : Es w (.slice A' l'.length c') l') (hr : ro2 n l l' ≠ .ok) : Calls Try.prog 3 #[.int .i64 n, .slice A l.length c, .slice A' l'.length c'] w fun e w' => e = .returned (.bool true) ∧ Below w.heap.size w w' := by
  have hl1 : ¬ (60 : Int) < (l.length : Int) := by omega
  have hl1' : ¬ (60 : Int) < (l'.length : Int) := by omega
  have cU := lineup_any w
  have cL := fun w1 (b1 : Below w.heap.size w w1) => Line_no n A A' c c' l l' w1 (by omega) (by omega) (h.on b1) (h'.on b1) hr
  generalize ro2 n l l' = r at cL hr
  clear h h'
  go_enter Try.func3, Try.ntmps3
  go_wp2_with fail
  refine cU.mono ?_
  rintro e w1 ⟨rfl, b1⟩
  have cL1 := cL w1 b1
  clear cU cL
  go_wp2_with fail
  refine cL1.mono ?_
  rintro e w2 ⟨v, rfl, hE, b2⟩
  obtain ⟨t, u, rfl⟩ := ev_no hE hr
  have k2 := bon b1 b2
  clear cL1 hE
  go_wp2
  go_ret
  exact ⟨rfl, k2⟩
theorem holds_any (n : Int) (v v' : Value) (l l' : List E) (w : World) (h : Es w v l) (h' : Es w v' l') (hA : v = .slice none 0 0 ∨ ∃ a m c, v = .slice (some a) m c) (hA' : v' = .slice none 0 0 ∨ ∃ a m c, v' = .slice (some a) m c) (h9 : l.length ≤ 9223372036854775807) (h9' : l'.length ≤ 9223372036854775807) : Calls Try.prog 3 #[.int .i64 n, v, v'] w fun e w' => e = .returned (.bool true) ∧ Below w.heap.size w w' := by
  obtain ⟨A, c, rfl⟩ := es_len h
  obtain ⟨A', c', rfl⟩ := es_len h'
  have hn : ∀ {A : Option Addr} {m c : Nat}, (Value.slice A m c = .slice none 0 0 ∨ ∃ a m' c', Value.slice A m c = .slice (some a) m' c') → A = none → c = 0 := fun h e => by
    subst e
    rcases h with h | ⟨a, m', c', h⟩
    · cases h; rfl
    · cases h
  by_cases h1 : l.length ≤ 60
  · by_cases h2 : l'.length ≤ 60
    · by_cases hr : ro2 n l l' = .ok
      · obtain ⟨r1, r2⟩ := ro2_ok hr
        obtain ⟨k, rfl, hk, hr1⟩ := ro_ok r1
        obtain ⟨k', hk', _, hr2⟩ := ro_ok r2
        have e : k' = k := by omega
        subst e
        exact holds_ok k' A A' c c' l l' w hk h1 h2 h h' (hn hA) (hn hA') hr1 hr2
      · exact holds_no n A A' c c' l l' w h1 h2 h h' hr
    · exact holds_long2 n A A' _ _ c c' w h1 (by omega) h9'
  · exact holds_long1 n A A' _ _ c c' w (by omega) h9
theorem cells34 : Try.prog.cellsOf 34 = 2 := by kernel_rfl
theorem cells3' : Try.prog.cellsOf 3 = 1 := by kernel_rfl
theorem und34 : ∃ f0 f1 : Field, Try.prog.underlying 34 = some (.struct #[f0, f1]) ∧ f0.offset = 0 ∧ f1.offset = 1 ∧ f0.type = 3 ∧ f1.type = 3 := ⟨_, _, Try.underlying34, rfl, rfl, rfl, rfl⟩
def evs (t : E) : List Value := [.int .i64 t.1, .int .i64 t.2]
section
variable {H : Type} {enc : TypeId × Value → H} {W : World} {base : Nat} {spare : Nat → Bool} {held : Bool}
set_option maxRecDepth 100000 in
/-- An edge's two cells. -/
theorem edge_of {n : Nat} {cs : List Value} {x : DataW H × List MemPlace} (h : DataW.trod enc Try.prog W base spare held n 34 cs = some x) : ∃ t : E, cs = evs t := by
  obtain ⟨f0, f1, hu, o0, o1, t0, t1⟩ := und34
  obtain ⟨xs, k, _, _, hl, hxl, hf⟩ := DataW.trod_struct hu h
  rw [cells34] at hl
  match xs, hxl, cs, hl with
  | [y0, y1], _, [v0, v1], _ =>
    have g0 := hf 0 f0 rfl
    have g1 := hf 1 f1 rfl
    rw [o0, t0, cells3'] at g0
    rw [o1, t1, cells3'] at g1
    obtain ⟨e, e0, _, _⟩ := DataW.trod_int Try.underlying3 (by simpa using g0)
    obtain ⟨m, e1, _, _⟩ := DataW.trod_int Try.underlying3 (by simpa using g1)
    simp at e0 e1
    exact ⟨(e, m), by rw [e0, e1]; rfl⟩
/-- Edges that come in, opened. -/
theorem edges_of {n : Nat} {v : Value} {x : DataW H × List MemPlace} (h : DataW.trod enc Try.prog W base spare held n 22 [v] = some x) : ∃ l : List E, Es W v l ∧ (v = .slice none 0 0 ∨ ∃ a m c, v = .slice (some a) m c) ∧ l.length ≤ 9223372036854775807 := by
  rcases Go.Deep.open_slice Try.underlying22 h with ⟨hc, _⟩ | ⟨a, len, cap, m, k, D, Pl, hc, _, hl, hcap, hm, _, hall⟩
  · simp at hc; subst hc
    exact ⟨[], ⟨Or.inl ⟨rfl, _, _, rfl⟩⟩, .inl rfl, Nat.zero_le _⟩
  · simp at hc; subst hc
    rw [cells34] at hall
    by_cases h0 : len = 0
    · subst h0; exact ⟨[], ⟨Or.inl ⟨rfl, _, _, rfl⟩⟩, .inr ⟨_, _, _, rfl⟩, Nat.zero_le _⟩
    · have hlm : len ≤ m := by rw [hm]; split <;> omega
      have get : ∀ i, i < len → ∃ t : E, (∀ j (hj : j < 2), W.cell? (a.add (i * 2 + j)) = some ((evs t)[j]'(by simpa [evs] using hj))) := fun i hi => by
        obtain ⟨cs, h1, h2⟩ := hall i (by omega)
        obtain ⟨_, hlen, hcell⟩ := World.cells?_some h1
        obtain ⟨t, rfl⟩ := edge_of h2
        refine ⟨t, fun j hj => ?_⟩
        have := hcell j hj
        rw [Go.Deep.add_add] at this
        rw [this, List.getElem?_eq_getElem]
      obtain ⟨g, hg⟩ := Go.Deep.choose_lt get
      obtain ⟨b, o, spot⟩ := a
      have hsp : spot = none := by simpa [Addr.add] using World.cell?_spot ((hg 0 (by omega)) 0 (by omega))
      subst hsp
      have hlen : ((List.range len).map g).length = len := by simp
      have cell : ∀ i (hi : i < ((List.range len).map g).length) j (hj : j < 2), W.cell? ⟨b, o + i * 2 + j, none⟩ = some ((evs ((List.range len).map g)[i])[j]'(by simpa [evs] using hj)) := fun i hi j hj => by
        rw [hlen] at hi
        have := (hg i hi) j hj
        rw [Go.WideShapes.add_plain] at this
        simpa [Nat.add_assoc] using this
      refine ⟨(List.range len).map g, ⟨Or.inr ⟨b, o, cap, by rw [hlen], by rw [hlen]; exact hl, ⟨block_lt_of_cell ((hg 0 (by omega)) 0 (by omega)), fun i hi => cell i hi 0 (by omega), fun i hi => cell i hi 1 (by omega)⟩⟩⟩, .inr ⟨_, _, _, rfl⟩, ?_⟩
      rw [hlen]
      unfold maxLen at hcap
      omega
end
theorem own : ownKnob Try.prog.godebug = none := by kernel_rfl
theorem laidOut : laidOutB Try.prog = true := by kernel_rfl
set_option maxRecDepth 100000 in
theorem lifted (os : Os) (started : os.Started) (H : Type) (enc : TypeId × Value → H) :
    ReturnsInHanded {} Try.checked os 3 .any (Rows.orderHoldsSpec.pre6 enc Try.prog Try.f3 Rows.orderHoldsRow.domain false) (Rows.orderHoldsSpec.post enc Try.prog Try.f3 false true false false) := by
  refine returnsInHanded_of_change (C := Try.checked) own started (by kernel_rfl) Try.func3
    (ChangeSpec.witness6 (enc := enc) (C := Try.checked) false ⟨#[], #[.int .i64 0, .slice none 0 0, .slice none 0 0], []⟩ 8 (by kernel_rfl) (by kernel_rfl) (by kernel_rfl) (by kernel_rfl)) ?_
  intro W base args ds gs before hval0 hW hcnd _
  have hval : ∀ (j : Nat) t v, Try.f3.params[j]? = some t → args[j]? = some v → Value.okWide Try.prog W .any base t v := hval0
  have hW' := hW
  obtain ⟨p, q, hA0, hV, rfl, hfz, hnd⟩ := hW
  have hA : DataW.TrodAll enc Try.prog W 0 (fun _ => true) true Try.f3.params.toList args.toList ds p := hA0
  rw [Try.params3] at hA hval
  obtain ⟨v0, v1, v2, d0, d1, d2, p0, p1, p2, rfl, rfl, rfl, h0, h1, h2⟩ := trodAll_three hA
  obtain ⟨rfl, rfl⟩ := trodVars_none hV
  obtain ⟨k, rfl, rfl, rfl, wk⟩ := open_int Try.underlying3 (hval 0 3 v0 rfl rfl) h0
  obtain ⟨sa, sn, sc, rfl⟩ := okWide_slice Try.underlying22 (hval 1 22 v1 rfl rfl)
  obtain ⟨ta, tn, tc', rfl⟩ := okWide_slice Try.underlying22 (hval 2 22 v2 rfl rfl)
  obtain ⟨l, hl, hla, hl1⟩ := edges_of (v := .slice sa sn sc) (x := (d1, p1)) (by simpa [Value.cells] using h1.choose_spec)
  obtain ⟨m, hm, hma, hm1⟩ := edges_of (v := .slice ta tn tc') (x := (d2, p2)) (by simpa [Value.cells] using h2.choose_spec)
  clear hA0 hval0 hval
  simp only [List.append_nil] at hW'
  have hlt1 : ∀ x ∈ p1, x.block < W.heap.size := fun x hx => by simpa using hW'.lt x (by simp [hx])
  have hlt2 : ∀ x ∈ p2, x.block < W.heap.size := fun x hx => by simpa using hW'.lt x (by simp [hx])
  refine (holds_any k _ _ l m W hl hm hla hma hl1 hm1).mono fun e W' ⟨he, hg⟩ => ?_
  subst he
  refine ⟨_, rfl, _, _, _, [], [] ++ (p1 ++ p2), [], hW', ?_, ?_, ?_, hg.frame _, fun h => by cases h⟩
  · exact trodAll_mk1 (shut_bool Try.underlying4 _)
  · exact trodAll_mk3 (shut_int Try.underlying3 wk) (Below.trod laidOut (by kernel_rfl) (of_decide_eq_true (by kernel_rfl)) h1 hg hlt1) (Below.trod laidOut (by kernel_rfl) (of_decide_eq_true (by kernel_rfl)) h2 hg hlt2)
  · rfl
theorem orderHolds_holds : Rows.OrderHoldsSaid :=
  OpenClaim.holds_of_wide 3 Try.f3 rfl rfl rfl rfl rfl rfl rfl ⟨rfl, rfl, rfl, rfl, rfl⟩ rfl rfl rfl rfl rfl (by kernel_rfl) Try.func3 (by kernel_rfl)
    (of_decide_eq_true (by kernel_rfl)) (by unfold Func.isWrapper; rw [if_neg (of_decide_eq_false (by kernel_rfl))]; exact ⟨rfl, rfl⟩)
    (fun os started H enc _ => lifted os started H enc)
end Go.Proofs.Ytnebkdildnngeaa
