/- For all acts and any number that is kept the law DiskKeeps returns true: what is safe stays, without power and behind a start; what was written since, and not made safe, is as it was or has its first bytes. -/
import Derived.Test.YtjllnhdampjieaaDoorCards
import Derived.Test.YtjllnhdampjieaaDoorTie
import Derived.Test.YtjllnhdampjieaaDoorKg
import Derived.ProofKit
import Derived.OpenShut
import Derived.Lay
import Derived.SevenTiedAt
import Derived.Stop.Joined
import Derived.Lib.SmallJoins
import Derived.Lib.LaidTab
import Derived.LaidHandle
import Derived.HandedShaped
import Derived.Shelf.Vars
import Derived.Carry
import Derived.Deep.SlicePairs
import Derived.ArgAppend
namespace Go.Proofs.YtjllnhdampjieaaDoor
open Go.RowKit Go.Sort Go.Maps
open Go.ChangeShapes Go.WideShapes Go.ChangeAt Go.Joins
set_option maxRecDepth 100000 in
theorem keeps_long1 (A1 A2 : Option Addr) (n1 n2 c1 c2 : Nat) (keeps : Int) (w : World) (hn : 40 < n1) (h9 : n1 ≤ 9223372036854775807) : Calls Tryd.prog 4 #[.slice A1 n1 c1, .slice A2 n2 c2, .int .i64 keeps] w fun x w' => x = .returned (.bool true) ∧ Below w.heap.size w w' := by
  go_enter Tryd.func4, Tryd.ntmps4
  go_wp2
  go_ret
  exact ⟨rfl, Below.refl _ _⟩
set_option maxRecDepth 100000 in
theorem keeps_long2 (A1 A2 : Option Addr) (n1 n2 c1 c2 : Nat) (keeps : Int) (w : World) (h0 : n1 ≤ 40) (hn : 40 < n2) (h9 : n2 ≤ 9223372036854775807) : Calls Tryd.prog 4 #[.slice A1 n1 c1, .slice A2 n2 c2, .int .i64 keeps] w fun x w' => x = .returned (.bool true) ∧ Below w.heap.size w w' := by
  go_enter Tryd.func4, Tryd.ntmps4
  go_wp2
  go_ret
  exact ⟨rfl, Below.refl _ _⟩
theorem keeps_any (v1 v2 : Value) (l m : List Kc) (keeps : Int) (w : World) (h1 : Kcs w v1 l) (h2 : Kcs w v2 m) (l1 : l.length ≤ 9223372036854775807) (l2 : m.length ≤ 9223372036854775807) (hkp : keeps ≤ 9223372036854775807) (mm : Int) (hmm : w.cell? ⟨0, 0, none⟩ = some (.int .i64 mm)) :
    Calls Tryd.prog 4 #[v1, v2, .int .i64 keeps] w fun x w' => x = .returned (.bool true) ∧ Below w.heap.size w w' := by
  by_cases hn1 : l.length ≤ 40
  · by_cases hn2 : m.length ≤ 40
    · exact keeps_row v1 v2 l m keeps w h1 h2 hn1 hn2 hkp mm hmm
    · obtain ⟨A1, c1, rfl⟩ := h1.sl
      obtain ⟨A2, c2, rfl⟩ := h2.sl
      exact keeps_long2 _ _ _ _ _ _ _ _ hn1 (by omega) l2
  · obtain ⟨A1, c1, rfl⟩ := h1.sl
    obtain ⟨A2, c2, rfl⟩ := h2.sl
    exact keeps_long1 _ _ _ _ _ _ _ _ (by omega) l1
theorem cells59 : Tryd.prog.cellsOf 59 = 4 := by kernel_rfl
theorem cells3' : Tryd.prog.cellsOf 3 = 1 := by kernel_rfl
theorem und59 : ∃ f0 f1 f2 f3 : Field, Tryd.prog.underlying 59 = some (.struct #[f0, f1, f2, f3]) ∧ f0.offset = 0 ∧ f1.offset = 1 ∧ f2.offset = 2 ∧ f3.offset = 3 ∧ f0.type = 3 ∧ f1.type = 3 ∧ f2.type = 3 ∧ f3.type = 3 := ⟨_, _, _, _, Tryd.underlying59, rfl, rfl, rfl, rfl, rfl, rfl, rfl, rfl⟩
def Kc.vs (t : Kc) : List Value := [.int .i64 t.t, .int .i64 t.f, .int .i64 t.o, .int .i64 t.n]
section
variable {H : Type} {enc : TypeId × Value → H} {W : World} {base : Nat} {spare : Nat → Bool} {held : Bool}
set_option maxRecDepth 100000 in
/-- An act's four cells. -/
theorem act_of {n : Nat} {cs : List Value} {x : DataW H × List MemPlace} (h : DataW.trod enc Tryd.prog W base spare held n 59 cs = some x) : ∃ t : Kc, cs = t.vs := by
  obtain ⟨f0, f1, f2, f3, hu, o0, o1, o2, o3, t0, t1, t2, t3⟩ := und59
  obtain ⟨xs, k, _, _, hl, hxl, hf⟩ := DataW.trod_struct hu h
  rw [cells59] at hl
  match xs, hxl, cs, hl with
  | [y0, y1, y2, y3], _, [v0, v1, v2, v3], _ =>
    have g0 := hf 0 f0 rfl
    have g1 := hf 1 f1 rfl
    have g2 := hf 2 f2 rfl
    have g3 := hf 3 f3 rfl
    rw [o0, t0, cells3'] at g0
    rw [o1, t1, cells3'] at g1
    rw [o2, t2, cells3'] at g2
    rw [o3, t3, cells3'] at g3
    obtain ⟨e, e0, _, _⟩ := DataW.trod_int Tryd.underlying3 (by simpa using g0)
    obtain ⟨m, e1, _, _⟩ := DataW.trod_int Tryd.underlying3 (by simpa using g1)
    obtain ⟨u, e2, _, _⟩ := DataW.trod_int Tryd.underlying3 (by simpa using g2)
    obtain ⟨r, e3, _, _⟩ := DataW.trod_int Tryd.underlying3 (by simpa using g3)
    simp at e0 e1 e2 e3
    exact ⟨⟨e, m, u, r⟩, by rw [e0, e1, e2, e3]; rfl⟩
/-- Acts that come in, opened. -/
theorem acts_of {n : Nat} {v : Value} {x : DataW H × List MemPlace} (h : DataW.trod enc Tryd.prog W base spare held n 53 [v] = some x) : ∃ l : List Kc, Kcs W v l ∧ l.length ≤ 9223372036854775807 := by
  rcases Go.Deep.open_slice Tryd.underlying53 h with ⟨hc, _⟩ | ⟨a, len, cap, m, k, D, Pl, hc, _, hl, hcap, hm, _, hall⟩
  · simp at hc; subst hc
    exact ⟨[], ⟨Or.inl ⟨rfl, _, _, rfl⟩⟩, Nat.zero_le _⟩
  · simp at hc; subst hc
    rw [cells59] at hall
    by_cases h0 : len = 0
    · subst h0; exact ⟨[], ⟨Or.inl ⟨rfl, _, _, rfl⟩⟩, Nat.zero_le _⟩
    · have hlm : len ≤ m := by rw [hm]; split <;> omega
      have get : ∀ i, i < len → ∃ t : Kc, (∀ j (hj : j < 4), W.cell? (a.add (i * 4 + j)) = some (t.vs[j]'(by simpa [Kc.vs] using hj))) := fun i hi => by
        obtain ⟨cs, h1, h2⟩ := hall i (by omega)
        obtain ⟨_, hlen, hcell⟩ := World.cells?_some h1
        obtain ⟨t, rfl⟩ := act_of h2
        refine ⟨t, fun j hj => ?_⟩
        have := hcell j hj
        rw [Go.Deep.add_add] at this
        rw [this, List.getElem?_eq_getElem]
      obtain ⟨g, hg⟩ := Go.Deep.choose_lt get
      obtain ⟨b, o, spot⟩ := a
      have hsp : spot = none := by simpa [Addr.add] using World.cell?_spot ((hg 0 (by omega)) 0 (by omega))
      subst hsp
      have hlen : ((List.range len).map g).length = len := by simp
      have cell : ∀ i (hi : i < ((List.range len).map g).length) j (hj : j < 4), W.cell? ⟨b, o + i * 4 + j, none⟩ = some ((((List.range len).map g)[i]).vs[j]'(by simpa [Kc.vs] using hj)) := fun i hi j hj => by
        rw [hlen] at hi
        have := (hg i hi) j hj
        rw [Go.WideShapes.add_plain] at this
        simpa [Nat.add_assoc] using this
      exact ⟨(List.range len).map g, ⟨Or.inr ⟨b, o, cap, by rw [hlen], by rw [hlen]; exact hl, ⟨block_lt_of_cell ((hg 0 (by omega)) 0 (by omega)), fun i hi => cell i hi 0 (by omega), fun i hi => cell i hi 1 (by omega), fun i hi => cell i hi 2 (by omega), fun i hi => cell i hi 3 (by omega)⟩⟩⟩, by rw [hlen]; unfold maxLen at hcap; omega⟩
end
theorem own : ownKnob Tryd.prog.godebug = none := by kernel_rfl
theorem laidOut : laidOutB Tryd.prog = true := by kernel_rfl
/-- The plain wrap, what is listed beside it, the world's shape kept. -/
theorem wrap {H : Type} {enc : TypeId × Value → H} {a : Assume} {C : Checked} {os : Os} {f : FuncId} {fn : Func} {s : ChangeSpec} {conds : List PathCond} {apart fresh handsOn again : Bool} {X : World → Array Value → Prop}
    (hX : ∀ (w w' : World) (args : Array Value), w.heap = w'.heap → X w args → X w' args)
    (own : ownKnob C.prog.godebug = none) (started : os.Started) (noInit : C.prog.inits.idxOf? f = none) (hfn : C.prog.funcs[f]? = some fn)
    (witness : ∃ (w : World) (tape : Tape) (i : Input), w.os = os ∧ (w.forCall tape i).Shaped C.prog ∧ i.vars = [] ∧ Input.okWide C.prog (w.forCall tape i) .any w.heap.size f i ∧
      ((s.pre enc C.prog fn conds apart (w.forCall tape i).memory i.args ∧ X (w.forCall tape i).memory i.args) ∧ sizedMet enc C.prog fn (OpenSpec.ofChange s) apart (w.forCall tape i).memory i.args) ∧ a.holds C.prog (lone (Frame.enter C.prog f i.args .normal) [] (w.forCall tape i)))
    (contract : ∀ (W : World) (base : Nat) (args : Array Value) (ds gs : List (DataW H)) (before : List MemPlace),
      (∀ (j : Nat) t v, fn.params[j]? = some t → args[j]? = some v → Value.okWide C.prog W .any base t v) →
      DataW.Whole enc C.prog fn.params.toList s.vars apart W args.toList ds gs before → W.ShapedOpen C.prog → X W args →
      Calls C.prog f args W fun e W' => ∃ v, e = .returned v ∧ s.post enc C.prog fn apart fresh handsOn again W args v W') :
    ReturnsInHanded a C os f .any (fun w args => (s.pre enc C.prog fn conds apart w args ∧ X w args) ∧ sizedMet enc C.prog fn (OpenSpec.ofChange s) apart w args) (s.post enc C.prog fn apart fresh handsOn again) := by
  refine returnsInHanded_of_calls own started noInit witness ?_
  intro w tape i _ hsh _ hok hpre _
  obtain ⟨_, _, _, fn', hfn', _, _, _, _, hval⟩ := hok
  have e : fn' = fn := Option.some.inj (hfn'.symm.trans hfn)
  subst e
  obtain ⟨⟨⟨ds, gs, before, hw, _⟩, hx⟩, _⟩ := hpre
  have hw' := DataW.Whole.of_heap (w' := w.forCall tape i) (by rfl) hw
  refine (contract (w.forCall tape i) w.heap.size i.args ds gs before hval hw' hsh (hX _ _ _ (by rfl) hx)).mono fun e W' ⟨v, he, hp⟩ => ?_
  subst he
  exact ChangeSpec.post_blind hp


set_option maxRecDepth 100000 in
theorem lifted (os : Os) (started : os.Started) (H : Type) (enc : TypeId × Value → H) :
    ReturnsInHanded {} Tryd.checked os 4 .any (fun w args => (Rows.diskKeepsSpec.pre enc Tryd.prog Tryd.f4 Rows.diskKeepsRow.domain false w args ∧ laidMetH Tryd.prog Rows.diskKeepsRow.laid w) ∧ sizedMet enc Tryd.prog Tryd.f4 (OpenSpec.ofChange Rows.diskKeepsSpec) false w args)
      (Rows.diskKeepsSpec.post enc Tryd.prog Tryd.f4 false true false false) := by
  refine wrap (C := Tryd.checked) (X := fun w _ => laidMetH Tryd.prog Rows.diskKeepsRow.laid w) (fun _ _ _ hh h => h.of_heap hh) own started (by kernel_rfl) Tryd.func4
    (ChangeSpec.witness_shaped (enc := enc) (C := Tryd.checked) (os := os) (X := fun w _ => laidMetH Tryd.prog Rows.diskKeepsRow.laid w) false (World.laidAll Tryd.prog os Rows.diskKeepsRow.laid) #[.slice none 0 0, .slice none 0 0, .int .i64 0] 8 (World.laidAll_os _ _ _)
      (World.shaped_of_ZipB (by kernel_rfl) (by kernel_rfl)) (by kernel_rfl) (by kernel_rfl) (by kernel_rfl)
      (by rw [MakeChecks.laidMetH_plain _ _ _ (by kernel_rfl)]; exact laidMet_laidAll _ (by kernel_rfl) (by kernel_rfl))) ?_
  intro W base args ds gs before hval0 hW hsh _
  have hval : ∀ (j : Nat) t v, Tryd.f4.params[j]? = some t → args[j]? = some v → Value.okWide Tryd.prog W .any base t v := hval0
  have hW' := hW
  obtain ⟨p, q, hA0, hV, rfl, _, _⟩ := hW
  have hA : DataW.TrodAll enc Tryd.prog W 0 (fun _ => true) true Tryd.f4.params.toList args.toList ds p := hA0
  rw [Tryd.params4] at hA hval
  obtain ⟨v0, v1, v2, d0, d1, d2, p0, p1, p2, rfl, rfl, rfl, h0, h1, h2⟩ := trodAll_three hA
  obtain ⟨rfl, rfl⟩ := trodVars_none hV
  obtain ⟨sa, sn, sc, rfl⟩ := okWide_slice Tryd.underlying53 (hval 0 53 v0 rfl rfl)
  obtain ⟨ta, tn, tc', rfl⟩ := okWide_slice Tryd.underlying53 (hval 1 53 v1 rfl rfl)
  obtain ⟨l, hl, hl1⟩ := acts_of (v := .slice sa sn sc) (x := (d0, p0)) (by simpa [Value.cells] using h0.choose_spec)
  obtain ⟨m, hm, hm1⟩ := acts_of (v := .slice ta tn tc') (x := (d1, p1)) (by simpa [Value.cells] using h1.choose_spec)
  obtain ⟨k, rfl, rfl, rfl, wm⟩ := open_int Tryd.underlying3 (hval 2 3 v2 rfl rfl) h2
  clear hA0 hval0 hval
  simp only [List.append_nil] at hW'
  have hlt0 : ∀ x ∈ p0, x.block < W.heap.size := fun x hx => by simpa using hW'.lt x (by simp [hx])
  have hlt1 : ∀ x ∈ p1, x.block < W.heap.size := fun x hx => by simpa using hW'.lt x (by simp [hx])
  obtain ⟨mm, hmm⟩ : ∃ mm, W.cell? ⟨0, 0, none⟩ = some (.int .i64 mm) := Go.Proofs.cell_of_shapedOpen_int (zero := #[.int .i64 0]) (t := 3) hsh (of_decide_eq_true (by kernel_rfl)) (by kernel_rfl) rfl (by kernel_rfl) (by kernel_rfl) Tryd.underlying3
  have hk9 : k ≤ 9223372036854775807 := by
    have h := wm
    simp [Lit.wf] at h
    omega
  refine (keeps_any _ _ l m k W hl hm hl1 hm1 hk9 mm hmm).mono fun e W' ⟨he, hg⟩ => ?_
  subst he
  refine ⟨_, rfl, _, _, _, [], p0 ++ (p1 ++ []), [], hW', ?_, ?_, ?_, hg.frame _, fun h => by cases h⟩
  · exact trodAll_mk1 (shut_bool Tryd.underlying4 _)
  · exact trodAll_mk3 (Below.trod laidOut (by kernel_rfl) (of_decide_eq_true (by kernel_rfl)) h0 hg hlt0) (Below.trod laidOut (by kernel_rfl) (of_decide_eq_true (by kernel_rfl)) h1 hg hlt1) (shut_int Tryd.underlying3 wm)
  · rfl

theorem said : Rows.DiskKeepsSaid :=
  OpenClaim.holds_of_wide 4 Tryd.f4 rfl rfl rfl rfl rfl rfl rfl ⟨rfl, rfl, rfl, rfl, rfl⟩ rfl rfl rfl rfl rfl (by kernel_rfl) Tryd.func4 (by kernel_rfl)
    (of_decide_eq_true (by kernel_rfl)) (by unfold Func.isWrapper; rw [if_neg (of_decide_eq_false (by kernel_rfl))]; exact ⟨rfl, rfl⟩)
    (fun os started H enc _ => lifted os started H enc)

theorem plain (f : FuncId) (fn : Func) (hf : Tryd.pinned.checked.prog.funcNamed Rows.diskKeepsRow.func = some f) (hfn : Tryd.pinned.checked.prog.funcs[f]? = some fn) :
    true = Tryd.pinned.checked.prog.looks [] ∧ ∀ (j : Nat) t, fn.params[j]? = some t → Tryd.pinned.checked.prog.wantsStandIn t = false := by
  obtain rfl : f = 4 := Option.some.inj ((show Tryd.prog.funcNamed Rows.diskKeepsRow.func = some 4 by kernel_rfl).symm.trans hf) |>.symm
  obtain rfl : fn = Tryd.f4 := (Option.some.inj (Tryd.func4.symm.trans hfn)).symm
  refine ⟨by kernel_rfl, fun j t ht => ?_⟩
  rw [Tryd.params4] at ht
  have hm : t ∈ [53, 53, 3] := by simpa using Array.mem_of_getElem? ht
  have hall : ([53, 53, 3].all fun u => !Tryd.prog.wantsStandIn u) = true := by kernel_rfl
  exact (show Tryd.prog.wantsStandIn t = false by simpa using List.all_eq_true.1 hall t (by simpa using hm))

theorem card : Rows.DiskKeepsCardSaid :=
  Claim7.holds_tied_plain_at .later [] _ _ _ _ said (fun _ h => by cases h) (by kernel_rfl) (fun _ h => by cases h) diskKeeps_row_tie rfl ⟨rfl, rfl⟩ (by kernel_rfl) rfl plain (by kernel_rfl)
#print axioms card
end Go.Proofs.YtjllnhdampjieaaDoor
