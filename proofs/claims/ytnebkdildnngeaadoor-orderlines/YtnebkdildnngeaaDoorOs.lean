/- What the cards of rings and of lines share: what is listed, and edges that come in. -/
import Derived.Test.YtnebkdildnngeaaDoorCards
import Derived.Test.YtnebkdildnngeaaDoorTie
import Derived.Test.YtnebkdildnngeaaDoorOv
import Derived.ProofKit
import Derived.OpenShut
import Derived.Lay
import Derived.SevenTiedAt
import Derived.Stop.Joined
import Derived.Lib.SmallJoins
import Derived.LaidHandle
import Derived.HandedShaped
import Derived.Shelf.Vars
import Derived.ChangeSame
import Derived.Deep.SlicePairs
namespace Go.Proofs.YtnebkdildnngeaaDoor
open Go.ChangeShapes Go.WideShapes Go.ChangeAt Go.RowKit Go.Joins

theorem own : ownKnob Tryd.prog.godebug = none := by kernel_rfl

/-- The plain wrap, what is listed beside it, the world's shape kept. -/
theorem wrap {H : Type} {enc : TypeId × Value → H} {a : Assume} {C : Checked} {os : Os} {f : FuncId} {fn : Func} {s : ChangeSpec} {conds : List PathCond} {apart fresh handsOn again : Bool} {X : World → Array Value → Prop}
    (hX : ∀ (w w' : World) (args : Array Value), w.heap = w'.heap → X w args → X w' args)
    (own : ownKnob C.prog.godebug = none) (started : os.Started) (noInit : C.prog.inits.idxOf? f = none) (hfn : C.prog.funcs[f]? = some fn)
    (witness : ∃ (w : World) (tape : Tape) (i : Input), w.os = os ∧ (w.forCall tape i).Shaped C.prog ∧ i.vars = [] ∧ Input.okWide C.prog (w.forCall tape i) .any w.heap.size f i ∧
      ((s.pre enc C.prog fn conds apart (w.forCall tape i).memory i.args ∧ X (w.forCall tape i).memory i.args) ∧ sizedMet enc C.prog fn (OpenSpec.ofChange s) apart (w.forCall tape i).memory i.args) ∧ a.holds C.prog (lone (Frame.enter C.prog f i.args .normal) [] (w.forCall tape i)))
    (contract : ∀ (W : World) (base : Nat) (args : Array Value) (ds gs : List (DataW H)) (before : List MemPlace),
      (∀ (j : Nat) t v, fn.params[j]? = some t → args[j]? = some v → Value.okWide C.prog W .any base t v) →
      DataW.Whole enc C.prog fn.params.toList s.vars apart W args.toList ds gs before → W.ShapedOpen C.prog → X W args →
      Calls C.prog f args W fun e W' => ∃ v, e = .returned v ∧ s.post enc C.prog fn apart fresh handsOn again W args v W') :
    ReturnsInHanded a C os f .any (fun w args => (s.pre enc C.prog fn conds apart w args ∧ X w args) ∧ sizedMet enc C.prog fn (OpenSpec.ofChange s) apart w args) (s.post enc C.prog fn apart fresh handsOn again) := by
  refine returnsInHanded_of_calls own started noInit witness ?_
  intro w tape i _ hsh _ hok hpre _
  obtain ⟨_, _, _, fn', hfn', _, _, _, _, hval⟩ := hok
  have e : fn' = fn := Option.some.inj (hfn'.symm.trans hfn)
  subst e
  obtain ⟨⟨⟨ds, gs, before, hw, _⟩, hx⟩, _⟩ := hpre
  have hw' := DataW.Whole.of_heap (w' := w.forCall tape i) (by rfl) hw
  refine (contract (w.forCall tape i) w.heap.size i.args ds gs before hval hw' hsh (hX _ _ _ (by rfl) hx)).mono fun e W' ⟨v, he, hp⟩ => ?_
  subst he
  exact ChangeSpec.post_blind hp

/-- What is listed that is plain. -/
def plain1 : List (String × DataW Unit) := [("stevedore/stevedoreref.Fine", Rows.laid_stevedore_stevedoreref_Fine)]
/-- What is listed. -/
def laidR := Rows.orderRingsRow.laid
theorem laidL : Rows.orderLinesRow.laid = laidR := rfl
theorem parted {W : World} (h : laidMetH Tryd.prog laidR W) : laidMet Tryd.prog plain1 W ∧ handlesMet Tryd.prog [("errors.errorType", Rows.laid_errors_errorType)] W := h

theorem und26 : ∃ f0 f1 : Field, Tryd.prog.underlying 26 = some (.struct #[f0, f1]) ∧ f0.offset = 0 ∧ f1.offset = 1 ∧ f0.type = 24 ∧ f1.type = 3 := ⟨_, _, Tryd.underlying26, rfl, rfl, rfl, rfl⟩
theorem cells26 : Tryd.prog.cellsOf 26 = 2 := by kernel_rfl
theorem cells24 : Tryd.prog.cellsOf 24 = 1 := by kernel_rfl
theorem cells3 : Tryd.prog.cellsOf 3 = 1 := by kernel_rfl
theorem fineG : Tryd.prog.globalNamed "stevedore/stevedoreref.Fine" = some 0 := by kernel_rfl
theorem fineT : (Tryd.prog.globals[0]?).map (·.type) = some 26 := by kernel_rfl

theorem int_of {H : Type} {enc : TypeId × Value → H} {W : World} {b : Nat} {sp : Nat → Bool} {held : Bool} {n : Nat} {t : TypeId} {v : Value} {y : DataW H × List MemPlace} {z : Int} (hu : Tryd.prog.underlying t = some (.int .i64)) (h : DataW.trod enc Tryd.prog W b sp held n t [v] = some y) (hy : y.1 = .lit (.int .i64 z)) : v = .int .i64 z := by
  obtain ⟨z', e0, rfl, _⟩ := DataW.trod_int hu h
  simp at e0 hy
  rw [e0, hy]

/-- What the reference's variable Fine holds. -/
theorem fin0 {W : World} (h : laidMetH Tryd.prog laidR W) : Fi W := by
  obtain ⟨ps, ⟨g2, t2, cs2, f2, p2, q2, hg2, ht2, hv2, hd2, _, _⟩, _, _⟩ := (parted h).1
  obtain rfl := Option.some.inj (fineG.symm.trans hg2)
  obtain rfl := Option.some.inj (fineT.symm.trans ht2)
  obtain ⟨f0, f1, hu, o0, o1, t0, t1⟩ := und26
  obtain ⟨y0, y1, n, hx, hl, h0, h1⟩ := trod_struct2 hu hd2
  rw [cells26] at hl
  rw [o0, t0, cells24] at h0
  rw [o1, t1, cells3] at h1
  obtain ⟨cs⟩ := cs2
  match cs, hl with
  | [a, b], _ =>
    simp [Rows.laid_stevedore_stevedoreref_Fine] at hx
    obtain ⟨⟨e0, e1⟩, _⟩ := hx
    have ea := int_of Tryd.underlying24 (by simpa using h0) e0.symm
    have eb := int_of Tryd.underlying3 (by simpa using h1) e1.symm
    subst ea eb
    exact ⟨by simpa using World.var?_cell fineG hv2 0, by simpa using World.var?_cell fineG hv2 1⟩

theorem etG : Tryd.prog.globalNamed "errors.errorType" = some 1 := by kernel_rfl
theorem rtT : (Tryd.prog.cutTypes.find? (·.1 == "internal/reflectlite.rtype")).map (·.2) = some 95 := by kernel_rfl
theorem typesN : Tryd.prog.types.size = 136 := by kernel_rfl
theorem oneRow : ((List.range 136).filter fun t => Tryd.prog.rowNamed t [101, 114, 114, 111, 114]) = [30] := by kernel_rfl

/-- errors.errorType's one cell. -/
theorem errT {W : World} (h : laidMetH Tryd.prog laidR W) : ErrT W := by
  obtain ⟨name, u, ty, e1, e2, e3, e4, e5⟩ := (parted h).2 _ (List.mem_singleton.2 rfl)
  have en : name = [101, 114, 114, 111, 114] := (Option.some.inj e1).symm
  subst en
  obtain rfl := Option.some.inj (rtT.symm.trans e2)
  have hm : ty ∈ (List.range 136).filter fun t => Tryd.prog.rowNamed t [101, 114, 114, 111, 114] := List.mem_filter.2 ⟨List.mem_range.2 (by rw [← typesN]; exact e3), e4⟩
  rw [oneRow] at hm
  obtain rfl := List.mem_singleton.1 hm
  have hh : typeHandle Tryd.prog 30 = .pointer (some ⟨2, 30, none⟩) := by kernel_rfl
  rw [hh] at e5
  exact ⟨by simpa using World.var?_cell etG e5 0⟩

/-- A world that meets what is listed. -/
noncomputable def world0 (os : Os) : World :=
  let w0 := World.holding Tryd.prog os ⟨#[], #[], []⟩
  { w0 with heap := w0.heap.modify 1 fun
      | .cells _ t frozen => .cells #[.iface 95 (.agg #[.pointer (some ⟨2, 30, none⟩)])] t frozen
      | o => o }
noncomputable def world1 (os : Os) : World := (world0 os).layVars Tryd.prog plain1
theorem world1_os (os : Os) : (world1 os).os = os := World.layVars_os _ _ _
theorem world1_met (os : Os) (args : Array Value) : laidMetH Tryd.prog laidR ((world1 os).forCall (fun _ _ => 0) ⟨#[], args, []⟩).memory := by
  have h : laidMet Tryd.prog plain1 (world1 os) :=
    laidMet_layVars (w0 := world0 os) (plain1.map (·.1)) [] (by kernel_rfl) (by kernel_rfl) (by kernel_rfl) (by
      rw [show (plain1.filter fun x => !(plain1.map (·.1)).contains x.1) = [] from by kernel_rfl]; exact LaidIn.none)
  exact laidMetH_of_parts (h.of_heap (by simp [World.memory, World.forCall, Input.heap])) (by kernel_rfl)

theorem cells48 : Tryd.prog.cellsOf 48 = 2 := by kernel_rfl
theorem cells3' : Tryd.prog.cellsOf 3 = 1 := by kernel_rfl
theorem und48 : ∃ f0 f1 : Field, Tryd.prog.underlying 48 = some (.struct #[f0, f1]) ∧ f0.offset = 0 ∧ f1.offset = 1 ∧ f0.type = 3 ∧ f1.type = 3 := ⟨_, _, Tryd.underlying48, rfl, rfl, rfl, rfl⟩
def evs (t : E) : List Value := [.int .i64 t.1, .int .i64 t.2]
section
variable {H : Type} {enc : TypeId × Value → H} {W : World} {base : Nat} {spare : Nat → Bool} {held : Bool}
set_option maxRecDepth 100000 in
/-- An edge's two cells. -/
theorem edge_of {n : Nat} {cs : List Value} {x : DataW H × List MemPlace} (h : DataW.trod enc Tryd.prog W base spare held n 48 cs = some x) : ∃ t : E, cs = evs t := by
  obtain ⟨f0, f1, hu, o0, o1, t0, t1⟩ := und48
  obtain ⟨xs, k, _, _, hl, hxl, hf⟩ := DataW.trod_struct hu h
  rw [cells48] at hl
  match xs, hxl, cs, hl with
  | [y0, y1], _, [v0, v1], _ =>
    have g0 := hf 0 f0 rfl
    have g1 := hf 1 f1 rfl
    rw [o0, t0, cells3'] at g0
    rw [o1, t1, cells3'] at g1
    obtain ⟨e, e0, _, _⟩ := DataW.trod_int Tryd.underlying3 (by simpa using g0)
    obtain ⟨m, e1, _, _⟩ := DataW.trod_int Tryd.underlying3 (by simpa using g1)
    simp at e0 e1
    exact ⟨(e, m), by rw [e0, e1]; rfl⟩
/-- Edges that come in, opened. -/
theorem edges_of {n : Nat} {v : Value} {x : DataW H × List MemPlace} (h : DataW.trod enc Tryd.prog W base spare held n 22 [v] = some x) : ∃ l : List E, Es W v l ∧ (v = .slice none 0 0 ∨ ∃ a m c, v = .slice (some a) m c) ∧ l.length ≤ 9223372036854775807 := by
  rcases Go.Deep.open_slice Tryd.underlying22 h with ⟨hc, _⟩ | ⟨a, len, cap, m, k, D, Pl, hc, _, hl, hcap, hm, _, hall⟩
  · simp at hc; subst hc
    exact ⟨[], ⟨Or.inl ⟨rfl, _, _, rfl⟩⟩, .inl rfl, Nat.zero_le _⟩
  · simp at hc; subst hc
    rw [cells48] at hall
    by_cases h0 : len = 0
    · subst h0; exact ⟨[], ⟨Or.inl ⟨rfl, _, _, rfl⟩⟩, .inr ⟨_, _, _, rfl⟩, Nat.zero_le _⟩
    · have hlm : len ≤ m := by rw [hm]; split <;> omega
      have get : ∀ i, i < len → ∃ t : E, (∀ j (hj : j < 2), W.cell? (a.add (i * 2 + j)) = some ((evs t)[j]'(by simpa [evs] using hj))) := fun i hi => by
        obtain ⟨cs, h1, h2⟩ := hall i (by omega)
        obtain ⟨_, hlen, hcell⟩ := World.cells?_some h1
        obtain ⟨t, rfl⟩ := edge_of h2
        refine ⟨t, fun j hj => ?_⟩
        have := hcell j hj
        rw [Go.Deep.add_add] at this
        rw [this, List.getElem?_eq_getElem]
      obtain ⟨g, hg⟩ := Go.Deep.choose_lt get
      obtain ⟨b, o, spot⟩ := a
      have hsp : spot = none := by simpa [Addr.add] using World.cell?_spot ((hg 0 (by omega)) 0 (by omega))
      subst hsp
      have hlen : ((List.range len).map g).length = len := by simp
      have cell : ∀ i (hi : i < ((List.range len).map g).length) j (hj : j < 2), W.cell? ⟨b, o + i * 2 + j, none⟩ = some ((evs ((List.range len).map g)[i])[j]'(by simpa [evs] using hj)) := fun i hi j hj => by
        rw [hlen] at hi
        have := (hg i hi) j hj
        rw [Go.WideShapes.add_plain] at this
        simpa [Nat.add_assoc] using this
      refine ⟨(List.range len).map g, ⟨Or.inr ⟨b, o, cap, by rw [hlen], by rw [hlen]; exact hl, ⟨block_lt_of_cell ((hg 0 (by omega)) 0 (by omega)), fun i hi => cell i hi 0 (by omega), fun i hi => cell i hi 1 (by omega)⟩⟩⟩, .inr ⟨_, _, _, rfl⟩, ?_⟩
      rw [hlen]
      unfold maxLen at hcap
      omega
end
theorem laidOut : laidOutB Tryd.prog = true := by kernel_rfl
end Go.Proofs.YtnebkdildnngeaaDoor
