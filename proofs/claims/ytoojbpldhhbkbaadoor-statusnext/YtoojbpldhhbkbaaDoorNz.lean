/- For all numbers of states and events the law StatusNext returns true: which state comes of any state and event is the document's; its conditions: the listed tables read as the card ties them. -/
import Derived.Test.YtoojbpldhhbkbaaDoorCards
import Derived.Test.YtoojbpldhhbkbaaDoorTie
import Derived.Test.YtoojbpldhhbkbaaDoorNa
import Derived.ProofKit
import Derived.OpenShut
import Derived.Lay
import Derived.SevenTiedAt
import Derived.Stop.Joined
import Derived.Lib.SmallJoins
import Derived.Lib.LaidTab
import Derived.LaidHandle
import Derived.Carry
namespace Go.Proofs.YtoojbpldhhbkbaaDoor
open Go.ChangeShapes Go.WideShapes Go.ChangeAt Go.RowKit Go.Joins

/-- An array of strings that reads as texts holds them, cell for cell. -/
theorem strs_of {H : Type} {enc : TypeId × Value → H} {P : Program} {w : World} {base : Nat} {sp : Nat → Bool} {held : Bool} {fuel : Nat} {t e : TypeId} {n : Nat} {cs : List Value} {zs : List (List UInt8)} {p : List MemPlace}
    (ht : P.underlying t = some (.array n e)) (he : P.underlying e = some .string) (hce : P.cellsOf e = 1) (hct : P.cellsOf t = n)
    (h : DataW.trod enc P w base sp held fuel t cs = some (.agg (zs.map fun z => .lit (.string z)), p)) : cs = zs.map fun z => Value.string ⟨z.toArray⟩ := by
  cases fuel with
  | zero => simp [DataW.trod] at h
  | succ fuel =>
    simp only [DataW.trod, ht, hce, hct, Nat.mul_one] at h
    split at h
    · rename_i hl
      obtain ⟨xs, hm, hx⟩ := Option.map_eq_some_iff.1 h
      have hxs : xs.map (·.1) = zs.map fun z => (DataW.lit (.string z) : DataW H) := by
        have := congrArg Prod.fst hx
        simpa using this
      have hxl : xs.length = n := by simpa using Lib.mapM_length hm
      have hzl : zs.length = n := by
        have := congrArg List.length hxs
        simp at this
        omega
      apply List.ext_getElem?
      intro i
      by_cases hi : i < n
      · obtain ⟨b, hb, hf⟩ := Lib.mapM_at hm i i (by simp [hi])
        obtain ⟨z, hc, hz, _⟩ := DataW.trod_string he hf
        have h1 : cs[i]? = some (.string z) := by
          have := congrArg (·[0]?) hc
          simpa [List.getElem?_take, List.getElem?_drop] using this
        have h2 : (xs.map (·.1))[i]? = some b.1 := by simp [hb]
        rw [hxs] at h2
        rw [h1]
        have h3 : ∃ y, zs[i]? = some y ∧ (DataW.lit (.string y) : DataW H) = b.1 := by simpa using h2
        obtain ⟨y, hy, e⟩ := h3
        rw [List.getElem?_map, hy, Option.map_some]
        rw [hz] at e
        simp at e
        rw [e]
      · rw [List.getElem?_eq_none (by omega), List.getElem?_eq_none (by simp; omega)]
    · cases h

/-- An array of arrays of integers that reads as rows holds them, cell for cell. -/
theorem grid_of {H : Type} {enc : TypeId × Value → H} {P : Program} {w : World} {base : Nat} {sp : Nat → Bool} {held : Bool} {fuel : Nat} {t e f : TypeId} {n m : Nat} {k : IntKind} {cs : List Value} {zs : List (List Int)} {p : List MemPlace}
    (ht : P.underlying t = some (.array n e)) (he : P.underlying e = some (.array m f)) (hf' : P.underlying f = some (.int k)) (hcf : P.cellsOf f = 1) (hce : P.cellsOf e = m) (hct : P.cellsOf t = n * m)
    (h : DataW.trod enc P w base sp held fuel t cs = some (.agg (zs.map fun z => Lib.tabData k z), p)) (i : Nat) (hi : i < n) : ∃ z, zs[i]? = some z ∧ (cs.drop (i * m)).take m = z.map fun x => Value.int k x := by
  cases fuel with
  | zero => simp [DataW.trod] at h
  | succ fuel =>
    simp only [DataW.trod, ht, hce, hct] at h
    split at h
    · obtain ⟨xs, hm, hx⟩ := Option.map_eq_some_iff.1 h
      have hxs : xs.map (·.1) = zs.map fun z => (Lib.tabData k z : DataW H) := by
        have := congrArg Prod.fst hx
        simpa using this
      obtain ⟨b, hb, hf⟩ := Lib.mapM_at hm i i (by simp [hi])
      have h2 : (xs.map (·.1))[i]? = some b.1 := by simp [hb]
      rw [hxs] at h2
      have h3 : ∃ y, zs[i]? = some y ∧ (Lib.tabData k y : DataW H) = b.1 := by simpa using h2
      obtain ⟨y, hy, e1⟩ := h3
      refine ⟨y, hy, ?_⟩
      obtain ⟨b1, b2⟩ := b
      dsimp only at e1 hf
      subst e1
      exact Lib.cells_of_tab he hf' hcf hce hf
    · cases h

theorem tb_ty : ∃ t e, Tryd.prog.globalNamed "stevedore/stevedoreref.table" = some 0 ∧ (Tryd.prog.globals[0]?).map (·.type) = some t ∧ Tryd.prog.underlying t = some (.array 10 e) ∧ Tryd.prog.underlying e = some .string ∧ Tryd.prog.cellsOf e = 1 ∧ Tryd.prog.cellsOf t = 10 := ⟨_, 9, by kernel_rfl, rfl, by kernel_rfl, by kernel_rfl, by kernel_rfl, by kernel_rfl⟩
theorem tb_eq {H : Type} : (Rows.laid_stevedore_stevedoreref_table : DataW H) = .agg (((List.range 10).map rrow).map fun z => .lit (.string z)) := rfl
theorem rr_of {W : World} {g : Nat} {t : TypeId} {cs : Array Value} {fuel : Nat} {p : List MemPlace} {sp : Nat → Bool} {held : Bool} {enc : TypeId × Value → Unit} {b : Nat}
    (hg : Tryd.prog.globalNamed "stevedore/stevedoreref.table" = some g) (ht : (Tryd.prog.globals[g]?).map (·.type) = some t) (hv : W.var? Tryd.prog "stevedore/stevedoreref.table" = some cs) (hd : DataW.trod enc Tryd.prog W b sp held fuel t cs.toList = some (Rows.laid_stevedore_stevedoreref_table, p)) : Rr W := by
  obtain ⟨t', e', h1, h2, h3, h4, h5, h6⟩ := tb_ty
  obtain rfl := Option.some.inj (h1.symm.trans hg)
  obtain rfl := Option.some.inj (h2.symm.trans ht)
  rw [tb_eq] at hd
  have hcs := strs_of h3 h4 h5 h6 hd
  have cell : ∀ i, W.cell? ⟨0, i, none⟩ = cs.toList[i]? := fun i => by simpa using World.var?_cell h1 hv i
  have at' : ∀ i, i < 10 → W.cell? ⟨0, i, none⟩ = some (.string ⟨(rrow i).toArray⟩) := fun i hi => by
    rw [cell, hcs, List.getElem?_map, List.getElem?_map, List.getElem?_range hi]; rfl
  exact ⟨block_lt_of_cell (at' 0 (by omega)), at'⟩
theorem oc_ty : ∃ t e f, Tryd.prog.globalNamed "stevedore/status.outcomes" = some 1 ∧ (Tryd.prog.globals[1]?).map (·.type) = some t ∧ Tryd.prog.underlying t = some (.array 11 e) ∧ Tryd.prog.underlying e = some (.array 8 f) ∧ Tryd.prog.underlying f = some (.int .i64) ∧ Tryd.prog.cellsOf f = 1 ∧ Tryd.prog.cellsOf e = 8 ∧ Tryd.prog.cellsOf t = 11 * 8 := ⟨_, 52, 3, by kernel_rfl, rfl, by kernel_rfl, by kernel_rfl, by kernel_rfl, by kernel_rfl, by kernel_rfl, by kernel_rfl⟩
def orow (i : Nat) : List Int := (otab.drop (i * 8)).take 8
theorem oc_eq {H : Type} : (Rows.laid_stevedore_status_outcomes : DataW H) = .agg (((List.range 11).map orow).map fun z => Lib.tabData .i64 z) := rfl
theorem oc_of {W : World} {g : Nat} {t : TypeId} {cs : Array Value} {fuel : Nat} {p : List MemPlace} {sp : Nat → Bool} {held : Bool} {enc : TypeId × Value → Unit} {b : Nat}
    (hg : Tryd.prog.globalNamed "stevedore/status.outcomes" = some g) (ht : (Tryd.prog.globals[g]?).map (·.type) = some t) (hv : W.var? Tryd.prog "stevedore/status.outcomes" = some cs) (hd : DataW.trod enc Tryd.prog W b sp held fuel t cs.toList = some (Rows.laid_stevedore_status_outcomes, p)) : Oc W := by
  obtain ⟨t', e', f', h1, h2, h3, h4, h5, h6, h7, h8⟩ := oc_ty
  obtain rfl := Option.some.inj (h1.symm.trans hg)
  obtain rfl := Option.some.inj (h2.symm.trans ht)
  rw [oc_eq] at hd
  have cell : ∀ i, W.cell? ⟨1, i, none⟩ = cs.toList[i]? := fun i => by simpa using World.var?_cell h1 hv i
  have at' : ∀ i, i < 88 → W.cell? ⟨1, i, none⟩ = some (.int .i64 (otab.getD i 0)) := fun i hi => by
    rw [cell]
    obtain ⟨z, hz, hc⟩ := grid_of h3 h4 h5 h6 h7 h8 hd (i / 8) (by omega)
    rw [List.getElem?_map, List.getElem?_range (by omega)] at hz
    obtain rfl := Option.some.inj hz
    have := congrArg (·[i % 8]?) hc
    rw [List.getElem?_take_of_lt (by omega), List.getElem?_drop, show i / 8 * 8 + i % 8 = i by omega] at this
    rw [this, orow, List.getElem?_map, List.getElem?_take_of_lt (by omega), List.getElem?_drop, show i / 8 * 8 + i % 8 = i by omega, List.getD_eq_getElem?_getD, List.getElem?_eq_getElem (show i < otab.length from hi)]
    rfl
  exact ⟨block_lt_of_cell (at' 0 (by omega)), at'⟩

theorem own : ownKnob Tryd.prog.godebug = none := by kernel_rfl
theorem laidOut : laidOutB Tryd.prog = true := by kernel_rfl
/-- What is listed that is plain. -/
def plain4 : List (String × DataW Unit) := [("stevedore/stevedoreref.table", Rows.laid_stevedore_stevedoreref_table), ("stevedore/status.outcomes", Rows.laid_stevedore_status_outcomes)]
theorem parted {W : World} (h : laidMetH Tryd.prog Rows.statusNextRow.laid W) : laidMet Tryd.prog plain4 W ∧ handlesMet Tryd.prog [("errors.errorType", Rows.laid_errors_errorType)] W := h
theorem et : Tryd.prog.globalNamed "errors.errorType" = some 2 := by kernel_rfl
theorem rtT : (Tryd.prog.cutTypes.find? (·.1 == "internal/reflectlite.rtype")).map (·.2) = some 146 := by kernel_rfl
theorem typesN : Tryd.prog.types.size = 197 := by kernel_rfl
theorem oneRow : ((List.range 197).filter fun t => Tryd.prog.rowNamed t [101, 114, 114, 111, 114]) = [26] := by kernel_rfl
/-- errors.errorType's one cell. -/
theorem errT {W : World} (h : laidMetH Tryd.prog Rows.statusNextRow.laid W) : ErrT W := by
  obtain ⟨name, u, ty, e1, e2, e3, e4, e5⟩ := (parted h).2 _ (List.mem_singleton.2 rfl)
  have en : name = [101, 114, 114, 111, 114] := (Option.some.inj e1).symm
  subst en
  obtain rfl := Option.some.inj (rtT.symm.trans e2)
  have hm : ty ∈ (List.range 197).filter fun t => Tryd.prog.rowNamed t [101, 114, 114, 111, 114] := List.mem_filter.2 ⟨List.mem_range.2 (by rw [← typesN]; exact e3), e4⟩
  rw [oneRow] at hm
  obtain rfl := List.mem_singleton.1 hm
  have hh : typeHandle Tryd.prog 26 = .pointer (some ⟨11, 26, none⟩) := by kernel_rfl
  rw [hh] at e5
  exact ⟨by simpa using World.var?_cell et e5 0⟩
theorem facts {W : World} (h : laidMetH Tryd.prog Rows.statusNextRow.laid W) : Rr W ∧ Oc W := by
  have h := (parted h).1
  obtain ⟨ps, ⟨g2, t2, cs2, f2, p2, q2, hg2, ht2, hv2, hd2, ⟨g4, t4, cs4, f4, p4, q4, hg4, ht4, hv4, hd4, _, _⟩, _⟩, _, _⟩ := h
  exact ⟨rr_of hg2 ht2 hv2 hd2, oc_of hg4 ht4 hv4 hd4⟩

/-- A world that meets what is listed. -/
noncomputable def world0 (os : Os) : World :=
  let w0 := World.holding Tryd.prog os ⟨#[], #[], []⟩
  { w0 with heap := w0.heap.modify 2 fun
      | .cells _ t frozen => .cells #[.iface 146 (.agg #[.pointer (some ⟨11, 26, none⟩)])] t frozen
      | o => o }
noncomputable def world1 (os : Os) : World := (world0 os).layVars Tryd.prog plain4
theorem world1_os (os : Os) : (world1 os).os = os := World.layVars_os _ _ _
theorem world1_met (os : Os) (args : Array Value) : laidMetH Tryd.prog Rows.statusNextRow.laid ((world1 os).forCall (fun _ _ => 0) ⟨#[], args, []⟩).memory := by
  have h : laidMet Tryd.prog plain4 (world1 os) :=
    laidMet_layVars (w0 := world0 os) (plain4.map (·.1)) [] (by kernel_rfl) (by kernel_rfl) (by kernel_rfl) (by
      rw [show (plain4.filter fun x => !(plain4.map (·.1)).contains x.1) = [] from by kernel_rfl]; exact LaidIn.none)
  exact laidMetH_of_parts (h.of_heap (by simp [World.memory, World.forCall, Input.heap])) (by kernel_rfl)

set_option maxRecDepth 100000 in
theorem lifted (os : Os) (started : os.Started) (H : Type) (enc : TypeId × Value → H) :
    ReturnsInHanded {} Tryd.checked os 3 .any (fun w args => (Rows.statusNextSpec.pre enc Tryd.prog Tryd.f3 Rows.statusNextRow.domain false w args ∧ laidMetH Tryd.prog Rows.statusNextRow.laid w) ∧ sizedMet enc Tryd.prog Tryd.f3 (OpenSpec.ofChange Rows.statusNextSpec) false w args)
      (Rows.statusNextSpec.post enc Tryd.prog Tryd.f3 false true false false) := by
  refine returnsInHanded_of_change_and (C := Tryd.checked) (X := fun w _ => laidMetH Tryd.prog Rows.statusNextRow.laid w) (fun _ _ _ hh h => h.of_heap hh) own started (by kernel_rfl) Tryd.func3
    (ChangeSpec.witness_shaped (enc := enc) (C := Tryd.checked) (os := os) (X := fun w _ => laidMetH Tryd.prog Rows.statusNextRow.laid w) false (world1 os) #[.int .i64 0, .int .i64 0] 8 (world1_os os)
      (World.shaped_of_ZipB (by kernel_rfl) (by kernel_rfl)) (by kernel_rfl) (by kernel_rfl) (by kernel_rfl)
      (world1_met os _)) ?_
  intro W base args ds gs before hval0 hW _ _ hL _
  have hval : ∀ (j : Nat) t v, Tryd.f3.params[j]? = some t → args[j]? = some v → Value.okWide Tryd.prog W .any base t v := hval0
  have hW' := hW
  obtain ⟨p, q, hA0, hV, rfl, _, _⟩ := hW
  have hA : DataW.TrodAll enc Tryd.prog W 0 (fun _ => true) true Tryd.f3.params.toList args.toList ds p := hA0
  rw [Tryd.params3] at hA hval
  obtain ⟨v0, v1, d0, d1, p0, p1, rfl, rfl, rfl, h0, h1⟩ := trodAll_two hA
  obtain ⟨rfl, rfl⟩ := trodVars_none hV
  obtain ⟨n, rfl, rfl, rfl, wn⟩ := Go.ChangeShapes.open_int Tryd.underlying3 (hval 0 3 v0 rfl rfl) h0
  obtain ⟨m, rfl, rfl, rfl, wm⟩ := Go.ChangeShapes.open_int Tryd.underlying3 (hval 1 3 v1 rfl rfl) h1
  clear hA0 hval0
  simp only [List.append_nil] at hW'
  refine (nxlaw_any n m W (facts hL).2 (facts hL).1 (errT hL)).mono fun e W' ⟨he, hg⟩ => ?_
  subst he
  refine ⟨_, rfl, _, _, _, [], [], [], hW', ?_, ?_, ?_, hg.frame _, fun h => by cases h⟩
  · exact trodAll_mk1 (shut_bool Tryd.underlying4 _)
  · exact trodAll_mk2 (shut_int Tryd.underlying3 wn) (shut_int Tryd.underlying3 wm)
  · rfl

theorem said : Rows.StatusNextSaid :=
  OpenClaim.holds_of_wide 3 Tryd.f3 rfl rfl rfl rfl rfl rfl rfl ⟨rfl, rfl, rfl, rfl, rfl⟩ rfl rfl rfl rfl rfl (by kernel_rfl) Tryd.func3 (by kernel_rfl)
    (of_decide_eq_true (by kernel_rfl)) (by unfold Func.isWrapper; rw [if_neg (of_decide_eq_false (by kernel_rfl))]; exact ⟨rfl, rfl⟩)
    (fun os started H enc _ => lifted os started H enc)

theorem plain (f : FuncId) (fn : Func) (hf : Tryd.pinned.checked.prog.funcNamed Rows.statusNextRow.func = some f) (hfn : Tryd.pinned.checked.prog.funcs[f]? = some fn) :
    true = Tryd.pinned.checked.prog.looks [] ∧ ∀ (j : Nat) t, fn.params[j]? = some t → Tryd.pinned.checked.prog.wantsStandIn t = false := by
  obtain rfl : f = 3 := Option.some.inj ((show Tryd.prog.funcNamed Rows.statusNextRow.func = some 3 by kernel_rfl).symm.trans hf) |>.symm
  obtain rfl : fn = Tryd.f3 := (Option.some.inj (Tryd.func3.symm.trans hfn)).symm
  refine ⟨by kernel_rfl, fun j t ht => ?_⟩
  rw [Tryd.params3] at ht
  have hm : t ∈ [3, 3] := by simpa using Array.mem_of_getElem? ht
  have hall : ([3, 3].all fun u => !Tryd.prog.wantsStandIn u) = true := by kernel_rfl
  exact (show Tryd.prog.wantsStandIn t = false by simpa using List.all_eq_true.1 hall t (by simpa using hm))

theorem card : Rows.StatusNextCardSaid :=
  Claim7.holds_tied_plain_at .later [] _ _ _ _ said (fun _ h => by cases h) (by kernel_rfl) (fun _ h => by cases h) statusNext_row_tie rfl ⟨rfl, rfl⟩ (by kernel_rfl) rfl plain (by kernel_rfl)
#print axioms card
end Go.Proofs.YtoojbpldhhbkbaaDoor
