/- For all packages that are known, and every number, the law CheckLines returns true: who would miss whom, and in which order packages do what they are there for, is the document's; its conditions: the listed tables read as the card ties them. -/
import Derived.Test.YthijccmiemlilaaGreatDoorCards
import Derived.Test.YthijccmiemlilaaGreatDoorTie
import Derived.Test.YthijccmiemlilaaGreatDoorGt
import Derived.Test.YthijccmiemlilaaGreatDoorKv
import Derived.ProofKit
import Derived.OpenShut
import Derived.Lay
import Derived.SevenTiedAt
import Derived.Stop.Joined
import Derived.Lib.SmallJoins
import Derived.Lib.LaidTab
import Derived.LaidHandle
import Derived.HandedShaped
import Derived.Shelf.Vars
import Derived.Carry
namespace Go.Proofs.YthijccmiemlilaaGreatDoor
open Go.ChangeShapes Go.WideShapes Go.ChangeAt Go.RowKit Go.Joins

/-- An array of strings that reads as texts holds them, cell for cell. -/
theorem strA_of {H : Type} {enc : TypeId × Value → H} {P : Program} {w : World} {base : Nat} {sp : Nat → Bool} {held : Bool} {fuel : Nat} {t e : TypeId} {n : Nat} {cs : List Value} {zs : List (List UInt8)} {p : List MemPlace}
    (ht : P.underlying t = some (.array n e)) (he : P.underlying e = some .string) (hce : P.cellsOf e = 1) (hct : P.cellsOf t = n)
    (h : DataW.trod enc P w base sp held fuel t cs = some (.agg (zs.map fun z => .lit (.string z)), p)) : cs = zs.map fun z => Value.string ⟨z.toArray⟩ := by
  cases fuel with
  | zero => simp [DataW.trod] at h
  | succ fuel =>
    simp only [DataW.trod, ht, hce, hct, Nat.mul_one] at h
    split at h
    · rename_i hl
      obtain ⟨xs, hm, hx⟩ := Option.map_eq_some_iff.1 h
      have hxs : xs.map (·.1) = zs.map fun z => (DataW.lit (.string z) : DataW H) := by
        have := congrArg Prod.fst hx
        simpa using this
      have hxl : xs.length = n := by simpa using Lib.mapM_length hm
      have hzl : zs.length = n := by
        have := congrArg List.length hxs
        simp at this
        omega
      apply List.ext_getElem?
      intro i
      by_cases hi : i < n
      · obtain ⟨b, hb, hf⟩ := Lib.mapM_at hm i i (by simp [hi])
        obtain ⟨z, hc, hz, _⟩ := DataW.trod_string he hf
        have h1 : cs[i]? = some (.string z) := by
          have := congrArg (·[0]?) hc
          simpa [List.getElem?_take, List.getElem?_drop] using this
        have h2 : (xs.map (·.1))[i]? = some b.1 := by simp [hb]
        rw [hxs] at h2
        rw [h1]
        have h3 : ∃ y, zs[i]? = some y ∧ (DataW.lit (.string y) : DataW H) = b.1 := by simpa using h2
        obtain ⟨y, hy, e⟩ := h3
        rw [List.getElem?_map, hy, Option.map_some]
        rw [hz] at e
        simp at e
        rw [e]
      · rw [List.getElem?_eq_none (by omega), List.getElem?_eq_none (by simp; omega)]
    · cases h

/-- An array of arrays of integers that reads as rows holds them, cell for cell. -/
theorem grid_of {H : Type} {enc : TypeId × Value → H} {P : Program} {w : World} {base : Nat} {sp : Nat → Bool} {held : Bool} {fuel : Nat} {t e f : TypeId} {n m : Nat} {k : IntKind} {cs : List Value} {zs : List (List Int)} {p : List MemPlace}
    (ht : P.underlying t = some (.array n e)) (he : P.underlying e = some (.array m f)) (hf' : P.underlying f = some (.int k)) (hcf : P.cellsOf f = 1) (hce : P.cellsOf e = m) (hct : P.cellsOf t = n * m)
    (h : DataW.trod enc P w base sp held fuel t cs = some (.agg (zs.map fun z => Lib.tabData k z), p)) (i : Nat) (hi : i < n) : ∃ z, zs[i]? = some z ∧ (cs.drop (i * m)).take m = z.map fun x => Value.int k x := by
  cases fuel with
  | zero => simp [DataW.trod] at h
  | succ fuel =>
    simp only [DataW.trod, ht, hce, hct] at h
    split at h
    · obtain ⟨xs, hm, hx⟩ := Option.map_eq_some_iff.1 h
      have hxs : xs.map (·.1) = zs.map fun z => (Lib.tabData k z : DataW H) := by
        have := congrArg Prod.fst hx
        simpa using this
      obtain ⟨b, hb, hf⟩ := Lib.mapM_at hm i i (by simp [hi])
      have h2 : (xs.map (·.1))[i]? = some b.1 := by simp [hb]
      rw [hxs] at h2
      have h3 : ∃ y, zs[i]? = some y ∧ (Lib.tabData k y : DataW H) = b.1 := by simpa using h2
      obtain ⟨y, hy, e1⟩ := h3
      refine ⟨y, hy, ?_⟩
      obtain ⟨b1, b2⟩ := b
      dsimp only at e1 hf
      subst e1
      exact Lib.cells_of_tab he hf' hcf hce hf
    · cases h

theorem tb_ty : ∃ t e, Tryz.prog.globalNamed "stevedore/stevedoreref.table" = some 2 ∧ (Tryz.prog.globals[2]?).map (·.type) = some t ∧ Tryz.prog.underlying t = some (.array 10 e) ∧ Tryz.prog.underlying e = some .string ∧ Tryz.prog.cellsOf e = 1 ∧ Tryz.prog.cellsOf t = 10 := ⟨_, 9, by kernel_rfl, rfl, by kernel_rfl, by kernel_rfl, by kernel_rfl, by kernel_rfl⟩
theorem tb_eq {H : Type} : (Rows.laid_stevedore_stevedoreref_table : DataW H) = .agg (((List.range 10).map rrow).map fun z => .lit (.string z)) := rfl
theorem rr_of {W : World} {g : Nat} {t : TypeId} {cs : Array Value} {fuel : Nat} {p : List MemPlace} {sp : Nat → Bool} {held : Bool} {enc : TypeId × Value → Unit} {b : Nat}
    (hg : Tryz.prog.globalNamed "stevedore/stevedoreref.table" = some g) (ht : (Tryz.prog.globals[g]?).map (·.type) = some t) (hv : W.var? Tryz.prog "stevedore/stevedoreref.table" = some cs) (hd : DataW.trod enc Tryz.prog W b sp held fuel t cs.toList = some (Rows.laid_stevedore_stevedoreref_table, p)) : Rr W := by
  obtain ⟨t', e', h1, h2, h3, h4, h5, h6⟩ := tb_ty
  obtain rfl := Option.some.inj (h1.symm.trans hg)
  obtain rfl := Option.some.inj (h2.symm.trans ht)
  rw [tb_eq] at hd
  have hcs := strA_of h3 h4 h5 h6 hd
  have cell : ∀ i, W.cell? ⟨2, i, none⟩ = cs.toList[i]? := fun i => by simpa using World.var?_cell h1 hv i
  have at' : ∀ i, i < 10 → W.cell? ⟨2, i, none⟩ = some (.string ⟨(rrow i).toArray⟩) := fun i hi => by
    rw [cell, hcs, List.getElem?_map, List.getElem?_map, List.getElem?_range hi]; rfl
  exact ⟨block_lt_of_cell (at' 0 (by omega)), at'⟩
theorem oc_ty : ∃ t e f, Tryz.prog.globalNamed "stevedore/status.outcomes" = some 1 ∧ (Tryz.prog.globals[1]?).map (·.type) = some t ∧ Tryz.prog.underlying t = some (.array 11 e) ∧ Tryz.prog.underlying e = some (.array 8 f) ∧ Tryz.prog.underlying f = some (.int .i64) ∧ Tryz.prog.cellsOf f = 1 ∧ Tryz.prog.cellsOf e = 8 ∧ Tryz.prog.cellsOf t = 11 * 8 := ⟨_, 149, 3, by kernel_rfl, rfl, by kernel_rfl, by kernel_rfl, by kernel_rfl, by kernel_rfl, by kernel_rfl, by kernel_rfl⟩
def orow (i : Nat) : List Int := (otab.drop (i * 8)).take 8
theorem oc_eq {H : Type} : (Rows.laid_stevedore_status_outcomes : DataW H) = .agg (((List.range 11).map orow).map fun z => Lib.tabData .i64 z) := rfl
theorem oc_of {W : World} {g : Nat} {t : TypeId} {cs : Array Value} {fuel : Nat} {p : List MemPlace} {sp : Nat → Bool} {held : Bool} {enc : TypeId × Value → Unit} {b : Nat}
    (hg : Tryz.prog.globalNamed "stevedore/status.outcomes" = some g) (ht : (Tryz.prog.globals[g]?).map (·.type) = some t) (hv : W.var? Tryz.prog "stevedore/status.outcomes" = some cs) (hd : DataW.trod enc Tryz.prog W b sp held fuel t cs.toList = some (Rows.laid_stevedore_status_outcomes, p)) : Oc W := by
  obtain ⟨t', e', f', h1, h2, h3, h4, h5, h6, h7, h8⟩ := oc_ty
  obtain rfl := Option.some.inj (h1.symm.trans hg)
  obtain rfl := Option.some.inj (h2.symm.trans ht)
  rw [oc_eq] at hd
  have cell : ∀ i, W.cell? ⟨1, i, none⟩ = cs.toList[i]? := fun i => by simpa using World.var?_cell h1 hv i
  have at' : ∀ i, i < 88 → W.cell? ⟨1, i, none⟩ = some (.int .i64 (otab.getD i 0)) := fun i hi => by
    rw [cell]
    obtain ⟨z, hz, hc⟩ := grid_of h3 h4 h5 h6 h7 h8 hd (i / 8) (by omega)
    rw [List.getElem?_map, List.getElem?_range (by omega)] at hz
    obtain rfl := Option.some.inj hz
    have := congrArg (·[i % 8]?) hc
    rw [List.getElem?_take_of_lt (by omega), List.getElem?_drop, show i / 8 * 8 + i % 8 = i by omega] at this
    rw [this, orow, List.getElem?_map, List.getElem?_take_of_lt (by omega), List.getElem?_drop, show i / 8 * 8 + i % 8 = i by omega, List.getD_eq_getElem?_getD, List.getElem?_eq_getElem (show i < otab.length from hi)]
    rfl
  exact ⟨block_lt_of_cell (at' 0 (by omega)), at'⟩

theorem own : ownKnob Tryz.prog.godebug = none := by kernel_rfl
theorem laidOut : laidOutB Tryz.prog = true := by kernel_rfl
/-- What is listed that is plain. -/
def plain5 : List (String × DataW Unit) := [("unicode/utf8.acceptRanges", Rows.laid_unicode_utf8_acceptRanges), ("stevedore/stevedoreref.table", Rows.laid_stevedore_stevedoreref_table), ("stevedore/stevedoreref.Fine", Rows.laid_stevedore_stevedoreref_Fine), ("stevedore/status.outcomes", Rows.laid_stevedore_status_outcomes), ("unicode/utf8.first", Rows.laid_unicode_utf8_first)]
theorem parted {W : World} (h : laidMetH Tryz.prog Rows.checkLinesRow.laid W) : laidMet Tryz.prog plain5 W := by
  rw [MakeChecks.laidMetH_plain _ _ _ (by kernel_rfl)] at h
  exact h
theorem und42 : ∃ f0 f1 : Field, Tryz.prog.underlying 42 = some (.struct #[f0, f1]) ∧ f0.offset = 0 ∧ f1.offset = 1 ∧ f0.type = 40 ∧ f1.type = 3 := ⟨_, _, Tryz.underlying42, rfl, rfl, rfl, rfl⟩
theorem cells42 : Tryz.prog.cellsOf 42 = 2 := by kernel_rfl
theorem cellsE : Tryz.prog.cellsOf 40 = 1 := by kernel_rfl
theorem fineG : Tryz.prog.globalNamed "stevedore/stevedoreref.Fine" = some 0 := by kernel_rfl
theorem fineT : (Tryz.prog.globals[0]?).map (·.type) = some 42 := by kernel_rfl
theorem int_of {H : Type} {enc : TypeId × Value → H} {W : World} {b : Nat} {sp : Nat → Bool} {held : Bool} {n : Nat} {t : TypeId} {v : Value} {y : DataW H × List MemPlace} {z : Int} (hu : Tryz.prog.underlying t = some (.int .i64)) (h : DataW.trod enc Tryz.prog W b sp held n t [v] = some y) (hy : y.1 = .lit (.int .i64 z)) : v = .int .i64 z := by
  obtain ⟨z', e0, rfl, _⟩ := DataW.trod_int hu h
  simp at e0 hy
  rw [e0, hy]

theorem fi_of {W : World} {g : Nat} {t : TypeId} {cs : Array Value} {fuel : Nat} {p : List MemPlace} {sp : Nat → Bool} {held : Bool} {enc : TypeId × Value → Unit} {b : Nat}
    (hg2 : Tryz.prog.globalNamed "stevedore/stevedoreref.Fine" = some g) (ht2 : (Tryz.prog.globals[g]?).map (·.type) = some t) (hv2 : W.var? Tryz.prog "stevedore/stevedoreref.Fine" = some cs) (hd2 : DataW.trod enc Tryz.prog W b sp held fuel t cs.toList = some (Rows.laid_stevedore_stevedoreref_Fine, p)) : Fi W := by
  obtain rfl := Option.some.inj (fineG.symm.trans hg2)
  obtain rfl := Option.some.inj (fineT.symm.trans ht2)
  obtain ⟨f0, f1, hu, o0, o1, t0, t1⟩ := und42
  obtain ⟨y0, y1, n, hx, hl, h0, h1⟩ := trod_struct2 hu hd2
  rw [cells42] at hl
  rw [o0, t0, cellsE] at h0
  rw [o1, t1, cells3'] at h1
  obtain ⟨cs⟩ := cs
  match cs, hl with
  | [a, b], _ =>
    simp [Rows.laid_stevedore_stevedoreref_Fine] at hx
    obtain ⟨⟨e0, e1⟩, _⟩ := hx
    have ea := int_of Tryz.underlying40 (by simpa using h0) e0.symm
    have eb := int_of Tryz.underlying3 (by simpa using h1) e1.symm
    subst ea eb
    exact ⟨by simpa using World.var?_cell fineG hv2 0, by simpa using World.var?_cell fineG hv2 1⟩
theorem facts {W : World} (h : laidMetH Tryz.prog Rows.checkLinesRow.laid W) : Rr W ∧ Fi W ∧ Oc W := by
  have h := parted h
  obtain ⟨ps, ⟨_, _, _, _, _, _, _, _, _, _, ⟨g2, t2, cs2, f2, p2, q2, hg2, ht2, hv2, hd2, ⟨g3, t3, cs3, f3, p3, q3, hg3, ht3, hv3, hd3, ⟨g4, t4, cs4, f4, p4, q4, hg4, ht4, hv4, hd4, _, _⟩, _⟩, _⟩, _⟩, _, _⟩ := h
  exact ⟨rr_of hg2 ht2 hv2 hd2, fi_of hg3 ht3 hv3 hd3, oc_of hg4 ht4 hv4 hd4⟩

set_option maxRecDepth 100000 in
theorem lifted (os : Os) (started : os.Started) (H : Type) (enc : TypeId × Value → H) :
    ReturnsInHanded {} Tryz.checked os 4 .any (fun w args => (Rows.checkLinesSpec.pre enc Tryz.prog Tryz.f4 Rows.checkLinesRow.domain false w args ∧ laidMetH Tryz.prog Rows.checkLinesRow.laid w) ∧ sizedMet enc Tryz.prog Tryz.f4 (OpenSpec.ofChange Rows.checkLinesSpec) false w args)
      (Rows.checkLinesSpec.post enc Tryz.prog Tryz.f4 false true false false) := by
  refine returnsInHanded_of_change_and (C := Tryz.checked) (X := fun w _ => laidMetH Tryz.prog Rows.checkLinesRow.laid w) (fun _ _ _ hh h => h.of_heap hh) own started (by kernel_rfl) Tryz.func4
    (ChangeSpec.witness_shaped (enc := enc) (C := Tryz.checked) (os := os) (X := fun w _ => laidMetH Tryz.prog Rows.checkLinesRow.laid w) false (World.laidAll Tryz.prog os Rows.checkLinesRow.laid) #[.slice none 0 0, .int .i64 0] 8 (World.laidAll_os _ _ _)
      (World.shaped_of_ZipB (by kernel_rfl) (by kernel_rfl)) (by kernel_rfl) (by kernel_rfl) (by kernel_rfl)
      (by rw [MakeChecks.laidMetH_plain _ _ _ (by kernel_rfl)]; exact laidMet_laidAll _ (by kernel_rfl) (by kernel_rfl))) ?_
  intro W base args ds gs before hval0 hW _ _ hL _
  have hval : ∀ (j : Nat) t v, Tryz.f4.params[j]? = some t → args[j]? = some v → Value.okWide Tryz.prog W .any base t v := hval0
  have hW' := hW
  obtain ⟨p, q, hA0, hV, rfl, _, _⟩ := hW
  have hA : DataW.TrodAll enc Tryz.prog W 0 (fun _ => true) true Tryz.f4.params.toList args.toList ds p := hA0
  rw [Tryz.params4] at hA hval
  obtain ⟨v0, v1, d0, d1, p0, p1, rfl, rfl, rfl, h0, h1⟩ := trodAll_two hA
  obtain ⟨rfl, rfl⟩ := trodVars_none hV
  obtain ⟨A0, n0, c0, rfl⟩ := okWide_slice Tryz.underlying22 (hval 0 22 v0 rfl rfl)
  obtain ⟨m, rfl, rfl, rfl, wm⟩ := Go.ChangeShapes.open_int Tryz.underlying3 (hval 1 3 v1 rfl rfl) h1
  obtain ⟨l, hl⟩ := knowns_of (v := .slice A0 n0 c0) (x := (d0, p0)) h0.choose_spec
  clear hA0 hval0 hval
  simp only [List.append_nil] at hW'
  have hlt : ∀ x ∈ p0, x.block < W.heap.size := fun x hx => hW'.lt x hx
  refine (lines_any _ l m W hl (facts hL).2.2 (facts hL).1 (facts hL).2.1).mono fun e W' ⟨he, hg⟩ => ?_
  subst he
  refine ⟨_, rfl, _, _, _, [], p0 ++ [], [], (by simpa using hW'), ?_, ?_, ?_, hg.frame _, fun h => by cases h⟩
  · exact trodAll_mk1 (shut_bool Tryz.underlying4 _)
  · exact trodAll_mk2 (Below.trod laidOut (by kernel_rfl) (of_decide_eq_true (by kernel_rfl)) h0 hg hlt) (shut_int Tryz.underlying3 wm)
  · rfl

theorem said : Rows.CheckLinesSaid :=
  OpenClaim.holds_of_wide 4 Tryz.f4 rfl rfl rfl rfl rfl rfl rfl ⟨rfl, rfl, rfl, rfl, rfl⟩ rfl rfl rfl rfl rfl (by kernel_rfl) Tryz.func4 (by kernel_rfl)
    (of_decide_eq_true (by kernel_rfl)) (by unfold Func.isWrapper; rw [if_neg (of_decide_eq_false (by kernel_rfl))]; exact ⟨rfl, rfl⟩)
    (fun os started H enc _ => lifted os started H enc)

theorem plain (f : FuncId) (fn : Func) (hf : Tryz.pinned.checked.prog.funcNamed Rows.checkLinesRow.func = some f) (hfn : Tryz.pinned.checked.prog.funcs[f]? = some fn) :
    true = Tryz.pinned.checked.prog.looks [] ∧ ∀ (j : Nat) t, fn.params[j]? = some t → Tryz.pinned.checked.prog.wantsStandIn t = false := by
  obtain rfl : f = 4 := Option.some.inj ((show Tryz.prog.funcNamed Rows.checkLinesRow.func = some 4 by kernel_rfl).symm.trans hf) |>.symm
  obtain rfl : fn = Tryz.f4 := (Option.some.inj (Tryz.func4.symm.trans hfn)).symm
  refine ⟨by kernel_rfl, fun j t ht => ?_⟩
  rw [Tryz.params4] at ht
  have hm : t ∈ [22, 3] := by simpa using Array.mem_of_getElem? ht
  have hall : ([22, 3].all fun u => !Tryz.prog.wantsStandIn u) = true := by kernel_rfl
  exact (show Tryz.prog.wantsStandIn t = false by simpa using List.all_eq_true.1 hall t (by simpa using hm))

theorem card : Rows.CheckLinesCardSaid :=
  Claim7.holds_tied_plain_at .later [] _ _ _ _ said (fun _ h => by cases h) (by kernel_rfl) (fun _ h => by cases h) checkLines_row_tie rfl ⟨rfl, rfl⟩ (by kernel_rfl) rfl plain (by kernel_rfl)
#print axioms card
end Go.Proofs.YthijccmiemlilaaGreatDoor
