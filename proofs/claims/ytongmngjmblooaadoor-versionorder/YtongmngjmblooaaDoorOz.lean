/- For every three versions the law VersionOrder returns true: versions stand in a row, and what a version is written as is that version; its conditions: the listed tables of Go's library read as the card ties them. -/
import Derived.Test.YtongmngjmblooaaDoorKt
import Derived.Test.YtongmngjmblooaaDoorO1
import Derived.Test.YtongmngjmblooaaDoorO2
import Derived.Test.YtongmngjmblooaaDoorO3
import Derived.Test.YtongmngjmblooaaDoorO4
import Derived.Test.YtongmngjmblooaaDoorO5
namespace Go.Proofs.YtongmngjmblooaaDoor
open Go.ChangeShapes Go.WideShapes Go.ChangeAt Go.RowKit Go.Joins

theorem order_any (e1 : Int) (u1 r1 : List UInt8) (e2 : Int) (u2 r2 : List UInt8) (e3 : Int) (u3 r3 : List UInt8) (w : World) (i1 : In64 e1) (i2 : In64 e2) (i3 : In64 e3) (htab : Lib.TabIs Tryd.prog w "internal/strconv.uint64pow10" .u64 Lib.pow10Tab) :
    Calls Tryd.prog 5 #[.agg #[.int .i64 e1, .string ⟨u1.toArray⟩, .string ⟨r1.toArray⟩], .agg #[.int .i64 e2, .string ⟨u2.toArray⟩, .string ⟨r2.toArray⟩], .agg #[.int .i64 e3, .string ⟨u3.toArray⟩, .string ⟨r3.toArray⟩]] w fun x w' => x = .returned (.bool true) ∧ Below w.heap.size w w' := by
  cases s1 : (decide (u1.length ≤ 100) && decide (r1.length ≤ 100)) with
  | false => exact order_s1 e1 u1 r1 e2 u2 r2 e3 u3 r3 w s1
  | true =>
  cases s2 : (decide (u2.length ≤ 100) && decide (r2.length ≤ 100)) with
  | false => exact order_s2 e1 u1 r1 e2 u2 r2 e3 u3 r3 w s1 s2
  | true =>
  cases s3 : (decide (u3.length ≤ 100) && decide (r3.length ≤ 100)) with
  | false => exact order_s3 e1 u1 r1 e2 u2 r2 e3 u3 r3 w s1 s2 s3
  | true =>
  cases t1 : Vm.rt e1 u1 r1 with
  | false => exact order_r1 e1 u1 r1 e2 u2 r2 e3 u3 r3 w s1 s2 s3 i1 i2 i3 htab ⟨t1⟩
  | true =>
  cases t2 : Vm.rt e2 u2 r2 with
  | false => exact order_r2 e1 u1 r1 e2 u2 r2 e3 u3 r3 w s1 s2 s3 i1 i2 i3 htab ⟨t1⟩ ⟨t2⟩
  | true =>
  cases t3 : Vm.rt e3 u3 r3 with
  | false => exact order_r3 e1 u1 r1 e2 u2 r2 e3 u3 r3 w s1 s2 s3 i1 i2 i3 htab ⟨t1⟩ ⟨t2⟩ ⟨t3⟩
  | true =>
    obtain ⟨m, n, k, O⟩ := orders_of e1 u1 r1 e2 u2 r2 e3 u3 r3 s1 s2 s3
    rcases combos m n k O.facts with ⟨qa, qb, qc, qd, qe⟩ | ⟨qa, qb, qc, qd, qe⟩ | ⟨qa, -, qc, qd, qe⟩ | ⟨qa, qb, qc, -, qe⟩ | ⟨qa, -, qc, -, qe⟩
    · exact order_m1 e1 u1 r1 e2 u2 r2 e3 u3 r3 w s1 s2 s3 i1 i2 i3 htab ⟨t1⟩ ⟨t2⟩ ⟨t3⟩ m n k O O.facts qa qb qc qd qe
    · exact order_m2 e1 u1 r1 e2 u2 r2 e3 u3 r3 w s1 s2 s3 i1 i2 i3 htab ⟨t1⟩ ⟨t2⟩ ⟨t3⟩ m n k O O.facts qa qb qc qd qe
    · exact order_m3 e1 u1 r1 e2 u2 r2 e3 u3 r3 w s1 s2 s3 i1 i2 i3 htab ⟨t1⟩ ⟨t2⟩ ⟨t3⟩ m n k O O.facts qa qc qd qe
    · exact order_m4 e1 u1 r1 e2 u2 r2 e3 u3 r3 w s1 s2 s3 i1 i2 i3 htab ⟨t1⟩ ⟨t2⟩ ⟨t3⟩ m n k O O.facts qa qb qc qe
    · exact order_m5 e1 u1 r1 e2 u2 r2 e3 u3 r3 w s1 s2 s3 i1 i2 i3 htab ⟨t1⟩ ⟨t2⟩ ⟨t3⟩ m n k O O.facts qa qc qe

theorem in64 {e : Int} (h : (Lit.int .i64 e).wf = true) : In64 e := by
  have hb := bounds_i64 h
  exact ⟨by omega, by omega⟩

/-- What is listed gives the table. -/
theorem table {W : World} (h : laidMetH Tryd.prog Rows.versionOrderRow.laid W) : Lib.TabIs Tryd.prog W "internal/strconv.uint64pow10" .u64 Lib.pow10Tab := by
  rw [MakeChecks.laidMetH_plain _ _ _ (by kernel_rfl)] at h
  obtain ⟨ps, ⟨_, _, _, _, _, _, _, _, _, _, ⟨_, _, _, _, _, _, _, _, _, _, ⟨g2, t2, cs2, f2, p2, q2, hg2, ht2, hv2, hd2, _, _⟩, _⟩, _⟩, _, _⟩ := h
  exact tab_of hg2 ht2 hv2 hd2

set_option maxRecDepth 100000 in
theorem lifted (os : Os) (started : os.Started) (H : Type) (enc : TypeId × Value → H) :
    ReturnsInHanded {} Tryd.checked os 5 .any (fun w args => (Rows.versionOrderSpec.pre enc Tryd.prog Tryd.f5 Rows.versionOrderRow.domain false w args ∧ laidMetH Tryd.prog Rows.versionOrderRow.laid w) ∧ sizedMet enc Tryd.prog Tryd.f5 (OpenSpec.ofChange Rows.versionOrderSpec) false w args)
      (Rows.versionOrderSpec.post enc Tryd.prog Tryd.f5 false true false false) := by
  refine returnsInHanded_of_change_and (C := Tryd.checked) (X := fun w _ => laidMetH Tryd.prog Rows.versionOrderRow.laid w) (fun _ _ _ hh h => h.of_heap hh) own started (by kernel_rfl) Tryd.func5
    (ChangeSpec.witness_shaped (enc := enc) (C := Tryd.checked) (os := os) (X := fun w _ => laidMetH Tryd.prog Rows.versionOrderRow.laid w) false (World.laidAll Tryd.prog os Rows.versionOrderRow.laid) #[.agg #[.int .i64 0, .string ⟨#[]⟩, .string ⟨#[]⟩], .agg #[.int .i64 0, .string ⟨#[]⟩, .string ⟨#[]⟩], .agg #[.int .i64 0, .string ⟨#[]⟩, .string ⟨#[]⟩]] 8 (World.laidAll_os _ _ _)
      (World.shaped_of_ZipB (by kernel_rfl) (by kernel_rfl)) (by kernel_rfl) (by kernel_rfl) (by kernel_rfl)
      (by rw [MakeChecks.laidMetH_plain _ _ _ (by kernel_rfl)]; exact laidMet_laidAll _ (by kernel_rfl) (by kernel_rfl))) ?_
  intro W base args ds gs before hval0 hW _ _ hL _
  have hval : ∀ (j : Nat) t v, Tryd.f5.params[j]? = some t → args[j]? = some v → Value.okWide Tryd.prog W .any base t v := hval0
  have hW' := hW
  obtain ⟨p, q, hA0, hV, rfl, _, _⟩ := hW
  have hA : DataW.TrodAll enc Tryd.prog W 0 (fun _ => true) true Tryd.f5.params.toList args.toList ds p := hA0
  rw [Tryd.params5] at hA hval
  obtain ⟨v0, v1, v2, d0, d1, d2, p0, p1, p2, rfl, rfl, rfl, h0, h1, h2⟩ := trodAll_three hA
  obtain ⟨rfl, rfl⟩ := trodVars_none hV
  obtain ⟨e1, u1, r1, rfl, rfl, rfl, we1, wu1, wr1⟩ := open_ver (hval 0 23 v0 rfl rfl) h0
  obtain ⟨e2, u2, r2, rfl, rfl, rfl, we2, wu2, wr2⟩ := open_ver (hval 1 23 v1 rfl rfl) h1
  obtain ⟨e3, u3, r3, rfl, rfl, rfl, we3, wu3, wr3⟩ := open_ver (hval 2 23 v2 rfl rfl) h2
  clear hA0 hval0
  simp only [List.append_nil] at hW'
  refine (order_any e1 u1 r1 e2 u2 r2 e3 u3 r3 W (in64 we1) (in64 we2) (in64 we3) (table hL)).mono fun e W' ⟨he, hg⟩ => ?_
  subst he
  refine ⟨_, rfl, _, _, _, [], [], [], hW', ?_, ?_, ?_, hg.frame _, fun h => by cases h⟩
  · exact trodAll_mk1 (shut_bool Tryd.underlying4 _)
  · exact trodAll_mk3 (shut_ver we1 wu1 wr1) (shut_ver we2 wu2 wr2) (shut_ver we3 wu3 wr3)
  · rfl

theorem said : Rows.VersionOrderSaid :=
  OpenClaim.holds_of_wide 5 Tryd.f5 rfl rfl rfl rfl rfl rfl rfl ⟨rfl, rfl, rfl, rfl, rfl⟩ rfl rfl rfl rfl rfl (by kernel_rfl) Tryd.func5 (by kernel_rfl)
    (of_decide_eq_true (by kernel_rfl)) (by unfold Func.isWrapper; rw [if_neg (of_decide_eq_false (by kernel_rfl))]; exact ⟨rfl, rfl⟩)
    (fun os started H enc _ => lifted os started H enc)

theorem plain (f : FuncId) (fn : Func) (hf : Tryd.pinned.checked.prog.funcNamed Rows.versionOrderRow.func = some f) (hfn : Tryd.pinned.checked.prog.funcs[f]? = some fn) :
    true = Tryd.pinned.checked.prog.looks [] ∧ ∀ (j : Nat) t, fn.params[j]? = some t → Tryd.pinned.checked.prog.wantsStandIn t = false := by
  obtain rfl : f = 5 := Option.some.inj ((show Tryd.prog.funcNamed Rows.versionOrderRow.func = some 5 by kernel_rfl).symm.trans hf) |>.symm
  obtain rfl : fn = Tryd.f5 := (Option.some.inj (Tryd.func5.symm.trans hfn)).symm
  refine ⟨by kernel_rfl, fun j t ht => ?_⟩
  rw [Tryd.params5] at ht
  have hm : t ∈ [23, 23, 23] := by simpa using Array.mem_of_getElem? ht
  have hall : ([23, 23, 23].all fun u => !Tryd.prog.wantsStandIn u) = true := by kernel_rfl
  exact (show Tryd.prog.wantsStandIn t = false by simpa using List.all_eq_true.1 hall t (by simpa using hm))

theorem card : Rows.VersionOrderCardSaid :=
  Claim7.holds_tied_plain_at .later [] _ _ _ _ said (fun _ h => by cases h) (by kernel_rfl) (fun _ h => by cases h) versionOrder_row_tie rfl ⟨rfl, rfl⟩ (by kernel_rfl) rfl plain (by kernel_rfl)
#print axioms card
end Go.Proofs.YtongmngjmblooaaDoor
