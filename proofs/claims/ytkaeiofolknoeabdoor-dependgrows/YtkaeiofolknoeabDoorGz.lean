/- For all lists of what is asked for and of packages that are there the law DependGrows returns true: what is met is met with more offers, in any order, and by no version; its conditions: the listed tables read as the card ties them. -/
import Derived.Test.YtkaeiofolknoeabDoorCards
import Derived.Test.YtkaeiofolknoeabDoorTie
import Derived.Test.YtkaeiofolknoeabDoorGc
import Derived.Test.YtkaeiofolknoeabDoorGe
import Derived.Test.YtkaeiofolknoeabDoorTk
import Derived.Test.YtkaeiofolknoeabDoorGy
import Derived.ProofKit
import Derived.OpenShut
import Derived.Lay
import Derived.SevenTiedAt
import Derived.Stop.Joined
import Derived.Lib.SmallJoins
import Derived.Carry
namespace Go.Proofs.YtkaeiofolknoeabDoor
open Go.ChangeShapes Go.WideShapes Go.ChangeAt Go.RowKit Go.Joins

/-- The law. -/
theorem grows_any (v1 v2 va vb : Value) (l m : List (List Tm)) (a b : List Ofr) (w : World) (h1 : As w v1 l) (h2 : As w v2 m) (ha : Os' w va a) (hb : Os' w vb b) (s1 : Ns v1) (s2 : Ns v2) (sa : Ns va) (sb : Ns vb) (hG : Sg w) (hT : Tab w) :
    Calls Tryd.prog 6 #[v1, v2, va, vb] w fun x w' => x = .returned (.bool true) ∧ Below w.heap.size w w' := by
  cases t1 : tla l with
  | false => exact grows_no1 v1 v2 va vb l w h1 t1
  | true =>
    cases t2 : tla m with
    | false => exact grows_no2 v1 v2 va vb l m w h1 h2 t1 t2
    | true =>
      by_cases na : a.length ≤ 15
      · by_cases nb : b.length ≤ 15
        · exact grows_main v1 v2 va vb l m a b w h1 h2 ha hb t1 t2 na nb s1 s2 sa sb (fun W hW => asked_any W (hG.on hW) (tab_on hT hW))
        · exact grows_long v1 v2 va vb l m a b w h1 h2 ha hb t1 t2 (.inr ⟨na, by omega⟩)
      · exact grows_long v1 v2 va vb l m a b w h1 h2 ha hb t1 t2 (.inl (by omega))

theorem own : ownKnob Tryd.prog.godebug = none := by kernel_rfl
theorem laidOut : laidOutB Tryd.prog = true := by kernel_rfl
theorem ns_of {H : Type} {enc : TypeId × Value → H} {W : World} {base : Nat} {spare : Nat → Bool} {held : Bool} {t e : TypeId} {n : Nat} {v : Value} {x : DataW H × List MemPlace} (ht : Tryd.prog.underlying t = some (.slice e)) (h : DataW.trod enc Tryd.prog W base spare held n t [v] = some x) : Ns v := by
  rcases Go.Deep.open_slice ht h with ⟨hc, _⟩ | ⟨a, len, cap, m, k, D, Pl, hc, _⟩
  · simp at hc; subst hc; exact ⟨.inl rfl⟩
  · simp at hc; subst hc; exact ⟨.inr ⟨_, _, _, rfl⟩⟩

theorem facts {W : World} (h : laidMetH Tryd.prog Rows.dependGrowsRow.laid W) : Sg W ∧ Tab W := by
  rw [MakeChecks.laidMetH_plain _ _ _ (by kernel_rfl)] at h
  obtain ⟨ps, ⟨_, _, _, _, _, _, _, _, _, _, ⟨_, _, _, _, _, _, _, _, _, _, ⟨g2, t2, cs2, f2, p2, q2, hg2, ht2, hv2, hd2, ⟨_, _, _, _, _, _, _, _, _, _, ⟨g4, t4, cs4, f4, p4, q4, hg4, ht4, hv4, hd4, _, _⟩, _⟩, _⟩, _⟩, _⟩, _, _⟩ := h
  exact ⟨sg_of hg4 ht4 hv4 hd4, tab_of hg2 ht2 hv2 hd2⟩
set_option maxRecDepth 100000 in
theorem lifted (os : Os) (started : os.Started) (H : Type) (enc : TypeId × Value → H) :
    ReturnsInHanded {} Tryd.checked os 6 .any (fun w args => (Rows.dependGrowsSpec.pre enc Tryd.prog Tryd.f6 Rows.dependGrowsRow.domain false w args ∧ laidMetH Tryd.prog Rows.dependGrowsRow.laid w) ∧ sizedMet enc Tryd.prog Tryd.f6 (OpenSpec.ofChange Rows.dependGrowsSpec) false w args)
      (Rows.dependGrowsSpec.post enc Tryd.prog Tryd.f6 false true false false) := by
  refine returnsInHanded_of_change_and (C := Tryd.checked) (X := fun w _ => laidMetH Tryd.prog Rows.dependGrowsRow.laid w) (fun _ _ _ hh h => h.of_heap hh) own started (by kernel_rfl) Tryd.func6
    (ChangeSpec.witness_shaped (enc := enc) (C := Tryd.checked) (os := os) (X := fun w _ => laidMetH Tryd.prog Rows.dependGrowsRow.laid w) false (World.laidAll Tryd.prog os Rows.dependGrowsRow.laid) #[.slice none 0 0, .slice none 0 0, .slice none 0 0, .slice none 0 0] 8 (World.laidAll_os _ _ _)
      (World.shaped_of_ZipB (by kernel_rfl) (by kernel_rfl)) (by kernel_rfl) (by kernel_rfl) (by kernel_rfl)
      (by rw [MakeChecks.laidMetH_plain _ _ _ (by kernel_rfl)]; exact laidMet_laidAll _ (by kernel_rfl) (by kernel_rfl))) ?_
  intro W base args ds gs before hval0 hW _ _ hL _
  have hval : ∀ (j : Nat) t v, Tryd.f6.params[j]? = some t → args[j]? = some v → Value.okWide Tryd.prog W .any base t v := hval0
  have hW' := hW
  obtain ⟨p, q, hA0, hV, rfl, _, _⟩ := hW
  have hA : DataW.TrodAll enc Tryd.prog W 0 (fun _ => true) true Tryd.f6.params.toList args.toList ds p := hA0
  rw [Tryd.params6] at hA hval
  obtain ⟨v0, v1, v2, v3, d0, d1, d2, d3, p0, p1, p2, p3, rfl, rfl, rfl, h0, h1, h2, h3⟩ := trodAll_four hA
  obtain ⟨rfl, rfl⟩ := trodVars_none hV
  obtain ⟨A0, n0, c0, rfl⟩ := okWide_slice Tryd.underlying39 (hval 0 39 v0 rfl rfl)
  obtain ⟨A1, n1, c1, rfl⟩ := okWide_slice Tryd.underlying39 (hval 1 39 v1 rfl rfl)
  obtain ⟨A2, n2, c2, rfl⟩ := okWide_slice Tryd.underlying59 (hval 2 59 v2 rfl rfl)
  obtain ⟨A3, n3, c3, rfl⟩ := okWide_slice Tryd.underlying59 (hval 3 59 v3 rfl rfl)
  obtain ⟨l, hl, _⟩ := asked_of (v := .slice A0 n0 c0) (x := (d0, p0)) h0.choose_spec
  obtain ⟨m, hm, _⟩ := asked_of (v := .slice A1 n1 c1) (x := (d1, p1)) h1.choose_spec
  obtain ⟨a, ha⟩ := offers_of (v := .slice A2 n2 c2) (x := (d2, p2)) h2.choose_spec
  obtain ⟨b, hb⟩ := offers_of (v := .slice A3 n3 c3) (x := (d3, p3)) h3.choose_spec
  clear hA0 hval0 hval
  simp only [List.append_nil, List.append_assoc] at hW'
  have hlt : ∀ x ∈ p0 ++ (p1 ++ (p2 ++ p3)), x.block < W.heap.size := fun x hx => hW'.lt x hx
  refine (grows_any _ _ _ _ l m a b W hl hm ha hb (ns_of (v := .slice A0 n0 c0) Tryd.underlying39 h0.choose_spec) (ns_of (v := .slice A1 n1 c1) Tryd.underlying39 h1.choose_spec) (ns_of (v := .slice A2 n2 c2) Tryd.underlying59 h2.choose_spec) (ns_of (v := .slice A3 n3 c3) Tryd.underlying59 h3.choose_spec) (facts hL).1 (facts hL).2).mono fun e W' ⟨he, hg⟩ => ?_
  subst he
  refine ⟨_, rfl, _, _, _, [], p0 ++ (p1 ++ (p2 ++ p3)), [], hW', ?_, ?_, ?_, hg.frame _, fun h => by cases h⟩
  · exact trodAll_mk1 (shut_bool Tryd.underlying4 _)
  · exact trodAll_mk4 (Below.trod laidOut (by kernel_rfl) (of_decide_eq_true (by kernel_rfl)) h0 hg (fun x hx => hlt x (by simp [hx]))) (Below.trod laidOut (by kernel_rfl) (of_decide_eq_true (by kernel_rfl)) h1 hg (fun x hx => hlt x (by simp [hx]))) (Below.trod laidOut (by kernel_rfl) (of_decide_eq_true (by kernel_rfl)) h2 hg (fun x hx => hlt x (by simp [hx]))) (Below.trod laidOut (by kernel_rfl) (of_decide_eq_true (by kernel_rfl)) h3 hg (fun x hx => hlt x (by simp [hx])))
  · rfl

theorem said : Rows.DependGrowsSaid :=
  OpenClaim.holds_of_wide 6 Tryd.f6 rfl rfl rfl rfl rfl rfl rfl ⟨rfl, rfl, rfl, rfl, rfl⟩ rfl rfl rfl rfl rfl (by kernel_rfl) Tryd.func6 (by kernel_rfl)
    (of_decide_eq_true (by kernel_rfl)) (by unfold Func.isWrapper; rw [if_neg (of_decide_eq_false (by kernel_rfl))]; exact ⟨rfl, rfl⟩)
    (fun os started H enc _ => lifted os started H enc)

theorem plain (f : FuncId) (fn : Func) (hf : Tryd.pinned.checked.prog.funcNamed Rows.dependGrowsRow.func = some f) (hfn : Tryd.pinned.checked.prog.funcs[f]? = some fn) :
    true = Tryd.pinned.checked.prog.looks [] ∧ ∀ (j : Nat) t, fn.params[j]? = some t → Tryd.pinned.checked.prog.wantsStandIn t = false := by
  obtain rfl : f = 6 := Option.some.inj ((show Tryd.prog.funcNamed Rows.dependGrowsRow.func = some 6 by kernel_rfl).symm.trans hf) |>.symm
  obtain rfl : fn = Tryd.f6 := (Option.some.inj (Tryd.func6.symm.trans hfn)).symm
  refine ⟨by kernel_rfl, fun j t ht => ?_⟩
  rw [Tryd.params6] at ht
  have hm : t ∈ [39, 39, 59, 59] := by simpa using Array.mem_of_getElem? ht
  have hall : ([39, 39, 59, 59].all fun u => !Tryd.prog.wantsStandIn u) = true := by kernel_rfl
  exact (show Tryd.prog.wantsStandIn t = false by simpa using List.all_eq_true.1 hall t (by simpa using hm))

theorem card : Rows.DependGrowsCardSaid :=
  Claim7.holds_tied_plain_at .later [] _ _ _ _ said (fun _ h => by cases h) (by kernel_rfl) (fun _ h => by cases h) dependGrows_row_tie rfl ⟨rfl, rfl⟩ (by kernel_rfl) rfl plain (by kernel_rfl)
#print axioms card
end Go.Proofs.YtkaeiofolknoeabDoor
