/- Plain mathematics of what is met. -/
import Derived.Test.YtkaeiofolknoeabDoorGa
namespace Go.Proofs.YtkaeiofolknoeabDoor

theorem met_all (O : List Ofr) (l : List (List Tm)) : (met O l).2 = l.all fun x => x.any (tm O) := by
  unfold met
  cases h : l.findIdx? (fun x => !(x.any (tm O))) with
  | none =>
    rw [List.findIdx?_eq_none_iff] at h
    symm
    show l.all _ = true
    rw [List.all_eq_true]
    intro x hx
    simpa using h x hx
  | some i =>
    obtain ⟨hi, hq, _⟩ := List.findIdx?_eq_some_iff_getElem.1 h
    symm
    show l.all _ = false
    rw [List.all_eq_false]
    exact ⟨l[i], List.getElem_mem hi, by simpa using hq⟩
theorem tm_app (a b : List Ofr) (t : Tm) : tm (a ++ b) t = (tm a t || tm b t) := by unfold tm; rw [List.any_append]
/-- More offers meet more. -/
theorem met_more (a b : List Ofr) (l : List (List Tm)) (h : (met a l).2 = true) : (met (a ++ b) l).2 = true := by
  rw [met_all, List.all_eq_true] at h ⊢
  intro x hx
  obtain ⟨t, ht, h1⟩ := List.any_eq_true.1 (h x hx)
  exact List.any_eq_true.2 ⟨t, ht, by rw [tm_app, h1]; rfl⟩
/-- In any order. -/
theorem met_turn (a b : List Ofr) (l : List (List Tm)) : (met (a ++ b) l).2 = (met (b ++ a) l).2 := by
  rw [met_all, met_all]
  congr 1
  funext x
  congr 1
  funext t
  rw [tm_app, tm_app, Bool.or_comm]
/-- Of two lists together both must be. -/
theorem met_both (O : List Ofr) (l m : List (List Tm)) : (met O (l ++ m)).2 = ((met O l).2 && (met O m).2) := by
  rw [met_all, met_all, met_all, List.all_append]
/-- Who offers a thing meets all that ask for it by no version. -/
theorem om_any (o : Ofr) (t : Tm) (h : t.n = o.n) (h0 : t.o = 0) : om t o = true := by
  unfold om mt
  rw [h, h0]
  simp [Vm.iv]
theorem om_prov (o : Ofr) (p t : Tm) (hp : p ∈ o.P) (h : t.n = p.n) (h0 : t.o = 0) : om t o = true := by
  unfold om mt
  have : o.P.any (nv t) = true := List.any_eq_true.2 ⟨p, hp, by unfold nv pv; rw [h, h0]; simp⟩
  rw [this]; simp
theorem om_same (o : Ofr) (t : Tm) (h : t.n = o.n) (h3 : t.o = 3) (he : t.e = o.e) (hu : t.u = o.u) (hr : t.r = o.r) (hc : Vm.cv o.e o.u o.r o.e o.u o.r = 0) : om t o = true := by
  unfold om mt
  rw [h, h3, he, hu, hr, hc]
  simp [Vm.iv]
theorem cv_same (e : Int) (u r : List UInt8) : Vm.cv e u r e u r = 0 := by unfold Vm.cv; simp [Vm.pc_refl]
end Go.Proofs.YtkaeiofolknoeabDoor
