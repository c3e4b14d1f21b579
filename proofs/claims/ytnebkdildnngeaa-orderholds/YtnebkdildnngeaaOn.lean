/- Maps from numbers to numbers. -/
import Derived.Test.YtnebkdildnngeaaOl
import Derived.Maps.OwnSet
import Derived.Maps.Views
import Derived.Maps.Own
namespace Go.Proofs.Ytnebkdildnngeaa
open Go.RowKit Go.Sort Go.Maps

def Rv (v : Value) : Option (DataW Value × List MemPlace) := some (.held v, [])
theorem law3 : Keyed Try.prog 3 := int_keyed Try.underlying3
theorem wf3 (k : Nat) (hk : k ≤ 1000000) : (Lit.int .i64 (k : Int)).wf = true := by
  have h1 : IntKind.i64.min = -9223372036854775808 := by decide
  have h2 : IntKind.i64.max = 9223372036854775807 := by decide
  simp [Lit.wf, h1, h2]
  omega
theorem key3 (k : Nat) (hk : k ≤ 1000000) : keyOf Try.prog 3 (eI k) = some (.int .i64 k) := keyOf_int_mk Try.underlying3 (wf3 k hk)
theorem zero3 (w : World) : (zeroValue 3).run Try.prog w = .ok (.int .i64 0) w := Try.zeroValue3 w
/-- A map: what it says of numbers, which it has, how many. -/
structure IM (W : World) (b : Nat) (f : Nat → Int) (h : Nat → Bool) (c : Nat) : Prop where
  own : ∃ n D, n ≤ c ∧ W.ownsMap Try.prog 3 Rv b n D ∧ (∀ k : Nat, D.atKey (.int .i64 k) (.held (.int .i64 0)) = .held (.int .i64 (f k))) ∧ (∀ k : Nat, Maps.has D (.int .i64 k) = h k) ∧ Maps.size D = c
theorem IM.new {W : World} {b : Nat} (h : W.heap[b]? = some (.map #[] 0)) : IM W b (fun _ => 0) (fun _ => false) 0 := by
  refine ⟨0, .map [], Nat.le_refl _, Joins.ownsMap_empty h, fun k => rfl, fun k => rfl, rfl⟩
theorem IM.lt {W : World} {b : Nat} {f : Nat → Int} {h : Nat → Bool} {c : Nat} (x : IM W b f h c) : b < W.heap.size := by obtain ⟨n, D, _, h2, _⟩ := x.own; exact h2.lt
theorem IM.kp {W W' : World} {b : Nat} {f : Nat → Int} {h : Nat → Bool} {c : Nat} {S : Nat → Prop} (x : IM W b f h c) (k : Kp S W W') (hs : ¬ S b) : IM W' b f h c := by
  obtain ⟨n, D, h1, ⟨es, cl, h2, h3⟩, h4⟩ := x.own
  exact ⟨n, D, h1, ⟨es, cl, (k.block b (Array.getElem?_eq_some_iff.1 h2).1 hs).trans h2, h3⟩, h4⟩
theorem kp_below {W W' : World} (k : Below W.heap.size W W') (S : Nat → Prop) : Kp S W W' := ⟨k.os, k.tape, k.output, k.size, fun i hi _ => k.block i hi⟩
theorem IM.on {W W' : World} {b : Nat} {f : Nat → Int} {h : Nat → Bool} {c : Nat} (x : IM W b f h c) (k : Below W.heap.size W W') : IM W' b f h c := x.kp (kp_below k fun _ => False) (fun e => e)
theorem IM.look {W : World} {b : Nat} {f : Nat → Int} {h : Nat → Bool} {c : Nat} (x : IM W b f h c) (k : Nat) (hk : k ≤ 1000000) :
    (Instr.lookup 32 (.map (some b)) (eI k) false).run Try.prog W = .ok (.int .i64 (f k)) W := by
  obtain ⟨n, D, _, h2, h3, _⟩ := x.own
  obtain ⟨v, ps, e1, e2⟩ := h2.lookup law3 Try.underlying32 (zero3 W) (zd := .held (.int .i64 0)) (zp := []) rfl (key3 k hk)
  rw [h3 k] at e2
  have : v = .int .i64 (f k) := by simpa [Rv] using congrArg (fun o => o.map Prod.fst) e2
  rw [e1, this]
theorem IM.len {W : World} {b : Nat} {f : Nat → Int} {h : Nat → Bool} {c : Nat} (x : IM W b f h c) (ty : TypeId) : (Builtin.len_ #[32] ty #[.map (some b)]).run Try.prog W = .ok (.int .i64 c) W := by
  obtain ⟨n, D, _, h2, _, _, h5⟩ := x.own
  rw [h2.len Try.underlying32, h5]
theorem IM.put {W : World} {b : Nat} {f : Nat → Int} {h : Nat → Bool} {c : Nat} (x : IM W b f h c) (k : Nat) (hk : k ≤ 1000000) (hc : c ≤ 1000000) (v : Int) (hn : h k = false) :
    ∃ W', (Instr.mapUpdate 32 (.map (some b)) (eI k) (.int .i64 v)).run Try.prog W = .ok () W' ∧ IM W' b (fun j => if j = k then v else f j) (fun j => decide (j = k) || h j) (c + 1) ∧ Kp (· = b) W W' := by
  obtain ⟨n, D, h1, h2, h3, h4, h5⟩ := x.own
  obtain ⟨W', e1, e2, e3⟩ := h2.store law3 Try.underlying32 (by unfold maxLen; omega) (key3 k hk) (val := .int .i64 v) (d := .held (.int .i64 v)) (ps := []) rfl
  have hkl : WideAt.IsKeyLit (.int .i64 (k : Int)) := by trivial
  have hne : ∀ j : Nat, j ≠ k → (Lit.int .i64 (j : Int)) ≠ .int .i64 (k : Int) := fun j hj e => hj (by injection e with _ e; omega)
  refine ⟨W', e1, ⟨n + 1, _, by omega, e2, fun j => ?_, fun j => ?_, ?_⟩, ?_⟩
  · by_cases e : j = k
    · subst e; rw [if_pos rfl]; exact atKey_put_same h2.isMap hkl _ _
    · rw [if_neg e, atKey_put_other (hne j e), h3]
  · by_cases e : j = k
    · subst e; rw [has_put_same h2.isMap hkl]; simp
    · rw [has_put_other (hne j e), h4]; simp [e]
  · rw [size_put (h2.tidy law3), h4, hn, h5]; rfl
  · have g := e3.grown
    exact ⟨g.os, g.tape, g.output, g.size, fun i hi hs => g.block i hi (fun e => hs (by cases e; rfl))⟩
end Go.Proofs.Ytnebkdildnngeaa
