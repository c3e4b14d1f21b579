/- A range over a function that reads a box of its own, whose rounds change what lies elsewhere: the loop's law. -/
import Derived.Test.YtppogjjhippefaaGreatDoorRx
namespace Go.Proofs.YtppogjjhippefaaGreatDoor.Dsk
open Go.RowKit

/-- What an iterator owes that reads a box Bs of its own: round k hands over `enc k`, k from 0 on below M; a round keeps the box. -/
def Turns (P : Program) (gf : Nat) (lb : Array Value) (enc : Nat → Array Value) (M Bs n : Nat) (w : World) : Prop :=
  ∀ (l : Nat) (J : Nat → World → Prop) (W : World), Below w.heap.size w W →
    (∀ k A B, J k A → Below A.heap.size A B → J k B) →
    (∀ k W1, k < M → J k W1 → YieldAt Fence.wide (n - 1) P l (enc k) W1 fun e W' => e = .returned (.bool true) ∧ J (k + 1) W' ∧ W'.heap[Bs]? = W1.heap[Bs]?) →
    J 0 W → CallsIn Fence.wide n P gf (#[.func (.yield l) #[] #[]] ++ lb) W fun e W' => (∃ v, e = .returned v) ∧ J M W'
/-- How a round's body may be left. -/
def turnPost (Bs D : Nat) (J : World → Prop) (W : World) : Exit → Act → World → Prop
  | .normal, _, W' => (W'.heap[D]? = W.heap[D]? ∧ W'.heap[D + 1]? = W.heap[D + 1]?) ∧ W'.heap[Bs]? = W.heap[Bs]? ∧ J W'
  | _, _, _ => False
theorem range_box {P : Program} {n : Nat} {g : Operand} {ps : Array Tmp} {assign body : Code} {Q : Exit → Act → World → Prop} {a : Act} {w : World} {gf : Nat} {lb : Array Value} {enc : Nat → Array Value} {M Bs : Nat} {w0 : World}
    (hg : a.eval g = .func (.func gf) #[] lb) (eg : ∀ args w, (callFunc gf args).run P w = .ok (.enter gf args) w) (hseq : Turns P gf lb enc M Bs (n - 1) w0) (hb0 : Below w0.heap.size w0 w) (hn0 : Bs < w.heap.size) (hps : ∀ k, (enc k).size = ps.size)
    (I : Nat → World → Prop) (hIb : ∀ k A B, I k A → Below A.heap.size A B → I k B) (hIp : ∀ k A o', I k A → I k (A.putObj (w.heap.size + 1) o')) (h0 : I 0 w) (Ax : Nat → Act → World → Prop) (hAx : ∀ k a' A o', Ax k a' A → Ax k a' (A.putObj (w.heap.size + 1) o'))
    (hassign : ∀ (l k : Nat) (W : World) (K : Act → World → Prop), I k W → w.heap.size + 2 ≤ W.heap.size → (∀ a' W', Below W.heap.size W W' → Ax k a' W' → K a' W') → assign.wpIn (Fence.wide.inRound l) (n - 1 - 1) P (Exit.then K (fun _ _ _ => False)) { tmps := (ps.zip (enc k)).foldl (fun t (p, v) => t.setIfInBounds p v) a.tmps, defers := [] } W)
    (hbody : ∀ (l k : Nat) (a' : Act) (W : World), k < M → I k W → Ax k a' W → w.heap.size + 2 ≤ W.heap.size → body.wpIn (Fence.wide.inRound l) (n - 1 - 1) P (turnPost Bs w.heap.size (I (k + 1)) W) a' W)
    (hdone : ∀ (D : Nat) (W : World), D = w.heap.size → I M W → W.heap[D]? = some (.deferred (some [])) → Q .normal { a with defers := { target := .collected D, args := #[] } :: a.defers } W) :
    (Code.rangeFunc g ps assign body).wpIn Fence.wide n P Q a w := by
  refine wpIn_rangeFunc fun fn hfn => ?_
  let D := w.heap.size
  let rec' : LoopState → Option Code → Obj := fun s p => .loop { state := s, pending := p, fn, tmps := a.tmps, params := ps, assign, body, defers := D }
  let w1 := (w.alloc (.deferred (some []))).alloc (rec' .ready none)
  have hs1 : w1.heap.size = D + 2 := by simp [w1, D]
  have l1 : w1.heap[D + 1]? = some (rec' .ready none) := by
    have := World.alloc_heap_new (w.alloc (.deferred (some []))) (rec' .ready none)
    rwa [World.size_alloc] at this
  have d1 : w1.heap[D]? = some (.deferred (some [])) := (Below.heap_alloc _ _ _ (by simp [D])).trans (World.alloc_heap_new w _)
  have keep : ∀ {A B : World} {i : Nat} {o : Obj}, A.heap[i]? = some o → Below A.heap.size A B → B.heap[i]? = some o := fun h hb => (hb.block _ (Array.getElem?_eq_some_iff.1 h).1).trans h
  have turn : ∀ (s : LoopState) (p : Option Code) {A : World} {o : Obj}, A.heap[D + 1]? = some o → A.heap[D]? = some (.deferred (some [])) →
      (A.putObj (D + 1) (rec' s p)).heap[D + 1]? = some (rec' s p) ∧ (A.putObj (D + 1) (rec' s p)).heap[D]? = some (.deferred (some [])) := fun s p A o h1 h2 =>
    ⟨World.putObj_heap_same (Array.getElem?_eq_some_iff.1 h1).1, (World.putObj_heap_other (by omega)).trans h2⟩
  have low : ∀ {A : World} (o' : Obj), (A.putObj (D + 1) o').heap[Bs]? = A.heap[Bs]? := fun {A} o' => World.putObj_heap_other (by show Bs ≠ w.heap.size + 1; omega)
  refine ⟨D + 1, [{ target := .collected D, args := #[] }], w1, { target := .fn (.func gf) lb, args := #[.func (.yield (D + 1)) #[] #[]] }, w1, gf, #[.func (.yield (D + 1)) #[] #[]] ++ lb, w1,
    run_enterLoop_outer _ _ _ _ _, ?_, ?_, ?_, (fun h => by cases h), ?_⟩
  · simp only [resolve, hg]
    simp [go_sem]
  · intro f' hf'
    trivial
  · simp [invoke, go_sem, eg]
  · have hw1 : Below w.heap.size w w1 := ((Below.refl _ w).alloc (Nat.le_refl _) _).alloc (by simp) _
    refine (hseq (D + 1) (fun k A => I k A ∧ A.heap[D + 1]? = some (rec' .ready none) ∧ A.heap[D]? = some (.deferred (some []))) w1 (hb0.trans (hw1.mono hb0.size))
      (fun k A B h hb => ⟨hIb k A B h.1 hb, keep h.2.1 hb, keep h.2.2 hb⟩) ?_ ⟨hIb 0 w w1 h0 hw1, l1, d1⟩).mono ?_
    · rintro k A hk ⟨hi, hl, hd⟩
      have hsA : w.heap.size + 2 ≤ A.heap.size := (Array.getElem?_eq_some_iff.1 hl).1
      refine ⟨fn, _, assign, body, run_yield hl (hps k), roundIn_of_wpIn hfn (hassign _ k A _ hi hsA ?_)⟩
      intro a' A2 bA2 hax
      have hi := hIb k A A2 hi bA2
      have hlA := hl
      have hl := keep hl bA2
      have hd := keep hd bA2
      have hBs : A2.heap[Bs]? = A.heap[Bs]? := bA2.block Bs (by omega)
      refine ⟨_, run_beginRound hl rfl, ?_⟩
      obtain ⟨l2, d2⟩ := turn .busy none hl hd
      have hs2 : w.heap.size + 2 ≤ (A2.putObj (D + 1) (rec' .busy none)).heap.size := (Array.getElem?_eq_some_iff.1 l2).1
      refine wpIn_mono (hbody _ k a' _ hk (hIp k A2 _ hi) (hAx k a' A2 _ hax) hs2) ?_
      rintro e a3 B hp
      cases e with
      | normal =>
        obtain ⟨⟨hq1, hq2⟩, hb, hi3⟩ := hp
        have d3 : B.heap[D]? = some (.deferred (some [])) := hq1.trans d2
        have l3 : B.heap[D + 1]? = some (rec' .busy none) := hq2.trans l2
        obtain ⟨l4, d4⟩ := turn .ready none l3 d3
        exact ⟨_, _, run_endRound none l3, rfl, ⟨hIp _ B _ hi3, l4, d4⟩, (((low _).trans hb).trans (low _)).trans hBs⟩
      | ret => exact hp.elim
      | exit id => exact hp.elim
      | goto t => exact hp.elim
      | panic ch => exact hp.elim
      | outgrown => exact hp.elim
    · rintro e B ⟨⟨v, rfl⟩, hi, hl, hd⟩
      exact ⟨none, _, run_endLoop hl (by simp), hdone D _ rfl (hIp _ B _ hi) ((World.putObj_heap_other (by omega)).trans hd)⟩
end Go.Proofs.YtppogjjhippefaaGreatDoor.Dsk
