/- A range over a function whose rounds are numbered, and that keeps a box of its own: what the iterator owes, and the loop's law. -/
import Derived.RangeFuncNested
import Derived.RangeFuncLeaves
import Derived.CallsIn
namespace Go.Proofs.YteiobnkaadedkaaGreatDoor
open Go.RowKit

/-- What an iterator owes that keeps a box Bs of its own: round k hands over `enc k`, k from 0 on below M; a round keeps the box. -/
def Turns (P : Program) (gf : Nat) (lb : Array Value) (enc : Nat → Array Value) (M Bs n : Nat) (w : World) : Prop :=
  ∀ (l : Nat) (J : Nat → World → Prop) (W : World), Below w.heap.size w W →
    (∀ k A B, J k A → Below A.heap.size A B → J k B) → (∀ k A v, J k A → J k (A.setCell ⟨Bs, 0, none⟩ v)) →
    (∀ k W1, k < M → J k W1 → YieldAt Fence.wide (n - 1) P l (enc k) W1 fun e W' => e = .returned (.bool true) ∧ J (k + 1) W' ∧ W'.heap[Bs]? = W1.heap[Bs]?) →
    J 0 W → CallsIn Fence.wide n P gf (#[.func (.yield l) #[] #[]] ++ lb) W fun e W' => (∃ v, e = .returned v) ∧ J M W'

/-- Loops under way, and what they defer, are kept. -/
def isLD : Obj → Bool
  | .loop _ => true
  | .deferred _ => true
  | _ => false
def KL (W W' : World) : Prop := ∀ (j : Nat) (o : Obj), W.heap[j]? = some o → isLD o = true → W'.heap[j]? = some o
/-- How a round's body may be left. -/
def turnPost (Bs : Nat) (J : World → Prop) (W : World) : Exit → Act → World → Prop
  | .normal, _, W' => KL W W' ∧ W'.heap[Bs]? = W.heap[Bs]? ∧ J W'
  | _, _, _ => False

theorem range_turns {P : Program} {n : Nat} {g : Operand} {ps : Array Tmp} {assign body : Code} {Q : Exit → Act → World → Prop} {a : Act} {w : World} {gf : Nat} {lb : Array Value} {enc : Nat → Array Value} {M Bs : Nat} {w0 : World}
    (hg : a.eval g = .func (.func gf) #[] lb) (eg : ∀ args w, (callFunc gf args).run P w = .ok (.enter gf args) w) (hseq : Turns P gf lb enc M Bs (n - 1) w0) (hb0 : Below w0.heap.size w0 w) (hn0 : Bs < w.heap.size) (hps : ∀ k, (enc k).size = ps.size)
    (I : Nat → World → Prop) (hI : OwnFrom w.heap.size I) (hIs : ∀ k A v, I k A → I k (A.setCell ⟨Bs, 0, none⟩ v)) (h0 : I 0 w) (a₁ : Nat → Act)
    (hassign : ∀ (l k : Nat) (W : World) (K : Act → World → Prop), K (a₁ k) W → assign.wpIn (Fence.wide.inRound l) (n - 1 - 1) P (Exit.then K (fun _ _ _ => False)) { tmps := (ps.zip (enc k)).foldl (fun t (p, v) => t.setIfInBounds p v) a.tmps, defers := [] } W)
    (hbody : ∀ (l k : Nat) (W : World), k < M → I k W → body.wpIn (Fence.wide.inRound l) (n - 1 - 1) P (turnPost Bs (I (k + 1)) W) (a₁ k) W)
    (hdone : ∀ (D : Nat) (W : World), w.heap.size ≤ D → I M W → W.heap[D]? = some (.deferred (some [])) → Q .normal { a with defers := { target := .collected D, args := #[] } :: a.defers } W) :
    (Code.rangeFunc g ps assign body).wpIn Fence.wide n P Q a w := by
  refine wpIn_rangeFunc fun fn hfn => ?_
  let D := w.heap.size
  let rec' : LoopState → Option Code → Obj := fun s p => .loop { state := s, pending := p, fn, tmps := a.tmps, params := ps, assign, body, defers := D }
  let w1 := (w.alloc (.deferred (some []))).alloc (rec' .ready none)
  have hs1 : w1.heap.size = D + 2 := by simp [w1, D]
  have l1 : w1.heap[D + 1]? = some (rec' .ready none) := by
    have := World.alloc_heap_new (w.alloc (.deferred (some []))) (rec' .ready none)
    rwa [World.size_alloc] at this
  have d1 : w1.heap[D]? = some (.deferred (some [])) := (Below.heap_alloc _ _ _ (by simp [D])).trans (World.alloc_heap_new w _)
  have put : ∀ {k : Nat} {A : World} {o : Obj} (o' : Obj), I k A → A.heap[D + 1]? = some o → o.isCells = false → I k (A.putObj (D + 1) o') := fun o' h hl ho => hI.putObj o' h (Nat.le_succ _) hl ho
  have keep : ∀ {A B : World} {i : Nat} {o : Obj}, A.heap[i]? = some o → Below A.heap.size A B → B.heap[i]? = some o := fun h hb => (hb.block _ (Array.getElem?_eq_some_iff.1 h).1).trans h
  have turn : ∀ (s : LoopState) (p : Option Code) {A : World} {o : Obj}, A.heap[D + 1]? = some o → A.heap[D]? = some (.deferred (some [])) →
      (A.putObj (D + 1) (rec' s p)).heap[D + 1]? = some (rec' s p) ∧ (A.putObj (D + 1) (rec' s p)).heap[D]? = some (.deferred (some [])) := fun s p A o h1 h2 =>
    ⟨World.putObj_heap_same (Array.getElem?_eq_some_iff.1 h1).1, (World.putObj_heap_other (by omega)).trans h2⟩
  have low : ∀ {A : World} (o' : Obj), (A.putObj (D + 1) o').heap[Bs]? = A.heap[Bs]? := fun {A} o' => World.putObj_heap_other (by show Bs ≠ w.heap.size + 1; omega)
  have sets : ∀ {A : World} {i : Nat} {o : Obj} (v : Value), D ≤ i → A.heap[i]? = some o → (A.setCell ⟨Bs, 0, none⟩ v).heap[i]? = some o := fun {A} {i} {o} v hi h => (Below.heap_setCell A ⟨Bs, 0, none⟩ v i (fun e => by have : i = Bs := e; omega)).trans h
  have wI : ∀ {k : Nat} {A B : World}, I k A → Below A.heap.size A B → I k B := fun h hb => hI _ _ _ none h ⟨hb.os, hb.tape, hb.output, hb.size, fun j hj _ => hb.block j hj⟩ (fun r e => by cases e)
  refine ⟨D + 1, [{ target := .collected D, args := #[] }], w1, { target := .fn (.func gf) lb, args := #[.func (.yield (D + 1)) #[] #[]] }, w1, gf, #[.func (.yield (D + 1)) #[] #[]] ++ lb, w1,
    run_enterLoop_outer _ _ _ _ _, ?_, ?_, ?_, (fun h => by cases h), ?_⟩
  · simp only [resolve, hg]
    simp [go_sem]
  · intro f' hf'
    trivial
  · simp [invoke, go_sem, eg]
  · have hw1 : Below w.heap.size w w1 := ((Below.refl _ w).alloc (Nat.le_refl _) _).alloc (by simp) _
    refine (hseq (D + 1) (fun k A => I k A ∧ A.heap[D + 1]? = some (rec' .ready none) ∧ A.heap[D]? = some (.deferred (some []))) w1 (hb0.trans (hw1.mono hb0.size))
      (fun k A B h hb => ⟨wI h.1 hb, keep h.2.1 hb, keep h.2.2 hb⟩) (fun k A v h => ⟨hIs k A v h.1, sets v (Nat.le_succ _) h.2.1, sets v (Nat.le_refl _) h.2.2⟩) ?_ ⟨wI h0 hw1, l1, d1⟩).mono ?_
    · rintro k A hk ⟨hi, hl, hd⟩
      refine ⟨fn, _, assign, body, run_yield hl (hps k), roundIn_of_wpIn hfn (hassign _ k A _ ?_)⟩
      refine ⟨_, run_beginRound hl rfl, ?_⟩
      obtain ⟨l2, d2⟩ := turn .busy none hl hd
      refine wpIn_mono (hbody _ k _ hk (put _ hi hl rfl)) ?_
      have fin : ∀ (jump : Option Code) (B : World), KL (A.putObj (D + 1) (rec' .busy none)) B → B.heap[D + 1]? = some (rec' .busy none) ∧ B.heap[D]? = some (.deferred (some [])) := fun jump B hB =>
        ⟨hB _ _ l2 rfl, hB _ _ d2 rfl⟩
      rintro e a3 B hp
      cases e with
      | normal =>
        obtain ⟨ho, hb, hi3⟩ := hp
        obtain ⟨l3, d3⟩ := fin none B ho
        obtain ⟨l4, d4⟩ := turn .ready none l3 d3
        exact ⟨_, _, run_endRound none l3, rfl, ⟨put _ hi3 l3 rfl, l4, d4⟩, ((low _).trans hb).trans (low _)⟩
      | ret => exact hp.elim
      | exit id => exact hp.elim
      | goto t => exact hp.elim
      | panic ch => exact hp.elim
      | outgrown => exact hp.elim
    · rintro e B ⟨⟨v, rfl⟩, hi, hl, hd⟩
      exact ⟨none, _, run_endLoop hl (by simp), hdone D _ (Nat.le_refl _) (put _ hi hl rfl) ((World.putObj_heap_other (by omega)).trans hd)⟩

end Go.Proofs.YteiobnkaadedkaaGreatDoor
