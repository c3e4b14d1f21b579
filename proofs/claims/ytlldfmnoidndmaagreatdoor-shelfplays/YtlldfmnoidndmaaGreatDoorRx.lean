/- A range over a function whose rounds are numbered: what the iterator owes, and the loop's law. -/
import Derived.RangeFuncNested
import Derived.RangeFuncLeaves
import Derived.CallsIn
namespace Go.Proofs.YtlldfmnoidndmaaGreatDoor
open Go.RowKit

/-- What an iterator owes: round k hands over `enc k`, k from 0 on below M, till a round says no more; a round that goes on keeps what lies below n₀. -/
def Turns (P : Program) (gf : Nat) (lb : Array Value) (enc : Nat → Array Value) (M n₀ n : Nat) (w : World) : Prop :=
  ∀ (l : Nat) (J : Nat → World → Prop) (Jx : World → Prop) (W : World), Below w.heap.size w W →
    (∀ k A B, J k A → Below A.heap.size A B → J k B) → (∀ A B, Jx A → Below A.heap.size A B → Jx B) →
    (∀ k W1, k < M → J k W1 → YieldAt Fence.wide (n - 1) P l (enc k) W1 fun e W' => (e = .returned (.bool true) ∧ J (k + 1) W' ∧ Below n₀ W1 W') ∨ (e = .returned (.bool false) ∧ Jx W')) →
    J 0 W → CallsIn Fence.wide n P gf (#[.func (.yield l) #[] #[]] ++ lb) W fun e W' => (∃ v, e = .returned v) ∧ (J M W' ∨ Jx W')

/-- How a round's body may be left. -/
def turnPost (n₀ : Nat) (J : World → Prop) (Ix : World → Prop) (W : World) : Exit → Act → World → Prop
  | .normal, _, W' => KeepsOthers W W' ∧ Below n₀ W W' ∧ J W'
  | .ret, _, W' => KeepsOthers W W' ∧ Ix W'
  | _, _, _ => False

theorem range_turns {P : Program} {n : Nat} {g : Operand} {ps : Array Tmp} {assign body : Code} {Q : Exit → Act → World → Prop} {a : Act} {w : World} {gf : Nat} {lb : Array Value} {enc : Nat → Array Value} {M n₀ : Nat} {w0 : World}
    (hg : a.eval g = .func (.func gf) #[] lb) (eg : ∀ args w, (callFunc gf args).run P w = .ok (.enter gf args) w) (hseq : Turns P gf lb enc M n₀ (n - 1) w0) (hb0 : Below w0.heap.size w0 w) (hn0 : n₀ ≤ w.heap.size) (hps : ∀ k, (enc k).size = ps.size)
    (I : Nat → World → Prop) (Ix : World → Prop) (hI : OwnFrom w.heap.size I) (hIx : OwnFrom w.heap.size (fun (_ : Unit) W => Ix W)) (h0 : I 0 w) (a₁ : Nat → Act)
    (hassign : ∀ (l k : Nat) (W : World) (K : Act → World → Prop), K (a₁ k) W → assign.wpIn (Fence.wide.inRound l) (n - 1 - 1) P (Exit.then K (fun _ _ _ => False)) { tmps := (ps.zip (enc k)).foldl (fun t (p, v) => t.setIfInBounds p v) a.tmps, defers := [] } W)
    (hbody : ∀ (l k : Nat) (W : World), k < M → I k W → body.wpIn (Fence.wide.inRound l) (n - 1 - 1) P (turnPost n₀ (I (k + 1)) Ix W) (a₁ k) W)
    (hdone : ∀ (D : Nat) (W : World), w.heap.size ≤ D → I M W → W.heap[D]? = some (.deferred (some [])) → Q .normal { a with defers := { target := .collected D, args := #[] } :: a.defers } W)
    (hstop : ∀ (D : Nat) (W : World), w.heap.size ≤ D → Ix W → W.heap[D]? = some (.deferred (some [])) → Code.ret.wpIn Fence.wide n P Q { a with defers := { target := .collected D, args := #[] } :: a.defers } W) :
    (Code.rangeFunc g ps assign body).wpIn Fence.wide n P Q a w := by
  refine wpIn_rangeFunc fun fn hfn => ?_
  let D := w.heap.size
  let rec' : LoopState → Option Code → Obj := fun s p => .loop { state := s, pending := p, fn, tmps := a.tmps, params := ps, assign, body, defers := D }
  let w1 := (w.alloc (.deferred (some []))).alloc (rec' .ready none)
  have hs1 : w1.heap.size = D + 2 := by simp [w1, D]
  have l1 : w1.heap[D + 1]? = some (rec' .ready none) := by
    have := World.alloc_heap_new (w.alloc (.deferred (some []))) (rec' .ready none)
    rwa [World.size_alloc] at this
  have d1 : w1.heap[D]? = some (.deferred (some [])) := (Below.heap_alloc _ _ _ (by simp [D])).trans (World.alloc_heap_new w _)
  have put : ∀ {k : Nat} {A : World} {o : Obj} (o' : Obj), I k A → A.heap[D + 1]? = some o → o.isCells = false → I k (A.putObj (D + 1) o') := fun o' h hl ho => hI.putObj o' h (Nat.le_succ _) hl ho
  have keep : ∀ {A B : World} {i : Nat} {o : Obj}, A.heap[i]? = some o → Below A.heap.size A B → B.heap[i]? = some o := fun h hb => (hb.block _ (Array.getElem?_eq_some_iff.1 h).1).trans h
  have turn : ∀ (s : LoopState) (p : Option Code) {A : World} {o : Obj}, A.heap[D + 1]? = some o → A.heap[D]? = some (.deferred (some [])) →
      (A.putObj (D + 1) (rec' s p)).heap[D + 1]? = some (rec' s p) ∧ (A.putObj (D + 1) (rec' s p)).heap[D]? = some (.deferred (some [])) := fun s p A o h1 h2 =>
    ⟨World.putObj_heap_same (Array.getElem?_eq_some_iff.1 h1).1, (World.putObj_heap_other (by omega)).trans h2⟩
  have low : ∀ {A : World} {o : Obj} (o' : Obj), A.heap[D + 1]? = some o → Below n₀ A (A.putObj (D + 1) o') := fun {A} {o} o' h =>
    (Below.refl _ A).grown (grownBy_putObj' A _ o') (by have := (Array.getElem?_eq_some_iff.1 h).1; omega) (fun k e => by cases e; omega)
  have wI : ∀ {k : Nat} {A B : World}, I k A → Below A.heap.size A B → I k B := fun h hb => hI _ _ _ none h ⟨hb.os, hb.tape, hb.output, hb.size, fun j hj _ => hb.block j hj⟩ (fun r e => by cases e)
  have wX : ∀ {A B : World}, Ix A → Below A.heap.size A B → Ix B := fun h hb => hIx () _ _ none h ⟨hb.os, hb.tape, hb.output, hb.size, fun j hj _ => hb.block j hj⟩ (fun r e => by cases e)
  refine ⟨D + 1, [{ target := .collected D, args := #[] }], w1, { target := .fn (.func gf) lb, args := #[.func (.yield (D + 1)) #[] #[]] }, w1, gf, #[.func (.yield (D + 1)) #[] #[]] ++ lb, w1,
    run_enterLoop_outer _ _ _ _ _, ?_, ?_, ?_, (fun h => by cases h), ?_⟩
  · simp only [resolve, hg]
    simp [go_sem]
  · intro f' hf'
    trivial
  · simp [invoke, go_sem, eg]
  · have hw1 : Below w.heap.size w w1 := ((Below.refl _ w).alloc (Nat.le_refl _) _).alloc (by simp) _
    refine (hseq (D + 1) (fun k A => I k A ∧ A.heap[D + 1]? = some (rec' .ready none) ∧ A.heap[D]? = some (.deferred (some [])))
      (fun A => Ix A ∧ A.heap[D + 1]? = some (rec' .done (some .ret)) ∧ A.heap[D]? = some (.deferred (some []))) w1 (hb0.trans (hw1.mono hb0.size))
      (fun k A B h hb => ⟨wI h.1 hb, keep h.2.1 hb, keep h.2.2 hb⟩) (fun A B h hb => ⟨wX h.1 hb, keep h.2.1 hb, keep h.2.2 hb⟩) ?_ ⟨wI h0 hw1, l1, d1⟩).mono ?_
    · rintro k A hk ⟨hi, hl, hd⟩
      refine ⟨fn, _, assign, body, run_yield hl (hps k), roundIn_of_wpIn hfn (hassign _ k A _ ?_)⟩
      refine ⟨_, run_beginRound hl rfl, ?_⟩
      obtain ⟨l2, d2⟩ := turn .busy none hl hd
      refine wpIn_mono (hbody _ k _ hk (put _ hi hl rfl)) ?_
      have fin : ∀ (jump : Option Code) (B : World), KeepsOthers (A.putObj (D + 1) (rec' .busy none)) B → B.heap[D + 1]? = some (rec' .busy none) ∧ B.heap[D]? = some (.deferred (some [])) := fun jump B hB =>
        ⟨hB.same _ _ l2 rfl, hB.same _ _ d2 rfl⟩
      rintro e a3 B hp
      cases e with
      | normal =>
        obtain ⟨ho, hb, hi3⟩ := hp
        obtain ⟨l3, d3⟩ := fin none B ho
        obtain ⟨l4, d4⟩ := turn .ready none l3 d3
        exact ⟨_, _, run_endRound none l3, .inl ⟨rfl, ⟨put _ hi3 l3 rfl, l4, d4⟩, ((low _ hl).trans hb).trans (low _ l3)⟩⟩
      | ret =>
        obtain ⟨ho, hi3⟩ := hp
        obtain ⟨l3, d3⟩ := fin (some .ret) B ho
        obtain ⟨l4, d4⟩ := turn .done (some .ret) l3 d3
        exact ⟨_, _, run_endRound (some .ret) l3, .inr ⟨rfl, hIx.putObj (s := ()) _ hi3 (Nat.le_succ _) l3 rfl, l4, d4⟩⟩
      | exit id => exact hp.elim
      | goto t => exact hp.elim
      | panic ch => exact hp.elim
      | outgrown => exact hp.elim
    · rintro e B ⟨⟨v, rfl⟩, ⟨hi, hl, hd⟩ | ⟨hi, hl, hd⟩⟩
      · exact ⟨none, _, run_endLoop hl (by simp), hdone D _ (Nat.le_refl _) (put _ hi hl rfl) ((World.putObj_heap_other (by omega)).trans hd)⟩
      · exact ⟨some .ret, _, run_endLoop hl (by simp), hstop D _ (Nat.le_refl _) (hIx.putObj (s := ()) _ hi (Nat.le_succ _) hl rfl) ((World.putObj_heap_other (by omega)).trans hd)⟩

end Go.Proofs.YtlldfmnoidndmaaGreatDoor
namespace Go.Proofs.YtlldfmnoidndmaaGreatDoor
open Go.RowKit

/-- The loop's law, where a round's variables are laid into memory. -/
theorem range_lays {P : Program} {n : Nat} {g : Operand} {ps : Array Tmp} {assign body : Code} {Q : Exit → Act → World → Prop} {a : Act} {w : World} {gf : Nat} {lb : Array Value} {enc : Nat → Array Value} {M n₀ : Nat} {w0 : World}
    (hg : a.eval g = .func (.func gf) #[] lb) (eg : ∀ args w, (callFunc gf args).run P w = .ok (.enter gf args) w) (hseq : Turns P gf lb enc M n₀ (n - 1) w0) (hb0 : Below w0.heap.size w0 w) (hn0 : n₀ ≤ w.heap.size) (hps : ∀ k, (enc k).size = ps.size)
    (I : Nat → World → Prop) (Ix : World → Prop) (hI : OwnFrom w.heap.size I) (hIx : OwnFrom w.heap.size (fun (_ : Unit) W => Ix W)) (h0 : I 0 w) (Ax : Nat → Act → World → Prop) (hAx : ∀ k a', OwnFrom w.heap.size (fun (_ : Unit) W => Ax k a' W))
    (hassign : ∀ (l k : Nat) (W : World) (K : Act → World → Prop), I k W → (∀ a' W', Below W.heap.size W W' → Ax k a' W' → K a' W') → assign.wpIn (Fence.wide.inRound l) (n - 1 - 1) P (Exit.then K (fun _ _ _ => False)) { tmps := (ps.zip (enc k)).foldl (fun t (p, v) => t.setIfInBounds p v) a.tmps, defers := [] } W)
    (hbody : ∀ (l k : Nat) (a' : Act) (W : World), k < M → I k W → Ax k a' W → body.wpIn (Fence.wide.inRound l) (n - 1 - 1) P (turnPost n₀ (I (k + 1)) Ix W) a' W)
    (hdone : ∀ (D : Nat) (W : World), w.heap.size ≤ D → I M W → W.heap[D]? = some (.deferred (some [])) → Q .normal { a with defers := { target := .collected D, args := #[] } :: a.defers } W)
    (hstop : ∀ (D : Nat) (W : World), w.heap.size ≤ D → Ix W → W.heap[D]? = some (.deferred (some [])) → Code.ret.wpIn Fence.wide n P Q { a with defers := { target := .collected D, args := #[] } :: a.defers } W) :
    (Code.rangeFunc g ps assign body).wpIn Fence.wide n P Q a w := by
  refine wpIn_rangeFunc fun fn hfn => ?_
  let D := w.heap.size
  let rec' : LoopState → Option Code → Obj := fun s p => .loop { state := s, pending := p, fn, tmps := a.tmps, params := ps, assign, body, defers := D }
  let w1 := (w.alloc (.deferred (some []))).alloc (rec' .ready none)
  have hs1 : w1.heap.size = D + 2 := by simp [w1, D]
  have l1 : w1.heap[D + 1]? = some (rec' .ready none) := by
    have := World.alloc_heap_new (w.alloc (.deferred (some []))) (rec' .ready none)
    rwa [World.size_alloc] at this
  have d1 : w1.heap[D]? = some (.deferred (some [])) := (Below.heap_alloc _ _ _ (by simp [D])).trans (World.alloc_heap_new w _)
  have put : ∀ {k : Nat} {A : World} {o : Obj} (o' : Obj), I k A → A.heap[D + 1]? = some o → o.isCells = false → I k (A.putObj (D + 1) o') := fun o' h hl ho => hI.putObj o' h (Nat.le_succ _) hl ho
  have keep : ∀ {A B : World} {i : Nat} {o : Obj}, A.heap[i]? = some o → Below A.heap.size A B → B.heap[i]? = some o := fun h hb => (hb.block _ (Array.getElem?_eq_some_iff.1 h).1).trans h
  have turn : ∀ (s : LoopState) (p : Option Code) {A : World} {o : Obj}, A.heap[D + 1]? = some o → A.heap[D]? = some (.deferred (some [])) →
      (A.putObj (D + 1) (rec' s p)).heap[D + 1]? = some (rec' s p) ∧ (A.putObj (D + 1) (rec' s p)).heap[D]? = some (.deferred (some [])) := fun s p A o h1 h2 =>
    ⟨World.putObj_heap_same (Array.getElem?_eq_some_iff.1 h1).1, (World.putObj_heap_other (by omega)).trans h2⟩
  have low : ∀ {A : World} {o : Obj} (o' : Obj), A.heap[D + 1]? = some o → Below n₀ A (A.putObj (D + 1) o') := fun {A} {o} o' h =>
    (Below.refl _ A).grown (grownBy_putObj' A _ o') (by have := (Array.getElem?_eq_some_iff.1 h).1; omega) (fun k e => by cases e; omega)
  have wI : ∀ {k : Nat} {A B : World}, I k A → Below A.heap.size A B → I k B := fun h hb => hI _ _ _ none h ⟨hb.os, hb.tape, hb.output, hb.size, fun j hj _ => hb.block j hj⟩ (fun r e => by cases e)
  have wX : ∀ {A B : World}, Ix A → Below A.heap.size A B → Ix B := fun h hb => hIx () _ _ none h ⟨hb.os, hb.tape, hb.output, hb.size, fun j hj _ => hb.block j hj⟩ (fun r e => by cases e)
  refine ⟨D + 1, [{ target := .collected D, args := #[] }], w1, { target := .fn (.func gf) lb, args := #[.func (.yield (D + 1)) #[] #[]] }, w1, gf, #[.func (.yield (D + 1)) #[] #[]] ++ lb, w1,
    run_enterLoop_outer _ _ _ _ _, ?_, ?_, ?_, (fun h => by cases h), ?_⟩
  · simp only [resolve, hg]
    simp [go_sem]
  · intro f' hf'
    trivial
  · simp [invoke, go_sem, eg]
  · have hw1 : Below w.heap.size w w1 := ((Below.refl _ w).alloc (Nat.le_refl _) _).alloc (by simp) _
    refine (hseq (D + 1) (fun k A => I k A ∧ A.heap[D + 1]? = some (rec' .ready none) ∧ A.heap[D]? = some (.deferred (some [])))
      (fun A => Ix A ∧ A.heap[D + 1]? = some (rec' .done (some .ret)) ∧ A.heap[D]? = some (.deferred (some []))) w1 (hb0.trans (hw1.mono hb0.size))
      (fun k A B h hb => ⟨wI h.1 hb, keep h.2.1 hb, keep h.2.2 hb⟩) (fun A B h hb => ⟨wX h.1 hb, keep h.2.1 hb, keep h.2.2 hb⟩) ?_ ⟨wI h0 hw1, l1, d1⟩).mono ?_
    · rintro k A hk ⟨hi, hl, hd⟩
      refine ⟨fn, _, assign, body, run_yield hl (hps k), roundIn_of_wpIn hfn (hassign _ k A _ hi ?_)⟩
      intro a' A2 bA2 hax
      have hi := wI hi bA2
      have hlA := hl
      have hl := keep hl bA2
      have hd := keep hd bA2
      have lowA : Below n₀ A A2 := bA2.mono (by have := (Array.getElem?_eq_some_iff.1 hlA).1; omega)
      refine ⟨_, run_beginRound hl rfl, ?_⟩
      obtain ⟨l2, d2⟩ := turn .busy none hl hd
      refine wpIn_mono (hbody _ k a' _ hk (put _ hi hl rfl) ((hAx k a').putObj (s := ()) _ hax (Nat.le_succ _) hl rfl)) ?_
      have fin : ∀ (jump : Option Code) (B : World), KeepsOthers (A2.putObj (D + 1) (rec' .busy none)) B → B.heap[D + 1]? = some (rec' .busy none) ∧ B.heap[D]? = some (.deferred (some [])) := fun jump B hB =>
        ⟨hB.same _ _ l2 rfl, hB.same _ _ d2 rfl⟩
      rintro e a3 B hp
      cases e with
      | normal =>
        obtain ⟨ho, hb, hi3⟩ := hp
        obtain ⟨l3, d3⟩ := fin none B ho
        obtain ⟨l4, d4⟩ := turn .ready none l3 d3
        exact ⟨_, _, run_endRound none l3, .inl ⟨rfl, ⟨put _ hi3 l3 rfl, l4, d4⟩, (lowA.trans ((low _ hl).trans hb)).trans (low _ l3)⟩⟩
      | ret =>
        obtain ⟨ho, hi3⟩ := hp
        obtain ⟨l3, d3⟩ := fin (some .ret) B ho
        obtain ⟨l4, d4⟩ := turn .done (some .ret) l3 d3
        exact ⟨_, _, run_endRound (some .ret) l3, .inr ⟨rfl, hIx.putObj (s := ()) _ hi3 (Nat.le_succ _) l3 rfl, l4, d4⟩⟩
      | exit id => exact hp.elim
      | goto t => exact hp.elim
      | panic ch => exact hp.elim
      | outgrown => exact hp.elim
    · rintro e B ⟨⟨v, rfl⟩, ⟨hi, hl, hd⟩ | ⟨hi, hl, hd⟩⟩
      · exact ⟨none, _, run_endLoop hl (by simp), hdone D _ (Nat.le_refl _) (put _ hi hl rfl) ((World.putObj_heap_other (by omega)).trans hd)⟩
      · exact ⟨some .ret, _, run_endLoop hl (by simp), hstop D _ (Nat.le_refl _) (hIx.putObj (s := ()) _ hi (Nat.le_succ _) hl rfl) ((World.putObj_heap_other (by omega)).trans hd)⟩

end Go.Proofs.YtlldfmnoidndmaaGreatDoor
namespace Go.Proofs.YtlldfmnoidndmaaGreatDoor.Dsk
open Go.RowKit

/-- What an iterator owes that reads what KP tells: round k hands over `enc k`, k from 0 on below M; a round keeps KP. -/
def TurnsK (P : Program) (gf : Nat) (lb : Array Value) (enc : Nat → Array Value) (M n : Nat) (KP : World → Prop) : Prop :=
  ∀ (l : Nat) (J : Nat → World → Prop) (W : World), KP W →
    (∀ k W1, k < M → J k W1 → KP W1 → YieldAt Fence.wide (n - 1) P l (enc k) W1 fun e W' => e = .returned (.bool true) ∧ J (k + 1) W' ∧ KP W') →
    J 0 W → CallsIn Fence.wide n P gf (#[.func (.yield l) #[] #[]] ++ lb) W fun e W' => (∃ v, e = .returned v) ∧ J M W'
/-- How a round's body may be left. -/
def turnPostK (KP : World → Prop) (D : Nat) (J : World → Prop) (W : World) : Exit → Act → World → Prop
  | .normal, _, W' => (W'.heap[D]? = W.heap[D]? ∧ W'.heap[D + 1]? = W.heap[D + 1]?) ∧ KP W' ∧ J W'
  | _, _, _ => False
theorem range_keep {P : Program} {n : Nat} {g : Operand} {ps : Array Tmp} {assign body : Code} {Q : Exit → Act → World → Prop} {a : Act} {w : World} {gf : Nat} {lb : Array Value} {enc : Nat → Array Value} {M : Nat} {KP : World → Prop}
    (hg : a.eval g = .func (.func gf) #[] lb) (eg : ∀ args w, (callFunc gf args).run P w = .ok (.enter gf args) w) (hseq : TurnsK P gf lb enc M (n - 1) KP) (hps : ∀ k, (enc k).size = ps.size)
    (hKb : ∀ A B, KP A → Below A.heap.size A B → KP B) (hKp : ∀ A o', KP A → KP (A.putObj (w.heap.size + 1) o')) (hK0 : KP w)
    (I : Nat → World → Prop) (hIb : ∀ k A B, I k A → Below A.heap.size A B → I k B) (hIp : ∀ k A o', w.heap.size + 2 ≤ A.heap.size → I k A → I k (A.putObj (w.heap.size + 1) o')) (h0 : I 0 w) (Ax : Nat → Act → World → Prop) (hAx : ∀ k a' A o', w.heap.size + 2 ≤ A.heap.size → Ax k a' A → Ax k a' (A.putObj (w.heap.size + 1) o'))
    (hassign : ∀ (l k : Nat) (W : World) (K : Act → World → Prop), k < M → I k W → w.heap.size + 2 ≤ W.heap.size → (∀ a' W', Below W.heap.size W W' → Ax k a' W' → K a' W') → assign.wpIn (Fence.wide.inRound l) (n - 1 - 1) P (Exit.then K (fun _ _ _ => False)) { tmps := (ps.zip (enc k)).foldl (fun t (p, v) => t.setIfInBounds p v) a.tmps, defers := [] } W)
    (hbody : ∀ (l k : Nat) (a' : Act) (W : World), k < M → KP W → Ax k a' W → w.heap.size + 2 ≤ W.heap.size → body.wpIn (Fence.wide.inRound l) (n - 1 - 1) P (turnPostK KP w.heap.size (I (k + 1)) W) a' W)
    (hdone : ∀ (D : Nat) (W : World), D = w.heap.size → I M W → KP W → D + 2 ≤ W.heap.size → W.heap[D]? = some (.deferred (some [])) → Q .normal { a with defers := { target := .collected D, args := #[] } :: a.defers } W) :
    (Code.rangeFunc g ps assign body).wpIn Fence.wide n P Q a w := by
  refine wpIn_rangeFunc fun fn hfn => ?_
  let D := w.heap.size
  let rec' : LoopState → Option Code → Obj := fun s p => .loop { state := s, pending := p, fn, tmps := a.tmps, params := ps, assign, body, defers := D }
  let w1 := (w.alloc (.deferred (some []))).alloc (rec' .ready none)
  have hs1 : w1.heap.size = D + 2 := by simp [w1, D]
  have l1 : w1.heap[D + 1]? = some (rec' .ready none) := by
    have := World.alloc_heap_new (w.alloc (.deferred (some []))) (rec' .ready none)
    rwa [World.size_alloc] at this
  have d1 : w1.heap[D]? = some (.deferred (some [])) := (Below.heap_alloc _ _ _ (by simp [D])).trans (World.alloc_heap_new w _)
  have keep : ∀ {A B : World} {i : Nat} {o : Obj}, A.heap[i]? = some o → Below A.heap.size A B → B.heap[i]? = some o := fun h hb => (hb.block _ (Array.getElem?_eq_some_iff.1 h).1).trans h
  have turn : ∀ (s : LoopState) (p : Option Code) {A : World} {o : Obj}, A.heap[D + 1]? = some o → A.heap[D]? = some (.deferred (some [])) →
      (A.putObj (D + 1) (rec' s p)).heap[D + 1]? = some (rec' s p) ∧ (A.putObj (D + 1) (rec' s p)).heap[D]? = some (.deferred (some [])) := fun s p A o h1 h2 =>
    ⟨World.putObj_heap_same (Array.getElem?_eq_some_iff.1 h1).1, (World.putObj_heap_other (by omega)).trans h2⟩
  refine ⟨D + 1, [{ target := .collected D, args := #[] }], w1, { target := .fn (.func gf) lb, args := #[.func (.yield (D + 1)) #[] #[]] }, w1, gf, #[.func (.yield (D + 1)) #[] #[]] ++ lb, w1,
    run_enterLoop_outer _ _ _ _ _, ?_, ?_, ?_, (fun h => by cases h), ?_⟩
  · simp only [resolve, hg]
    simp [go_sem]
  · intro f' hf'
    trivial
  · simp [invoke, go_sem, eg]
  · have hw1 : Below w.heap.size w w1 := ((Below.refl _ w).alloc (Nat.le_refl _) _).alloc (by simp) _
    refine (hseq (D + 1) (fun k A => I k A ∧ KP A ∧ A.heap[D + 1]? = some (rec' .ready none) ∧ A.heap[D]? = some (.deferred (some []))) w1 (hKb _ _ hK0 hw1) ?_ ⟨hIb 0 w w1 h0 hw1, hKb _ _ hK0 hw1, l1, d1⟩).mono ?_
    · rintro k A hk ⟨hi, _, hl, hd⟩ hKA
      have hsA : w.heap.size + 2 ≤ A.heap.size := (Array.getElem?_eq_some_iff.1 hl).1
      refine ⟨fn, _, assign, body, run_yield hl (hps k), roundIn_of_wpIn hfn (hassign _ k A _ hk hi hsA ?_)⟩
      intro a' A2 bA2 hax
      have hlA := hl
      have hl := keep hl bA2
      have hd := keep hd bA2
      have hsA2 : w.heap.size + 2 ≤ A2.heap.size := (Array.getElem?_eq_some_iff.1 hl).1
      refine ⟨_, run_beginRound hl rfl, ?_⟩
      obtain ⟨l2, d2⟩ := turn .busy none hl hd
      have hs2 : w.heap.size + 2 ≤ (A2.putObj (D + 1) (rec' .busy none)).heap.size := (Array.getElem?_eq_some_iff.1 l2).1
      refine wpIn_mono (hbody _ k a' _ hk (hKp _ _ (hKb _ _ hKA bA2)) (hAx k a' A2 _ hsA2 hax) hs2) ?_
      rintro e a3 B hp
      cases e with
      | normal =>
        obtain ⟨⟨hq1, hq2⟩, hb, hi3⟩ := hp
        have d3 : B.heap[D]? = some (.deferred (some [])) := hq1.trans d2
        have l3 : B.heap[D + 1]? = some (rec' .busy none) := hq2.trans l2
        obtain ⟨l4, d4⟩ := turn .ready none l3 d3
        exact ⟨_, _, run_endRound none l3, rfl, ⟨hIp _ B _ (Array.getElem?_eq_some_iff.1 l3).1 hi3, hKp _ _ hb, l4, d4⟩, hKp _ _ hb⟩
      | ret => exact hp.elim
      | exit id => exact hp.elim
      | goto t => exact hp.elim
      | panic ch => exact hp.elim
      | outgrown => exact hp.elim
    · rintro e B ⟨⟨v, rfl⟩, hi, hKB, hl, hd⟩
      refine ⟨none, _, run_endLoop hl (by simp), hdone D _ rfl (hIp _ B _ (Array.getElem?_eq_some_iff.1 hl).1 hi) (hKp _ _ hKB) ?_ ((World.putObj_heap_other (by omega)).trans hd)⟩
      have := (turn .ready none hl hd).1
      have h9 := (grownBy_putObj' B (D + 1) (rec' .ready none)).size
      have h10 := (Array.getElem?_eq_some_iff.1 hl).1
      show w.heap.size + 2 ≤ _
      have h11 : (B.putObj (D + 1) (rec' .done none)).heap.size = B.heap.size := by simp [World.putObj]
      first | (rw [World.size_putObj]; exact h10) | (simp [World.putObj]; exact h10)
end Go.Proofs.YtlldfmnoidndmaaGreatDoor.Dsk
