/- A range over a function whose rounds are numbered: the loop's law, where a round's variables are laid into memory. -/
import Derived.Test.YtmlmdncepgcimaaGreatDoorZak
import Derived.Test.YtmlmdncepgcimaaGreatDoorZal
import Derived.Test.YtmlmdncepgcimaaGreatDoorTg
import Derived.Test.YtmlmdncepgcimaaGreatDoorZad
import Derived.Lib.AppendStr
import Derived.Lib.OthersKept
import Derived.Lib.BufferKept
namespace Go.Proofs.YtmlmdncepgcimaaGreatDoor
open Go.RowKit

/-- The loop's law, where a round's variables are laid into memory. -/
theorem range_lays {P : Program} {n : Nat} {g : Operand} {ps : Array Tmp} {assign body : Code} {Q : Exit → Act → World → Prop} {a : Act} {w : World} {gf : Nat} {lb : Array Value} {enc : Nat → Array Value} {M n₀ : Nat} {w0 : World}
    (hg : a.eval g = .func (.func gf) #[] lb) (eg : ∀ args w, (callFunc gf args).run P w = .ok (.enter gf args) w) (hseq : Turns P gf lb enc M n₀ (n - 1) w0) (hb0 : Below w0.heap.size w0 w) (hn0 : n₀ ≤ w.heap.size) (hps : ∀ k, (enc k).size = ps.size)
    (I : Nat → World → Prop) (Ix : World → Prop) (hI : OwnFrom w.heap.size I) (hIx : OwnFrom w.heap.size (fun (_ : Unit) W => Ix W)) (h0 : I 0 w) (Ax : Nat → Act → World → Prop) (hAx : ∀ k a', OwnFrom w.heap.size (fun (_ : Unit) W => Ax k a' W))
    (hassign : ∀ (l k : Nat) (W : World) (K : Act → World → Prop), I k W → (∀ a' W', Below W.heap.size W W' → Ax k a' W' → K a' W') → assign.wpIn (Fence.wide.inRound l) (n - 1 - 1) P (Exit.then K (fun _ _ _ => False)) { tmps := (ps.zip (enc k)).foldl (fun t (p, v) => t.setIfInBounds p v) a.tmps, defers := [] } W)
    (hbody : ∀ (l k : Nat) (a' : Act) (W : World), k < M → I k W → Ax k a' W → body.wpIn (Fence.wide.inRound l) (n - 1 - 1) P (turnPost n₀ (I (k + 1)) Ix W) a' W)
    (hdone : ∀ (D : Nat) (W : World), w.heap.size ≤ D → I M W → W.heap[D]? = some (.deferred (some [])) → Q .normal { a with defers := { target := .collected D, args := #[] } :: a.defers } W)
    (hstop : ∀ (D : Nat) (W : World), w.heap.size ≤ D → Ix W → W.heap[D]? = some (.deferred (some [])) → Code.ret.wpIn Fence.wide n P Q { a with defers := { target := .collected D, args := #[] } :: a.defers } W) :
    (Code.rangeFunc g ps assign body).wpIn Fence.wide n P Q a w := by
  refine wpIn_rangeFunc fun fn hfn => ?_
  let D := w.heap.size
  let rec' : LoopState → Option Code → Obj := fun s p => .loop { state := s, pending := p, fn, tmps := a.tmps, params := ps, assign, body, defers := D }
  let w1 := (w.alloc (.deferred (some []))).alloc (rec' .ready none)
  have hs1 : w1.heap.size = D + 2 := by simp [w1, D]
  have l1 : w1.heap[D + 1]? = some (rec' .ready none) := by
    have := World.alloc_heap_new (w.alloc (.deferred (some []))) (rec' .ready none)
    rwa [World.size_alloc] at this
  have d1 : w1.heap[D]? = some (.deferred (some [])) := (Below.heap_alloc _ _ _ (by simp [D])).trans (World.alloc_heap_new w _)
  have put : ∀ {k : Nat} {A : World} {o : Obj} (o' : Obj), I k A → A.heap[D + 1]? = some o → o.isCells = false → I k (A.putObj (D + 1) o') := fun o' h hl ho => hI.putObj o' h (Nat.le_succ _) hl ho
  have keep : ∀ {A B : World} {i : Nat} {o : Obj}, A.heap[i]? = some o → Below A.heap.size A B → B.heap[i]? = some o := fun h hb => (hb.block _ (Array.getElem?_eq_some_iff.1 h).1).trans h
  have turn : ∀ (s : LoopState) (p : Option Code) {A : World} {o : Obj}, A.heap[D + 1]? = some o → A.heap[D]? = some (.deferred (some [])) →
      (A.putObj (D + 1) (rec' s p)).heap[D + 1]? = some (rec' s p) ∧ (A.putObj (D + 1) (rec' s p)).heap[D]? = some (.deferred (some [])) := fun s p A o h1 h2 =>
    ⟨World.putObj_heap_same (Array.getElem?_eq_some_iff.1 h1).1, (World.putObj_heap_other (by omega)).trans h2⟩
  have low : ∀ {A : World} {o : Obj} (o' : Obj), A.heap[D + 1]? = some o → Below n₀ A (A.putObj (D + 1) o') := fun {A} {o} o' h =>
    (Below.refl _ A).grown (grownBy_putObj' A _ o') (by have := (Array.getElem?_eq_some_iff.1 h).1; omega) (fun k e => by cases e; omega)
  have wI : ∀ {k : Nat} {A B : World}, I k A → Below A.heap.size A B → I k B := fun h hb => hI _ _ _ none h ⟨hb.os, hb.tape, hb.output, hb.size, fun j hj _ => hb.block j hj⟩ (fun r e => by cases e)
  have wX : ∀ {A B : World}, Ix A → Below A.heap.size A B → Ix B := fun h hb => hIx () _ _ none h ⟨hb.os, hb.tape, hb.output, hb.size, fun j hj _ => hb.block j hj⟩ (fun r e => by cases e)
  refine ⟨D + 1, [{ target := .collected D, args := #[] }], w1, { target := .fn (.func gf) lb, args := #[.func (.yield (D + 1)) #[] #[]] }, w1, gf, #[.func (.yield (D + 1)) #[] #[]] ++ lb, w1,
    run_enterLoop_outer _ _ _ _ _, ?_, ?_, ?_, (fun h => by cases h), ?_⟩
  · simp only [resolve, hg]
    simp [go_sem]
  · intro f' hf'
    trivial
  · simp [invoke, go_sem, eg]
  · have hw1 : Below w.heap.size w w1 := ((Below.refl _ w).alloc (Nat.le_refl _) _).alloc (by simp) _
    refine (hseq (D + 1) (fun k A => I k A ∧ A.heap[D + 1]? = some (rec' .ready none) ∧ A.heap[D]? = some (.deferred (some [])))
      (fun A => Ix A ∧ A.heap[D + 1]? = some (rec' .done (some .ret)) ∧ A.heap[D]? = some (.deferred (some []))) w1 (hb0.trans (hw1.mono hb0.size))
      (fun k A B h hb => ⟨wI h.1 hb, keep h.2.1 hb, keep h.2.2 hb⟩) (fun A B h hb => ⟨wX h.1 hb, keep h.2.1 hb, keep h.2.2 hb⟩) ?_ ⟨wI h0 hw1, l1, d1⟩).mono ?_
    · rintro k A hk ⟨hi, hl, hd⟩
      refine ⟨fn, _, assign, body, run_yield hl (hps k), roundIn_of_wpIn hfn (hassign _ k A _ hi ?_)⟩
      intro a' A2 bA2 hax
      have hi := wI hi bA2
      have hlA := hl
      have hl := keep hl bA2
      have hd := keep hd bA2
      have lowA : Below n₀ A A2 := bA2.mono (by have := (Array.getElem?_eq_some_iff.1 hlA).1; omega)
      refine ⟨_, run_beginRound hl rfl, ?_⟩
      obtain ⟨l2, d2⟩ := turn .busy none hl hd
      refine wpIn_mono (hbody _ k a' _ hk (put _ hi hl rfl) ((hAx k a').putObj (s := ()) _ hax (Nat.le_succ _) hl rfl)) ?_
      have fin : ∀ (jump : Option Code) (B : World), KeepsOthers (A2.putObj (D + 1) (rec' .busy none)) B → B.heap[D + 1]? = some (rec' .busy none) ∧ B.heap[D]? = some (.deferred (some [])) := fun jump B hB =>
        ⟨hB.same _ _ l2 rfl, hB.same _ _ d2 rfl⟩
      rintro e a3 B hp
      cases e with
      | normal =>
        obtain ⟨ho, hb, hi3⟩ := hp
        obtain ⟨l3, d3⟩ := fin none B ho
        obtain ⟨l4, d4⟩ := turn .ready none l3 d3
        exact ⟨_, _, run_endRound none l3, .inl ⟨rfl, ⟨put _ hi3 l3 rfl, l4, d4⟩, (lowA.trans ((low _ hl).trans hb)).trans (low _ l3)⟩⟩
      | ret =>
        obtain ⟨ho, hi3⟩ := hp
        obtain ⟨l3, d3⟩ := fin (some .ret) B ho
        obtain ⟨l4, d4⟩ := turn .done (some .ret) l3 d3
        exact ⟨_, _, run_endRound (some .ret) l3, .inr ⟨rfl, hIx.putObj (s := ()) _ hi3 (Nat.le_succ _) l3 rfl, l4, d4⟩⟩
      | exit id => exact hp.elim
      | goto t => exact hp.elim
      | panic ch => exact hp.elim
      | outgrown => exact hp.elim
    · rintro e B ⟨⟨v, rfl⟩, ⟨hi, hl, hd⟩ | ⟨hi, hl, hd⟩⟩
      · exact ⟨none, _, run_endLoop hl (by simp), hdone D _ (Nat.le_refl _) (put _ hi hl rfl) ((World.putObj_heap_other (by omega)).trans hd)⟩
      · exact ⟨some .ret, _, run_endLoop hl (by simp), hstop D _ (Nat.le_refl _) (hIx.putObj (s := ()) _ hi (Nat.le_succ _) hl rfl) ((World.putObj_heap_other (by omega)).trans hd)⟩

end Go.Proofs.YtmlmdncepgcimaaGreatDoor

/- The walk of depend's Right. -/
namespace Go.Proofs.YtmlmdncepgcimaaGreatDoor
open Go.RowKit Go.Shelf Go.Sort
attribute [local go_sem] Oper.semAt_some

/-- What may be asked for. -/
def ask (l : List (List Tm)) : Bool := l.all (fun x => decide (x ≠ [])) && (decide (l.flatten.length ≤ 30) && l.flatten.all tok)

theorem empty_any (A : Option Addr) (n c : Nat) (w : World) : Calls Tryz.prog 128 #[.slice A n c] w fun e w' => e = .returned (.bool (decide (n = 0))) ∧ w' = w := by
  go_enter Tryz.func128, Tryz.ntmps128
  go_wp2
  go_ret
  exact ⟨ret_bool (by rw [Bool.eq_iff_iff]; simp), rfl⟩

/-- The index of the first empty one, or -1. -/
def Iz (l : List (List Tm)) (e : Ending) : Prop := ∃ z : Int, e = .returned (.int .i64 z) ∧ -1 ≤ z ∧ z ≤ 1000 ∧ decide (0 ≤ z) = !(l.all fun x => decide (x ≠ []))
theorem ts_sl {W : World} {v : Value} {x : List Tm} (h : Ts W v x) : ∃ A c, v = .slice A x.length c := by
  rcases h.is with ⟨rfl, A, c, rfl⟩ | ⟨b, o, c, rfl, _⟩
  · exact ⟨_, _, rfl⟩
  · exact ⟨_, _, rfl⟩

set_option maxHeartbeats 800000 in
set_option maxRecDepth 100000 in
theorem idx_row (b o c : Nat) (l : List (List Tm)) (w : World) (h : Al w b o l) (hn : l.length ≤ 1000) : Calls Tryz.prog 171 #[.slice (some ⟨b, o, none⟩) l.length c, .func (.func 128) #[] #[]] w fun e w' => Iz l e ∧ w' = w := by
  have HF := Lib.hid h
  clear h
  go_enter Tryz.func171, Tryz.ntmps171
  go_wp2
  go_loopw [8] (fun v W => ∃ k : Nat, k ≤ l.length ∧ v = .int .i64 k ∧ W = w ∧ Hid (∀ j (hj : j < l.length), j < k → l[j] ≠ [])) (fun v _ => l.length - (intOf v).toNat)
  case atStart => exact ⟨0, Nat.zero_le _, rfl, rfl, fun j _ h => absurd h (Nat.not_lt_zero _)⟩
  case round =>
    obtain ⟨k, hk, rfl, rfl, HP⟩ := hrel
    by_cases hlt : k < l.length
    · obtain ⟨vi, c0, hT⟩ := HF.out.c k hlt
      obtain ⟨A, c', rfl⟩ := ts_sl hT
      have cE := fun W => empty_any A l[k].length c' W
      by_cases he : l[k].length = 0
      · have HG : Hid ((l.all fun x => decide (x ≠ [])) = false) := by
          show (l.all fun x => decide (x ≠ [])) = false
          rw [List.all_eq_false]
          exact ⟨l[k], List.getElem_mem hlt, by simp [List.length_eq_zero_iff.1 he]⟩
        rw [decide_eq_true he] at cE
        clear hT he
        go_wp2_with (go_at_call 128; refine (cE _).mono ?_; rintro e w' ⟨rfl, rfl⟩)
        go_ret
        exact ⟨⟨k, rfl, by omega, by omega, by rw [HG.out]; simp⟩, rfl⟩
      · have HG : Hid (∀ j (hj : j < l.length), j < k + 1 → l[j] ≠ []) := fun j hj h => by
          by_cases e2 : j = k
          · subst e2; intro e3; rw [e3] at he; exact he rfl
          · exact HP.out j hj (by omega)
        rw [decide_eq_false he] at cE
        clear hT he
        go_wp2_with (go_at_call 128; refine (cE _).mono ?_; rintro e w' ⟨rfl, rfl⟩)
        exact ⟨⟨k + 1, hlt, by go_num, trivial, HG⟩, by simp [intOf]; omega⟩
    · have HG : Hid ((l.all fun x => decide (x ≠ [])) = true) := by
        show (l.all fun x => decide (x ≠ [])) = true
        rw [List.all_eq_true]
        intro x hx
        obtain ⟨j, hj, rfl⟩ := List.getElem_of_mem hx
        simpa using HP.out j hj (by omega)
      go_wp2
      go_ret
      exact ⟨⟨-1, rfl, by omega, by omega, by rw [HG.out]; simp⟩, rfl⟩
theorem idx_none (A : Option Addr) (c : Nat) (w : World) : Calls Tryz.prog 171 #[.slice A 0 c, .func (.func 128) #[] #[]] w fun e w' => Iz [] e ∧ w' = w := by
  go_enter Tryz.func171, Tryz.ntmps171
  go_wp2
  refine wp_loop_rounds 1 ?_
  rw [rounds_succ]
  go_wp2
  go_ret
  exact ⟨⟨-1, rfl, by omega, by omega, rfl⟩, rfl⟩
theorem idx_any' (v : Value) (l : List (List Tm)) (w : World) (h : As w v l) (hn : l.length ≤ 1000) : Calls Tryz.prog 171 #[v, .func (.func 128) #[] #[]] w fun e w' => Iz l e ∧ w' = w := by
  rcases h.is with ⟨rfl, A, c, rfl⟩ | ⟨b, o, c, rfl, _, hA⟩
  · exact idx_none A c w
  · exact idx_row b o c l w hA hn
theorem as_sl {W : World} {v : Value} {l : List (List Tm)} (h : As W v l) : ∃ A c, v = .slice A l.length c := by
  rcases h.is with ⟨rfl, A, c, rfl⟩ | ⟨b, o, c, rfl, _⟩
  · exact ⟨_, _, rfl⟩
  · exact ⟨_, _, rfl⟩
theorem conE_any (v : Value) (l : List (List Tm)) (w : World) (h : As w v l) (hn : l.length ≤ 1000) : Calls Tryz.prog 127 #[v, .func (.func 128) #[] #[]] w fun e w' => e = .returned (.bool (!(l.all fun x => decide (x ≠ [])))) ∧ w' = w := by
  have cI := idx_any' v l w h hn
  obtain ⟨A, c, rfl⟩ := as_sl h
  clear h
  go_enter Tryz.func127, Tryz.ntmps127
  go_wp2_with fail
  refine cI.mono ?_
  rintro e w' ⟨⟨z, rfl, h0, h1, hz⟩, rfl⟩
  have HZ := Lib.hid hz
  clear hz
  go_wp2
  go_ret
  exact ⟨ret_bool (by rw [← HZ.out]), rfl⟩

theorem ask_empty {l : List (List Tm)} (h : (l.all fun x => decide (x ≠ [])) = false) : ask l = false := by unfold ask; rw [h]; rfl
theorem ask_long {l : List (List Tm)} (h : 30 < l.flatten.length) : ask l = false := by
  unfold ask; rw [decide_eq_false (by omega : ¬ l.flatten.length ≤ 30)]; simp
theorem ask_no {l : List (List Tm)} {k : Nat} {t : Tm} (h : l.flatten[k]? = some t) (ht : tok t = false) : ask l = false := by
  have : l.flatten.all tok = false := by
    rw [List.all_eq_false]; exact ⟨t, List.mem_of_getElem? h, by rw [ht]; simp⟩
  unfold ask; rw [this]; simp
theorem ask_yes {l : List (List Tm)} (h : (l.all fun x => decide (x ≠ [])) = true) (hn : l.flatten.length ≤ 30) (hk : ∀ j (hj : j < l.flatten.length), tok l.flatten[j] = true) : ask l = true := by
  have : l.flatten.all tok = true := by
    rw [List.all_eq_true]; intro t ht; obtain ⟨j, hj, rfl⟩ := List.getElem_of_mem ht; exact hk j hj
  unfold ask; rw [h, this, decide_eq_true hn]; rfl

/-- Between two rounds of Right. -/
structure RI (w : World) (l : List (List Tm)) (k : Nat) (W : World) : Prop where
  le : k ≤ 30
  bel : Below w.heap.size w W
  r : Boxed W w.heap.size 4 (.bool false)
  n : Boxed W (w.heap.size + 1) 3 (.int .i64 k)
  sz : w.heap.size + 3 ≤ W.heap.size
  ok : ∀ j (hj : j < l.flatten.length), j < k → tok l.flatten[j] = true
structure RX (w : World) (l : List (List Tm)) (W : World) : Prop where
  bel : Below w.heap.size w W
  no : ask l = false
  r : Boxed W w.heap.size 4 (.bool false)
theorem RI.own {w : World} {l : List (List Tm)} {B : Nat} (hB : w.heap.size ≤ B) : OwnFrom B (RI w l) := fun k W W' row h hg hr => by
  have kc := kc_grown hg (fun r e => (hr r e).2)
  exact ⟨h.le, h.bel.grown hg h.bel.size (fun r e => Nat.le_trans hB (hr r e).1), kc_box h.r kc, kc_box h.n kc, Nat.le_trans h.sz kc.1, h.ok⟩
theorem RX.own {w : World} {l : List (List Tm)} {B : Nat} (hB : w.heap.size ≤ B) : OwnFrom B (fun (_ : Unit) W => RX w l W) := fun k W W' row h hg hr => by
  have kc := kc_grown hg (fun r e => (hr r e).2)
  exact ⟨h.bel.grown hg h.bel.size (fun r e => Nat.le_trans hB (hr r e).1), h.no, kc_box h.r kc⟩

theorem K5.of {W : World} {g : Nat} {x0 x1 x2 x3 x4 : Value} {t : TypeId} (h : W.heap[g]? = some (.cells #[x0, x1, x2, x3, x4] t (0, 0))) : K5 W g x0 x1 x2 x3 x4 :=
  ⟨by simp [World.cell?, h], by simp [World.cell?, h], by simp [World.cell?, h], by simp [World.cell?, h], by simp [World.cell?, h], fun j => by simp [World.frozen?, h], (Array.getElem?_eq_some_iff.1 h).1⟩
/-- A round's term lies in a block. -/
def Rx (B0 : Nat) (F : List Tm) (mk : Value → Value → Act) (k : Nat) (a' : Act) (W : World) : Prop :=
  ∃ Bt, B0 ≤ Bt ∧ W.heap[Bt]? = some (Obj.cells #[.string ⟨(F[k]?.getD default).n.toArray⟩, .int .i64 (F[k]?.getD default).o, .int .i64 (F[k]?.getD default).e, .string ⟨(F[k]?.getD default).u.toArray⟩, .string ⟨(F[k]?.getD default).r.toArray⟩] 83 (0, 0)) ∧ a' = mk (.pointer (some ⟨Bt, 0, none⟩)) (tmv (F[k]?.getD default))
theorem Rx.own {B0 : Nat} {F : List Tm} {mk : Value → Value → Act} {k : Nat} {a' : Act} {B : Nat} : OwnFrom B (fun (_ : Unit) W => Rx B0 F mk k a' W) := fun _ W W' row h hg hr => by
  have kc := kc_grown hg (fun r e => (hr r e).2)
  obtain ⟨Bt, h1, h2, h3⟩ := h
  exact ⟨Bt, h1, kc.2 _ _ _ _ h2, h3⟩

set_option maxRecDepth 100000 in
set_option maxHeartbeats 2000000 in
theorem askr_main (v : Value) (l : List (List Tm)) (w : World) (h : As w v l) (hn : l.length ≤ 1000) (hx : ∀ x ∈ l, x.length ≤ 1000) (hS : ∀ t ∈ l.flatten, Shn t) (he : (l.all fun x => decide (x ≠ [])) = true) (hT : Tab w) : Calls Tryz.prog 54 #[v] w fun e w' => e = .returned (.bool (ask l)) ∧ Below w.heap.size w w' := by
  have cE := fun W (h : As W v l) => conE_any v l W h hn
  rw [he] at cE
  have HA := Lib.hid h
  have HE := Lib.hid he
  have HS := Lib.hid hS
  obtain ⟨A, c, rfl⟩ := as_sl h
  clear h he hS
  refine (callsIn_wide (n := 9)).1 ?_
  refine callsIn_of_wp_marks Tryz.func54 rfl trivial ?_ rfl
  simp only [Tryz.ntmps54, List.size_toArray, List.length_cons, List.length_nil, Nat.reduceAdd, Nat.reduceSub, Array.replicate_succ, Array.replicate_zero, List.push_toArray, List.append_toArray, List.nil_append, List.cons_append]
  gi_wp2_with fail
  refine ⟨trivial, (callsIn_wide.2 (cE _ (HA.out.on (bA1 _ _)))).mono ?_⟩
  rintro e w1 ⟨rfl, rfl⟩
  gi_wp2_with fail
  refine ⟨trivial, (callsIn_wide.2 (all_any A l.length c _)).mono ?_⟩
  rintro e w2 ⟨rfl, rfl⟩
  gi_wp2_with fail
  have bR := ((Boxed.new w 4 (.bool false)).alloc (.cells #[.int .i64 0] 3)).alloc (.cells #[.slice A l.length c] 24)
  have bN := (Boxed.new (w.alloc (.cells #[.bool false] 4)) 3 (.int .i64 0)).alloc (.cells #[.slice A l.length c] 24)
  have bS := Boxed.new ((w.alloc (.cells #[.bool false] 4)).alloc (.cells #[.int .i64 0] 3)) 24 (.slice A l.length c)
  rw [World.size_alloc] at bN
  rw [World.size_alloc, World.size_alloc] at bS
  have hb0 : Below w.heap.size w (((w.alloc (.cells #[.bool false] 4)).alloc (.cells #[.int .i64 0] 3)).alloc (.cells #[.slice A l.length c] 24)) := (((Below.refl _ w).alloc (Nat.le_refl _) _).alloc (by simp) _).alloc (by simp; omega) _
  have i0 : RI w l 0 (((w.alloc (.cells #[.bool false] 4)).alloc (.cells #[.int .i64 0] 3)).alloc (.cells #[.slice A l.length c] 24)) := ⟨by omega, hb0, bR, bN, by simp, fun j _ h => absurd h (Nat.not_lt_zero _)⟩
  refine range_lays (gf := 172) (lb := #[.pointer (some ⟨w.heap.size + 1 + 1, 0, none⟩)]) (n₀ := w.heap.size) rfl (enters_of Tryz.func172 (by kernel_rfl) rfl) (all_turns HA.out hn hx _ _ _ hb0 bS.lt bS.cell) (Below.refl _ _) (by simp; omega) (fun _ => rfl)
    (RI w l) (RX w l) (RI.own (by simp; omega)) (RX.own (by simp; omega)) i0
    (Rx (w.heap.size + 3) l.flatten (fun p t => { tmps := #[.slice A l.length c, undef, .pointer (some ⟨w.heap.size, 0, none⟩), .pointer (some ⟨w.heap.size + 1, 0, none⟩), p, .slice A l.length c, .bool false, .slice A l.length c, .func (.func 172) #[] #[.pointer (some ⟨w.heap.size + 1 + 1, 0, none⟩)], t, undef, undef, undef, undef, undef, undef, undef, undef, undef], defers := [] })) (fun k a' => Rx.own) ?assign ?body ?done ?stop
  case assign =>
    intro ll k W K hI hK
    unfold alE tmv
    gi_wp2
    refine hK _ _ (bA1 _ _) ⟨W.heap.size, hI.sz, World.alloc_heap_new W _, rfl⟩
  case done =>
    rintro D W hD hI hK
    have HY : Hid (ask l = true) := ask_yes HE.out hI.le (fun j hj => hI.ok j hj hj)
    have c0 := hI.r.cell
    have f0 := hI.r.frozen
    have kK := (KeepsOthers.setCell W ⟨w.heap.size, 0, none⟩ (.bool true)).same D _ hK rfl
    have q0 : Boxed (W.setCell ⟨w.heap.size, 0, none⟩ (.bool true)) w.heap.size 4 (.bool true) := hI.r.set _
    have hb := hI.bel.setCell (p := ⟨w.heap.size, 0, none⟩) (Nat.le_refl _) (.bool true)
    have kc := kc_grown (grownBy_putObj' (W.setCell ⟨w.heap.size, 0, none⟩ (.bool true)) D (.deferred none)) (fun r e => by cases e; exact ⟨_, kK, rfl⟩)
    have r0 := (kc_box q0 kc).cell
    have hD' : w.heap.size ≤ D := by simp at hD; omega
    have hb2 := hb.trans (belowK_b (w := w) (Nat.le_refl _) _ D _ (.deferred none) hD' kK rfl rfl)
    clear i0 hb0 bR bN bS hI hK kc q0 hb
    gi_wp2
    refine ⟨by simp, .inl ⟨_, _, rfl, run_takeDeferred kK, ?_⟩⟩
    exact ⟨.bool true, by simp only [results, Tryz.results54]; simp [go_sem, r0], by rw [HY.out], hb2⟩
  case stop =>
    rintro D W hD hX hK
    have kc := kc_grown (grownBy_putObj' W D (.deferred none)) (fun r e => by cases e; exact ⟨_, hK, rfl⟩)
    have r0 := (kc_box hX.r kc).cell
    have hD' : w.heap.size ≤ D := by simp at hD; omega
    have hb2 := hX.bel.trans (belowK_b (w := w) (Nat.le_refl _) _ D _ (.deferred none) hD' hK rfl rfl)
    have HN := Lib.hid hX.no
    clear hX i0 hb0 bR bN bS kc
    gi_wp2
    refine ⟨by simp, .inl ⟨_, _, rfl, run_takeDeferred hK, ?_⟩⟩
    exact ⟨.bool false, by simp only [results, Tryz.results54]; simp [go_sem, r0], by rw [HN.out], hb2⟩
  case body =>
    rintro ll k a' W hk hI ⟨Bt, hBt, hhp, rfl⟩
    obtain ⟨t, ht⟩ : ∃ t, l.flatten[k]? = some t := ⟨_, List.getElem?_eq_getElem hk⟩
    have HT := Lib.hid ht
    rw [ht] at hhp
    simp only [Option.getD_some] at hhp
    rw [ht]
    simp only [Option.getD_some]
    have tK := K5.of hhp
    have hS := HS.out t (List.mem_of_getElem? ht)
    have cP := fun W' (hW : Below w.heap.size w W') => rterm_any t W' hS (tab_on hT hW)
    have hko : KeepsOthers W (W.setCell ⟨w.heap.size + 1, 0, none⟩ (.int .i64 ((k : Int) + 1))) := KeepsOthers.setCell _ _ _
    have hbS := hI.bel.setCell (p := ⟨w.heap.size + 1, 0, none⟩) (Nat.le_succ _) (.int .i64 ((k : Int) + 1))
    have cn := hI.n.cell
    have fn := hI.n.frozen
    have lt1 := hI.n.lt
    have hk30 := hI.le
    have r1 := hI.r.other (B' := w.heap.size + 1) (by omega) (.int .i64 ((k : Int) + 1))
    have n1 := hI.n.set (.int .i64 ((k : Int) + 1))
    have tK1 := tK.other (B := w.heap.size + 1) (by omega) (.int .i64 ((k : Int) + 1))
    clear i0 hb0 bR bN bS ht hhp tK hS
    by_cases h30 : k = 30
    · have HN : Hid (ask l = false) := ask_long (by omega)
      have h31 : (30 : Int) < (k : Int) + 1 := by omega
      obtain ⟨t0, t1, t2, t3, t4, tf, tl⟩ := tK1
      have rc := r1.cell
      have rf := r1.frozen
      clear h30
      gi_wp2
      refine ⟨trivial, ?_⟩
      gi_wp2
      exact ⟨hko.trans (KeepsOthers.setCell _ _ _), hbS.setCell (p := ⟨w.heap.size, 0, none⟩) (Nat.le_refl _) _, HN.out, r1.set _⟩
    · have h31 : (k : Int) + 1 ≤ 30 := by omega
      have cQ := cP _ hbS
      cases hk2 : tok t with
      | false =>
        have HN : Hid (ask l = false) := ask_no HT.out hk2
        rw [hk2] at cQ
        unfold tmv at cQ
        obtain ⟨t0, t1, t2, t3, t4, tf, tl⟩ := tK1
        clear h30 cP
        gi_wp2_with fail
        refine ⟨trivial, (CallsIn.inRound ll (callsIn_wide.2 cQ)).mono ?_⟩
        rintro e w3 ⟨rfl, b3⟩
        have r3 := kc_box r1 (kc_below b3)
        have rc := r3.cell
        have rf := r3.frozen
        gi_wp2
        exact ⟨(hko.trans (ko_below b3)).trans (KeepsOthers.setCell _ _ _), (hbS.trans (b3.mono hbS.size)).setCell (p := ⟨w.heap.size, 0, none⟩) (Nat.le_refl _) _, HN.out, r3.set _⟩
      | true =>
        have HM : Hid (∀ j (hj : j < l.flatten.length), j < k + 1 → tok l.flatten[j] = true) := fun j hj h => by
          by_cases e : j = k
          · subst e
            have := HT.out
            rw [List.getElem?_eq_getElem hj] at this
            rw [Option.some.inj this]; exact hk2
          · exact hI.ok j hj (by omega)
        rw [hk2] at cQ
        unfold tmv at cQ
        obtain ⟨t0, t1, t2, t3, t4, tf, tl⟩ := tK1
        have hIb := hI.bel
        have hsz := hI.sz
        clear h30 cP hI
        gi_wp2_with fail
        refine ⟨trivial, (CallsIn.inRound ll (callsIn_wide.2 cQ)).mono ?_⟩
        rintro e w3 ⟨rfl, b3⟩
        have r3 := kc_box r1 (kc_below b3)
        have n3 := kc_box n1 (kc_below b3)
        rw [show ((k : Int) + 1) = ((k + 1 : Nat) : Int) by omega] at n3
        have hb3 := hbS.trans (b3.mono hbS.size)
        gi_wp2
        exact ⟨hko.trans (ko_below b3), ((Below.refl _ W).setCell (p := ⟨w.heap.size + 1, 0, none⟩) (Nat.le_succ _) _).trans (b3.mono hbS.size), by omega, hb3, r3, n3, by have := b3.size; simp at this; omega, HM.out⟩

/-- Whether what is asked for may be. -/
theorem askr_any (v : Value) (l : List (List Tm)) (w : World) (h : As w v l) (hn : l.length ≤ 1000) (hx : ∀ x ∈ l, x.length ≤ 1000) (hS : ∀ t ∈ l.flatten, Shn t) (hT : Tab w) : Calls Tryz.prog 54 #[v] w fun e w' => e = .returned (.bool (ask l)) ∧ Below w.heap.size w w' := by
  cases he : (l.all fun x => decide (x ≠ [])) with
  | true => exact askr_main v l w h hn hx hS he hT
  | false =>
    have cE := fun W (h : As W v l) => conE_any v l W h hn
    rw [he] at cE
    have HN := Lib.hid (ask_empty he)
    have HA := Lib.hid h
    obtain ⟨A, c, rfl⟩ := as_sl h
    clear h he hS hT
    go_enter Tryz.func54, Tryz.ntmps54
    go_wp2_with fail
    refine (cE _ (HA.out.on (bA1 _ _))).mono ?_
    rintro e w1 ⟨rfl, rfl⟩
    go_wp2
    exact bodyPost_ret (v := .bool false) (by simp only [results, Tryz.results54]; simp [go_sem]) rfl ⟨ret_bool HN.out.symm, bA1 _ _⟩

end Go.Proofs.YtmlmdncepgcimaaGreatDoor

/- The walks of a strings.Builder that is written: copyCheck, WriteString, WriteByte. -/
namespace Go.Proofs.YtmlmdncepgcimaaGreatDoor
open Go.RowKit Go.Shelf

theorem sizeB : (Tryz.prog.info? 122).map (·.size) = some 2 := by kernel_rfl
theorem neB5 : (122 : TypeId) ≠ 5 := by decide

set_option maxHeartbeats 1000000 in
set_option maxRecDepth 100000 in
theorem copy_used (b : Nat) (w : World) (h0 : w.cell? ⟨b, 0, none⟩ = some (.pointer (some ⟨b, 0, none⟩))) :
    Calls Tryz.prog 153 #[.pointer (some ⟨b, 0, none⟩)] w fun e w' => e = .returned (.tuple #[]) ∧ w' = w := by
  obtain ⟨j, hj, _⟩ := Option.map_eq_some_iff.1 sizeB
  go_enter Tryz.func153, Tryz.ntmps153
  go_wp2
  rw [Lib.run_neq_ptr_same w _ Tryz.underlying119 hj]
  go_wp2
  go_end0
  exact ⟨rfl, rfl⟩

set_option maxHeartbeats 1000000 in
set_option maxRecDepth 100000 in
theorem copy_fresh (b : Nat) (w : World) (h0 : w.cell? ⟨b, 0, none⟩ = some (.pointer none)) (hsh : w.shape? b = some (122, 2)) (hfz : w.frozen? ⟨b, 0, none⟩ = false) :
    Calls Tryz.prog 153 #[.pointer (some ⟨b, 0, none⟩)] w fun e w' => e = .returned (.tuple #[]) ∧ w' = w.setCell ⟨b, 0, none⟩ (.pointer (some ⟨b, 0, none⟩)) := by
  obtain ⟨j, hj, hjs⟩ := Option.map_eq_some_iff.1 sizeB
  go_enter Tryz.func153, Tryz.ntmps153
  go_wp2
  rw [Lib.run_to_unsafe w ⟨b, 0, none⟩ Tryz.underlying119 Tryz.underlying173 hj (by rw [hjs]; decide) hsh (Nat.zero_lt_succ 1)]
  simp only [Result.andThen]
  rw [Oper.upon_value]
  go_wp2
  rw [run_callFunc_extern Tryz.func201 (by kernel_rfl) (by kernel_rfl) (by kernel_rfl) (e := Extern.AbiNoEscape.same) (by kernel_rfl)]
  rw [Lib.run_noEscape]
  simp only [Result.andThen]
  rw [Oper.upon_value]
  go_wp2
  rw [Lib.run_from_unsafe w ⟨b, 0, none⟩ Tryz.underlying173 Tryz.underlying119 hj hsh Tryz.Builder_Extra_169.liesBuilder]
  simp only [Result.andThen]
  rw [Oper.upon_value]
  go_wp2
  go_end0
  exact ⟨rfl, rfl⟩

theorem copy_any (B b : Nat) (bs : List Value) (w : World) (h : Lib.IsBuilder 122 5 B b bs w) :
    Calls Tryz.prog 153 #[.pointer (some ⟨b, 0, none⟩)] w fun e w' => e = .returned (.tuple #[]) ∧ (Lib.BuilderAt 122 5 B b (.pointer (some ⟨b, 0, none⟩)) bs w' ∧ Below B w w' ∧ Lib.OthersKept 5 (some b) w w') := by
  rcases h with h | h
  · refine (copy_fresh b w h.cell0 h.shape h.frozen0).mono ?_
    rintro e w' ⟨rfl, rfl⟩
    exact ⟨rfl, h.used _, (Below.refl B w).setCell (p := ⟨b, 0, none⟩) h.1 _, (Lib.OthersKept.refl _ _ _).setCell ⟨b, 0, none⟩ rfl _⟩
  · refine (copy_used b w h.cell0).mono ?_
    rintro e w' ⟨rfl, rfl⟩
    exact ⟨rfl, h, Below.refl B _, Lib.OthersKept.refl _ _ _⟩

theorem row_kind {w : World} {B n : Nat} {v : Value} {xs : List Value} (h : w.ownsRow B 5 1 v n xs) : ∀ g, v.ownBlock = some g → ∃ c fz, w.heap[g]? = some (.cells c 5 fz) := by
  intro g hg
  rcases h.2 with ⟨rfl, _⟩ | ⟨g', cap, cur, rfl, _, h3, _⟩
  · cases hg
  · cases hg; exact ⟨_, _, h3⟩

set_option maxHeartbeats 1000000 in
set_option maxRecDepth 100000 in
theorem write_str (B b : Nat) (bs : List Value) (s : ByteArray) (w : World) (h : Lib.IsBuilder 122 5 B b bs w) (hlen : bs.length + s.size ≤ 140737488355328) (hBw : B ≤ w.heap.size) :
    Calls Tryz.prog 96 #[.pointer (some ⟨b, 0, none⟩), .string s] w fun e w' => e = .returned (.tuple #[.int .i64 s.size, .nilIface]) ∧ (Lib.BuilderAt 122 5 B b (.pointer (some ⟨b, 0, none⟩)) (bs ++ Lib.strCells s) w' ∧ Below B w w' ∧ Lib.OthersKept 5 (some b) w w') := by
  obtain ⟨i0, hi, hz0, hz1, hz2⟩ := info_parts infoByte
  go_enter Tryz.func96, Tryz.ntmps96
  go_wp2_with (go_at_call 153; refine (copy_any B b bs _ h).mono ?_)
  rintro e w1 ⟨rfl, h1, hb1, hk1⟩
  obtain ⟨hB, v, hbk, hown, hne⟩ := h1
  have c0 : w1.cell? ⟨b, 0, none⟩ = some (.pointer (some ⟨b, 0, none⟩)) := by rw [Lib.cell_of_heap hbk]; rfl
  have c1 : w1.cell? ⟨b, 1, none⟩ = some v := by rw [Lib.cell_of_heap hbk]; rfl
  go_wp2_with (at_builtin; refine Lib.wpList_append_own_string _ rfl _ _ 120 9 rfl B 5 i0 Tryz.underlying120 Tryz.underlying9 hi hz0 hz1 hz2 _ _ _ rfl hown s rfl ?c3 ?c4 ?c5 ?_)
  case c3 => unfold maxLen; omega
  case c4 => omega
  case c5 => have := hb1.size; omega
  intro v' w2 hown' hgrow _
  have hlt : b < w1.heap.size := by
    rcases Nat.lt_or_ge b w1.heap.size with h' | h'
    · exact h'
    · simp [Array.getElem?_eq_none h'] at hbk
  have hb2 : w2.heap[b]? = some (.cells #[.pointer (some ⟨b, 0, none⟩), v] 122 (0, 0)) := by
    rw [hgrow.block b hlt (fun e => hne e.symm)]
    exact hbk
  have d0 : w2.cell? ⟨b, 0, none⟩ = some (.pointer (some ⟨b, 0, none⟩)) := by rw [Lib.cell_of_heap hb2]; rfl
  have d1 : w2.cell? ⟨b, 1, none⟩ = some v := by rw [Lib.cell_of_heap hb2]; rfl
  have f1 : w2.frozen? ⟨b, 1, none⟩ = false := Lib.frozen_of_heap hb2 1
  obtain ⟨ao, n', cap, rfl⟩ : ∃ ao n' cap, v' = .slice ao n' cap := by
    rcases hown'.2 with ⟨hv, _⟩ | ⟨g, cap, cur, hv, _⟩
    · exact ⟨_, _, _, hv⟩
    · exact ⟨_, _, _, hv⟩
  go_wp2
  go_ret2
  refine ⟨rfl, ?_, ?_, (hk1.grown hgrow (row_kind hown)).setCell ⟨b, 1, none⟩ rfl _⟩
  · exact Lib.BuilderAt.put (T := 122) (e := 5) hB hb2 (bs' := bs ++ Lib.strCells s) (by simpa [Lib.strCells_length] using hown') neB5
  · exact (hb1.grown hgrow (by have := hb1.size; omega) (fun k hk => (hown.lt k hk).1)).setCell (p := ⟨b, 1, none⟩) hB _

set_option maxHeartbeats 1000000 in
set_option maxRecDepth 100000 in
theorem write_byte (B b : Nat) (bs : List Value) (c : Int) (w : World) (h : Lib.IsBuilder 122 5 B b bs w) (hlen : bs.length + 1 ≤ 140737488355328) (hBw : B ≤ w.heap.size) :
    Calls Tryz.prog 97 #[.pointer (some ⟨b, 0, none⟩), .int .u8 c] w fun e w' => e = .returned .nilIface ∧ (Lib.BuilderAt 122 5 B b (.pointer (some ⟨b, 0, none⟩)) (bs ++ [.int .u8 c]) w' ∧ Below B w w' ∧ Lib.OthersKept 5 (some b) w w') := by
  obtain ⟨i0, hi, hz0, hz1, hz2⟩ := info_parts infoByte
  go_enter Tryz.func97, Tryz.ntmps97
  go_wp2_with (go_at_call 153; refine (copy_any B b bs _ h).mono ?_)
  rintro e w1 ⟨rfl, h1, hb1, hk1⟩
  obtain ⟨hB, v, hbk, hown, hne⟩ := h1
  have c0 : w1.cell? ⟨b, 0, none⟩ = some (.pointer (some ⟨b, 0, none⟩)) := by rw [Lib.cell_of_heap hbk]; rfl
  have c1 : w1.cell? ⟨b, 1, none⟩ = some v := by rw [Lib.cell_of_heap hbk]; rfl
  go_wp2_with (at_builtin; refine wpList_append_own _ rfl _ _ 120 rfl B 5 i0 (.int .u8 0) 1 1 Tryz.underlying120 hi hz0 hz1 hz2 rfl (by decide) _ _ _ rfl (hown.alloc _) ⟨w1.heap.size, 0, none⟩ 1 1 [.int .u8 c] rfl rfl ?c1 ?c2 ?c3 ?c4 ?c5 ?_)
  case c1 =>
    intro j u hj
    match j, hj with
    | 0, hj => simp at hj; subst hj; simp [Addr.add]
  case c2 => intro u hu; simp at hu; subst hu; rfl
  case c3 => unfold maxLen; omega
  case c4 => omega
  case c5 => have := hb1.size; simp; omega
  intro v' w2 hown' hgrow _
  have hlt : b < w1.heap.size := by
    rcases Nat.lt_or_ge b w1.heap.size with h' | h'
    · exact h'
    · simp [Array.getElem?_eq_none h'] at hbk
  have hb2 : w2.heap[b]? = some (.cells #[.pointer (some ⟨b, 0, none⟩), v] 122 (0, 0)) := by
    rw [hgrow.block b (by simp; omega) (fun e => hne e.symm), Lib.alloc_old w1 _ b hlt]
    exact hbk
  have d0 : w2.cell? ⟨b, 0, none⟩ = some (.pointer (some ⟨b, 0, none⟩)) := by rw [Lib.cell_of_heap hb2]; rfl
  have d1 : w2.cell? ⟨b, 1, none⟩ = some v := by rw [Lib.cell_of_heap hb2]; rfl
  have f1 : w2.frozen? ⟨b, 1, none⟩ = false := Lib.frozen_of_heap hb2 1
  obtain ⟨g, cap, rfl⟩ : ∃ g cap, v' = .slice (some ⟨g, 0, none⟩) (bs.length + 1) cap := by
    rcases hown'.2 with ⟨_, h0⟩ | ⟨g, cap, cur, hv, _⟩
    · omega
    · exact ⟨g, cap, hv⟩
  go_wp2
  go_ret
  refine ⟨rfl, ?_, ?_, ((hk1.alloc _).grown hgrow (row_kind (hown.alloc _))).setCell ⟨b, 1, none⟩ rfl _⟩
  · exact Lib.BuilderAt.put (T := 122) (e := 5) hB hb2 (bs' := bs ++ [.int .u8 c]) (by simpa using hown') neB5
  · exact ((hb1.alloc (by have := hb1.size; omega) _).grown hgrow (by have := hb1.size; simp; omega) (fun k hk => (hown.lt k hk).1)).setCell (p := ⟨b, 1, none⟩) hB _

/-- A builder that holds these bytes. -/
structure Bd (B b : Nat) (l : List UInt8) (w : World) : Prop where
  is : Lib.IsBuilder 122 5 B b (Lib.byteCells l) w
  le : B ≤ w.heap.size

theorem bd_str (B b : Nat) (l s : List UInt8) (w : World) (h : Bd B b l w) (hl : l.length ≤ 1000000) (hs : s.length ≤ 1000000) :
    Calls Tryz.prog 96 #[.pointer (some ⟨b, 0, none⟩), .string ⟨s.toArray⟩] w fun e w' => e = .returned (.tuple #[.int .i64 s.length, .nilIface]) ∧ Bd B b (l ++ s) w' ∧ Below B w w' ∧ Lib.OthersKept 5 (some b) w w' := by
  have e1 : (ByteArray.mk s.toArray).size = s.length := by simp [ByteArray.size]
  refine (write_str B b _ ⟨s.toArray⟩ w h.is (by rw [e1]; simp [Lib.byteCells]; omega) h.le).mono ?_
  rintro e w' ⟨rfl, h1, h2, h3⟩
  have e2 : Lib.byteCells l ++ Lib.strCells ⟨s.toArray⟩ = Lib.byteCells (l ++ s) := by simp [Lib.byteCells, Lib.strCells]
  rw [e2] at h1
  exact ⟨by rw [e1], ⟨Or.inr h1, Nat.le_trans h.le h2.size⟩, h2, h3⟩
theorem bd_byte (B b : Nat) (l : List UInt8) (c : UInt8) (w : World) (h : Bd B b l w) (hl : l.length ≤ 1000000) :
    Calls Tryz.prog 97 #[.pointer (some ⟨b, 0, none⟩), .int .u8 c.toNat] w fun e w' => e = .returned .nilIface ∧ Bd B b (l ++ [c]) w' ∧ Below B w w' ∧ Lib.OthersKept 5 (some b) w w' := by
  refine (write_byte B b _ c.toNat w h.is (by simp [Lib.byteCells]; omega) h.le).mono ?_
  rintro e w' ⟨rfl, h1, h2, h3⟩
  have e2 : Lib.byteCells l ++ [Value.int .u8 c.toNat] = Lib.byteCells (l ++ [c]) := by simp [Lib.byteCells]
  rw [e2] at h1
  exact ⟨rfl, ⟨Or.inr h1, Nat.le_trans h.le h2.size⟩, h2, h3⟩

/-- A builder stays one, whatever is laid beside it. -/
theorem Bd.on {B b : Nat} {l : List UInt8} {w w' : World} (h : Bd B b l w) (k : Below w.heap.size w w') : Bd B b l w' := by
  have at' : ∀ p, Lib.BuilderAt 122 5 B b p (Lib.byteCells l) w → Lib.BuilderAt 122 5 B b p (Lib.byteCells l) w' := by
    rintro p ⟨hB, v, hb, hown, hne⟩
    have hlt : b < w.heap.size := (Array.getElem?_eq_some_iff.1 hb).1
    refine ⟨hB, v, by rw [k.block b hlt]; exact hb, hown.kept (row := none) ⟨k.os, k.tape, k.output, k.size, fun j hj _ => k.block j hj⟩ ?_, hne⟩
    cases hv : v.ownBlock with
    | none => exact Or.inl rfl
    | some g => exact Or.inr (by simp)
  exact ⟨h.is.imp (at' _) (at' _), Nat.le_trans h.le k.size⟩
/-- Cells of a box that is no row of bytes, kept by writes. -/
theorem ok_cell {w w' : World} {x b t : Nat} {cs : Array Value} {fz : Nat × Nat} (h : Lib.OthersKept 5 (some b) w w') (hx : w.heap[x]? = some (.cells cs t fz)) (hb : x ≠ b) (ht : t ≠ 5) : w'.heap[x]? = some (.cells cs t fz) :=
  h x _ hx (fun e => hb (by cases e; rfl)) (fun c f e => ht (by cases e; rfl))

end Go.Proofs.YtmlmdncepgcimaaGreatDoor

/- The walk of depend's writeTerm. -/
namespace Go.Proofs.YtmlmdncepgcimaaGreatDoor
open Go.RowKit Go.Shelf Go.Sort

/-- How a term is written. -/
def wrT (t : Tm) : List UInt8 := if t.o = 0 then t.n else t.n ++ [32, 40] ++ sgt t.o.toNat ++ [32] ++ Vm.pt t.e t.u t.r ++ [41]
/-- A block of a term, and a builder beside it. -/
structure Wt (w0 : World) (B b tb : Nat) (t : Tm) (l : List UInt8) (W : World) : Prop where
  bd : Bd B b l W
  t : W.heap[tb]? = some (.cells #[.string ⟨t.n.toArray⟩, .int .i64 t.o, .int .i64 t.e, .string ⟨t.u.toArray⟩, .string ⟨t.r.toArray⟩] 83 (0, 0))
  b : Below w0.heap.size w0 W
theorem Wt.step {w0 : World} {B b tb : Nat} {t : Tm} {l l' : List UInt8} {W W' : World} (h : Wt w0 B b tb t l W) (hne : tb ≠ b) (hB : w0.heap.size ≤ B) (h1 : Bd B b l' W') (h2 : Below B W W') (h3 : Lib.OthersKept 5 (some b) W W') : Wt w0 B b tb t l' W' :=
  ⟨h1, ok_cell h3 h.t hne (by decide), h.b.trans (h2.mono hB)⟩
theorem Wt.on {w0 : World} {B b tb : Nat} {t : Tm} {l : List UInt8} {W W' : World} (h : Wt w0 B b tb t l W) (k : Below W.heap.size W W') : Wt w0 B b tb t l W' :=
  ⟨h.bd.on k, (k.block tb (Array.getElem?_eq_some_iff.1 h.t).1).trans h.t, bt2 h.b k⟩
theorem ok_trans {a : Nat} {b : Option Nat} {A B C : World} (h : Lib.OthersKept a b A B) (k : Lib.OthersKept a b B C) : Lib.OthersKept a b A C := fun x o hx h1 h2 => k x o (h x o hx h1 h2) h1 h2
theorem ok_below {a : Nat} {b : Option Nat} {A B : World} (h : Below A.heap.size A B) : Lib.OthersKept a b A B := fun x _ hx _ _ => (h.block x (Array.getElem?_eq_some_iff.1 hx).1).trans hx

set_option maxHeartbeats 1600000 in
set_option maxRecDepth 100000 in
theorem wterm_bare (B b : Nat) (t : Tm) (l : List UInt8) (w0 w : World) (h : Bd B b l w) (hb : b < w.heap.size) (h0 : Below w0.heap.size w0 w) (hB : w0.heap.size ≤ B) (hl : l.length ≤ 500000) (hn : t.n.length ≤ 1000) (ho : t.o = 0) :
    Calls Tryz.prog 165 #[.pointer (some ⟨b, 0, none⟩), tmv t] w fun e w' => e = .returned (.tuple #[]) ∧ Bd B b (l ++ wrT t) w' ∧ Below B w w' ∧ Lib.OthersKept 5 (some b) w w' := by
  have hw : Wt w0 B b w.heap.size t l (w.alloc (.cells #[.string ⟨t.n.toArray⟩, .int .i64 t.o, .int .i64 t.e, .string ⟨t.u.toArray⟩, .string ⟨t.r.toArray⟩] 83)) := ⟨h.on (bA1 _ _), World.alloc_heap_new w _, bt2 h0 (bA1 _ _)⟩
  have hle := h.le
  have HW : Hid (wrT t = t.n) := by show wrT t = t.n; unfold wrT; rw [if_pos ho]
  have c1 := fun W (h : Bd B b l W) => bd_str B b l t.n W h (by omega) (by omega)
  have hne : w.heap.size ≠ b := by omega
  clear h
  unfold tmv
  rw [ho] at hw ⊢
  go_enter Tryz.func165, Tryz.ntmps165
  go_wp2_with fail
  refine (c1 _ hw.bd).mono ?_
  rintro x w1 ⟨rfl, d1, b1, k1⟩
  have hw1 := hw.step hne hB d1 b1 k1
  obtain ⟨t0, t1, t2, t3, t4, tf, tl⟩ := K5.of hw1.t
  go_wp2
  refine bodyPost_ret (results_none rfl _ _ _) rfl ⟨rfl, by rw [HW.out]; exact d1, ((Below.refl _ w).alloc hle _).trans b1, ok_trans (ok_below (bA1 _ _)) k1⟩

set_option maxHeartbeats 3200000 in
set_option maxRecDepth 100000 in
theorem wterm_op (B b : Nat) (t : Tm) (l : List UInt8) (w0 w : World) (h : Bd B b l w) (hb : b < w.heap.size) (h0 : Below w0.heap.size w0 w) (hB : w0.heap.size ≤ B) (hl : l.length ≤ 500000) (hn : t.n.length ≤ 1000) (k : Nat) (ho : t.o = (k : Int)) (hk0 : 1 ≤ k) (hk6 : k < 6) (hS : Shn t) (hp : (Vm.pt t.e t.u t.r).length ≤ 1000) (hG : Sg w0) (hT : Tab w0) :
    Calls Tryz.prog 165 #[.pointer (some ⟨b, 0, none⟩), tmv t] w fun e w' => e = .returned (.tuple #[]) ∧ Bd B b (l ++ wrT t) w' ∧ Below B w w' ∧ Lib.OthersKept 5 (some b) w w' := by
  have hw : Wt w0 B b w.heap.size t l (w.alloc (.cells #[.string ⟨t.n.toArray⟩, .int .i64 t.o, .int .i64 t.e, .string ⟨t.u.toArray⟩, .string ⟨t.r.toArray⟩] 83)) := ⟨h.on (bA1 _ _), World.alloc_heap_new w _, bt2 h0 (bA1 _ _)⟩
  have hle := h.le
  obtain ⟨pt, hpt⟩ : ∃ pt, pt = Vm.pt t.e t.u t.r := ⟨_, rfl⟩
  obtain ⟨sg, hsg⟩ : ∃ sg, sg = sgt k := ⟨_, rfl⟩
  have hsl : sg.length ≤ 2 := by
    subst hsg
    match k, hk0, hk6 with
    | 1, _, _ => decide
    | 2, _, _ => decide
    | 3, _, _ => decide
    | 4, _, _ => decide
    | 5, _, _ => decide
  have HW : Hid (wrT t = t.n ++ [32, 40] ++ sg ++ [32] ++ pt ++ [41]) := by show wrT t = _; unfold wrT; rw [if_neg (by omega), ho, hpt, hsg]; rfl
  have hg : ∀ W, Below w0.heap.size w0 W → W.cell? ⟨3, k, none⟩ = some (.string ⟨sg.toArray⟩) := fun W hW => by rw [hsg]; exact (hG.on hW).c k hk6
  have cP : ∀ W, Below w0.heap.size w0 W → Calls Tryz.prog 45 #[.agg #[.int .i64 t.e, .string ⟨t.u.toArray⟩, .string ⟨t.r.toArray⟩]] W fun x w' => x = .returned (.string ⟨pt.toArray⟩) ∧ Below W.heap.size W w' := fun W hW => by rw [hpt]; exact print_any t.e t.u t.r W hS.e0 hS.e1 hS.u hS.r (tab_on hT hW)
  rw [← hpt] at hp
  have c1 := fun W (h : Bd B b l W) => bd_str B b l t.n W h (by omega) (by omega)
  have c2 := fun W (h : Bd B b (l ++ t.n) W) => bd_str B b (l ++ t.n) [32, 40] W h (by simp; omega) (by simp)
  have c3 := fun W (h : Bd B b (l ++ t.n ++ [32, 40]) W) => bd_str B b (l ++ t.n ++ [32, 40]) sg W h (by simp; omega) (by omega)
  have c4 := fun W (h : Bd B b (l ++ t.n ++ [32, 40] ++ sg) W) => bd_byte B b (l ++ t.n ++ [32, 40] ++ sg) 32 W h (by simp; omega)
  have c5' := fun W (h : Bd B b (l ++ t.n ++ [32, 40] ++ sg ++ [32]) W) => bd_str B b (l ++ t.n ++ [32, 40] ++ sg ++ [32]) pt W h (by simp; omega) (by omega)
  have c6 := fun W (h : Bd B b (l ++ t.n ++ [32, 40] ++ sg ++ [32] ++ pt) W) => bd_byte B b (l ++ t.n ++ [32, 40] ++ sg ++ [32] ++ pt) 41 W h (by simp; omega)
  have hne : w.heap.size ≠ b := by omega
  have hk0' : ¬ (k : Int) = 0 := by omega
  have hk1' : (0 : Int) ≤ (k : Int) := by omega
  have hk6' : (k : Int) < 6 := by omega
  clear h hG hT hpt hsg hS
  unfold tmv
  rw [ho]
  have ht := hw.t
  go_enter Tryz.func165, Tryz.ntmps165
  go_wp2_with fail
  rw [← ho]
  refine (c1 _ hw.bd).mono ?_
  rintro x w1 ⟨rfl, d1, b1, k1⟩
  have hw1 := hw.step hne hB d1 b1 k1
  have K1 := K5.of hw1.t
  rw [ho] at K1
  obtain ⟨t0, t1, t2, t3, t4, tf, tl⟩ := K1
  go_wp2_with fail
  refine (c2 _ d1).mono ?_
  rintro x w2 ⟨rfl, d2, b2, k2⟩
  have hw2 := hw1.step hne hB d2 b2 k2
  have K2 := K5.of hw2.t
  rw [ho] at K2
  clear t0 t1 t2 t3 t4 tf tl
  obtain ⟨t0, t1, t2, t3, t4, tf, tl⟩ := K2
  have g2 := hg w2 hw2.b
  go_wp2_with fail
  refine (c3 _ d2).mono ?_
  rintro x w3 ⟨rfl, d3, b3, k3⟩
  have hw3 := hw2.step hne hB d3 b3 k3
  clear t0 t1 t2 t3 t4 tf tl g2
  go_wp2_with fail
  refine (c4 _ d3).mono ?_
  rintro x w4 ⟨rfl, d4, b4, k4⟩
  have hw4 := hw3.step hne hB d4 b4 k4
  have K4 := K5.of hw4.t
  rw [ho] at K4
  obtain ⟨t0, t1, t2, t3, t4, tf, tl⟩ := K4
  go_wp2_with fail
  refine (cP _ hw4.b).mono ?_
  rintro x w5 ⟨rfl, b5⟩
  have hw5 := hw4.on b5
  clear t0 t1 t2 t3 t4 tf tl
  go_wp2_with fail
  refine (c5' _ hw5.bd).mono ?_
  rintro x w6 ⟨rfl, d6, b6, k6⟩
  have hw6 := hw5.step hne hB d6 b6 k6
  go_wp2_with fail
  refine (c6 _ d6).mono ?_
  rintro x w7 ⟨rfl, d7, b7, k7⟩
  have e1 : Below B w w7 := (((((((Below.refl _ w).alloc hle _).trans b1).trans b2).trans b3).trans b4).trans (b5.mono hw4.bd.le)).trans (b6.trans b7)
  have e2 : Lib.OthersKept 5 (some b) w w7 := ok_trans (ok_trans (ok_trans (ok_trans (ok_trans (ok_trans (ok_trans (ok_below (bA1 _ _)) k1) k2) k3) k4) (ok_below b5)) k6) k7
  go_wp2
  go_end0
  exact ⟨rfl, by rw [HW.out]; simpa [List.append_assoc] using d7, e1, e2⟩

/-- A term that may be is written. -/
theorem wterm_any (B b : Nat) (t : Tm) (l : List UInt8) (w0 w : World) (h : Bd B b l w) (hb : b < w.heap.size) (h0 : Below w0.heap.size w0 w) (hB : w0.heap.size ≤ B) (hl : l.length ≤ 500000) (hk : tok t = true) (hS : Shn t) (hG : Sg w0) (hT : Tab w0) :
    Calls Tryz.prog 165 #[.pointer (some ⟨b, 0, none⟩), tmv t] w fun e w' => e = .returned (.tuple #[]) ∧ Bd B b (l ++ wrT t) w' ∧ Below B w w' ∧ Lib.OthersKept 5 (some b) w w' := by
  unfold tok at hk
  rw [Bool.and_eq_true] at hk
  have hn : t.n.length ≤ 1000 := by
    have := hk.1
    unfold nmo at this
    simp only [Bool.and_eq_true, decide_eq_true_eq] at this
    omega
  by_cases ho : t.o = 0
  · exact wterm_bare B b t l w0 w h hb h0 hB hl hn ho
  · have h2 := hk.2
    rw [if_neg ho] at h2
    simp only [Bool.and_eq_true, decide_eq_true_eq] at h2
    have hp := (Vm.rt_parts h2.2.2).2.2.2.2.1
    exact wterm_op B b t l w0 w h hb h0 hB hl hn t.o.toNat (by omega) (by omega) (by omega) hS (by omega) hG hT

end Go.Proofs.YtmlmdncepgcimaaGreatDoor
