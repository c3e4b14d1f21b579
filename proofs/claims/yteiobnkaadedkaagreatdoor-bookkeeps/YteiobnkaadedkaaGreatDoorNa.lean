/- The reference's disk, in memory; the walks of its small functions. -/
import Derived.Test.YteiobnkaadedkaaGreatDoorMk
namespace Go.Proofs.YteiobnkaadedkaaGreatDoor
open Go.RowKit Go.Sort Go.Maps

section
variable {α β : Type}
def mapV (g : α → β) (L : Kv α) : Kv β := L.map fun p => (p.1, g p.2)
theorem mapV_srt {g : α → β} {L : Kv α} (h : Srt L) : Srt (mapV g L) := List.pairwise_map.2 h
theorem mapV_lk (g : α → β) (k : List UInt8) (L : Kv α) : lkL k (mapV g L) = (lkL k L).map g := by
  unfold lkL mapV
  rw [List.find?_map]
  simp only [Function.comp_def, Option.map_map]
theorem mapV_tot (f : β → Nat) (g : α → β) (L : Kv α) : tot f (mapV g L) = tot (fun a => f (g a)) L := by
  unfold tot mapV; rw [List.map_map]; rfl
theorem mapV_del (g : α → β) (k : List UInt8) (L : Kv α) : delL k (mapV g L) = mapV g (delL k L) := by
  unfold delL mapV; rw [List.filter_map]; rfl
theorem totI_del (f : α → Nat) (k : List UInt8) (L : Kv α) : totI f (fun x => !(x == k)) L = tot f (delL k L) := by
  induction L with
  | nil => rfl
  | cons y r ih =>
    simp only [totI, tot, delL, List.map_cons, List.sum_cons, List.filter_cons] at ih ⊢
    rw [ih]
    by_cases hb : (!y.1 == k) = true
    · rw [if_pos hb, if_pos hb]; rfl
    · rw [if_neg hb, if_neg hb]; simp
end

/-- A file of the reference's: as it is, and the box of what is safe. -/
structure Rx where
  now : List UInt8
  p : Option Nat
  deriving Inhabited
def rvv (x : Rx) : Value := .agg #[.string ⟨x.now.toArray⟩, .pointer (x.p.map fun a => ⟨a, 0, none⟩)]
abbrev rxo (x : Rx) : Obj := .cells #[.string ⟨x.now.toArray⟩, .pointer (x.p.map fun a => ⟨a, 0, none⟩)] 47
abbrev bxo (t : List UInt8) : Obj := .cells #[.string ⟨t.toArray⟩] 9 (0, 0)
abbrev rdo (m : Nat) (lf bt : Int) : Obj := .cells #[.map (some m), .int .i64 lf, .int .i64 bt] 50 (0, 0)
structure Bx (w : World) (o : Option Nat) (s : Option (List UInt8)) : Prop where
  is : (o = none ∧ s = none) ∨ ∃ a t, o = some a ∧ s = some t ∧ w.heap[a]? = some (bxo t)
structure Rl (w : World) (x : Option Rx) (e : Option Ent) : Prop where
  is : (x = none ∧ e = none) ∨ ∃ x' e', x = some x' ∧ e = some e' ∧ x'.now = e'.now ∧ Bx w x'.p e'.sf
structure RD (w : World) (b m : Nat) (K : Kv Rx) (L : Kv Ent) (lf bt : Int) : Prop where
  blk : w.heap[b]? = some (rdo m lf bt)
  map : w.ownsMap Tryz.prog 9 Rv m K.length (toD rvv K)
  srt : Srt K
  srtL : Srt L
  rel : ∀ k, Rl w (lkL k K) (lkL k L)
def RX (b m : Nat) (k : Nat) : Prop := k = b ∨ k = m
/-- What is no box of a text. -/
def NoB (w : World) (k : Nat) : Prop := ∀ t, w.heap[k]? ≠ some (bxo t)
theorem Bx.kp {X : Nat → Prop} {w w' : World} {o : Option Nat} {s : Option (List UInt8)} (h : Bx w o s) (k : Kp X w w') (hX : ∀ i, X i → NoB w i) : Bx w' o s := by
  rcases h.is with h | ⟨a, t, h1, h2, h3⟩
  · exact ⟨.inl h⟩
  · exact ⟨.inr ⟨a, t, h1, h2, (k.block a (Array.getElem?_eq_some_iff.1 h3).1 fun hx => hX a hx t h3).trans h3⟩⟩
theorem Rl.kp {X : Nat → Prop} {w w' : World} {x : Option Rx} {e : Option Ent} (h : Rl w x e) (k : Kp X w w') (hX : ∀ i, X i → NoB w i) : Rl w' x e := by
  rcases h.is with h | ⟨x', e', h1, h2, h3, h4⟩
  · exact ⟨.inl h⟩
  · exact ⟨.inr ⟨x', e', h1, h2, h3, h4.kp k hX⟩⟩
theorem nob_cells {w : World} {k : Nat} {cs : Array Value} {t : TypeId} (h : w.heap[k]? = some (.cells cs t (0, 0))) (ht : t ≠ 9) : NoB w k := fun s e => by
  rw [h] at e; cases e; exact ht rfl
theorem nob_map {w : World} {k n : Nat} {D : DataW Value} (h : w.ownsMap Tryz.prog 9 Rv k n D) : NoB w k := fun s e => by
  obtain ⟨es, cl, h1, _⟩ := h
  rw [h1] at e; cases e
theorem RD.nob {w : World} {b m : Nat} {K : Kv Rx} {L : Kv Ent} {lf bt : Int} (h : RD w b m K L lf bt) : ∀ i, RX b m i → NoB w i := fun i hi => by
  rcases hi with rfl | rfl
  · exact nob_cells h.blk (by decide)
  · exact nob_map h.map
theorem PD.nob {w : World} {b : Nat} {mb : Option Nat} {L : Kv Ent} {e : Bool} {c : Int} {bd : Bool} {r : Int} (h : PD w b mb L e c bd r) : ∀ i, DX b mb i → NoB w i := fun i hi => by
  rcases hi with rfl | hi
  · exact nob_cells h.blk (by decide)
  · exact nob_map (h.map i hi)
theorem RD.kp {X : Nat → Prop} {w w' : World} {b m : Nat} {K : Kv Rx} {L : Kv Ent} {lf bt : Int} (h : RD w b m K L lf bt) (k : Kp X w w') (hX : ∀ i, X i → NoB w i) (hb : ¬ X b) (hm : ¬ X m) : RD w' b m K L lf bt :=
  ⟨(k.block b (Array.getElem?_eq_some_iff.1 h.blk).1 hb).trans h.blk, own_kp h.map k hm, h.srt, h.srtL, fun x => (h.rel x).kp k hX⟩
theorem RD.up {w w' : World} {b m : Nat} {K : Kv Rx} {L : Kv Ent} {lf bt : Int} (h : RD w b m K L lf bt) (k : Below w.heap.size w w') : RD w' b m K L lf bt :=
  h.kp (X := fun _ => False) (Kp.of k) (fun _ h => h.elim) (fun h => h) (fun h => h)
theorem RD.ne {w : World} {b m : Nat} {K : Kv Rx} {L : Kv Ent} {lf bt : Int} (h : RD w b m K L lf bt) : m ≠ b := fun e => by
  obtain ⟨es, cl, h1, _⟩ := h.map
  rw [e, h.blk] at h1; cases h1
theorem RD.nows {w : World} {b m : Nat} {K : Kv Rx} {L : Kv Ent} {lf bt : Int} (h : RD w b m K L lf bt) : mapV Rx.now K = mapV Ent.now L := by
  refine ext_lk (mapV_srt h.srt) (mapV_srt h.srtL) fun k => ?_
  rw [mapV_lk, mapV_lk]
  rcases (h.rel k).is with ⟨h1, h2⟩ | ⟨x, e, h1, h2, h3, _⟩
  · rw [h1, h2]; rfl
  · rw [h1, h2]; simp [h3]
theorem RD.len {w : World} {b m : Nat} {K : Kv Rx} {L : Kv Ent} {lf bt : Int} (h : RD w b m K L lf bt) : K.length = L.length := by
  have := congrArg List.length h.nows
  simpa [mapV] using this
theorem RD.keys {w : World} {b m : Nat} {K : Kv Rx} {L : Kv Ent} {lf bt : Int} (h : RD w b m K L lf bt) : K.map (·.1) = L.map (·.1) := by
  have := congrArg (List.map fun p => p.1) h.nows
  simpa [mapV, Function.comp_def] using this
def rnl (x : Rx) : Nat := x.now.length
theorem RD.totd {w : World} {b m : Nat} {K : Kv Rx} {L : Kv Ent} {lf bt : Int} (h : RD w b m K L lf bt) (k : List UInt8) : tot rnl (delL k K) = tot nl (delL k L) := by
  have e := congrArg (fun M => tot List.length (delL k M)) h.nows
  simp only [mapV_del, mapV_tot] at e
  exact e
structure Rc (w : World) (b m : Nat) (lf bt : Int) : Prop where
  lt : b < w.heap.size
  c0 : w.cell? ⟨b, 0, none⟩ = some (.map (some m))
  c1 : w.cell? ⟨b, 1, none⟩ = some (.int .i64 lf)
  c2 : w.cell? ⟨b, 2, none⟩ = some (.int .i64 bt)
  f0 : w.frozen? ⟨b, 0, none⟩ = false
  f1 : w.frozen? ⟨b, 1, none⟩ = false
  f2 : w.frozen? ⟨b, 2, none⟩ = false
theorem rc_of {w : World} {b m : Nat} {lf bt : Int} (h : w.heap[b]? = some (rdo m lf bt)) : Rc w b m lf bt :=
  ⟨(Array.getElem?_eq_some_iff.1 h).1, by simp [World.cell?, h], by simp [World.cell?, h], by simp [World.cell?, h], by simp [World.frozen?, h], by simp [World.frozen?, h], by simp [World.frozen?, h]⟩
theorem RD.set {w w' : World} {b m : Nat} {K : Kv Rx} {L : Kv Ent} {lf bt lf' bt' : Int} (h : RD w b m K L lf bt) (k : Kp (fun k => k = b) w w') (hb : w'.heap[b]? = some (rdo m lf' bt')) : RD w' b m K L lf' bt' :=
  ⟨hb, own_kp h.map k h.ne, h.srt, h.srtL, fun x => (h.rel x).kp k fun i hi => by subst hi; exact nob_cells h.blk (by decide)⟩

/-- Power, as the reference has it. -/
def rpw (lf : Int) : Int := if lf = 0 then 14 else 0
def rch (lf : Int) : Int := if 0 < lf then lf - 1 else lf
theorem power_any (b m : Nat) (K : Kv Rx) (L : Kv Ent) (lf bt : Int) (w : World) (h : RD w b m K L lf bt) (hl : lf ≤ 9223372036854775807) : Calls Tryz.prog 34 #[.pointer (some ⟨b, 0, none⟩)] w fun x w' => x = .returned (.int .i64 (rpw lf)) ∧ RD w' b m K L (rch lf) bt ∧ Kp (fun k => k = b) w w' := by
  obtain ⟨hlt, c0, c1, c2, f0, f1, f2⟩ := rc_of h.blk
  obtain ⟨x, hx⟩ : ∃ x, x = rpw lf := ⟨_, rfl⟩
  obtain ⟨l', hl'⟩ : ∃ l', l' = rch lf := ⟨_, rfl⟩
  rw [← hx, ← hl']
  unfold rpw at hx
  unfold rch at hl'
  by_cases h0 : lf = 0
  · subst h0
    rw [if_pos rfl] at hx
    rw [if_neg (by omega)] at hl'
    subst hx hl'
    go_enter Tryz.func34, Tryz.ntmps34
    go_wp2
    go_ret
    exact ⟨rfl, h, Kp.refl _ _⟩
  · rw [if_neg h0] at hx
    have h0' : (lf == 0) = false := by rw [beq_eq_false_iff_ne]; exact h0
    by_cases h1 : 0 < lf
    · rw [if_pos h1] at hl'
      have HH := Lib.hid h
      subst hx hl'
      clear h0 h
      go_enter Tryz.func34, Tryz.ntmps34
      go_wp2
      go_ret
      exact ⟨rfl, HH.out.set kp1 (heap_set HH.out.blk), kp1⟩
    · rw [if_neg h1] at hl'
      have HH := Lib.hid h
      subst hx hl'
      clear h0 h
      go_enter Tryz.func34, Tryz.ntmps34
      go_wp2
      go_ret
      exact ⟨rfl, HH.out, Kp.refl _ _⟩
theorem in_any (n : Int) (w : World) : Calls Tryz.prog 33 #[.int .i64 n, .int .i64 1, .int .i64 80] w fun x w' => x = .returned (.bool (decide (1 ≤ n) && decide (n ≤ 80))) ∧ w' = w := by
  go_enter Tryz.func33, Tryz.ntmps33
  go_wp2
  all_goals go_ret
  all_goals exact ⟨ret_bool (by rw [Bool.eq_iff_iff]; simp only [Bool.and_eq_true, decide_eq_true_eq, reduceCtorEq, false_iff]; omega), rfl⟩
theorem nok_in (k : List UInt8) : (decide (1 ≤ (k.length : Int)) && decide ((k.length : Int) ≤ 80)) = nok k := by
  unfold nok; rw [Bool.eq_iff_iff]; simp; omega
theorem newdisk_any (w : World) : Calls Tryz.prog 7 #[] w fun x w' => x = .returned (.pointer (some ⟨w.heap.size + 1, 0, none⟩)) ∧ RD w' (w.heap.size + 1) w.heap.size [] [] (-1) (-1) ∧ Below w.heap.size w w' := by
  have hmm := @run_makeMap Tryz.prog
  go_enter Tryz.func7, Tryz.ntmps7
  go_wp2
  go_ret
  have h1 : ((w.alloc (.map #[] 0)).alloc (rdo w.heap.size (-1) (-1))).heap[w.heap.size + 1]? = some (rdo w.heap.size (-1) (-1)) := by
    have := nb0 (w.alloc (.map #[] 0)) (rdo w.heap.size (-1) (-1))
    rwa [World.size_alloc] at this
  exact ⟨rfl, ⟨h1, (World.ownsMap_made w Tryz.prog 9 Rv).alloc _, Srt.nil, Srt.nil, fun k => ⟨.inl ⟨rfl, rfl⟩⟩⟩, ((Below.refl _ _).alloc (Nat.le_refl _) _).alloc (by simp) _⟩
theorem law9' : Keyed Tryz.prog 9 := law9
theorem zero50 (w : World) : (zeroValue 47).run Tryz.prog w = .ok (.agg #[.string ⟨#[]⟩, .pointer none]) w := by kernel_rfl
def zrx : Rx := ⟨[], none⟩
def rent (k : List UInt8) (K : Kv Rx) : Rx := (lkL k K).getD zrx
theorem rlook_own {w : World} {m n : Nat} {K : Kv Rx} (h : w.ownsMap Tryz.prog 9 Rv m n (toD rvv K)) (k : List UInt8) (hk : k.length ≤ 1000000) :
    (Instr.lookup 48 (.map (some m)) (.string ⟨k.toArray⟩) false).run Tryz.prog w = .ok (rvv (rent k K)) w ∧ (Instr.lookup 48 (.map (some m)) (.string ⟨k.toArray⟩) true).run Tryz.prog w = .ok (.tuple #[rvv (rent k K), .bool (lkL k K).isSome]) w := by
  have hat : ∀ v ps, Rv v = some ((toD rvv K).atKey (.string k) (.held (rvv zrx)), ps) → v = rvv (rent k K) := fun v ps hv => by
    rw [toD_at] at hv
    unfold rent
    cases hl : lkL k K with
    | none => rw [hl] at hv; simpa [Rv] using congrArg (fun o => o.map Prod.fst) hv
    | some a => rw [hl] at hv; simpa [Rv] using congrArg (fun o => o.map Prod.fst) hv
  constructor
  · obtain ⟨v, ps, h1, h2⟩ := h.lookup law9 Tryz.underlying48 (zero50 w) (zd := .held (rvv zrx)) (zp := []) rfl (key9 k hk)
    rw [h1, hat v ps h2]
  · obtain ⟨v, ps, h1, h2⟩ := h.look_ok law9 Tryz.underlying48 (zero50 w) (zd := .held (rvv zrx)) (zp := []) rfl (key9 k hk)
    rw [h1, hat v ps h2, toD_has]
end Go.Proofs.YteiobnkaadedkaaGreatDoor
