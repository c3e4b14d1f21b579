/- CheckSpares: its mathematics, its maps, its rows of offers. -/
import Derived.Test.YthijccmiemlilaaGreatDoorGq
import Derived.Test.YthijccmiemlilaaGreatDoorGj
namespace Go.Proofs.YthijccmiemlilaaGreatDoor.Kee
open Go.RowKit Go.Sort Go.Maps

theorem cnt_one : ∀ {l : List Nat}, l.Nodup → ∀ {i : Nat}, i ∈ l → l.count i = 1
  | a :: t, h, i, hi => by
    rw [List.nodup_cons] at h
    rw [List.count_cons]
    by_cases e : a = i
    · subst e; rw [List.count_eq_zero.2 h.1]; simp
    · have : i ∈ t := by
        rcases List.mem_cons.1 hi with r | r
        · exact absurd r.symm e
        · exact r
      rw [cnt_one h.2 this]; simp [e]
theorem nd_inj {l : List Nat} (h : l.Nodup) {i j : Nat} (hi : i < l.length) (hj : j < l.length) (e : l[i] = l[j]) : i = j := by
  have hp := List.pairwise_iff_getElem.1 h
  rcases Nat.lt_trichotomy i j with h1 | h1 | h1
  · exact absurd e (hp i j hi hj h1)
  · exact h1
  · exact absurd e.symm (hp j i hj hi h1)
theorem cnt_nd {l : List Nat} (h : l.Nodup) (i : Nat) : l.count i = if i ∈ l then 1 else 0 := by
  by_cases hi : i ∈ l
  · rw [if_pos hi]; exact cnt_one h hi
  · rw [if_neg hi]; exact List.count_eq_zero.2 hi
theorem sts_nd (l : List Kn) : (sts l l.length).Nodup := List.nodup_range.filter _
theorem lnR_nd (l : List Kn) : (lnR l).Nodup := by
  obtain ⟨_, h2, h3⟩ := lnO_all l
  unfold lnR
  rw [List.Nodup, List.pairwise_map]
  refine h2.imp_of_mem fun {a b} ha hb hab e => hab ?_
  have la := (h3 a).1 ha
  have lb := (h3 b).1 hb
  rw [List.getD_eq_getElem?_getD, List.getD_eq_getElem?_getD, List.getElem?_eq_getElem la, List.getElem?_eq_getElem lb] at e
  exact nd_inj (sts_nd l) la lb e
theorem lnR_mem (l : List Kn) (i : Nat) : i ∈ lnR l ↔ i ∈ sts l l.length := by
  obtain ⟨_, _, h3⟩ := lnO_all l
  unfold lnR
  rw [List.mem_map]
  constructor
  · rintro ⟨j, hj, rfl⟩
    have lj := (h3 j).1 hj
    rw [List.getD_eq_getElem?_getD, List.getElem?_eq_getElem lj]
    exact List.getElem_mem lj
  · intro hi
    obtain ⟨j, hj, e⟩ := List.getElem_of_mem hi
    refine ⟨j, (h3 j).2 hj, ?_⟩
    rw [List.getD_eq_getElem?_getD, List.getElem?_eq_getElem hj]
    exact e
theorem lnR_lt (l : List Kn) : ∀ i ∈ lnR l, i < l.length := fun i hi => sts_lt l i ((lnR_mem l i).1 hi)
/-- Each of them stands once in the line. -/
theorem lnR_cnt (l : List Kn) (i : Nat) (hi : i < l.length) : (lnR l).count i = if ms l[i] then 1 else 0 := by
  rw [cnt_nd (lnR_nd l)]
  have e : l.getD i default = l[i] := by simp [List.getD, hi]
  have : i ∈ lnR l ↔ ms l[i] = true := by
    rw [lnR_mem]
    unfold sts
    rw [List.mem_filter, List.mem_range, e]
    exact ⟨fun h => h.2, fun h => ⟨hi, h⟩⟩
  by_cases h : ms l[i] = true
  · rw [if_pos (this.2 h), if_pos h]
  · rw [if_neg (fun x => h (this.1 x)), if_neg h]
section
variable (n : Nat) (w : Nat → Bool) (A : Nat → List (Nat → Bool))
/-- Whoever goes, but the first, would miss them. -/
theorem rch_bad {s : Nat} {g : List Nat} (h : Nds.Rch n w A s g) : ∀ i ∈ g, i ≠ s → Nds.bad n w A (Nds.inl g) i = true := by
  induction h with
  | one => intro i hi hs; exact absurd (List.mem_singleton.1 hi) hs
  | more hr hl hb hn ih =>
    intro j hj hs
    rcases List.mem_append.1 hj with h1 | h1
    · exact Nds.bad_mono n w A (fun k hk => Nds.inl_mem.2 (List.mem_append.2 (.inl (Nds.inl_mem.1 hk)))) (ih j h1 hs)
    · rw [List.mem_singleton.1 h1]
      exact Nds.bad_mono n w A (fun k hk => Nds.inl_mem.2 (List.mem_append.2 (.inl (Nds.inl_mem.1 hk)))) hb
end
/-- Who goes when s goes: f counts them. -/
structure Gn (l : List Kn) (s : Nat) (f : Nat → Int) : Prop where
  s1 : f s = 1
  z : ∀ i, f i = 0 ∨ f i = 1
  stay : ∀ i, i < l.length → f i = 0 → ndW l i = true → Nds.mt l.length (ndW l) (ndA l) (fun _ => false) i = true → Nds.mt l.length (ndW l) (ndA l) (fun j => !decide (f j = 0)) i = true
  go : ∀ i, i < l.length → f i = 1 → i ≠ s → ndW l i = true ∧ Nds.mt l.length (ndW l) (ndA l) (fun _ => false) i = true ∧ Nds.mt l.length (ndW l) (ndA l) (fun j => !decide (f j = 0)) i = false
theorem gn_of {l : List Kn} {s : Nat} {R : List Nat} (h : Nds.NdR l.length (ndW l) (ndA l) s R) : Gn l s (fun j => if j = s then 1 else (R.count j : Int)) := by
  obtain ⟨g, h1, h2, h3⟩ := h.is
  have hnd : R.Nodup := h.up.imp fun hlt e => by omega
  have hf : ∀ j, (if j = s then (1 : Int) else (R.count j : Int)) = if Nds.inl g j = true then 1 else 0 := fun j => by
    by_cases e : j = s
    · subst e
      rw [if_pos rfl, if_pos (Nds.inl_mem.2 (Nds.rch_in _ _ _ h1))]
    · rw [if_neg e, cnt_nd hnd]
      by_cases hj : j ∈ R
      · rw [if_pos hj, if_pos (Nds.inl_mem.2 ((h3 j).1 hj).1)]; rfl
      · rw [if_neg hj, if_neg (fun x => hj ((h3 j).2 ⟨Nds.inl_mem.1 x, e⟩))]; rfl
  have hg : (fun j => !decide ((if j = s then (1 : Int) else (R.count j : Int)) = 0)) = Nds.inl g := by
    funext j
    rw [hf j]
    cases Nds.inl g j <;> simp
  refine ⟨if_pos rfl, fun i => ?_, fun i hi h0 hw hm => ?_, fun i hi h0 hs => ?_⟩
  · show (if i = s then (1 : Int) else (R.count i : Int)) = 0 ∨ (if i = s then (1 : Int) else (R.count i : Int)) = 1
    rw [hf i]
    cases Nds.inl g i <;> simp
  · show Nds.mt _ _ _ (fun j => !decide ((if j = s then (1 : Int) else (R.count j : Int)) = 0)) i = true
    rw [hg]
    have h0' : (if i = s then (1 : Int) else (R.count i : Int)) = 0 := h0
    rw [hf i] at h0'
    have hin : Nds.inl g i = false := by cases hh : Nds.inl g i with | false => rfl | true => rw [hh] at h0'; simp at h0'
    cases hmt : Nds.mt l.length (ndW l) (ndA l) (Nds.inl g) i with
    | true => rfl
    | false =>
      have := h2 i hi (by unfold Nds.bad; rw [hw, hm, hmt]; rfl)
      rw [hin] at this
      cases this
  · have h0' : (if i = s then (1 : Int) else (R.count i : Int)) = 1 := h0
    rw [hf i] at h0'
    have hin : Nds.inl g i = true := by cases hh : Nds.inl g i with | true => rfl | false => rw [hh] at h0'; simp at h0'
    have hb := rch_bad _ _ _ h1 i (Nds.inl_mem.1 hin) hs
    unfold Nds.bad at hb
    simp only [Bool.and_eq_true, Bool.not_eq_true'] at hb
    refine ⟨hb.1.1, hb.1.2, ?_⟩
    show Nds.mt _ _ _ (fun j => !decide ((if j = s then (1 : Int) else (R.count j : Int)) = 0)) i = false
    rw [hg]
    exact hb.2
/-- A map: what it says of numbers. -/
structure IN (W : World) (b : Nat) (f : Nat → Int) (c : Nat) : Prop where
  own : ∃ n D, n ≤ c ∧ W.ownsMap Tryz.prog 3 Ord.Rv b n D ∧ ∀ k : Nat, D.atKey (.int .i64 k) (.held (.int .i64 0)) = .held (.int .i64 (f k))
theorem IN.new {W : World} {b : Nat} (h : W.heap[b]? = some (.map #[] 0)) : IN W b (fun _ => 0) 0 :=
  ⟨0, .map [], Nat.le_refl _, Joins.ownsMap_empty h, fun _ => rfl⟩
theorem IN.kp {W W' : World} {b : Nat} {f : Nat → Int} {c : Nat} {S : Nat → Prop} (x : IN W b f c) (k : Ord.Kp S W W') (hs : ¬ S b) : IN W' b f c := by
  obtain ⟨n, D, h1, ⟨es, cl, h2, h3⟩, h4⟩ := x.own
  exact ⟨n, D, h1, ⟨es, cl, (k.block b (Array.getElem?_eq_some_iff.1 h2).1 hs).trans h2, h3⟩, h4⟩
theorem IN.on {W W' : World} {b : Nat} {f : Nat → Int} {c : Nat} (x : IN W b f c) (k : Below W.heap.size W W') : IN W' b f c := x.kp (Ord.kp_below k fun _ => False) (fun e => e)
theorem IN.look {W : World} {b : Nat} {f : Nat → Int} {c : Nat} (x : IN W b f c) (k : Nat) (hk : k ≤ 1000000) : (Instr.lookup 55 (.map (some b)) (.int .i64 (k : Int)) false).run Tryz.prog W = .ok (.int .i64 (f k)) W := by
  obtain ⟨n, D, _, h2, h3⟩ := x.own
  obtain ⟨v, ps, e1, e2⟩ := h2.lookup Ord.law3 Tryz.underlying55 (Ord.zero3 W) (zd := .held (.int .i64 0)) (zp := []) rfl (Ord.key3 k hk)
  rw [h3 k] at e2
  have : v = .int .i64 (f k) := by simpa [Ord.Rv] using congrArg (fun o => o.map Prod.fst) e2
  rw [← this]; exact e1
theorem IN.lt {W : World} {b : Nat} {f : Nat → Int} {c : Nat} (x : IN W b f c) : b < W.heap.size := by obtain ⟨n, D, _, h2, _⟩ := x.own; exact h2.lt
theorem IN.heap {W : World} {b : Nat} {f : Nat → Int} {c : Nat} (x : IN W b f c) : ∃ es cl, W.heap[b]? = some (.map es cl) := by
  obtain ⟨n, D, h1, ⟨es, cl, h2, h3⟩, h4⟩ := x.own
  exact ⟨es, cl, h2⟩
theorem IN.put {W : World} {b : Nat} {f : Nat → Int} {c : Nat} (x : IN W b f c) (k : Nat) (hk : k ≤ 1000000) (hc : c ≤ 1000000) (v : Int) :
    ∃ W', (Instr.mapUpdate 55 (.map (some b)) (.int .i64 (k : Int)) (.int .i64 v)).run Tryz.prog W = .ok () W' ∧ IN W' b (fun j => if j = k then v else f j) (c + 1) ∧ Ord.Kp (· = b) W W' := by
  obtain ⟨n, D, h1, h2, h3⟩ := x.own
  obtain ⟨W', e1, e2, e3⟩ := h2.store Ord.law3 Tryz.underlying55 (by unfold maxLen; omega) (Ord.key3 k hk) (val := .int .i64 v) (d := .held (.int .i64 v)) (ps := []) rfl
  have hkl : WideAt.IsKeyLit (.int .i64 (k : Int)) := by trivial
  have hne : ∀ j : Nat, j ≠ k → (Lit.int .i64 (j : Int)) ≠ .int .i64 (k : Int) := fun j hj => Ord.lit_ne hj
  refine ⟨W', e1, ⟨n + 1, _, by omega, e2, fun j => ?_⟩, ?_⟩
  · by_cases e : j = k
    · subst e; rw [if_pos rfl]; exact atKey_put_same h2.isMap hkl _ _
    · rw [if_neg e, atKey_put_other (hne j e), h3]
  · have g := e3.grown
    exact ⟨g.os, g.tape, g.output, g.size, fun i hi hs => g.block i hi (fun e => hs (by cases e; rfl))⟩
theorem kp_below' {W W' : World} {b : Nat} (k : Ord.Kp (· = b) W W') {B : Nat} {V : World} (h : Below B V W) (hB : B ≤ b) (hBs : B ≤ W.heap.size) : Below B V W' :=
  h.trans ⟨k.os, k.tape, k.output, k.size, fun i hi => k.block i (by omega) (fun e => by omega)⟩
theorem is_kp {W W' : World} {b : Nat} {f : Nat → Int} {c : Nat} {v : Value} {R : List Nat} (h : Ord.Is W v R) (x : IN W b f c) (k : Ord.Kp (· = b) W W') : Ord.Is W' v R := by
  rcases h.is with h | ⟨b', o, c', h1, h2, h3⟩
  · exact ⟨.inl h⟩
  · by_cases h0 : R.length = 0
    · obtain rfl := List.length_eq_zero_iff.1 h0
      rw [h1]
      exact ⟨.inl ⟨rfl, _, _, rfl⟩⟩
    · refine ⟨.inr ⟨b', o, c', h1, h2, h3.kp k (fun e => ?_)⟩⟩
      obtain ⟨es, cl, hh⟩ := x.heap
      have hc := h3.c 0 (by omega)
      have e' : b' = b := e
      subst e'
      simp [World.cell?, hh] at hc
theorem cells_kp {W W' : World} {b j : Nat} {f : Nat → Int} {c : Nat} {cs : Array Value} {t : TypeId} (h : W.heap[j]? = some (.cells cs t (0, 0))) (x : IN W b f c) (k : Ord.Kp (· = b) W W') : W'.heap[j]? = some (.cells cs t (0, 0)) := by
  refine (k.block j (Array.getElem?_eq_some_iff.1 h).1 (fun e => ?_)).trans h
  obtain ⟨es, cl, hh⟩ := x.heap
  have e' : j = b := e
  subst e'
  rw [hh] at h
  cases h
/-- Two rows of offers that grow apart. -/
structure YE (w V : World) (S S' : Value) (q q' : List (Ofr × Value)) (W : World) : Prop where
  b : Below V.heap.size V W
  x : W.ownsRow V.heap.size 65 5 S q.length (q.flatMap of5)
  x' : W.ownsRow V.heap.size 65 5 S' q'.length (q'.flatMap of5)
  t : ∀ x ∈ q, Ts w x.2 x.1.P
  t' : ∀ x ∈ q', Ts w x.2 x.1.P
  ne : ∀ g, S.ownBlock = some g → S'.ownBlock ≠ some g
theorem YE.on {w V : World} {S S' : Value} {q q' : List (Ofr × Value)} {W W' : World} (h : YE w V S S' q q' W) (k : Below W.heap.size W W') : YE w V S S' q q' W' := ⟨bon h.b k, own_on h.x k, own_on h.x' k, h.t, h.t', h.ne⟩
theorem YE.swap {w V : World} {S S' : Value} {q q' : List (Ofr × Value)} {W : World} (h : YE w V S S' q q' W) : YE w V S' S q' q W := ⟨h.b, h.x', h.x, h.t', h.t, fun g h1 h2 => h.ne g h2 h1⟩
end Go.Proofs.YthijccmiemlilaaGreatDoor.Kee
