/- The walks of both Singles. -/
import Derived.Test.YtlldfmnoidndmaaGreatDoorTr
import Derived.Deep.AppendLies
import Derived.Lib.SmallJoins
import Derived.Deep.RegionLaw
import Derived.Test.YtlldfmnoidndmaaGreatDoorUx
namespace Go.Proofs.YtlldfmnoidndmaaGreatDoor
open Go.RowKit Go.Sort

theorem ts_at {W : World} {A : Option Addr} {n c : Nat} {l : List Tm} (h : Ts W (.slice A n c) l) (k : Nat) (hk : k < l.length) : ∃ b o, A = some ⟨b, o, none⟩ ∧ W.cell? ⟨b, o + k * 5, none⟩ = some (.string ⟨l[k].n.toArray⟩) ∧ W.cell? ⟨b, o + k * 5 + 1, none⟩ = some (.int .i64 l[k].o) ∧ W.cell? ⟨b, o + k * 5 + 2, none⟩ = some (.int .i64 l[k].e) ∧ W.cell? ⟨b, o + k * 5 + 3, none⟩ = some (.string ⟨l[k].u.toArray⟩) ∧ W.cell? ⟨b, o + k * 5 + 4, none⟩ = some (.string ⟨l[k].r.toArray⟩) := by
  rcases h.is with ⟨rfl, _⟩ | ⟨b, o, c', e, _, hf⟩
  · simp at hk
  · cases e; exact ⟨b, o, rfl, hf.c0 k hk, hf.c1 k hk, hf.c2 k hk, hf.c3 k hk, hf.c4 k hk⟩
theorem info40 : (Tryz.prog.info? 39).map (fun i => (i.zero, i.size, i.bytes)) = some (some (.slice none 0 0), 1, 24) := by kernel_rfl
theorem infoQ {t : TypeId} {z : Value} {s b : Nat} (h : (Tryz.prog.info? t).map (fun i => (i.zero, i.size, i.bytes)) = some (some z, s, b)) : ∃ i, Tryz.prog.info? t = some i ∧ i.zero = some z ∧ i.size = s ∧ i.bytes = b := by
  obtain ⟨i, hi, he⟩ := Option.map_eq_some_iff.1 h
  simp only [Prod.mk.injEq] at he
  exact ⟨i, hi, he.1, he.2.1, he.2.2⟩
/-- Terms, each by itself. -/
def sing (l : List Tm) : List (List Tm) := l.map fun t => [t]

/-- The values of the first of them. -/
def sv (b o c k : Nat) : List Value := (List.range k).map fun i => .slice (some ⟨b, o + i * 5, none⟩) 1 (c - i)
theorem sv_up (b o c k : Nat) : sv b o c (k + 1) = sv b o c k ++ [.slice (some ⟨b, o + k * 5, none⟩) 1 (c - k)] := by
  unfold sv; rw [List.range_succ, List.map_append]; rfl
theorem nb0 (w : World) (o : Obj) : (w.alloc o).heap[w.heap.size]? = some o := by
  show (w.heap.push o)[w.heap.size]? = some o
  simp

theorem tl_one {W : World} {b o : Nat} {l : List Tm} (h : Tl W b o l) (i : Nat) (hi : i < l.length) : Tl W b (o + i * 5) [l[i]] :=
  ⟨h.lt, fun j hj => by obtain rfl : j = 0 := by simpa using hj
                        simpa using h.c0 i hi,
   fun j hj => by obtain rfl : j = 0 := by simpa using hj
                  simpa using h.c1 i hi,
   fun j hj => by obtain rfl : j = 0 := by simpa using hj
                  simpa using h.c2 i hi,
   fun j hj => by obtain rfl : j = 0 := by simpa using hj
                  simpa using h.c3 i hi,
   fun j hj => by obtain rfl : j = 0 := by simpa using hj
                  simpa using h.c4 i hi⟩

theorem as_own {W : World} {B : Nat} {S : Value} {l : List (List Tm)} {vs : List Value} (hn : vs.length = l.length) (h : W.ownsRow B 39 1 S l.length vs) (hg : ∀ i (hi : i < l.length), Ts W (vs[i]'(by omega)) l[i]) : As W S l := by
  by_cases h0 : l = []
  · subst h0
    rcases h.2 with ⟨rfl, _⟩ | ⟨g', cap, cur, rfl, _⟩
    · exact ⟨Or.inl ⟨rfl, _, _, rfl⟩⟩
    · exact ⟨Or.inl ⟨rfl, _, _, rfl⟩⟩
  · have hp : 0 < l.length := by cases l with | nil => exact absurd rfl h0 | cons a b => simp
    obtain ⟨b, c, rfl⟩ := Go.Joins.ownsRow_form h hp
    have hc : l.length ≤ c := by
      rcases h.2 with ⟨h', _⟩ | ⟨g', cap', cur, h', hb, hg, hnc, hcm, hcs, htake⟩
      · simp at h'
      · simp only [Value.slice.injEq, Option.some.injEq, Addr.mk.injEq, and_true, true_and] at h'
        omega
    refine ⟨Or.inr ⟨b, 0, c, rfl, hc, ⟨(h.lt b rfl).2, fun i hi => ?_⟩⟩⟩
    refine ⟨_, ?_, hg i hi⟩
    have h1 := h.cellAt (g := b) i (by omega)
    rw [Nat.zero_add]
    rw [h1, List.getElem?_eq_getElem (by omega)]

set_option maxHeartbeats 3200000 in
set_option maxRecDepth 100000 in
theorem xsing_row (b o c : Nat) (l : List Tm) (w : World) (h : Tl w b o l) (hc : l.length ≤ c) (hn : l.length ≤ 1000) : Calls Tryz.prog 141 #[.slice (some ⟨b, o, none⟩) l.length c] w fun e w' => ∃ S, e = .returned S ∧ As w' S (sing l) ∧ Below w.heap.size w w' := by
  have HF := Lib.hid h
  obtain ⟨i0, hi0, hz0, hz1, hz2⟩ := infoQ info40
  clear h
  go_enter Tryz.func141, Tryz.ntmps141
  go_wp2_with fail
  go_loopw [3, 7] (fun S i W => ∃ k : Nat, k ≤ l.length ∧ i = .int .i64 k ∧ Hid (W.ownsRow w.heap.size 39 1 S k (sv b o c k)) ∧ Below w.heap.size w W) (fun _ i _ => l.length - (intOf i).toNat)
  case atStart => exact ⟨0, Nat.zero_le _, rfl, World.ownsRow_nil _ _ _ _, Below.refl _ _⟩
  case round =>
    obtain ⟨k, hk, rfl, HOW, hW⟩ := hrel
    by_cases hlt : k < l.length
    · have HA := Lib.hid (HOW.out.alloc (.cells #[.slice (some ⟨b, o + k * 5, none⟩) 1 (c - k)] 39))
      have hWa : Below w.heap.size w (wr.alloc (.cells #[.slice (some ⟨b, o + k * 5, none⟩) 1 (c - k)] 39)) := hW.alloc hW.size _
      go_wp2_with (at_builtin; refine wpList_append_lies _ rfl _ _ 38 rfl w.heap.size 39 i0 _ 1 24 Tryz.underlying38 hi0 hz0 hz1 hz2 rfl (by decide) _ _ _ rfl HA.out ⟨wr.heap.size, 0, none⟩ 1 1 [.slice (some ⟨b, o + k * 5, none⟩) 1 (c - k)] rfl rfl (World.news_of_block (nb0 wr _)) (by intro u hu; simp at hu; subst hu; rfl) (by decide) (by unfold maxLen; omega) (by omega) hWa.size _ rfl ?_; intro g' cp w6 hown hgrow _ _)
      have HO6 : Hid (w6.ownsRow w.heap.size 39 1 (.slice (some ⟨g', 0, none⟩) (k + 1) cp) (k + 1) (sv b o c (k + 1))) := by
        show w6.ownsRow _ _ _ _ _ _
        rw [sv_up]; exact hown
      have h6 : Below w.heap.size w w6 := hWa.grown hgrow hWa.size (fun j e => (HA.out.lt j e).1)
      exact ⟨⟨k + 1, hlt, by go_num, HO6, h6⟩, by simp [intOf]; omega⟩
    · have hke : k = l.length := by omega
      subst hke
      go_wp2_with fail
      go_ret
      refine ⟨_, rfl, as_own (l := sing l) (vs := sv b o c l.length) (by simp [sv, sing]) (by simpa [sing] using HOW.out) (fun i hi => ?_), hW⟩
      have hi' : i < l.length := by simpa [sing] using hi
      rw [show (sing l)[i] = [l[i]] from by simp [sing], show (sv b o c l.length)[i]'(by simpa [sv] using hi') = .slice (some ⟨b, o + i * 5, none⟩) 1 (c - i) from by simp [sv]]
      exact ⟨.inr ⟨b, o + i * 5, c - i, rfl, by simp; omega, tl_one (HF.out.on hW) i hi'⟩⟩
theorem xsing_nil (A : Option Addr) (c : Nat) (w : World) : Calls Tryz.prog 141 #[.slice A 0 c] w fun e w' => e = .returned (.slice none 0 0) ∧ w' = w := by
  go_enter Tryz.func141, Tryz.ntmps141
  go_wp2
  refine wp_loop_rounds 1 ?_
  rw [rounds_succ]
  go_wp2
  go_ret
  exact ⟨rfl, rfl⟩
theorem xsing_any (v : Value) (l : List Tm) (w : World) (h : Ts w v l) (hn : l.length ≤ 1000) : Calls Tryz.prog 141 #[v] w fun e w' => ∃ S, e = .returned S ∧ As w' S (sing l) ∧ Below w.heap.size w w' := by
  rcases h.is with ⟨rfl, A, c, rfl⟩ | ⟨b, o, c, rfl, hc, hf⟩
  · exact (xsing_nil A c w).mono fun x w' ⟨h1, h2⟩ => ⟨_, h1, ⟨Or.inl ⟨rfl, _, _, rfl⟩⟩, by rw [h2]; exact Below.refl _ _⟩
  · exact xsing_row b o c l w hf hc hn

/-- A term by itself, in a block of its own behind another one. -/
structure It (W : World) (B : Nat) (t : Tm) (v : Value) : Prop where
  is : ∃ g, B < g ∧ v = .slice (some ⟨g, 0, none⟩) 1 1 ∧ W.heap[g]? = some (Obj.cells #[.string ⟨t.n.toArray⟩, .int .i64 t.o, .int .i64 t.e, .string ⟨t.u.toArray⟩, .string ⟨t.r.toArray⟩] 125 (0, 0))
theorem It.ts {W : World} {B : Nat} {t : Tm} {v : Value} (h : It W B t v) : Ts W v [t] := by
  obtain ⟨g, _, rfl, hg⟩ := h.is
  have z : ∀ {j : Nat}, j < [t].length → j = 0 := fun hj => by simpa using hj
  refine ⟨.inr ⟨g, 0, 1, rfl, Nat.le_refl _, (Array.getElem?_eq_some_iff.1 hg).1, fun j hj => ?_, fun j hj => ?_, fun j hj => ?_, fun j hj => ?_, fun j hj => ?_⟩⟩
  all_goals
    obtain rfl := z hj
    simp [World.cell?, hg]
theorem It.alloc {W : World} {B : Nat} {t : Tm} {v : Value} (h : It W B t v) (o : Obj) : It (W.alloc o) B t v := by
  obtain ⟨g, h1, h2, hg⟩ := h.is
  refine ⟨g, h1, h2, ?_⟩
  have hl := (Array.getElem?_eq_some_iff.1 hg).1
  show (W.heap.push o)[g]? = _
  rw [Array.getElem?_push_lt hl, ← hg, Array.getElem?_eq_getElem hl]
theorem It.set {W : World} {B : Nat} {t : Tm} {v : Value} (h : It W B t v) (k : Nat) (u : Value) : It (W.setCell ⟨B, k, none⟩ u) B t v := by
  obtain ⟨g, h1, h2, hg⟩ := h.is
  exact ⟨g, h1, h2, (heap_setCell_other W ⟨B, k, none⟩ g u (fun e => by simp at e; omega)).trans hg⟩
/-- Between two rounds. -/
structure DI (w : World) (l : List Tm) (k : Nat) (W : World) (vs : List Value) : Prop where
  len : vs.length = l.length
  own : W.ownsRow w.heap.size 39 1 (.slice (some ⟨w.heap.size, 0, none⟩) l.length l.length) l.length vs
  it : ∀ i (hi : i < l.length) (hi' : i < vs.length), i < k → It W w.heap.size l[i] vs[i]
  bel : Below w.heap.size w W
def tob (t : Tm) : Obj := .cells #[.string ⟨t.n.toArray⟩, .int .i64 t.o, .int .i64 t.e, .string ⟨t.u.toArray⟩, .string ⟨t.r.toArray⟩] 125
theorem DI.step {w W : World} {l : List Tm} {k : Nat} {vs : List Value} (h : DI w l k W vs) (hk : k < l.length) : DI w l (k + 1) (((W.alloc (tob l[k])).alloc (tob l[k])).setCell ⟨w.heap.size, k, none⟩ (.slice (some ⟨W.heap.size + 1, 0, none⟩) 1 1)) (vs.set k (.slice (some ⟨W.heap.size + 1, 0, none⟩) 1 1)) := by
  have hs := h.bel.size
  have hB := (h.own.lt w.heap.size rfl).2
  refine ⟨by simp [h.len], (((h.own.alloc _).alloc _).stored k _).1, fun i hi hi' hik => ?_, ?_⟩
  · by_cases e : i = k
    · subst e
      rw [show (vs.set i (.slice (some ⟨W.heap.size + 1, 0, none⟩) 1 1))[i]'hi' = .slice (some ⟨W.heap.size + 1, 0, none⟩) 1 1 from by simp]
      refine It.set ⟨W.heap.size + 1, by omega, rfl, ?_⟩ _ _
      have := nb0 (W.alloc (tob l[i])) (tob l[i])
      rw [show (W.alloc (tob l[i])).heap.size = W.heap.size + 1 from by simp] at this
      exact this
    · rw [show (vs.set k (.slice (some ⟨W.heap.size + 1, 0, none⟩) 1 1))[i]'hi' = vs[i]'(by simpa using hi') from by simp [Ne.symm e]]
      exact (((h.it i hi (by simpa using hi') (by omega)).alloc _).alloc _).set _ _
  · have h1 : Below w.heap.size w (W.alloc (tob l[k])) := h.bel.alloc hs _
    have h2 : Below w.heap.size w ((W.alloc (tob l[k])).alloc (tob l[k])) := h1.alloc h1.size _
    exact h2.setCell (Nat.le_refl _) _

set_option maxHeartbeats 3200000 in
set_option maxRecDepth 100000 in
theorem dsing_row (b o c : Nat) (l : List Tm) (w : World) (h : Tl w b o l) (hn : l.length ≤ 1000) : Calls Tryz.prog 180 #[.slice (some ⟨b, o, none⟩) l.length c] w fun e w' => ∃ S, e = .returned S ∧ As w' S (sing l) ∧ Below w.heap.size w w' := by
  have HF := Lib.hid h
  obtain ⟨i0, hi0, hz0, hz1, hz2⟩ := infoQ info40
  clear h
  go_enter Tryz.func180, Tryz.ntmps180
  go_wp2_with (at_make; refine wpList_make_full _ rfl _ _ 38 rfl w.heap.size 39 i0 _ 1 Tryz.underlying38 hi0 hz0 hz1 _ _ _ _ l.length rfl rfl rfl rfl (by rw [hz2]; omega) (by unfold maxLen; omega) (Nat.le_refl _) ?_; intro w1 hown hgrow)
  have hw1 : Below w.heap.size w w1 := (Below.refl _ _).grown hgrow (Nat.le_refl _) (fun j e => by cases e)
  have D0 : ∃ vs, DI w l 0 w1 vs := ⟨_, by simp [madeCells], hown, fun i _ _ h => absurd h (Nat.not_lt_zero _), hw1⟩
  have HD0 := Lib.hid D0
  clear D0 hown hgrow hw1
  go_loopw [11] (fun i W => ∃ k : Nat, k ≤ l.length ∧ i = .int .i64 k ∧ Hid (∃ vs, DI w l k W vs)) (fun i _ => l.length - (intOf i).toNat)
  case atStart => exact ⟨0, Nat.zero_le _, rfl, HD0⟩
  case round =>
    obtain ⟨k, hk, rfl, HD⟩ := hrel
    obtain ⟨vs, hD⟩ := HD.out
    by_cases hlt : k < l.length
    · have hT := HF.out.on hD.bel
      have t0 := hT.c0 k hlt
      have t1 := hT.c1 k hlt
      have t2 := hT.c2 k hlt
      have t3 := hT.c3 k hlt
      have t4 := hT.c4 k hlt
      have hN := hD.step hlt
      have hl := hD.len
      have c1 := ((hD.own.alloc (tob l[k])).alloc (tob l[k])).cellAt k (by omega)
      rw [List.getElem?_eq_getElem (by omega)] at c1
      generalize vs[k]'(by omega) = y0 at c1
      have f1 := ((hD.own.alloc (tob l[k])).alloc (tob l[k])).frozenAt k
      have HN := Lib.hid hN
      unfold tob at c1 f1 HN
      clear hD hN hT hl HD HD0
      generalize l[k] = t at t0 t1 t2 t3 t4 c1 f1 HN
      go_wp2_with fail
      exact ⟨⟨k + 1, hlt, by go_num, ⟨_, HN.out⟩⟩, by simp [intOf]; omega⟩
    · have hke : k = l.length := by omega
      subst hke
      go_wp2_with fail
      go_ret
      refine ⟨_, rfl, as_own (l := sing l) (vs := vs) (by simp [sing, hD.len]) (by simpa [sing] using hD.own) (fun i hi => ?_), hD.bel⟩
      have hi' : i < l.length := by simpa [sing] using hi
      rw [show (sing l)[i] = [l[i]] from by simp [sing]]
      exact (hD.it i hi' (by rw [hD.len]; exact hi') hi').ts
set_option maxHeartbeats 800000 in
set_option maxRecDepth 100000 in
theorem dsing_nil (A : Option Addr) (c : Nat) (w : World) : Calls Tryz.prog 180 #[.slice A 0 c] w fun e w' => ∃ S, e = .returned S ∧ As w' S [] ∧ Below w.heap.size w w' := by
  obtain ⟨i0, hi0, hz0, hz1, hz2⟩ := infoQ info40
  go_enter Tryz.func180, Tryz.ntmps180
  go_wp2_with (at_make; refine wpList_make_full _ rfl _ _ 38 rfl w.heap.size 39 i0 _ 1 Tryz.underlying38 hi0 hz0 hz1 _ _ _ _ 0 rfl rfl rfl rfl (by rw [hz2]; omega) (by unfold maxLen; omega) (Nat.le_refl _) ?_; intro w1 hown hgrow)
  have hw1 : Below w.heap.size w w1 := (Below.refl _ _).grown hgrow (Nat.le_refl _) (fun j e => by cases e)
  clear hown hgrow
  refine wp_loop_rounds 1 ?_
  rw [rounds_succ]
  go_wp2
  go_ret
  exact ⟨_, rfl, ⟨Or.inl ⟨rfl, _, _, rfl⟩⟩, hw1⟩
theorem dsing_any (v : Value) (l : List Tm) (w : World) (h : Ts w v l) (hn : l.length ≤ 1000) : Calls Tryz.prog 180 #[v] w fun e w' => ∃ S, e = .returned S ∧ As w' S (sing l) ∧ Below w.heap.size w w' := by
  rcases h.is with ⟨rfl, A, c, rfl⟩ | ⟨b, o, c, rfl, hc, hf⟩
  · exact dsing_nil A c w
  · exact dsing_row b o c l w hf hn
end Go.Proofs.YtlldfmnoidndmaaGreatDoor
namespace Go.Proofs.YtlldfmnoidndmaaGreatDoor
open Go.RowKit Go.Shelf Go.Sort

structure Asx (l : List (List Tm)) : Prop where
  n : l.length ≤ 40
  x : ∀ x ∈ l, x.length ≤ 40
  s : ∀ x ∈ l, ∀ t ∈ x, Shn t
  m : ∀ x ∈ l, ∀ t ∈ x, t.n.length ≤ 1000
end Go.Proofs.YtlldfmnoidndmaaGreatDoor
