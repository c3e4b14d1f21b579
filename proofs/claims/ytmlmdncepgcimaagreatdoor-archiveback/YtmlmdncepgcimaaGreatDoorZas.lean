/- The walks of both Singles. -/
import Derived.Test.YtmlmdncepgcimaaGreatDoorZal
import Derived.Deep.AppendLies
import Derived.Lib.SmallJoins
import Derived.Deep.RegionLaw
import Derived.Test.YtmlmdncepgcimaaGreatDoorZaq
import Derived.Test.YtmlmdncepgcimaaGreatDoorUe
namespace Go.Proofs.YtmlmdncepgcimaaGreatDoor
open Go.RowKit Go.Sort

theorem ts_at {W : World} {A : Option Addr} {n c : Nat} {l : List Tm} (h : Ts W (.slice A n c) l) (k : Nat) (hk : k < l.length) : ∃ b o, A = some ⟨b, o, none⟩ ∧ W.cell? ⟨b, o + k * 5, none⟩ = some (.string ⟨l[k].n.toArray⟩) ∧ W.cell? ⟨b, o + k * 5 + 1, none⟩ = some (.int .i64 l[k].o) ∧ W.cell? ⟨b, o + k * 5 + 2, none⟩ = some (.int .i64 l[k].e) ∧ W.cell? ⟨b, o + k * 5 + 3, none⟩ = some (.string ⟨l[k].u.toArray⟩) ∧ W.cell? ⟨b, o + k * 5 + 4, none⟩ = some (.string ⟨l[k].r.toArray⟩) := by
  rcases h.is with ⟨rfl, _⟩ | ⟨b, o, c', e, _, hf⟩
  · simp at hk
  · cases e; exact ⟨b, o, rfl, hf.c0 k hk, hf.c1 k hk, hf.c2 k hk, hf.c3 k hk, hf.c4 k hk⟩
theorem info40 : (Tryz.prog.info? 25).map (fun i => (i.zero, i.size, i.bytes)) = some (some (.slice none 0 0), 1, 24) := by kernel_rfl
theorem infoQ {t : TypeId} {z : Value} {s b : Nat} (h : (Tryz.prog.info? t).map (fun i => (i.zero, i.size, i.bytes)) = some (some z, s, b)) : ∃ i, Tryz.prog.info? t = some i ∧ i.zero = some z ∧ i.size = s ∧ i.bytes = b := by
  obtain ⟨i, hi, he⟩ := Option.map_eq_some_iff.1 h
  simp only [Prod.mk.injEq] at he
  exact ⟨i, hi, he.1, he.2.1, he.2.2⟩
/-- Terms, each by itself. -/
def sing (l : List Tm) : List (List Tm) := l.map fun t => [t]

/-- The values of the first of them. -/
def sv (b o c k : Nat) : List Value := (List.range k).map fun i => .slice (some ⟨b, o + i * 5, none⟩) 1 (c - i)
theorem sv_up (b o c k : Nat) : sv b o c (k + 1) = sv b o c k ++ [.slice (some ⟨b, o + k * 5, none⟩) 1 (c - k)] := by
  unfold sv; rw [List.range_succ, List.map_append]; rfl
theorem nb0 (w : World) (o : Obj) : (w.alloc o).heap[w.heap.size]? = some o := by
  show (w.heap.push o)[w.heap.size]? = some o
  simp

theorem tl_one {W : World} {b o : Nat} {l : List Tm} (h : Tl W b o l) (i : Nat) (hi : i < l.length) : Tl W b (o + i * 5) [l[i]] :=
  ⟨h.lt, fun j hj => by obtain rfl : j = 0 := by simpa using hj
                        simpa using h.c0 i hi,
   fun j hj => by obtain rfl : j = 0 := by simpa using hj
                  simpa using h.c1 i hi,
   fun j hj => by obtain rfl : j = 0 := by simpa using hj
                  simpa using h.c2 i hi,
   fun j hj => by obtain rfl : j = 0 := by simpa using hj
                  simpa using h.c3 i hi,
   fun j hj => by obtain rfl : j = 0 := by simpa using hj
                  simpa using h.c4 i hi⟩

theorem as_own {W : World} {B : Nat} {S : Value} {l : List (List Tm)} {vs : List Value} (hn : vs.length = l.length) (h : W.ownsRow B 25 1 S l.length vs) (hg : ∀ i (hi : i < l.length), Ts W (vs[i]'(by omega)) l[i]) : As W S l := by
  by_cases h0 : l = []
  · subst h0
    rcases h.2 with ⟨rfl, _⟩ | ⟨g', cap, cur, rfl, _⟩
    · exact ⟨Or.inl ⟨rfl, _, _, rfl⟩⟩
    · exact ⟨Or.inl ⟨rfl, _, _, rfl⟩⟩
  · have hp : 0 < l.length := by cases l with | nil => exact absurd rfl h0 | cons a b => simp
    obtain ⟨b, c, rfl⟩ := Go.Joins.ownsRow_form h hp
    have hc : l.length ≤ c := by
      rcases h.2 with ⟨h', _⟩ | ⟨g', cap', cur, h', hb, hg, hnc, hcm, hcs, htake⟩
      · simp at h'
      · simp only [Value.slice.injEq, Option.some.injEq, Addr.mk.injEq, and_true, true_and] at h'
        omega
    refine ⟨Or.inr ⟨b, 0, c, rfl, hc, ⟨(h.lt b rfl).2, fun i hi => ?_⟩⟩⟩
    refine ⟨_, ?_, hg i hi⟩
    have h1 := h.cellAt (g := b) i (by omega)
    rw [Nat.zero_add]
    rw [h1, List.getElem?_eq_getElem (by omega)]

set_option maxHeartbeats 3200000 in
set_option maxRecDepth 100000 in
theorem xsing_row (b o c : Nat) (l : List Tm) (w : World) (h : Tl w b o l) (hc : l.length ≤ c) (hn : l.length ≤ 1000) : Calls Tryz.prog 40 #[.slice (some ⟨b, o, none⟩) l.length c] w fun e w' => ∃ S, e = .returned S ∧ As w' S (sing l) ∧ Below w.heap.size w w' := by
  have HF := Lib.hid h
  obtain ⟨i0, hi0, hz0, hz1, hz2⟩ := infoQ info40
  clear h
  go_enter Tryz.func40, Tryz.ntmps40
  go_wp2_with fail
  go_loopw [3, 7] (fun S i W => ∃ k : Nat, k ≤ l.length ∧ i = .int .i64 k ∧ Hid (W.ownsRow w.heap.size 25 1 S k (sv b o c k)) ∧ Below w.heap.size w W) (fun _ i _ => l.length - (intOf i).toNat)
  case atStart => exact ⟨0, Nat.zero_le _, rfl, World.ownsRow_nil _ _ _ _, Below.refl _ _⟩
  case round =>
    obtain ⟨k, hk, rfl, HOW, hW⟩ := hrel
    by_cases hlt : k < l.length
    · have HA := Lib.hid (HOW.out.alloc (.cells #[.slice (some ⟨b, o + k * 5, none⟩) 1 (c - k)] 25))
      have hWa : Below w.heap.size w (wr.alloc (.cells #[.slice (some ⟨b, o + k * 5, none⟩) 1 (c - k)] 25)) := hW.alloc hW.size _
      go_wp2_with (at_builtin; refine wpList_append_lies _ rfl _ _ 24 rfl w.heap.size 25 i0 _ 1 24 Tryz.underlying24 hi0 hz0 hz1 hz2 rfl (by decide) _ _ _ rfl HA.out ⟨wr.heap.size, 0, none⟩ 1 1 [.slice (some ⟨b, o + k * 5, none⟩) 1 (c - k)] rfl rfl (World.news_of_block (nb0 wr _)) (by intro u hu; simp at hu; subst hu; rfl) (by decide) (by unfold maxLen; omega) (by omega) hWa.size _ rfl ?_; intro g' cp w6 hown hgrow _ _)
      have HO6 : Hid (w6.ownsRow w.heap.size 25 1 (.slice (some ⟨g', 0, none⟩) (k + 1) cp) (k + 1) (sv b o c (k + 1))) := by
        show w6.ownsRow _ _ _ _ _ _
        rw [sv_up]; exact hown
      have h6 : Below w.heap.size w w6 := hWa.grown hgrow hWa.size (fun j e => (HA.out.lt j e).1)
      exact ⟨⟨k + 1, hlt, by go_num, HO6, h6⟩, by simp [intOf]; omega⟩
    · have hke : k = l.length := by omega
      subst hke
      go_wp2_with fail
      go_ret
      refine ⟨_, rfl, as_own (l := sing l) (vs := sv b o c l.length) (by simp [sv, sing]) (by simpa [sing] using HOW.out) (fun i hi => ?_), hW⟩
      have hi' : i < l.length := by simpa [sing] using hi
      rw [show (sing l)[i] = [l[i]] from by simp [sing], show (sv b o c l.length)[i]'(by simpa [sv] using hi') = .slice (some ⟨b, o + i * 5, none⟩) 1 (c - i) from by simp [sv]]
      exact ⟨.inr ⟨b, o + i * 5, c - i, rfl, by simp; omega, tl_one (HF.out.on hW) i hi'⟩⟩
theorem xsing_nil (A : Option Addr) (c : Nat) (w : World) : Calls Tryz.prog 40 #[.slice A 0 c] w fun e w' => e = .returned (.slice none 0 0) ∧ w' = w := by
  go_enter Tryz.func40, Tryz.ntmps40
  go_wp2
  refine wp_loop_rounds 1 ?_
  rw [rounds_succ]
  go_wp2
  go_ret
  exact ⟨rfl, rfl⟩
theorem xsing_any (v : Value) (l : List Tm) (w : World) (h : Ts w v l) (hn : l.length ≤ 1000) : Calls Tryz.prog 40 #[v] w fun e w' => ∃ S, e = .returned S ∧ As w' S (sing l) ∧ Below w.heap.size w w' := by
  rcases h.is with ⟨rfl, A, c, rfl⟩ | ⟨b, o, c, rfl, hc, hf⟩
  · exact (xsing_nil A c w).mono fun x w' ⟨h1, h2⟩ => ⟨_, h1, ⟨Or.inl ⟨rfl, _, _, rfl⟩⟩, by rw [h2]; exact Below.refl _ _⟩
  · exact xsing_row b o c l w hf hc hn

/-- A term by itself, in a block of its own behind another one. -/
structure It (W : World) (B : Nat) (t : Tm) (v : Value) : Prop where
  is : ∃ g, B < g ∧ v = .slice (some ⟨g, 0, none⟩) 1 1 ∧ W.heap[g]? = some (Obj.cells #[.string ⟨t.n.toArray⟩, .int .i64 t.o, .int .i64 t.e, .string ⟨t.u.toArray⟩, .string ⟨t.r.toArray⟩] 83 (0, 0))
theorem It.ts {W : World} {B : Nat} {t : Tm} {v : Value} (h : It W B t v) : Ts W v [t] := by
  obtain ⟨g, _, rfl, hg⟩ := h.is
  have z : ∀ {j : Nat}, j < [t].length → j = 0 := fun hj => by simpa using hj
  refine ⟨.inr ⟨g, 0, 1, rfl, Nat.le_refl _, (Array.getElem?_eq_some_iff.1 hg).1, fun j hj => ?_, fun j hj => ?_, fun j hj => ?_, fun j hj => ?_, fun j hj => ?_⟩⟩
  all_goals
    obtain rfl := z hj
    simp [World.cell?, hg]
theorem It.alloc {W : World} {B : Nat} {t : Tm} {v : Value} (h : It W B t v) (o : Obj) : It (W.alloc o) B t v := by
  obtain ⟨g, h1, h2, hg⟩ := h.is
  refine ⟨g, h1, h2, ?_⟩
  have hl := (Array.getElem?_eq_some_iff.1 hg).1
  show (W.heap.push o)[g]? = _
  rw [Array.getElem?_push_lt hl, ← hg, Array.getElem?_eq_getElem hl]
theorem It.set {W : World} {B : Nat} {t : Tm} {v : Value} (h : It W B t v) (k : Nat) (u : Value) : It (W.setCell ⟨B, k, none⟩ u) B t v := by
  obtain ⟨g, h1, h2, hg⟩ := h.is
  exact ⟨g, h1, h2, (heap_setCell_other W ⟨B, k, none⟩ g u (fun e => by simp at e; omega)).trans hg⟩
/-- Between two rounds. -/
structure DI (w : World) (l : List Tm) (k : Nat) (W : World) (vs : List Value) : Prop where
  len : vs.length = l.length
  own : W.ownsRow w.heap.size 25 1 (.slice (some ⟨w.heap.size, 0, none⟩) l.length l.length) l.length vs
  it : ∀ i (hi : i < l.length) (hi' : i < vs.length), i < k → It W w.heap.size l[i] vs[i]
  bel : Below w.heap.size w W
def tob (t : Tm) : Obj := .cells #[.string ⟨t.n.toArray⟩, .int .i64 t.o, .int .i64 t.e, .string ⟨t.u.toArray⟩, .string ⟨t.r.toArray⟩] 83
theorem DI.step {w W : World} {l : List Tm} {k : Nat} {vs : List Value} (h : DI w l k W vs) (hk : k < l.length) : DI w l (k + 1) (((W.alloc (tob l[k])).alloc (tob l[k])).setCell ⟨w.heap.size, k, none⟩ (.slice (some ⟨W.heap.size + 1, 0, none⟩) 1 1)) (vs.set k (.slice (some ⟨W.heap.size + 1, 0, none⟩) 1 1)) := by
  have hs := h.bel.size
  have hB := (h.own.lt w.heap.size rfl).2
  refine ⟨by simp [h.len], (((h.own.alloc _).alloc _).stored k _).1, fun i hi hi' hik => ?_, ?_⟩
  · by_cases e : i = k
    · subst e
      rw [show (vs.set i (.slice (some ⟨W.heap.size + 1, 0, none⟩) 1 1))[i]'hi' = .slice (some ⟨W.heap.size + 1, 0, none⟩) 1 1 from by simp]
      refine It.set ⟨W.heap.size + 1, by omega, rfl, ?_⟩ _ _
      have := nb0 (W.alloc (tob l[i])) (tob l[i])
      rw [show (W.alloc (tob l[i])).heap.size = W.heap.size + 1 from by simp] at this
      exact this
    · rw [show (vs.set k (.slice (some ⟨W.heap.size + 1, 0, none⟩) 1 1))[i]'hi' = vs[i]'(by simpa using hi') from by simp [Ne.symm e]]
      exact (((h.it i hi (by simpa using hi') (by omega)).alloc _).alloc _).set _ _
  · have h1 : Below w.heap.size w (W.alloc (tob l[k])) := h.bel.alloc hs _
    have h2 : Below w.heap.size w ((W.alloc (tob l[k])).alloc (tob l[k])) := h1.alloc h1.size _
    exact h2.setCell (Nat.le_refl _) _

set_option maxHeartbeats 3200000 in
set_option maxRecDepth 100000 in
theorem dsing_row (b o c : Nat) (l : List Tm) (w : World) (h : Tl w b o l) (hn : l.length ≤ 1000) : Calls Tryz.prog 47 #[.slice (some ⟨b, o, none⟩) l.length c] w fun e w' => ∃ S, e = .returned S ∧ As w' S (sing l) ∧ Below w.heap.size w w' := by
  have HF := Lib.hid h
  obtain ⟨i0, hi0, hz0, hz1, hz2⟩ := infoQ info40
  clear h
  go_enter Tryz.func47, Tryz.ntmps47
  go_wp2_with (at_make; refine wpList_make_full _ rfl _ _ 24 rfl w.heap.size 25 i0 _ 1 Tryz.underlying24 hi0 hz0 hz1 _ _ _ _ l.length rfl rfl rfl rfl (by rw [hz2]; omega) (by unfold maxLen; omega) (Nat.le_refl _) ?_; intro w1 hown hgrow)
  have hw1 : Below w.heap.size w w1 := (Below.refl _ _).grown hgrow (Nat.le_refl _) (fun j e => by cases e)
  have D0 : ∃ vs, DI w l 0 w1 vs := ⟨_, by simp [madeCells], hown, fun i _ _ h => absurd h (Nat.not_lt_zero _), hw1⟩
  have HD0 := Lib.hid D0
  clear D0 hown hgrow hw1
  go_loopw [11] (fun i W => ∃ k : Nat, k ≤ l.length ∧ i = .int .i64 k ∧ Hid (∃ vs, DI w l k W vs)) (fun i _ => l.length - (intOf i).toNat)
  case atStart => exact ⟨0, Nat.zero_le _, rfl, HD0⟩
  case round =>
    obtain ⟨k, hk, rfl, HD⟩ := hrel
    obtain ⟨vs, hD⟩ := HD.out
    by_cases hlt : k < l.length
    · have hT := HF.out.on hD.bel
      have t0 := hT.c0 k hlt
      have t1 := hT.c1 k hlt
      have t2 := hT.c2 k hlt
      have t3 := hT.c3 k hlt
      have t4 := hT.c4 k hlt
      have hN := hD.step hlt
      have hl := hD.len
      have c1 := ((hD.own.alloc (tob l[k])).alloc (tob l[k])).cellAt k (by omega)
      rw [List.getElem?_eq_getElem (by omega)] at c1
      generalize vs[k]'(by omega) = y0 at c1
      have f1 := ((hD.own.alloc (tob l[k])).alloc (tob l[k])).frozenAt k
      have HN := Lib.hid hN
      unfold tob at c1 f1 HN
      clear hD hN hT hl HD HD0
      generalize l[k] = t at t0 t1 t2 t3 t4 c1 f1 HN
      go_wp2_with fail
      exact ⟨⟨k + 1, hlt, by go_num, ⟨_, HN.out⟩⟩, by simp [intOf]; omega⟩
    · have hke : k = l.length := by omega
      subst hke
      go_wp2_with fail
      go_ret
      refine ⟨_, rfl, as_own (l := sing l) (vs := vs) (by simp [sing, hD.len]) (by simpa [sing] using hD.own) (fun i hi => ?_), hD.bel⟩
      have hi' : i < l.length := by simpa [sing] using hi
      rw [show (sing l)[i] = [l[i]] from by simp [sing]]
      exact (hD.it i hi' (by rw [hD.len]; exact hi') hi').ts
set_option maxHeartbeats 800000 in
set_option maxRecDepth 100000 in
theorem dsing_nil (A : Option Addr) (c : Nat) (w : World) : Calls Tryz.prog 47 #[.slice A 0 c] w fun e w' => ∃ S, e = .returned S ∧ As w' S [] ∧ Below w.heap.size w w' := by
  obtain ⟨i0, hi0, hz0, hz1, hz2⟩ := infoQ info40
  go_enter Tryz.func47, Tryz.ntmps47
  go_wp2_with (at_make; refine wpList_make_full _ rfl _ _ 24 rfl w.heap.size 25 i0 _ 1 Tryz.underlying24 hi0 hz0 hz1 _ _ _ _ 0 rfl rfl rfl rfl (by rw [hz2]; omega) (by unfold maxLen; omega) (Nat.le_refl _) ?_; intro w1 hown hgrow)
  have hw1 : Below w.heap.size w w1 := (Below.refl _ _).grown hgrow (Nat.le_refl _) (fun j e => by cases e)
  clear hown hgrow
  refine wp_loop_rounds 1 ?_
  rw [rounds_succ]
  go_wp2
  go_ret
  exact ⟨_, rfl, ⟨Or.inl ⟨rfl, _, _, rfl⟩⟩, hw1⟩
theorem dsing_any (v : Value) (l : List Tm) (w : World) (h : Ts w v l) (hn : l.length ≤ 1000) : Calls Tryz.prog 47 #[v] w fun e w' => ∃ S, e = .returned S ∧ As w' S (sing l) ∧ Below w.heap.size w w' := by
  rcases h.is with ⟨rfl, A, c, rfl⟩ | ⟨b, o, c, rfl, hc, hf⟩
  · exact dsing_nil A c w
  · exact dsing_row b o c l w hf hn
end Go.Proofs.YtmlmdncepgcimaaGreatDoor

/- The walk of the reference's Asked. -/
namespace Go.Proofs.YtmlmdncepgcimaaGreatDoor
open Go.RowKit Go.Shelf Go.Sort

theorem asl_at {W : World} {A : Option Addr} {n c : Nat} {l : List (List Tm)} (h : As W (.slice A n c) l) (k : Nat) (hk : k < l.length) : ∃ b o, A = some ⟨b, o, none⟩ ∧ ∃ v, W.cell? ⟨b, o + k, none⟩ = some v ∧ Ts W v l[k] := by
  rcases h.is with ⟨rfl, _⟩ | ⟨b, o, c', e, _, hf⟩
  · simp at hk
  · cases e; exact ⟨b, o, rfl, hf.c k hk⟩
theorem tk_len (l : List (List Tm)) (k : Nat) (hk : k < l.length) : (l.take (k + 1)).flatten.length = (l.take k).flatten.length + l[k].length := by
  rw [List.take_succ_eq_append_getElem hk, List.flatten_append, List.length_append]; simp
theorem tk_le (l : List (List Tm)) (k : Nat) : (l.take k).flatten.length ≤ l.flatten.length := by
  rw [show l.flatten.length = (l.take k ++ l.drop k).flatten.length from by rw [List.take_append_drop], List.flatten_append, List.length_append]; omega
theorem ask_e {l : List (List Tm)} {k : Nat} (hk : k < l.length) (h : l[k].length = 0) : ask l = false := ask_empty (by
  rw [List.all_eq_false]; exact ⟨l[k], List.getElem_mem hk, by simp [List.length_eq_zero_iff.1 h]⟩)
theorem ask_l {l : List (List Tm)} {k : Nat} (h : 30 < (l.take k).flatten.length) : ask l = false := ask_long (Nat.lt_of_lt_of_le h (tk_le l k))
theorem ask_t {l : List (List Tm)} {k j : Nat} (hk : k < l.length) (hj : j < l[k].length) (h : tok (l[k])[j] = false) : ask l = false := by
  obtain ⟨m, hm, e⟩ := List.getElem_of_mem (List.mem_flatten.2 ⟨l[k], List.getElem_mem hk, List.getElem_mem hj⟩)
  exact ask_no (k := m) (by rw [List.getElem?_eq_getElem hm, e]) h
theorem ask_y {l : List (List Tm)} (h : (l.take l.length).flatten.length ≤ 30) (h1 : ∀ k (hk : k < l.length), k < l.length → l[k].length ≠ 0 ∧ ∀ t ∈ l[k], tok t = true) : ask l = true := by
  rw [List.take_length] at h
  refine ask_yes ?_ h (fun j hj => ?_)
  · rw [List.all_eq_true]; intro x hx; obtain ⟨k, hk, rfl⟩ := List.getElem_of_mem hx
    have := (h1 k hk hk).1
    simp only [decide_eq_true_eq]; intro e; rw [e] at this; exact this rfl
  · obtain ⟨x, hx, ht⟩ := List.mem_flatten.1 (List.getElem_mem hj)
    obtain ⟨k, hk, rfl⟩ := List.getElem_of_mem hx
    exact (h1 k hk hk).2 _ ht

/-- The reference asks of a term what depend asks. -/
theorem tok_n {t : Tm} (h : nmo t.n = false) : tok t = false := by unfold tok; rw [h]; rfl
theorem tok_i {t : Tm} (h : (decide ((0 : Int) ≤ t.o) && decide (t.o ≤ 5)) = false) : tok t = false := by
  unfold tok
  have h' : ¬ (0 ≤ t.o ∧ t.o ≤ 5) := fun ⟨a, b⟩ => by simp [a, b] at h
  rw [if_neg (by omega : ¬ t.o = 0)]
  by_cases h0 : 0 < t.o
  · rw [decide_eq_false (by omega : ¬ t.o < 6)]; simp
  · rw [decide_eq_false h0]; simp
theorem tok_0 {t : Tm} (h : nmo t.n = true) (ho : t.o = 0) : tok t = (decide (t.e = 0) && (decide (t.u = []) && decide (t.r = []))) := by unfold tok; rw [h, if_pos ho]; rfl
theorem tok_r {t : Tm} (h : nmo t.n = true) (hi : (decide ((0 : Int) ≤ t.o) && decide (t.o ≤ 5)) = true) (ho : ¬ t.o = 0) : tok t = Vm.rt t.e t.u t.r := by
  simp only [Bool.and_eq_true, decide_eq_true_eq] at hi
  unfold tok; rw [h, if_neg ho, decide_eq_true (by omega : 0 < t.o), decide_eq_true (by omega : t.o < 6)]; rfl

/-- What is asked of the parts. -/
structure Asx (l : List (List Tm)) : Prop where
  n : l.length ≤ 40
  x : ∀ x ∈ l, x.length ≤ 40
  s : ∀ x ∈ l, ∀ t ∈ x, Shn t
  m : ∀ x ∈ l, ∀ t ∈ x, t.n.length ≤ 1000

set_option maxHeartbeats 3200000 in
set_option maxRecDepth 100000 in
theorem xasked_any (v : Value) (l : List (List Tm)) (w : World) (h : As w v l) (hX : Asx l) (hT : Tab w) :
    Calls Tryz.prog 61 #[v] w fun e w' => e = .returned (.bool (ask l)) ∧ Below w.heap.size w w' := by
  obtain ⟨r, hr⟩ : ∃ r, r = ask l := ⟨_, rfl⟩
  have HR := Lib.hid hr
  rw [← hr]
  obtain ⟨A, c, rfl⟩ := as_sl h
  have HL := Lib.hid h
  have HX := Lib.hid hX
  have HT := Lib.hid hT
  have hn := hX.n
  clear h hX hT hr
  go_enter Tryz.func61, Tryz.ntmps61
  go_wp2_with fail
  go_loopw [3, 10] (fun n i W => ∃ k : Nat, k ≤ l.length ∧ i = .int .i64 k ∧ n = .int .i64 ((l.take k).flatten.length : Nat) ∧ Below w.heap.size w W ∧ (l.take k).flatten.length ≤ 30 ∧ Hid (∀ j (hj : j < l.length), j < k → l[j].length ≠ 0 ∧ ∀ t ∈ l[j], tok t = true)) (fun _ i _ => l.length - (intOf i).toNat)
  case atStart => exact ⟨0, Nat.zero_le _, rfl, rfl, Below.refl _ _, by simp, fun j _ h => absurd h (Nat.not_lt_zero _)⟩
  case round =>
    obtain ⟨k, hkl, rfl, rfl, hW, h30, HN⟩ := hrel
    by_cases hlt : k < l.length
    · obtain ⟨b, o, rfl, xv, c0, hx⟩ := asl_at (HL.out.on hW) k hlt
      have hxm := List.getElem_mem hlt
      have hx1 := HX.out.x l[k] hxm
      have HX2 : Hid (∀ t ∈ l[k], Shn t ∧ t.n.length ≤ 1000) := fun t ht => ⟨HX.out.s l[k] hxm t ht, HX.out.m l[k] hxm t ht⟩
      have HE : Hid (l[k].length = 0 → r = false) := fun q => by rw [HR.out]; exact ask_e hlt q
      have HB : Hid (30 < (l.take k).flatten.length + l[k].length → r = false) := fun q => by rw [HR.out]; exact ask_l (k := k + 1) (by rw [tk_len l k hlt]; exact q)
      have HF : Hid (∀ j (hj : j < l[k].length), tok (l[k])[j] = false → r = false) := fun j hj q => by rw [HR.out]; exact ask_t hlt hj q
      have HK : Hid (l[k].length ≠ 0 → (∀ t ∈ l[k], tok t = true) → ∀ j (hj : j < l.length), j < k + 1 → l[j].length ≠ 0 ∧ ∀ t ∈ l[j], tok t = true) := fun q1 q2 j hj hjk => by
        by_cases e : j = k
        · subst e; exact ⟨q1, q2⟩
        · exact HN.out j hj (by omega)
      have HLn := Lib.hid (tk_len l k hlt)
      clear hxm HN
      generalize l[k] = x at hx hx1 HX2 HE HB HF HK HLn
      generalize (l.take k).flatten.length = m at h30 HB HLn ⊢
      obtain ⟨X, cX, rfl⟩ := ts_sl hx
      have HS := Lib.hid hx
      clear hx
      generalize wr = wA at *
      by_cases hx0 : x.length = 0
      · have hr := HE.out hx0
        subst hr
        go_wp2_with fail
        go_ret
        exact ⟨rfl, hW⟩
      · by_cases hm : 30 < m + x.length
        · have hr := HB.out hm
          subst hr
          go_wp2_with fail
          go_ret
          exact ⟨rfl, hW⟩
        · have e0 : ((x.length : Int) == 0) = false := by rw [beq_eq_false_iff_ne]; omega
          have e1 : decide ((30 : Int) < (m : Int) + (x.length : Int)) = false := by simp; omega
          go_wp2_with fail
          go_loopw [27] (fun i W => ∃ j : Nat, j ≤ x.length ∧ i = .int .i64 j ∧ Below wA.heap.size wA W ∧ Hid (∀ i (hi : i < x.length), i < j → tok x[i] = true)) (fun i _ => x.length - (intOf i).toNat)
          case atStart => exact ⟨0, Nat.zero_le _, rfl, Below.refl _ _, fun j _ h => absurd h (Nat.not_lt_zero _)⟩
          case round =>
            obtain ⟨j, hj, rfl, hV, HJ⟩ := hrel
            by_cases hjl : j < x.length
            · obtain ⟨bx, ox, rfl, t0, t1, t2, t3, t4⟩ := ts_at (HS.out.on hV) j hjl
              obtain ⟨hsh, hnm⟩ := HX2.out x[j] (List.getElem_mem hjl)
              have HFj : Hid (tok x[j] = false → r = false) := HF.out j hjl
              have HJ2 : Hid (tok x[j] = true → ∀ i (hi : i < x.length), i < j + 1 → tok x[i] = true) := fun q i hi hij => by
                by_cases e : i = j
                · subst e; exact q
                · exact HJ.out i hi (by omega)
              clear HJ
              generalize x[j] = t at t0 t1 t2 t3 t4 hsh hnm HFj HJ2
              have bT := bA1 wr (.cells #[.string ⟨t.n.toArray⟩, .int .i64 t.o, .int .i64 t.e, .string ⟨t.u.toArray⟩, .string ⟨t.r.toArray⟩] 83)
              have hVT := bt2 hV bT
              have hWT := bt2 hW hVT
              have cN := fun W => xname_any t.n W hnm
              have cI := fun W => xin3_any t.o 0 5 W
              have cR := xright_any t.e t.u t.r _ hsh.e0 hsh.e1 hsh.u hsh.r (tab_on HT.out hWT)
              clear bT
              cases hN : nmo t.n with
              | false =>
                have hr := HFj.out (tok_n hN)
                subst hr
                rw [hN] at cN
                clear cI cR hsh
                go_wp2_with (go_at_call 59; refine (cN _).mono ?_; rintro x w' ⟨rfl, rfl⟩)
                go_ret
                exact ⟨rfl, hWT⟩
              | true =>
                rw [hN] at cN
                cases hI : (decide ((0 : Int) ≤ t.o) && decide (t.o ≤ 5)) with
                | false =>
                  have hr := HFj.out (tok_i hI)
                  subst hr
                  rw [hI] at cI
                  clear cR hsh hI
                  go_wp2_with (first | (go_at_call 59; refine (cN _).mono ?_; rintro x w' ⟨rfl, rfl⟩) | (go_at_call 66; refine (cI _).mono ?_; rintro x w' ⟨rfl, rfl⟩))
                  go_ret
                  exact ⟨rfl, hWT⟩
                | true =>
                  rw [hI] at cI
                  by_cases ho : t.o = 0
                  · have HT0 := Lib.hid (tok_0 hN ho)
                    rw [ho] at t1 cI
                    clear cR hsh hI ho
                    go_wp2_with (first | (go_at_call 59; refine (cN _).mono ?_; rintro x w' ⟨rfl, rfl⟩) | (go_at_call 66; refine (cI _).mono ?_; rintro x w' ⟨rfl, rfl⟩))
                    case roundEnd => exact ⟨⟨j + 1, hjl, by go_num, bt2 hV (bA1 _ _), HJ2.out (by rw [HT0.out]; simp [*])⟩, by simp [intOf]; omega⟩
                    all_goals
                      go_ret
                      exact ⟨ret_bool (HFj.out (by rw [HT0.out]; simp [*])).symm, bt2 hW (bt2 hV (bA1 _ _))⟩
                  · have HTr := Lib.hid (tok_r hN hI ho)
                    have ho' : (t.o == 0) = false := by rw [beq_eq_false_iff_ne]; exact ho
                    have KT := K5.new wr (.string ⟨t.n.toArray⟩) (.int .i64 t.o) (.int .i64 t.e) (.string ⟨t.u.toArray⟩) (.string ⟨t.r.toArray⟩) 83
                    clear hsh hI
                    go_wp2_with (first | (go_at_call 59; refine (cN _).mono ?_; rintro x w' ⟨rfl, rfl⟩) | (go_at_call 66; refine (cI _).mono ?_; rintro x w' ⟨rfl, rfl⟩))
                    refine cR.mono ?_
                    rintro e w2 ⟨rfl, b2⟩
                    have hV2 := bt2 hVT b2
                    have hW2 := bt2 hW hV2
                    clear b2 hVT hWT KT
                    cases hy : Vm.rt t.e t.u t.r with
                    | true =>
                      go_wp2_with fail
                      exact ⟨⟨j + 1, hjl, by go_num, hV2, HJ2.out (by rw [HTr.out, hy])⟩, by simp [intOf]; omega⟩
                    | false =>
                      go_wp2_with fail
                      go_ret
                      exact ⟨ret_bool (HFj.out (by rw [HTr.out, hy])).symm, hW2⟩
            · have HG : Hid (∀ j (hj : j < l.length), j < k + 1 → l[j].length ≠ 0 ∧ ∀ t ∈ l[j], tok t = true) := HK.out hx0 (fun t ht => by
                obtain ⟨i, hi, rfl⟩ := List.getElem_of_mem ht
                exact HJ.out i hi (by omega))
              have hWV := bt2 hW hV
              go_wp2_with fail
              exact ⟨⟨k + 1, hlt, by go_num, by rw [HLn.out]; go_num, hWV, by rw [HLn.out]; omega, HG⟩, by simp [intOf]; omega⟩
    · have hke : k = l.length := by omega
      subst hke
      have hr : r = true := by rw [HR.out]; exact ask_y h30 HN.out
      subst hr
      go_wp2_with fail
      go_ret
      exact ⟨rfl, hW⟩
end Go.Proofs.YtmlmdncepgcimaaGreatDoor

/- The walk of the reference's PrintTerms. -/
namespace Go.Proofs.YtmlmdncepgcimaaGreatDoor
open Go.RowKit Go.Shelf Go.Sort

/-- What is written ahead of the j-th term of the i-th list. -/
def px (l : List (List Tm)) (x : List Tm) (i j : Nat) : List UInt8 := jn [44, 32] ((l.map wrS).take i) ++ (if j = 0 then [] else (if 0 < i then [44, 32] else []) ++ jn [32, 124, 32] ((x.map wrT).take j))
theorem px_s (l : List (List Tm)) (x : List Tm) (i j : Nat) (hj : j < x.length) : px l x i (j + 1) = px l x i j ++ (if 0 < j then [32, 124, 32] else if 0 < i then [44, 32] else []) ++ wrT x[j] := by
  unfold px
  rw [if_neg (by omega : ¬ j + 1 = 0), jn_succ _ _ _ (by simpa using hj)]
  by_cases h0 : j = 0
  · subst h0
    simp [jn]
  · have h1 : 0 < j := by omega
    rw [if_neg h0]; simp [h1, List.append_assoc]
theorem px_end (l : List (List Tm)) (i : Nat) (hi : i < l.length) (h0 : l[i].length ≠ 0) : px l l[i] i l[i].length = jn [44, 32] ((l.map wrS).take (i + 1)) := by
  unfold px
  rw [if_neg h0, jn_succ _ _ _ (by simpa using hi)]
  rw [show List.take l[i].length (List.map wrT l[i]) = List.map wrT l[i] from List.take_of_length_le (by simp)]
  simp [wrS, List.append_assoc]
theorem px_le {l : List (List Tm)} (h : Pok l) {x : List Tm} (hx : x ∈ l) (i j : Nat) : (px l x i j).length ≤ 210000 := by
  have h1 := h.ll i
  have h2 := h.lx hx j
  unfold px
  rw [List.length_append]
  split
  · simp; omega
  · rw [List.length_append]
    split <;> simp at * <;> omega
theorem sv_eq {A : ByteArray} {B : List UInt8} (h : A.data = B.toArray) : Value.string A = Value.string ⟨B.toArray⟩ := by
  congr 1; exact ByteArray.ext h
theorem pt_le {t : Tm} (h : tok t = true) (ho : ¬ t.o = 0) : (Vm.pt t.e t.u t.r).length ≤ 100 := by
  have := wrT_le h
  unfold wrT at this
  rw [if_neg ho] at this
  simp only [List.length_append] at this
  omega
theorem nm_le {t : Tm} (h : tok t = true) : t.n.length ≤ 100 := by
  have := wrT_le h
  unfold wrT at this
  split at this
  · exact this
  · simp only [List.length_append] at this; omega
theorem tok_op {t : Tm} (h : tok t = true) (ho : ¬ t.o = 0) : ∃ k : Nat, t.o = (k : Int) ∧ 0 < k ∧ k < 6 := by
  unfold tok at h
  rw [if_neg ho] at h
  simp only [Bool.and_eq_true, decide_eq_true_eq] at h
  exact ⟨t.o.toNat, by omega, by omega, by omega⟩
theorem sgt_le (k : Nat) : (sgt k).length ≤ 2 := by
  unfold sgt; split <;> simp

set_option maxHeartbeats 3200000 in
set_option maxRecDepth 100000 in
theorem xpterms_row (b o c : Nat) (l : List (List Tm)) (w : World) (h : Al w b o l) (hcl : l.length ≤ c) (hX : Asx l) (hk : ask l = true) (hP : Pok l) (hT : Tab w) :
    Calls Tryz.prog 41 #[.slice (some ⟨b, o, none⟩) l.length c] w fun e w' => e = .returned (.tuple #[.string ⟨(wrA l).toArray⟩, .int .i64 0]) ∧ Below w.heap.size w w' := by
  have cA := xasked_any (.slice (some ⟨b, o, none⟩) l.length c) l w ⟨.inr ⟨b, o, c, rfl, hcl, h⟩⟩ hX hT
  rw [hk] at cA
  have hne : ∀ x ∈ l, x.length ≠ 0 := fun x hx => by
    unfold ask at hk
    simp only [Bool.and_eq_true, List.all_eq_true, decide_eq_true_eq] at hk
    exact fun e => hk.1 x hx (List.length_eq_zero_iff.1 e)
  have HE := Lib.hid hne
  clear hne
  go_enter Tryz.func41, Tryz.ntmps41
  go_wp2_with fail
  refine cA.mono ?_
  rintro e w1 ⟨rfl, b1⟩
  have HA := Lib.hid (h.on b1)
  have HP := Lib.hid hP
  have HT := Lib.hid (tab_on hT b1)
  have hl30 := hP.n
  clear h hP hT cA hk hX
  go_wp2_with fail
  go_loopw [4, 14] (fun s v W => ∃ i : Nat, i ≤ l.length ∧ v = .int .i64 i ∧ s = .string ⟨(jn [44, 32] ((l.map wrS).take i)).toArray⟩ ∧ Below w1.heap.size w1 W) (fun _ v _ => l.length - (intOf v).toNat)
  case atStart => exact ⟨0, Nat.zero_le _, rfl, rfl, Below.refl _ _⟩
  case round =>
    obtain ⟨i, hi, rfl, rfl, hb⟩ := hrel
    by_cases hlt : i < l.length
    · obtain ⟨vi, c0, hTs⟩ := (HA.out.on hb).c i hlt
      have hxm := List.getElem_mem hlt
      have hx30 := HP.out.m l[i] hxm
      have HNE := Lib.hid (px_end l i hlt (HE.out l[i] hxm))
      have hne := HE.out l[i] hxm
      rw [show jn [44, 32] ((l.map wrS).take i) = px l l[i] i 0 from by simp [px]]
      generalize l[i] = x at hTs hxm hx30 HNE hne ⊢
      obtain ⟨A, c', rfl⟩ := ts_sl hTs
      have HS := Lib.hid hTs
      clear hTs
      generalize wr = wA at *
      have hS0 := px_le HP.out hxm i 0
      go_wp2_with fail
      go_loopw [4, 21] (fun s v W => ∃ j : Nat, j ≤ x.length ∧ v = .int .i64 j ∧ s = .string ⟨(px l x i j).toArray⟩ ∧ Below wA.heap.size wA W) (fun _ v _ => x.length - (intOf v).toNat)
      case atStart => exact ⟨0, Nat.zero_le _, rfl, rfl, Below.refl _ _⟩
      case round =>
        obtain ⟨j, hj, rfl, rfl, hV⟩ := hrel
        by_cases hjl : j < x.length
        · obtain ⟨bx, ox, rfl, t0, t1, t2, t3, t4⟩ := ts_at (HS.out.on hV) j hjl
          have htk := HP.out.k x hxm x[j] (List.getElem_mem hjl)
          have hts := HP.out.s x hxm x[j] (List.getElem_mem hjl)
          have HN := Lib.hid (px_s l x i j hjl)
          have hSl := px_le HP.out hxm i j
          generalize px l x i j = S at HN hSl ⊢
          generalize x[j] = t at t0 t1 t2 t3 t4 htk hts HN
          have hnl := nm_le htk
          have hWV := bt2 hb (bt2 hV (bA1 wr (.cells #[.string ⟨t.n.toArray⟩, .int .i64 t.o, .int .i64 t.e, .string ⟨t.u.toArray⟩, .string ⟨t.r.toArray⟩] 83)))
          have hsep : ∃ Sp : List UInt8, Sp.length ≤ 210010 ∧ Hid (px l x i (j + 1) = Sp ++ wrT t) ∧ Hid (Sp = S ++ (if 0 < j then [32, 124, 32] else if 0 < i then [44, 32] else [])) := ⟨_, by rw [List.length_append]; split; simp; omega; split <;> simp <;> omega, HN, rfl⟩
          obtain ⟨Sp, hSp, HN2, HSp⟩ := hsep
          clear HN
          by_cases ho : t.o = 0
          · rw [ho] at t1
            have HW : Hid (wrT t = t.n) := by show _ = _; unfold wrT; rw [if_pos ho]
            clear htk hts ho hWV
            have HV2 := Lib.hid (bt2 hV (bA1 wr (.cells #[.string ⟨t.n.toArray⟩, .int .i64 0, .int .i64 t.e, .string ⟨t.u.toArray⟩, .string ⟨t.r.toArray⟩] 83)))
            by_cases hj0 : 0 < j
            · have q0 : (0 : Int) < (j : Int) := by omega
              rw [if_pos hj0] at HSp
              go_wp2_with fail
              exact ⟨⟨j + 1, hjl, by go_num, sv_eq (by rw [HN2.out, HW.out, HSp.out]; simp), HV2.out⟩, by simp [intOf]; omega⟩
            · have q0 : ¬ (0 : Int) < (j : Int) := by omega
              rw [if_neg hj0] at HSp
              by_cases hi0 : 0 < i
              · have q1 : (0 : Int) < (i : Int) := by omega
                rw [if_pos hi0] at HSp
                go_wp2_with fail
                exact ⟨⟨j + 1, hjl, by go_num, sv_eq (by rw [HN2.out, HW.out, HSp.out]; simp), HV2.out⟩, by simp [intOf]; omega⟩
              · have q1 : ¬ (0 : Int) < (i : Int) := by omega
                rw [if_neg hi0] at HSp
                clear hi0 hj0
                go_wp2_with fail
                exact ⟨⟨j + 1, hjl, by go_num, sv_eq (by rw [HN2.out, HW.out, HSp.out]; simp), HV2.out⟩, by simp [intOf]; omega⟩
          · obtain ⟨k, hk, k0, k6⟩ := tok_op htk ho
            have HW : Hid (wrT t = t.n ++ [32, 40] ++ sgt k ++ [32] ++ Vm.pt t.e t.u t.r ++ [41]) := by show _ = _; unfold wrT; rw [if_neg ho, hk]; rfl
            have hpl := pt_le htk ho
            have hgl := sgt_le k
            have cS := fun W => xsign_any k k0 k6 W
            have cP := xprint_any t.e t.u t.r _ hts.e0 hts.e1 hts.u hts.r (tab_on HT.out hWV)
            have ho' : ((k : Int) == 0) = false := by rw [beq_eq_false_iff_ne]; omega
            rw [hk] at t1 cP hWV
            have hV2 := bt2 hV (bA1 wr (.cells #[.string ⟨t.n.toArray⟩, .int .i64 k, .int .i64 t.e, .string ⟨t.u.toArray⟩, .string ⟨t.r.toArray⟩] 83))
            have HV2 := Lib.hid hV2
            generalize sgt k = sg at HW hgl cS
            have hTT := hts
            have hTW := HT.out
            have KT := K5.new wr (.string ⟨t.n.toArray⟩) (.int .i64 k) (.int .i64 t.e) (.string ⟨t.u.toArray⟩) (.string ⟨t.r.toArray⟩) 83
            generalize hwB : wr.alloc (.cells #[.string ⟨t.n.toArray⟩, .int .i64 k, .int .i64 t.e, .string ⟨t.u.toArray⟩, .string ⟨t.r.toArray⟩] 83) = wB at cP hWV HV2 KT
            have HwB := Lib.hid hwB
            have g1 := cell_regrown KT.c1
            have g2 := cell_regrown KT.c2
            have g3 := cell_regrown KT.c3
            have g4 := cell_regrown KT.c4
            have d2 : ∀ d0 os, Calls Tryz.prog 39 #[.agg #[.int .i64 t.e, .string ⟨t.u.toArray⟩, .string ⟨t.r.toArray⟩]] (grow (redrawn wB d0) os) fun z w'' => z = .returned (.string ⟨(Vm.pt t.e t.u t.r).toArray⟩) ∧ ∃ p : Regrown, w'' = grow (redrawn wB p.d) p.os := fun d0 os => Calls.regrown_of (xprint_any t.e t.u t.r _ hTT.e0 hTT.e1 hTT.u hTT.r (tab_on hTW (bt2 hWV (below_regrown wB d0 os))))
            have d1 := fun d0 os => regrown_same (w := wB) cS d0 os
            generalize Vm.pt t.e t.u t.r = pv at HW hpl d2
            clear htk hts ho hWV hk hV2 cS cP hTT hTW hwB
            by_cases hj0 : 0 < j
            case' pos =>
              have q0 : (0 : Int) < (j : Int) := by omega
              rw [if_pos hj0] at HSp
              clear hj0
              go_wp2_with fail
            case' neg =>
              have q0 : ¬ (0 : Int) < (j : Int) := by omega
              rw [if_neg hj0] at HSp
              clear hj0
              by_cases hi0 : 0 < i
              case' pos =>
                have q1 : (0 : Int) < (i : Int) := by omega
                rw [if_pos hi0] at HSp
                clear hi0
                go_wp2_with fail
              case' neg =>
                have q1 : ¬ (0 : Int) < (i : Int) := by omega
                rw [if_neg hi0] at HSp
                clear hi0
                go_wp2_with fail
            all_goals
              rw [HwB.out]
              clear HwB
              refine wp_region_quiet_below (by kernel_rfl) (by kernel_rfl) ?_
              repeat (any_goals (first | go_big_quiet_step (first | with_reducible exact d1 _ _ | with_reducible exact d2 _ _) | quiet_step (first | with_reducible exact d1 _ _ | with_reducible exact d2 _ _)))
              refine wpQuiet_nil ?_
              intro _ hw'
              obtain ⟨⟨dq, osq⟩, hw''⟩ := hw'
              subst hw''
              have hV3 := rg HV2.out ⟨⟨dq, osq⟩, rfl⟩
              go_wp2_with fail
              exact ⟨⟨j + 1, hjl, by go_num, sv_eq (by rw [HN2.out, HW.out, HSp.out]; simp), hV3⟩, by simp [intOf]; omega⟩
        · obtain rfl : j = x.length := by omega
          have hWV := bt2 hb hV
          rw [HNE.out]
          go_wp2_with fail
          exact ⟨⟨i + 1, hlt, by go_num, rfl, hWV⟩, by simp [intOf]; omega⟩
    · obtain rfl : i = l.length := by omega
      have hWV := bt2 b1 hb
      rw [show jn [44, 32] ((l.map wrS).take l.length) = wrA l from by unfold wrA; rw [List.take_of_length_le (by simp)]]
      go_wp2_with fail
      go_ret2
      exact ⟨rfl, hWV⟩
set_option maxHeartbeats 800000 in
set_option maxRecDepth 100000 in
theorem xpterms_no (v : Value) (l : List (List Tm)) (w : World) (h : As w v l) (hX : Asx l) (hk : ask l = false) (hT : Tab w) : Calls Tryz.prog 41 #[v] w fun e w' => e = .returned (.tuple #[.string ⟨#[]⟩, .int .i64 1]) ∧ Below w.heap.size w w' := by
  have cA := xasked_any v l w h hX hT
  rw [hk] at cA
  obtain ⟨A, c, rfl⟩ := as_sl h
  clear h hX hT hk
  go_enter Tryz.func41, Tryz.ntmps41
  go_wp2_with fail
  refine cA.mono ?_
  rintro e w1 ⟨rfl, b1⟩
  go_wp2
  go_ret2
  exact ⟨rfl, b1⟩
set_option maxHeartbeats 800000 in
set_option maxRecDepth 100000 in
theorem xpterms_nil (A : Option Addr) (c : Nat) (w : World) (hT : Tab w) : Calls Tryz.prog 41 #[.slice A 0 c] w fun e w' => e = .returned (.tuple #[.string ⟨#[]⟩, .int .i64 0]) ∧ Below w.heap.size w w' := by
  have cA := xasked_any (.slice A 0 c) [] w ⟨.inl ⟨rfl, A, c, rfl⟩⟩ ⟨by simp, by simp, by simp, by simp⟩ hT
  rw [show ask [] = true from rfl] at cA
  clear hT
  go_enter Tryz.func41, Tryz.ntmps41
  go_wp2_with fail
  refine cA.mono ?_
  rintro e w1 ⟨rfl, b1⟩
  go_wp2
  refine wp_loop_rounds 1 ?_
  rw [rounds_succ]
  go_wp2
  go_ret2
  exact ⟨rfl, b1⟩
/-- What is asked for is written, if it may be. -/
theorem xpterms_any (v : Value) (l : List (List Tm)) (w : World) (h : As w v l) (hX : Asx l) (hT : Tab w) :
    Calls Tryz.prog 41 #[v] w fun e w' => e = .returned (if ask l = true then .tuple #[.string ⟨(wrA l).toArray⟩, .int .i64 0] else .tuple #[.string ⟨#[]⟩, .int .i64 1]) ∧ Below w.heap.size w w' := by
  cases hk : ask l with
  | false => exact xpterms_no v l w h hX hk hT
  | true =>
    rw [if_pos rfl]
    have hS : ∀ t ∈ l.flatten, Shn t := fun t ht => by obtain ⟨x, hx, ht⟩ := List.mem_flatten.1 ht; exact hX.s x hx t ht
    rcases h.is with ⟨rfl, A, c, rfl⟩ | ⟨b, o, c, rfl, hc, hA⟩
    · exact xpterms_nil A c w hT
    · exact xpterms_row b o c l w hA hc hX hk (pok_of hk hS) hT
end Go.Proofs.YtmlmdncepgcimaaGreatDoor
