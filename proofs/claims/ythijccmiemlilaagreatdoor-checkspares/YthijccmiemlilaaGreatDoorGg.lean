/- Offers by a closure of one captured variable, whose terms lie in a world that was before; what Needs has in memory. -/
import Derived.Test.YthijccmiemlilaaGreatDoorG1
import Derived.Test.YthijccmiemlilaaGreatDoorA8
import Derived.Test.YthijccmiemlilaaGreatDoorB6
namespace Go.Proofs.YthijccmiemlilaaGreatDoor
open Go.RowKit Go.Sort

structure OX (w0 V W : World) (S : Value) (l : List Ofr) (q : List (Ofr × Value)) : Prop where
  m : q.map (·.1) = l
  o : W.ownsRow V.heap.size 65 5 S q.length (q.flatMap of5)
  t : ∀ x ∈ q, Ts w0 x.2 x.1.P
  b : Below V.heap.size V W
theorem OX.on {w0 V W W' : World} {S : Value} {l : List Ofr} {q : List (Ofr × Value)} (h : OX w0 V W S l q) (k : Below W.heap.size W W') : OX w0 V W' S l q :=
  ⟨h.m, own_on h.o k, h.t, bon h.b k⟩
/-- An own row of offers, whose terms lie in an elder world. -/
theorem os_of {w0 W : World} {B : Nat} {S : Value} {q : List (Ofr × Value)} (ho : W.ownsRow B 65 5 S q.length (q.flatMap of5)) (ht : ∀ x ∈ q, Ts w0 x.2 x.1.P) (hb : Below w0.heap.size w0 W) : Os' W S (q.map (·.1)) := by
  rcases ho.2 with ⟨rfl, h0⟩ | ⟨g, cap, cur, rfl, hb', hg, hnc, hcm, hcs, htake⟩
  · exact ⟨.inl ⟨by rw [List.length_eq_zero_iff.1 h0]; rfl, none, 0, rfl⟩⟩
  · refine ⟨.inr ⟨g, 0, cap, by rw [List.length_map], (Array.getElem?_eq_some_iff.1 hg).1, fun i hi => ?_⟩⟩
    have hi' : i < q.length := by simpa using hi
    have cell : ∀ j, j < 5 → W.cell? ⟨g, 0 + i * 5 + j, none⟩ = (of5 q[i])[j]? := fun j hj => by
      rw [Nat.zero_add, World.ownsRow.cellAt ho (i * 5 + j) (by omega), flat_get of5 5 (fun _ => rfl) q i j hi' hj]
    refine ⟨q[i].2, ?_, ?_, ?_, ?_, ?_, ?_⟩
    · have := cell 0 (by omega); simpa using this
    · have := cell 1 (by omega); simpa using this
    · have := cell 2 (by omega); simpa using this
    · have := cell 3 (by omega); simpa using this
    · have := cell 4 (by omega); simpa using this
    · simpa using (ht q[i] (List.getElem_mem hi')).on hb
set_option maxHeartbeats 3200000 in
set_option maxRecDepth 100000 in
theorem offersB_row (F : Nat) (hF : ∀ (args : Array Value) (w : World), Sem.run Tryz.prog (callFunc F args) w = .ok (Next.enter F args) w) (p : Value) (b o c : Nat) (l : List Kn) (f : Nat → Bool) (w0 w : World) (hB : Below w0.heap.size w0 w) (h : Kl w0 b o l) (hn : l.length ≤ 1000) (hq : ∀ i, i < l.length → ∀ W, Below w.heap.size w W → Calls Tryz.prog F #[.int .i64 i, p] W fun e w' => e = .returned (.bool (f i)) ∧ Below W.heap.size W w') :
    Calls Tryz.prog 29 #[.slice (some ⟨b, o, none⟩) l.length c, .func (Fn.func F) #[] #[p]] w fun e w' => ∃ S q, e = .returned S ∧ OX w0 w w' S ((sel l f l.length).map (·.p.o)) q := by
  have HB := Lib.hid hB
  clear hB
  have HQ := Lib.hid hq
  have HF := Lib.hid h
  clear h hq
  go_enter Tryz.func29, Tryz.ntmps29
  go_wp2_with fail
  go_loopw [5, 10] (fun S i W => ∃ (k : Nat) (r : List (Ofr × Value)), k ≤ l.length ∧ i = .int .i64 k ∧ Hid (OX w0 w W S ((sel l f k).map (·.p.o)) r)) (fun _ i _ => l.length - (intOf i).toNat)
  case atStart => exact ⟨0, [], Nat.zero_le _, rfl, ⟨rfl, World.ownsRow_nil _ _ _ _, fun x hx => (by cases hx), Below.refl _ _⟩⟩
  case round =>
    obtain ⟨k, r, hk, rfl, HOW⟩ := hrel
    have hW := HOW.out.b
    by_cases hlt : k < l.length
    · obtain ⟨vW, vT, vD, vA, vG, vB, vR, vP, vS, vL, vF, kc0, kz⟩ := HF.out.c k hlt
      have kc : Kc wr b (o + k * 20) l[k] vW vT vD vA vG vB vR vP vS vL vF := kc0.on (bon HB.out hW)
      obtain ⟨⟨a1, a2, a3, rfl⟩, ⟨b1, b2, b3, rfl⟩, ⟨c1, c2, c3, rfl⟩, ⟨d1, d2, d3, rfl⟩, ⟨e1, e2, e3, rfl⟩, ⟨f1, f2, f3, rfl⟩, ⟨g1, g2, g3, rfl⟩, ⟨i1, i2, i3, rfl⟩, ⟨j1, j2, j3, rfl⟩, ⟨l1, l2, l3, rfl⟩, ⟨m1, m2, m3, rfl⟩⟩ := kz.k11
      have hra := kc.range
      have HZ := Lib.hid kz
      have HSY := Lib.hid (sel_yes (f := f) hlt)
      have HSL := Lib.hid (sel_le l f k)
      generalize l[k] = x at hra HZ HSY
      have hb1 := b1c wr (kno 60 x (.slice a1 a2 a3) (.slice b1 b2 b3) (.slice c1 c2 c3) (.slice d1 d2 d3) (.slice e1 e2 e3) (.slice f1 f2 f3) (.slice g1 g2 g3) (.slice i1 i2 i3) (.slice j1 j2 j3) (.slice l1 l2 l3) (.slice m1 m2 m3))
      have cC := HQ.out k hlt _ (bon hW hb1)
      clear kc kc0 kz
      obtain ⟨y, hy⟩ : ∃ y, f k = y := ⟨_, rfl⟩
      rw [hy] at cC
      have HY := Lib.hid hy
      clear hy
      go_upto_region 4 with fail
      refine wp_region_lit ?_
      refine wpList_plain rfl fun K hK => ?_
      unfold Oper.wp
      simp [go_sem]
      refine hK _ _ ?_
      clear hK K
      refine wpList_plain rfl fun K hK => ?_
      unfold Oper.wp
      simp [go_sem, hlt]
      refine hK _ _ ?_
      clear hK K
      refine wpList_load_mid rfl 60 _ rfl b (o + k * 20) rfl _ _ hra Tryz.underlying60 rfl (by kernel_rfl) ?_
      refine wpList_plain rfl fun K hK => ?_
      unfold Oper.wp
      simp [go_sem]
      refine hK _ _ ?_
      clear hK K
      refine wpList_plain rfl fun K hK => ?_
      unfold Oper.wp
      simp [go_sem]
      refine hK _ _ ?_
      clear hK K
      refine wpList_store_new rfl 60 _ _ rfl _ _ rfl rfl (by kernel_rfl) (by rfl) (by first | rfl | simp [Value.oneCell']) ?_
      go_frame
      go_wp2_with fail
      refine cC.mono ?_
      rintro e w1 ⟨rfl, bw⟩
      have bw1 := bon hb1 bw
      have HO1 := Lib.hid (HOW.out.on bw1)
      clear cC HOW hra
      cases y with
      | false =>
        have HO2 : Hid (OX w0 w w1 u5 ((sel l f (k + 1)).map (·.p.o)) r) := by
          show OX _ _ _ _ _ _
          rw [sel_no (l := l) HY.out]; exact HO1.out
        clear HSY HY HO1
        go_wp2_with fail
        exact ⟨⟨k + 1, r, hlt, by go_num, HO2⟩, by simp [intOf]; omega⟩
      | true =>
        have HSE := Lib.hid (HSY.out HY.out)
        clear HSY HY
        have hW1 := bon hW bw1
        have q7 : w1.cell? ⟨wr.heap.size, 7, none⟩ = some (.string ⟨x.p.o.n.toArray⟩) := by rw [bw.cell (by simp)]; simp
        have q8 : w1.cell? ⟨wr.heap.size, 8, none⟩ = some (.int .i64 x.p.o.e) := by rw [bw.cell (by simp)]; simp
        have q9 : w1.cell? ⟨wr.heap.size, 9, none⟩ = some (.string ⟨x.p.o.u.toArray⟩) := by rw [bw.cell (by simp)]; simp
        have q10 : w1.cell? ⟨wr.heap.size, 10, none⟩ = some (.string ⟨x.p.o.r.toArray⟩) := by rw [bw.cell (by simp)]; simp
        have q11 : w1.cell? ⟨wr.heap.size, 11, none⟩ = some (.slice c1 c2 c3) := by rw [bw.cell (by simp)]; simp
        have q12 : w1.cell? ⟨wr.heap.size, 12, none⟩ = some (.slice d1 d2 d3) := by rw [bw.cell (by simp)]; simp
        have q13 : w1.cell? ⟨wr.heap.size, 13, none⟩ = some (.slice e1 e2 e3) := by rw [bw.cell (by simp)]; simp
        have q14 : w1.cell? ⟨wr.heap.size, 14, none⟩ = some (.slice f1 f2 f3) := by rw [bw.cell (by simp)]; simp
        have q15 : w1.cell? ⟨wr.heap.size, 15, none⟩ = some (.slice g1 g2 g3) := by rw [bw.cell (by simp)]; simp
        have q16 : w1.cell? ⟨wr.heap.size, 16, none⟩ = some (.slice i1 i2 i3) := by rw [bw.cell (by simp)]; simp
        have q17 : w1.cell? ⟨wr.heap.size, 17, none⟩ = some (.slice j1 j2 j3) := by rw [bw.cell (by simp)]; simp
        have q18 : w1.cell? ⟨wr.heap.size, 18, none⟩ = some (.slice l1 l2 l3) := by rw [bw.cell (by simp)]; simp
        have q19 : w1.cell? ⟨wr.heap.size, 19, none⟩ = some (.slice m1 m2 m3) := by rw [bw.cell (by simp)]; simp
        have cO := offer_any x.p (.slice c1 c2 c3) (.slice d1 d2 d3) (.slice e1 e2 e3) (.slice f1 f2 f3) (.slice g1 g2 g3) (.slice i1 i2 i3) (.slice j1 j2 j3) (.slice l1 l2 l3) (.slice m1 m2 m3) w1 (HZ.out.on (bon HB.out hW1)).z
        clear bw
        go_wp2_with fail
        refine cO.mono ?_
        rintro e w2 ⟨rfl, bw2⟩
        have HO2 := Lib.hid (HO1.out.on bw2)
        have hr : r.length ≤ 1000 := by have := congrArg List.length HO2.out.m; simp at this; have := HSL.out; omega
        have hsz := HO2.out.b.size
        clear cO HO1 q7 q8 q9 q10 q11 q12 q13 q14 q15 q16 q17 q18 q19
        go_wp2_with (first | (at_builtin; refine wpList_apG Tryz.underlying63 info65 (by decide) (by decide) (of5 (x.p.o, .slice i1 i2 i3)) rfl (by intro u hu; simp at hu; rcases hu with rfl | rfl | rfl | rfl | rfl <;> rfl) HO2.out.o (by omega) hsz rfl _ _ rfl rfl _ rfl rfl ?_; intro g9 c9 w9 hR9 hB9; have HB9 := Lib.hid (hB9 _ (Nat.le_refl _)); have HR9 := Lib.hid hR9; clear hR9 hB9) | fail)
        refine ⟨⟨k + 1, r ++ [(x.p.o, .slice i1 i2 i3)], hlt, by go_num, ⟨?_, ?_, ?_, ?_⟩⟩, by simp [intOf]; omega⟩
        · rw [HSE.out, List.map_append, List.map_append, HO2.out.m]; rfl
        · rw [List.length_append, List.flatMap_append]; exact HR9.out
        · intro y hy
          rw [List.mem_append] at hy
          rcases hy with hy | hy
          · exact HO2.out.t y hy
          · rw [List.mem_singleton.1 hy]; exact HZ.out.z.P
        · exact HO2.out.b.trans HB9.out
    · have hke : k = l.length := by omega
      subst hke
      go_wp2_with fail
      go_ret
      exact ⟨_, r, rfl, HOW.out⟩
/-- A row of one's own stays where another block turns. -/
theorem own_set {W : World} {B : Nat} {e t : TypeId} {s n : Nat} {v : Value} {xs : List Value} (h : W.ownsRow B e s v n xs) {g : Nat} {cs : Array Value} (hg : W.heap[g]? = some (.cells cs t (0, 0))) (ht : t ≠ e) (i : Nat) (x : Value) : (W.setCell ⟨g, i, none⟩ x).ownsRow B e s v n xs := by
  refine ⟨h.1, ?_⟩
  rcases h.2 with hn | ⟨g', cap, cur, rfl, hb, hgg, rest⟩
  · exact .inl hn
  · refine .inr ⟨g', cap, cur, rfl, hb, ?_, rest⟩
    rw [Below.heap_setCell _ ⟨g, i, none⟩ _ g' (by
      show g' ≠ g
      rintro rfl
      rw [hg] at hgg
      cases hgg
      exact ht rfl)]
    exact hgg
theorem own_grown {W W' : World} {B : Nat} {e : TypeId} {s n : Nat} {v : Value} {xs : List Value} (h : W.ownsRow B e s v n xs) {B' : Nat} {e' : TypeId} {s' n' : Nat} {v' : Value} {xs' : List Value} (h' : W.ownsRow B' e' s' v' n' xs') (he : e ≠ e') (hg : W.grownBy W' v'.ownBlock) : W'.ownsRow B e s v n xs := by
  refine ⟨h.1, ?_⟩
  rcases h.2 with hn | ⟨g, cap, cur, rfl, hb, hgg, rest⟩
  · exact .inl hn
  · refine .inr ⟨g, cap, cur, rfl, hb, ?_, rest⟩
    rw [hg.block g (Array.getElem?_eq_some_iff.1 hgg).1 (fun e1 => ?_)]
    · exact hgg
    · rcases h'.2 with ⟨rfl, _⟩ | ⟨g', cap', cur', rfl, _, hgg', _⟩
      · cases e1
      · cases e1
        rw [hgg] at hgg'
        cases hgg'
        exact he rfl
/-- A block that is no row's own stays where the row grows. -/
theorem block_grown {W W' : World} {g : Nat} {cs : Array Value} {t : TypeId} (hg : W.heap[g]? = some (.cells cs t (0, 0))) {B' : Nat} {e' : TypeId} {s' n' : Nat} {v' : Value} {xs' : List Value} (h' : W.ownsRow B' e' s' v' n' xs') (he : t ≠ e') (hgr : W.grownBy W' v'.ownBlock) : W'.heap[g]? = some (.cells cs t (0, 0)) := by
  rw [hgr.block g (Array.getElem?_eq_some_iff.1 hg).1 (fun e1 => ?_)]
  · exact hg
  · rcases h'.2 with ⟨rfl, _⟩ | ⟨g', cap', cur', rfl, _, hgg', _⟩
    · cases e1
    · cases e1
      rw [hg] at hgg'
      cases hgg'
      exact he rfl
/-- What Needs has in memory: the boxes of l and of gone, gone's row, all that is offered, and those that go. -/
structure NX (w : World) (n bl bg g : Nat) (vL vO : Value) (q : List (Ofr × Value)) (f : Nat → Bool) (G : List Nat) (S : Value) (W : World) : Prop where
  b : Below w.heap.size w W
  gb : w.heap.size ≤ g
  l : W.heap[bl]? = some (.cells #[vL] 32 (0, 0))
  g0 : W.heap[bg]? = some (.cells #[.slice (some ⟨g, 0, none⟩) n n] 92 (0, 0))
  r : W.rowIs g 4 n (fun j => .bool (f j))
  a : W.ownsRow w.heap.size 65 5 vO q.length (q.flatMap of5)
  s : Ord.Iw W w.heap.size S G
theorem heap_on {W W' : World} {g : Nat} {o : Obj} (h : W.heap[g]? = some o) (k : Below W.heap.size W W') : W'.heap[g]? = some o := (k.block g (Array.getElem?_eq_some_iff.1 h).1).trans h
theorem heap_set {W : World} {g j i : Nat} {o : Obj} {x : Value} (h : W.heap[j]? = some o) (hne : j ≠ g) : (W.setCell ⟨g, i, none⟩ x).heap[j]? = some o := by
  rw [Below.heap_setCell _ ⟨g, i, none⟩ _ j hne]; exact h
section
variable {w : World} {n bl bg g : Nat} {vL vO : Value} {q : List (Ofr × Value)} {f : Nat → Bool} {G : List Nat} {S : Value} {W : World}
theorem NX.on (h : NX w n bl bg g vL vO q f G S W) {W' : World} (k : Below W.heap.size W W') : NX w n bl bg g vL vO q f G S W' :=
  ⟨bon h.b k, h.gb, heap_on h.l k, heap_on h.g0 k, h.r.of_block (k.block g h.r.lt), own_on h.a k, own_on h.s k⟩
theorem NX.lc (h : NX w n bl bg g vL vO q f G S W) : W.cell? ⟨bl, 0, none⟩ = some vL := by
  rw [cell_of_row W bl 0 _ _ _ h.l]; rfl
theorem NX.gc (h : NX w n bl bg g vL vO q f G S W) : W.cell? ⟨bg, 0, none⟩ = some (.slice (some ⟨g, 0, none⟩) n n) := by
  rw [cell_of_row W bg 0 _ _ _ h.g0]; rfl
/-- One more is gone: first its mark. -/
theorem NX.put (h : NX w n bl bg g vL vO q f G S W) (i : Nat) {f' : Nat → Bool} (hf : ∀ j, j < n → f' j = if j = i then true else f j) : NX w n bl bg g vL vO q f' G S (W.setCell ⟨g, i, none⟩ (.bool true)) := by
  obtain ⟨cs, hcs, _, _⟩ := h.r
  refine ⟨h.b.setCell (p := ⟨g, i, none⟩) h.gb _, h.gb, heap_set h.l ?_, heap_set h.g0 ?_, (h.r.set i (.bool true)).congr (fun j hj => ?_), own_set h.a hcs (by decide) i _, own_set h.s hcs (by decide) i _⟩
  · rintro rfl; have := h.l; rw [hcs] at this; cases this
  · rintro rfl; have := h.g0; rw [hcs] at this; cases this
  · rw [hf j hj]; split <;> rfl
/-- .. then it is among those that go. -/
theorem NX.app (h : NX w n bl bg g vL vO q f G S W) {S' : Value} {G' : List Nat} {W' : World} (hg : W.grownBy W' S.ownBlock) (hs : Ord.Iw W' w.heap.size S' G') : NX w n bl bg g vL vO q f G' S' W' := by
  have h1 := h.s
  obtain ⟨cs, hcs, h2, h3⟩ := h.r
  exact ⟨h.b.grown hg h.b.size (fun j e => (h1.lt j e).1), h.gb, block_grown h.l h1 (by decide) hg, block_grown h.g0 h1 (by decide) hg, ⟨cs, block_grown hcs h1 (by decide) hg, h2, h3⟩, own_grown h.a h1 (by decide) hg, hs⟩
/-- A block of offers that nobody turns. -/
theorem NX.put_far (h : NX w n bl bg g vL vO q f G S W) (i : Nat) (x : Value) {a : Nat} {ca : Array Value} (ha : W.heap[a]? = some (.cells ca 65 (0, 0))) : (W.setCell ⟨g, i, none⟩ x).heap[a]? = some (.cells ca 65 (0, 0)) := by
  obtain ⟨cs, hcs, _, _⟩ := h.r
  refine heap_set ha ?_
  rintro rfl; rw [hcs] at ha; cases ha
theorem NX.app_far (h : NX w n bl bg g vL vO q f G S W) {W' : World} (hg : W.grownBy W' S.ownBlock) {a : Nat} {ca : Array Value} (ha : W.heap[a]? = some (.cells ca 65 (0, 0))) : W'.heap[a]? = some (.cells ca 65 (0, 0)) := block_grown ha h.s (by decide) hg
end
/-- The package of one that is known, in a row. -/
theorem Kc.pack {W : World} {b o : Nat} {k : Kn} {vW vT vD vA vG vB vR vP vS vL vF : Value} (h : Kc W b o k vW vT vD vA vG vB vR vP vS vL vF) : W.rangeAt b (o + 7) [.string ⟨k.p.o.n.toArray⟩, .int .i64 k.p.o.e, .string ⟨k.p.o.u.toArray⟩, .string ⟨k.p.o.r.toArray⟩, vD, vA, vG, vB, vR, vP, vS, vL, vF] := fun j v hv => by
  match j, hv with
  | 0, hv => cases hv; exact h.c7
  | 1, hv => cases hv; exact h.c8
  | 2, hv => cases hv; exact h.c9
  | 3, hv => cases hv; exact h.c10
  | 4, hv => cases hv; exact h.c11
  | 5, hv => cases hv; exact h.c12
  | 6, hv => cases hv; exact h.c13
  | 7, hv => cases hv; exact h.c14
  | 8, hv => cases hv; exact h.c15
  | 9, hv => cases hv; exact h.c16
  | 10, hv => cases hv; exact h.c17
  | 11, hv => cases hv; exact h.c18
  | 12, hv => cases hv; exact h.c19
  | n + 13, hv => simp at hv
end Go.Proofs.YthijccmiemlilaaGreatDoor
