/- The walks of asked, met, and of the closures of Needs. -/
import Derived.Test.YthijccmiemlilaaGreatDoorK1
namespace Go.Proofs.YthijccmiemlilaaGreatDoor
open Go.RowKit Go.Sort

set_option maxHeartbeats 1600000 in
set_option maxRecDepth 100000 in
theorem idx73_row (b o c a : Nat) (l : List (List Tm)) (q : List Tm → Bool) (w : World) (h : Al w b o l) (hn : l.length ≤ 1000000) (hq : ∀ i (hi : i < l.length) v W, Below w.heap.size w W → Ts W v l[i] → Calls Tryz.prog 73 #[v, .pointer (some ⟨a, 0, none⟩)] W fun e w' => e = .returned (.bool (q l[i])) ∧ Below W.heap.size W w') :
    Calls Tryz.prog 95 #[.slice (some ⟨b, o, none⟩) l.length c, .func (Fn.func 73) #[] #[.pointer (some ⟨a, 0, none⟩)]] w fun e w' => e = .returned (.int .i64 (fx (l.findIdx? q))) ∧ Below w.heap.size w w' := by
  obtain ⟨r, hr⟩ : ∃ r, r = fx (l.findIdx? q) := ⟨_, rfl⟩
  have HR := Lib.hid hr
  rw [← hr]
  clear hr
  have HQ := Lib.hid hq
  have HF := Lib.hid h
  clear hq h
  go_enter Tryz.func95, Tryz.ntmps95
  go_wp2
  go_loopw [8] (fun i W => ∃ k : Nat, k ≤ l.length ∧ i = .int .i64 k ∧ Below w.heap.size w W ∧ Hid (∀ j (hj : j < l.length), j < k → q l[j] = false)) (fun i _ => l.length - (intOf i).toNat)
  case atStart => exact ⟨0, Nat.zero_le _, rfl, Below.refl _ _, fun j _ h => absurd h (Nat.not_lt_zero _)⟩
  case round =>
    obtain ⟨k, hk, rfl, hW, HP⟩ := hrel
    by_cases hlt : k < l.length
    · obtain ⟨v, c0, hv⟩ := (HF.out.on hW).c k hlt
      have cC := HQ.out k hlt v wr hW hv
      clear hv
      cases hq : q l[k] with
      | true =>
        rw [hq] at cC
        have HG : Hid (r = k) := by show r = _; rw [HR.out, fi_yes k hlt hq (fun j hj h => HP.out j hj h)]; rfl
        go_wp2_with fail
        refine cC.mono ?_
        rintro e w1 ⟨rfl, b1⟩
        go_wp2_with fail
        go_ret
        exact ⟨reti HG.out.symm, bon hW b1⟩
      | false =>
        rw [hq] at cC
        have HN : Hid (∀ j (hj : j < l.length), j < k + 1 → q l[j] = false) := fun j hj h => by
          by_cases e : j = k
          · subst e; exact hq
          · exact HP.out j hj (by omega)
        go_wp2_with fail
        refine cC.mono ?_
        rintro e w1 ⟨rfl, b1⟩
        go_wp2_with fail
        exact ⟨⟨k + 1, hlt, by go_num, bon hW b1, HN⟩, by simp [intOf]; omega⟩
    · go_wp2
      go_ret
      exact ⟨reti (by rw [HR.out, fi_no (fun j hj => HP.out j hj (by omega))]; rfl), hW⟩
theorem idx73_nil (A : Option Addr) (c a : Nat) (w : World) : Calls Tryz.prog 95 #[.slice A 0 c, .func (Fn.func 73) #[] #[.pointer (some ⟨a, 0, none⟩)]] w fun e w' => e = .returned (.int .i64 (-1)) ∧ w' = w := by
  go_enter Tryz.func95, Tryz.ntmps95
  go_wp2
  refine wp_loop_rounds 1 ?_
  rw [rounds_succ]
  go_wp2
  go_ret
  exact ⟨rfl, rfl⟩
theorem idx73_any (v : Value) (a : Nat) (l : List (List Tm)) (q : List Tm → Bool) (w : World) (h : As w v l) (hn : l.length ≤ 1000000) (hq : ∀ i (hi : i < l.length) v W, Below w.heap.size w W → Ts W v l[i] → Calls Tryz.prog 73 #[v, .pointer (some ⟨a, 0, none⟩)] W fun e w' => e = .returned (.bool (q l[i])) ∧ Below W.heap.size W w') :
    Calls Tryz.prog 95 #[v, .func (Fn.func 73) #[] #[.pointer (some ⟨a, 0, none⟩)]] w fun e w' => e = .returned (.int .i64 (fx (l.findIdx? q))) ∧ Below w.heap.size w w' := by
  rcases h.is with ⟨rfl, A, c, rfl⟩ | ⟨b, o, c, rfl, _, hf⟩
  · exact (idx73_nil A c a w).mono fun x w' ⟨h1, h2⟩ => ⟨h1, by rw [h2]; exact Below.refl _ _⟩
  · exact idx73_row b o c a l q w hf hn hq
theorem con73_any (v : Value) (a : Nat) (l : List (List Tm)) (q : List Tm → Bool) (w : World) (h : As w v l) (hn : l.length ≤ 1000000) (hq : ∀ i (hi : i < l.length) v W, Below w.heap.size w W → Ts W v l[i] → Calls Tryz.prog 73 #[v, .pointer (some ⟨a, 0, none⟩)] W fun e w' => e = .returned (.bool (q l[i])) ∧ Below W.heap.size W w') :
    Calls Tryz.prog 72 #[v, .func (Fn.func 73) #[] #[.pointer (some ⟨a, 0, none⟩)]] w fun e w' => e = .returned (.bool (l.any q)) ∧ Below w.heap.size w w' := by
  have cI := idx73_any v a l q w h hn hq
  have HE := Lib.hid (fx_any q l)
  generalize fx (l.findIdx? q) = z at cI HE
  clear hq h
  go_enter Tryz.func72, Tryz.ntmps72
  go_wp2_with fail
  refine cI.mono ?_
  rintro e w1 ⟨rfl, b1⟩
  go_wp2
  all_goals go_ret
  all_goals exact ⟨retb (by rw [← HE.out]), b1⟩
set_option maxHeartbeats 1600000 in
set_option maxRecDepth 100000 in
theorem clo73 (o : Ofr) (v : Value) (vL : Value) (l : List Tm) (a : Nat) (w : World) (hv : Ts w v o.P) (hA : O5 w a o v) (hl : Ts w vL l) (hn : l.length ≤ 1000) (ho : Oh o) (hS : ∀ t ∈ l, Sh t) : Calls Tryz.prog 73 #[vL, .pointer (some ⟨a, 0, none⟩)] w fun e w' => e = .returned (.bool (on1 o l)) ∧ Below w.heap.size w w' := by
  have cM := meets1_any o v vL l w hv hl hn ho hS
  have d0 := hA.c0
  have d1 := hA.c1
  have d2 := hA.c2
  have d3 := hA.c3
  have d4 := hA.c4
  generalize on1 o l = z at cM ⊢
  clear hA hv hl ho hS
  go_enter Tryz.func73, Tryz.ntmps73
  go_wp2_with fail
  refine cM.mono ?_
  rintro x w1 ⟨rfl, bw⟩
  go_wp2_with fail
  go_ret
  exact ⟨rfl, bw⟩
/-- Is an offer a term of anything that is asked for? -/
def asq (o : Ofr) (l : List (List Tm)) : Bool := l.any fun x => on1 o x
set_option maxHeartbeats 1600000 in
set_option maxRecDepth 100000 in
theorem asked_any (o : Ofr) (v vL : Value) (l : List (List Tm)) (w : World) (hv : Ts w v o.P) (hl : As w vL l) (hn : l.length ≤ 1000) (ho : Oh o) (hS : ∀ x ∈ l, x.length ≤ 40 ∧ ∀ t ∈ x, Sh t) : Calls Tryz.prog 49 #[vL, ofv o.n o.e o.u o.r v] w fun e w' => e = .returned (.bool (asq o l)) ∧ Below w.heap.size w w' := by
  obtain ⟨p1, p2, rfl⟩ := hv.sl
  have b1 := b1c w (.cells #[.string ⟨o.n.toArray⟩, .int .i64 o.e, .string ⟨o.u.toArray⟩, .string ⟨o.r.toArray⟩, .slice p1 o.P.length p2] 65)
  have hA := o5_new w o (.slice p1 o.P.length p2)
  have cC := con73_any vL w.heap.size l (fun x => on1 o x) _ (hl.on b1) (by omega) (fun i hi x W hW hx => by
    obtain ⟨h1, h2⟩ := hS l[i] (List.getElem_mem hi)
    exact clo73 o (.slice p1 o.P.length p2) x l[i] _ W ((hv.on b1).on hW) (hA.on hW) hx (by omega) ho h2)
  unfold asq
  generalize (l.any fun x => on1 o x) = z at cC ⊢
  have HC := Lib.hid cC
  clear cC hA hv hl ho hS
  go_enter Tryz.func49, Tryz.ntmps49
  go_wp2_with fail
  refine HC.out.mono ?_
  rintro x w1 ⟨rfl, bw⟩
  go_wp2_with fail
  go_ret
  exact ⟨rfl, bon b1 bw⟩
set_option maxHeartbeats 1600000 in
set_option maxRecDepth 100000 in
theorem cmet_any (v vO : Value) (l : List (List Tm)) (O : List Ofr) (w : World) (hl : As w v l) (hn : l.length ≤ 1000) (hv : Os' w vO O) (hO : ∀ o ∈ O, Oh o) (hk : O.length ≤ 1000) (hS : ∀ x ∈ l, x.length ≤ 40 ∧ ∀ t ∈ x, Sh t) :
    Calls Tryz.prog 50 #[v, vO] w fun e w' => e = .returned (.bool (met O l).2) ∧ Below w.heap.size w w' := by
  have cM := met_any v vO l O w hl hn hv hO hk hS
  obtain ⟨A1, n1, rfl⟩ := hl.sl
  obtain ⟨A2, n2, rfl⟩ := hv.sl
  generalize met O l = r at cM ⊢
  clear hl hv hO hS
  go_enter Tryz.func50, Tryz.ntmps50
  go_wp2_with fail
  refine cM.mono ?_
  rintro x w1 ⟨rfl, b1⟩
  go_wp2_with fail
  go_ret
  exact ⟨rfl, b1⟩
end Go.Proofs.YthijccmiemlilaaGreatDoor
namespace Go.Proofs.YthijccmiemlilaaGreatDoor
open Go.RowKit Go.Sort

set_option maxHeartbeats 3200000 in
set_option maxRecDepth 100000 in
theorem offers1_row (F : Nat) (hF : ∀ (args : Array Value) (w : World), Sem.run Tryz.prog (callFunc F args) w = .ok (Next.enter F args) w) (p : Value) (b o c : Nat) (l : List Kn) (f : Nat → Bool) (w : World) (h : Kl w b o l) (hn : l.length ≤ 1000) (hq : ∀ i, i < l.length → ∀ W, Below w.heap.size w W → Calls Tryz.prog F #[.int .i64 i, p] W fun e w' => e = .returned (.bool (f i)) ∧ Below W.heap.size W w') :
    Calls Tryz.prog 29 #[.slice (some ⟨b, o, none⟩) l.length c, .func (Fn.func F) #[] #[p]] w fun e w' => ∃ S, e = .returned S ∧ Os' w' S ((sel l f l.length).map (·.p.o)) ∧ Below w.heap.size w w' := by
  have HQ := Lib.hid hq
  have HF := Lib.hid h
  clear h hq
  go_enter Tryz.func29, Tryz.ntmps29
  go_wp2_with fail
  go_loopw [5, 10] (fun S i W => ∃ (k : Nat) (r : List (Ofr × Value)), k ≤ l.length ∧ i = .int .i64 k ∧ Hid (OW w W S ((sel l f k).map (·.p.o)) r)) (fun _ i _ => l.length - (intOf i).toNat)
  case atStart => exact ⟨0, [], Nat.zero_le _, rfl, ⟨rfl, World.ownsRow_nil _ _ _ _, fun x hx => (by cases hx), Below.refl _ _⟩⟩
  case round =>
    obtain ⟨k, r, hk, rfl, HOW⟩ := hrel
    have hW := HOW.out.b
    by_cases hlt : k < l.length
    · obtain ⟨vW, vT, vD, vA, vG, vB, vR, vP, vS, vL, vF, kc0, kz⟩ := HF.out.c k hlt
      have kc : Kc wr b (o + k * 20) l[k] vW vT vD vA vG vB vR vP vS vL vF := kc0.on hW
      obtain ⟨⟨a1, a2, a3, rfl⟩, ⟨b1, b2, b3, rfl⟩, ⟨c1, c2, c3, rfl⟩, ⟨d1, d2, d3, rfl⟩, ⟨e1, e2, e3, rfl⟩, ⟨f1, f2, f3, rfl⟩, ⟨g1, g2, g3, rfl⟩, ⟨i1, i2, i3, rfl⟩, ⟨j1, j2, j3, rfl⟩, ⟨l1, l2, l3, rfl⟩, ⟨m1, m2, m3, rfl⟩⟩ := kz.k11
      have hra := kc.range
      have HZ := Lib.hid kz
      have HSY := Lib.hid (sel_yes (f := f) hlt)
      have HSL := Lib.hid (sel_le l f k)
      generalize l[k] = x at hra HZ HSY
      have hb1 := b1c wr (kno 60 x (.slice a1 a2 a3) (.slice b1 b2 b3) (.slice c1 c2 c3) (.slice d1 d2 d3) (.slice e1 e2 e3) (.slice f1 f2 f3) (.slice g1 g2 g3) (.slice i1 i2 i3) (.slice j1 j2 j3) (.slice l1 l2 l3) (.slice m1 m2 m3))
      have cC := HQ.out k hlt _ (bon hW hb1)
      clear kc kc0 kz
      obtain ⟨y, hy⟩ : ∃ y, f k = y := ⟨_, rfl⟩
      rw [hy] at cC
      have HY := Lib.hid hy
      clear hy
      go_upto_region 4 with fail
      refine wp_region_lit ?_
      refine wpList_plain rfl fun K hK => ?_
      unfold Oper.wp
      simp [go_sem]
      refine hK _ _ ?_
      clear hK K
      refine wpList_plain rfl fun K hK => ?_
      unfold Oper.wp
      simp [go_sem, hlt]
      refine hK _ _ ?_
      clear hK K
      refine wpList_load_mid rfl 60 _ rfl b (o + k * 20) rfl _ _ hra Tryz.underlying60 rfl (by kernel_rfl) ?_
      refine wpList_plain rfl fun K hK => ?_
      unfold Oper.wp
      simp [go_sem]
      refine hK _ _ ?_
      clear hK K
      refine wpList_plain rfl fun K hK => ?_
      unfold Oper.wp
      simp [go_sem]
      refine hK _ _ ?_
      clear hK K
      refine wpList_store_new rfl 60 _ _ rfl _ _ rfl rfl (by kernel_rfl) (by rfl) (by first | rfl | simp [Value.oneCell']) ?_
      go_frame
      go_wp2_with fail
      refine cC.mono ?_
      rintro e w1 ⟨rfl, bw⟩
      have bw1 := bon hb1 bw
      have HO1 := Lib.hid (HOW.out.on bw1)
      clear cC HOW hra
      cases y with
      | false =>
        have HO2 : Hid (OW w w1 u5 ((sel l f (k + 1)).map (·.p.o)) r) := by
          show OW _ _ _ _ _
          rw [sel_no (l := l) HY.out]; exact HO1.out
        clear HSY HY HO1
        go_wp2_with fail
        exact ⟨⟨k + 1, r, hlt, by go_num, HO2⟩, by simp [intOf]; omega⟩
      | true =>
        have HSE := Lib.hid (HSY.out HY.out)
        clear HSY HY
        have hW1 := bon hW bw1
        have q7 : w1.cell? ⟨wr.heap.size, 7, none⟩ = some (.string ⟨x.p.o.n.toArray⟩) := by rw [bw.cell (by simp)]; simp
        have q8 : w1.cell? ⟨wr.heap.size, 8, none⟩ = some (.int .i64 x.p.o.e) := by rw [bw.cell (by simp)]; simp
        have q9 : w1.cell? ⟨wr.heap.size, 9, none⟩ = some (.string ⟨x.p.o.u.toArray⟩) := by rw [bw.cell (by simp)]; simp
        have q10 : w1.cell? ⟨wr.heap.size, 10, none⟩ = some (.string ⟨x.p.o.r.toArray⟩) := by rw [bw.cell (by simp)]; simp
        have q11 : w1.cell? ⟨wr.heap.size, 11, none⟩ = some (.slice c1 c2 c3) := by rw [bw.cell (by simp)]; simp
        have q12 : w1.cell? ⟨wr.heap.size, 12, none⟩ = some (.slice d1 d2 d3) := by rw [bw.cell (by simp)]; simp
        have q13 : w1.cell? ⟨wr.heap.size, 13, none⟩ = some (.slice e1 e2 e3) := by rw [bw.cell (by simp)]; simp
        have q14 : w1.cell? ⟨wr.heap.size, 14, none⟩ = some (.slice f1 f2 f3) := by rw [bw.cell (by simp)]; simp
        have q15 : w1.cell? ⟨wr.heap.size, 15, none⟩ = some (.slice g1 g2 g3) := by rw [bw.cell (by simp)]; simp
        have q16 : w1.cell? ⟨wr.heap.size, 16, none⟩ = some (.slice i1 i2 i3) := by rw [bw.cell (by simp)]; simp
        have q17 : w1.cell? ⟨wr.heap.size, 17, none⟩ = some (.slice j1 j2 j3) := by rw [bw.cell (by simp)]; simp
        have q18 : w1.cell? ⟨wr.heap.size, 18, none⟩ = some (.slice l1 l2 l3) := by rw [bw.cell (by simp)]; simp
        have q19 : w1.cell? ⟨wr.heap.size, 19, none⟩ = some (.slice m1 m2 m3) := by rw [bw.cell (by simp)]; simp
        have cO := offer_any x.p (.slice c1 c2 c3) (.slice d1 d2 d3) (.slice e1 e2 e3) (.slice f1 f2 f3) (.slice g1 g2 g3) (.slice i1 i2 i3) (.slice j1 j2 j3) (.slice l1 l2 l3) (.slice m1 m2 m3) w1 (HZ.out.on hW1).z
        clear bw
        go_wp2_with fail
        refine cO.mono ?_
        rintro e w2 ⟨rfl, bw2⟩
        have HO2 := Lib.hid (HO1.out.on bw2)
        have hr : r.length ≤ 1000 := by have := congrArg List.length HO2.out.m; simp at this; have := HSL.out; omega
        have hsz := HO2.out.b.size
        clear cO HO1 q7 q8 q9 q10 q11 q12 q13 q14 q15 q16 q17 q18 q19
        go_wp2_with (first | (at_builtin; refine wpList_apG Tryz.underlying63 info65 (by decide) (by decide) (of5 (x.p.o, .slice i1 i2 i3)) rfl (by intro u hu; simp at hu; rcases hu with rfl | rfl | rfl | rfl | rfl <;> rfl) HO2.out.o (by omega) hsz rfl _ _ rfl rfl _ rfl rfl ?_; intro g9 c9 w9 hR9 hB9; have HB9 := Lib.hid (hB9 _ (Nat.le_refl _)); have HR9 := Lib.hid hR9; clear hR9 hB9) | fail)
        refine ⟨⟨k + 1, r ++ [(x.p.o, .slice i1 i2 i3)], hlt, by go_num, ⟨?_, ?_, ?_, ?_⟩⟩, by simp [intOf]; omega⟩
        · rw [HSE.out, List.map_append, List.map_append, HO2.out.m]; rfl
        · rw [List.length_append, List.flatMap_append]; exact HR9.out
        · intro y hy
          rw [List.mem_append] at hy
          rcases hy with hy | hy
          · exact HO2.out.t y hy
          · rw [List.mem_singleton.1 hy]; exact HZ.out.z.P
        · exact HO2.out.b.trans HB9.out
    · have hke : k = l.length := by omega
      subst hke
      go_wp2_with fail
      go_ret
      exact ⟨_, rfl, HOW.out.os, hW⟩
theorem offers1_nil (F : Nat) (A : Option Addr) (c : Nat) (p : Value) (w : World) : Calls Tryz.prog 29 #[.slice A 0 c, .func (Fn.func F) #[] #[p]] w fun e w' => e = .returned (.slice none 0 0) ∧ w' = w := by
  go_enter Tryz.func29, Tryz.ntmps29
  go_wp2
  refine wp_loop_rounds 1 ?_
  rw [rounds_succ]
  go_wp2
  go_ret
  exact ⟨rfl, rfl⟩
theorem f45 (args : Array Value) (w : World) : Sem.run Tryz.prog (callFunc 45 args) w = .ok (Next.enter 45 args) w := by simp [go_sem]
theorem f46 (args : Array Value) (w : World) : Sem.run Tryz.prog (callFunc 46 args) w = .ok (Next.enter 46 args) w := by simp [go_sem]
set_option maxHeartbeats 3200000 in
set_option maxRecDepth 100000 in
theorem clo46 (l : List Kn) (n a b o c : Nat) (w : World) (hn : n < l.length) (ha : w.cell? ⟨a, 0, none⟩ = some (.slice (some ⟨b, o, none⟩) l.length c)) (hl : Kl w b o l) :
    Calls Tryz.prog 46 #[.int .i64 n, .pointer (some ⟨a, 0, none⟩)] w fun e w' => e = .returned (.bool (wk (l.getD n default))) ∧ Below w.heap.size w w' := by
  obtain ⟨vW, vT, vD, vA, vG, vB, vR, vP, vS, vL, vF, kc, kz⟩ := hl.c n hn
  obtain ⟨⟨a1, a2, a3, rfl⟩, ⟨b1, b2, b3, rfl⟩, ⟨c1, c2, c3, rfl⟩, ⟨d1, d2, d3, rfl⟩, ⟨e1, e2, e3, rfl⟩, ⟨f1, f2, f3, rfl⟩, ⟨g1, g2, g3, rfl⟩, ⟨i1, i2, i3, rfl⟩, ⟨j1, j2, j3, rfl⟩, ⟨l1, l2, l3, rfl⟩, ⟨m1, m2, m3, rfl⟩⟩ := kz.k11
  have hra := kc.range
  rw [show l.getD n default = l[n] from by simp [List.getD, hn]]
  have HC := Lib.hid (fun W => works_any l[n] (.slice a1 a2 a3) (.slice b1 b2 b3) (.slice c1 c2 c3) (.slice d1 d2 d3) (.slice e1 e2 e3) (.slice f1 f2 f3) (.slice g1 g2 g3) (.slice i1 i2 i3) (.slice j1 j2 j3) (.slice l1 l2 l3) (.slice m1 m2 m3) W kz.k11)
  generalize l[n] = x at hra HC ⊢
  generalize wk x = y at HC ⊢
  clear kc kz
  go_enter Tryz.func46, Tryz.ntmps46
  go_upto_region 1 with fail
  refine wp_region_lit ?_
  refine wpList_plain rfl fun K hK => ?_
  unfold Oper.wp
  simp [go_sem, ha]
  refine hK _ _ ?_
  clear hK K
  refine wpList_plain rfl fun K hK => ?_
  unfold Oper.wp
  simp [go_sem]
  refine hK _ _ ?_
  clear hK K
  refine wpList_plain rfl fun K hK => ?_
  unfold Oper.wp
  simp [go_sem, hn]
  refine hK _ _ ?_
  clear hK K
  refine wpList_load_mid rfl 60 _ rfl b (o + n * 20) rfl _ _ hra Tryz.underlying60 rfl (by kernel_rfl) ?_
  go_frame
  go_wp2_with fail
  refine (HC.out _).mono ?_
  rintro z w1 ⟨rfl, b1⟩
  go_wp2_with fail
  go_ret
  exact ⟨rfl, b1⟩
set_option maxHeartbeats 3200000 in
set_option maxRecDepth 100000 in
/-- Who works, and is not gone. -/
theorem clo45 (l : List Kn) (gn : Nat → Bool) (n a a' g b o c : Nat) (w : World) (hn : n < l.length) (ha : w.cell? ⟨a, 0, none⟩ = some (.slice (some ⟨b, o, none⟩) l.length c)) (hl : Kl w b o l) (ha' : w.cell? ⟨a', 0, none⟩ = some (.slice (some ⟨g, 0, none⟩) l.length l.length)) (hr : w.rowIs g 4 l.length (fun j => .bool (gn j))) :
    Calls Tryz.prog 45 #[.int .i64 n, .pointer (some ⟨a, 0, none⟩), .pointer (some ⟨a', 0, none⟩)] w fun e w' => e = .returned (.bool (wk (l.getD n default) && !gn n)) ∧ Below w.heap.size w w' := by
  obtain ⟨vW, vT, vD, vA, vG, vB, vR, vP, vS, vL, vF, kc, kz⟩ := hl.c n hn
  obtain ⟨⟨a1, a2, a3, rfl⟩, ⟨b1, b2, b3, rfl⟩, ⟨c1, c2, c3, rfl⟩, ⟨d1, d2, d3, rfl⟩, ⟨e1, e2, e3, rfl⟩, ⟨f1, f2, f3, rfl⟩, ⟨g1, g2, g3, rfl⟩, ⟨i1, i2, i3, rfl⟩, ⟨j1, j2, j3, rfl⟩, ⟨l1, l2, l3, rfl⟩, ⟨m1, m2, m3, rfl⟩⟩ := kz.k11
  have hra := kc.range
  have HR := Lib.hid hr
  rw [show l.getD n default = l[n] from by simp [List.getD, hn]]
  have HC := Lib.hid (fun W => works_any l[n] (.slice a1 a2 a3) (.slice b1 b2 b3) (.slice c1 c2 c3) (.slice d1 d2 d3) (.slice e1 e2 e3) (.slice f1 f2 f3) (.slice g1 g2 g3) (.slice i1 i2 i3) (.slice j1 j2 j3) (.slice l1 l2 l3) (.slice m1 m2 m3) W kz.k11)
  generalize l[n] = x at hra HC ⊢
  clear kc kz hr
  obtain ⟨y, hy⟩ : ∃ y, wk x = y := ⟨_, rfl⟩
  rw [hy] at HC ⊢
  obtain ⟨z, hz⟩ : ∃ z, gn n = z := ⟨_, rfl⟩
  rw [hz]
  have HZ := Lib.hid hz
  have HA' := Lib.hid ha'
  clear hy hz
  go_enter Tryz.func45, Tryz.ntmps45
  go_upto_region 1 with fail
  refine wp_region_lit ?_
  refine wpList_plain rfl fun K hK => ?_
  unfold Oper.wp
  simp [go_sem, ha]
  refine hK _ _ ?_
  clear hK K
  refine wpList_plain rfl fun K hK => ?_
  unfold Oper.wp
  simp [go_sem]
  refine hK _ _ ?_
  clear hK K
  refine wpList_plain rfl fun K hK => ?_
  unfold Oper.wp
  simp [go_sem, hn]
  refine hK _ _ ?_
  clear hK K
  refine wpList_load_mid rfl 60 _ rfl b (o + n * 20) rfl _ _ hra Tryz.underlying60 rfl (by kernel_rfl) ?_
  go_frame
  go_wp2_with fail
  refine (HC.out _).mono ?_
  rintro e w1 ⟨rfl, b1⟩
  have q1 : w1.cell? ⟨a', 0, none⟩ = some (.slice (some ⟨g, 0, none⟩) l.length l.length) := by rw [b1.cell (block_lt_of_cell HA'.out)]; exact HA'.out
  have q2 : w1.cell? ⟨g, n, none⟩ = some (.bool z) := by rw [b1.cell (p := ⟨g, n, none⟩) HR.out.lt, ← HZ.out]; exact HR.out.cell hn
  clear HC hra ha ha'
  cases y with
  | false =>
    go_wp2_with fail
    go_ret
    exact ⟨rfl, b1⟩
  | true =>
    cases z with
    | false =>
      go_wp2_with fail
      go_ret
      exact ⟨rfl, b1⟩
    | true =>
      go_wp2_with fail
      go_ret
      exact ⟨rfl, b1⟩
end Go.Proofs.YthijccmiemlilaaGreatDoor
