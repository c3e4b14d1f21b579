/- The walks of offers at any slice, meetsOne, and of the reference's one. -/
import Derived.Test.YthijccmiemlilaaGreatDoorA6
namespace Go.Proofs.YthijccmiemlilaaGreatDoor
open Go.RowKit Go.Sort

theorem offers_nil (F : Nat) (A : Option Addr) (c : Nat) (p q : Value) (w : World) : Calls Tryz.prog 29 #[.slice A 0 c, .func (Fn.func F) #[] #[p, q]] w fun e w' => e = .returned (.slice none 0 0) ∧ w' = w := by
  go_enter Tryz.func29, Tryz.ntmps29
  go_wp2
  refine wp_loop_rounds 1 ?_
  rw [rounds_succ]
  go_wp2
  go_ret
  exact ⟨rfl, rfl⟩
theorem offers_any (F : Nat) (hF : ∀ (args : Array Value) (w : World), Sem.run Tryz.prog (callFunc F args) w = .ok (Next.enter F args) w) (p q v : Value) (l : List Kn) (f : Nat → Bool) (w : World) (h : Ks w v l) (hn : l.length ≤ 1000) (hq : ∀ i, i < l.length → ∀ W, Below w.heap.size w W → Calls Tryz.prog F #[.int .i64 i, p, q] W fun e w' => e = .returned (.bool (f i)) ∧ Below W.heap.size W w') :
    Calls Tryz.prog 29 #[v, .func (Fn.func F) #[] #[p, q]] w fun e w' => ∃ S, e = .returned S ∧ Os' w' S ((sel l f l.length).map (·.p.o)) ∧ Below w.heap.size w w' := by
  rcases h.is with ⟨rfl, A, c, rfl⟩ | ⟨b, o, c, rfl, hf⟩
  · exact (offers_nil F A c p q w).mono fun x w' ⟨h1, h2⟩ => ⟨_, h1, ⟨.inl ⟨rfl, _, _, rfl⟩⟩, by rw [h2]; exact Below.refl _ _⟩
  · exact offers_row F hF p q b o c l f w hf hn hq
/-- An offer that lies in a block. -/
structure O5 (W : World) (a : Nat) (o : Ofr) (v : Value) : Prop where
  c0 : W.cell? ⟨a, 0, none⟩ = some (.string ⟨o.n.toArray⟩)
  c1 : W.cell? ⟨a, 1, none⟩ = some (.int .i64 o.e)
  c2 : W.cell? ⟨a, 2, none⟩ = some (.string ⟨o.u.toArray⟩)
  c3 : W.cell? ⟨a, 3, none⟩ = some (.string ⟨o.r.toArray⟩)
  c4 : W.cell? ⟨a, 4, none⟩ = some v
theorem O5.on {W w' : World} {a : Nat} {o : Ofr} {v : Value} (h : O5 W a o v) (k : Below W.heap.size W w') : O5 w' a o v :=
  ⟨by rw [k.cell (block_lt_of_cell h.c0)]; exact h.c0, by rw [k.cell (block_lt_of_cell h.c1)]; exact h.c1, by rw [k.cell (block_lt_of_cell h.c2)]; exact h.c2, by rw [k.cell (block_lt_of_cell h.c3)]; exact h.c3, by rw [k.cell (block_lt_of_cell h.c4)]; exact h.c4⟩
theorem o5_new (w : World) (o : Ofr) (v : Value) : O5 (w.alloc (.cells #[.string ⟨o.n.toArray⟩, .int .i64 o.e, .string ⟨o.u.toArray⟩, .string ⟨o.r.toArray⟩, v] 65)) w.heap.size o v :=
  ⟨by simp, by simp, by simp, by simp, by simp⟩
set_option maxHeartbeats 1600000 in
set_option maxRecDepth 100000 in
/-- The closure of meetsOne: its variable holds the offer. -/
theorem clo93 (o : Ofr) (v : Value) (t : Tm) (a : Nat) (w : World) (hv : Ts w v o.P) (hA : O5 w a o v) (ho : Oh o) (ht : Sh t) : Calls Tryz.prog 93 #[tv t, .pointer (some ⟨a, 0, none⟩)] w fun e w' => e = .returned (.bool (om t o)) ∧ Below w.heap.size w w' := by
  have b1 := b1c w (.cells #[.string ⟨t.n.toArray⟩, .int .i64 t.o, .int .i64 t.e, .string ⟨t.u.toArray⟩, .string ⟨t.r.toArray⟩] 112)
  have cM : ∀ W, Below w.heap.size w W → Calls Tryz.prog 66 #[ofv o.n o.e o.u o.r v, tv t] W fun x w' => x = .returned (.bool (om t o)) ∧ Below W.heap.size W w' := fun W hW => meets_any o.n o.e o.u o.r v o.P t W (hv.on hW) ho.hP ho.k ht ho.u ho.r
  have hA2 := hA.on b1
  have d0 := hA2.c0
  have d1 := hA2.c1
  have d2 := hA2.c2
  have d3 := hA2.c3
  have d4 := hA2.c4
  generalize om t o = z at cM ⊢
  have HM := Lib.hid cM
  clear hA hA2 hv ho ht cM
  go_enter Tryz.func93, Tryz.ntmps93
  go_wp2_with fail
  refine (HM.out _ b1).mono ?_
  rintro x w1 ⟨rfl, bw⟩
  go_wp2_with fail
  go_ret
  exact ⟨rfl, bon b1 bw⟩
set_option maxHeartbeats 1600000 in
set_option maxRecDepth 100000 in
theorem idx93_row (b o c a : Nat) (l : List Tm) (q : Tm → Bool) (w : World) (h : Tl w b o l) (hn : l.length ≤ 1000000) (hq : ∀ i (hi : i < l.length) W, Below w.heap.size w W → Calls Tryz.prog 93 #[tv l[i], .pointer (some ⟨a, 0, none⟩)] W fun e w' => e = .returned (.bool (q l[i])) ∧ Below W.heap.size W w') :
    Calls Tryz.prog 92 #[.slice (some ⟨b, o, none⟩) l.length c, .func (Fn.func 93) #[] #[.pointer (some ⟨a, 0, none⟩)]] w fun e w' => e = .returned (.int .i64 (fx (l.findIdx? q))) ∧ Below w.heap.size w w' := by
  obtain ⟨r, hr⟩ : ∃ r, r = fx (l.findIdx? q) := ⟨_, rfl⟩
  have HR := Lib.hid hr
  rw [← hr]
  clear hr
  have HQ := Lib.hid hq
  have HF := Lib.hid h
  clear hq h
  go_enter Tryz.func92, Tryz.ntmps92
  go_wp2
  go_loopw [8] (fun i W => ∃ k : Nat, k ≤ l.length ∧ i = .int .i64 k ∧ Below w.heap.size w W ∧ Hid (∀ j (hj : j < l.length), j < k → q l[j] = false)) (fun i _ => l.length - (intOf i).toNat)
  case atStart => exact ⟨0, Nat.zero_le _, rfl, Below.refl _ _, fun j _ h => absurd h (Nat.not_lt_zero _)⟩
  case round =>
    obtain ⟨k, hk, rfl, hW, HP⟩ := hrel
    by_cases hlt : k < l.length
    · have hT := HF.out.on hW
      have c0 := hT.c0 k hlt
      have c1 := hT.c1 k hlt
      have c2 := hT.c2 k hlt
      have c3 := hT.c3 k hlt
      have c4 := hT.c4 k hlt
      have cC := HQ.out k hlt wr hW
      clear hT
      cases hq : q l[k] with
      | true =>
        rw [hq] at cC
        have HG : Hid (r = k) := by show r = _; rw [HR.out, fi_yes k hlt hq (fun j hj h => HP.out j hj h)]; rfl
        go_wp2_with fail
        refine cC.mono ?_
        rintro e w1 ⟨rfl, b1⟩
        go_wp2_with fail
        go_ret
        exact ⟨reti HG.out.symm, bon hW b1⟩
      | false =>
        rw [hq] at cC
        have HN : Hid (∀ j (hj : j < l.length), j < k + 1 → q l[j] = false) := fun j hj h => by
          by_cases e : j = k
          · subst e; exact hq
          · exact HP.out j hj (by omega)
        go_wp2_with fail
        refine cC.mono ?_
        rintro e w1 ⟨rfl, b1⟩
        go_wp2_with fail
        exact ⟨⟨k + 1, hlt, by go_num, bon hW b1, HN⟩, by simp [intOf]; omega⟩
    · go_wp2
      go_ret
      exact ⟨reti (by rw [HR.out, fi_no (fun j hj => HP.out j hj (by omega))]; rfl), hW⟩
theorem idx93_nil (A : Option Addr) (c a : Nat) (w : World) : Calls Tryz.prog 92 #[.slice A 0 c, .func (Fn.func 93) #[] #[.pointer (some ⟨a, 0, none⟩)]] w fun e w' => e = .returned (.int .i64 (-1)) ∧ w' = w := by
  go_enter Tryz.func92, Tryz.ntmps92
  go_wp2
  refine wp_loop_rounds 1 ?_
  rw [rounds_succ]
  go_wp2
  go_ret
  exact ⟨rfl, rfl⟩
theorem idx93_any (v : Value) (a : Nat) (l : List Tm) (q : Tm → Bool) (w : World) (h : Ts w v l) (hn : l.length ≤ 1000000) (hq : ∀ i (hi : i < l.length) W, Below w.heap.size w W → Calls Tryz.prog 93 #[tv l[i], .pointer (some ⟨a, 0, none⟩)] W fun e w' => e = .returned (.bool (q l[i])) ∧ Below W.heap.size W w') :
    Calls Tryz.prog 92 #[v, .func (Fn.func 93) #[] #[.pointer (some ⟨a, 0, none⟩)]] w fun e w' => e = .returned (.int .i64 (fx (l.findIdx? q))) ∧ Below w.heap.size w w' := by
  rcases h.is with ⟨rfl, A, c, rfl⟩ | ⟨b, o, c, rfl, hc, hf⟩
  · exact (idx93_nil A c a w).mono fun x w' ⟨h1, h2⟩ => ⟨h1, by rw [h2]; exact Below.refl _ _⟩
  · exact idx93_row b o c a l q w hf hn hq
theorem con93_any (v : Value) (a : Nat) (l : List Tm) (q : Tm → Bool) (w : World) (h : Ts w v l) (hn : l.length ≤ 1000000) (hq : ∀ i (hi : i < l.length) W, Below w.heap.size w W → Calls Tryz.prog 93 #[tv l[i], .pointer (some ⟨a, 0, none⟩)] W fun e w' => e = .returned (.bool (q l[i])) ∧ Below W.heap.size W w') :
    Calls Tryz.prog 67 #[v, .func (Fn.func 93) #[] #[.pointer (some ⟨a, 0, none⟩)]] w fun e w' => e = .returned (.bool (l.any q)) ∧ Below w.heap.size w w' := by
  have cI := idx93_any v a l q w h hn hq
  have HE := Lib.hid (fx_any q l)
  generalize fx (l.findIdx? q) = z at cI HE
  clear hq h
  go_enter Tryz.func67, Tryz.ntmps67
  go_wp2_with fail
  refine cI.mono ?_
  rintro e w1 ⟨rfl, b1⟩
  go_wp2
  all_goals go_ret
  all_goals exact ⟨retb (by rw [← HE.out]), b1⟩
/-- Is an offer one of the terms? -/
def on1 (o : Ofr) (l : List Tm) : Bool := l.any fun t => om t o
set_option maxHeartbeats 1600000 in
set_option maxRecDepth 100000 in
theorem meets1_any (o : Ofr) (v vL : Value) (l : List Tm) (w : World) (hv : Ts w v o.P) (hl : Ts w vL l) (hn : l.length ≤ 1000) (ho : Oh o) (hS : ∀ t ∈ l, Sh t) : Calls Tryz.prog 68 #[ofv o.n o.e o.u o.r v, vL] w fun e w' => e = .returned (.bool (on1 o l)) ∧ Below w.heap.size w w' := by
  obtain ⟨p1, p2, rfl⟩ := hv.sl
  have b1 := b1c w (.cells #[.string ⟨o.n.toArray⟩, .int .i64 o.e, .string ⟨o.u.toArray⟩, .string ⟨o.r.toArray⟩, .slice p1 o.P.length p2] 65)
  have hA := o5_new w o (.slice p1 o.P.length p2)
  have cC := con93_any vL w.heap.size l (fun t => om t o) _ (hl.on b1) (by omega) (fun i hi W hW => clo93 o (.slice p1 o.P.length p2) l[i] _ W ((hv.on b1).on hW) (hA.on hW) ho (hS _ (List.getElem_mem hi)))
  unfold on1
  generalize (l.any fun t => om t o) = z at cC ⊢
  have HC := Lib.hid cC
  clear cC hA hv hl ho hS
  go_enter Tryz.func68, Tryz.ntmps68
  go_wp2_with fail
  refine HC.out.mono ?_
  rintro x w1 ⟨rfl, bw⟩
  go_wp2_with fail
  go_ret
  exact ⟨rfl, bon b1 bw⟩
theorem any_yes {α : Type} {q : α → Bool} {l : List α} (k : Nat) (hk : k < l.length) (h : q l[k] = true) : l.any q = true := List.any_eq_true.2 ⟨l[k], List.getElem_mem hk, h⟩
theorem any_no {α : Type} {q : α → Bool} {l : List α} (h : ∀ j (hj : j < l.length), q l[j] = false) : l.any q = false := by
  rw [List.any_eq_false]
  intro x hx
  obtain ⟨j, hj, rfl⟩ := List.getElem_of_mem hx
  rw [h j hj]; simp
set_option maxHeartbeats 3200000 in
set_option maxRecDepth 100000 in
theorem xone_row (p : Pck) (vD vA vG vB vR vP vS vL vF : Value) (b o c : Nat) (l : List Tm) (w : World) (hz : Pz w p vD vA vG vB vR vP vS vL vF) (hl : Tl w b o l) (hn : l.length ≤ 1000) (ho : Oh p.o) (hS : ∀ t ∈ l, Sh t) : Calls Tryz.prog 38 #[pkv p.o.n p.o.e p.o.u p.o.r vD vA vG vB vR vP vS vL vF, .slice (some ⟨b, o, none⟩) l.length c] w fun e w' => e = .returned (.bool (on1 p.o l)) ∧ Below w.heap.size w w' := by
  obtain ⟨r, hr⟩ : ∃ r, r = on1 p.o l := ⟨_, rfl⟩
  have HR := Lib.hid hr
  rw [← hr]
  clear hr
  obtain ⟨d1, d2, rfl⟩ := hz.D.sl
  obtain ⟨a1, a2, rfl⟩ := hz.A.sl
  obtain ⟨g1, g2, rfl⟩ := hz.G.sl
  obtain ⟨b1, b2, rfl⟩ := hz.B.sl
  obtain ⟨r1, r2, rfl⟩ := hz.R.sl
  obtain ⟨p1, p2, rfl⟩ := hz.P.sl
  obtain ⟨s1, s2, rfl⟩ := hz.S.sl
  obtain ⟨l1, l2, rfl⟩ := hz.L.sl
  obtain ⟨f1, f2, rfl⟩ := hz.F.sl
  have HZ := Lib.hid hz
  have HF := Lib.hid hl
  have HO := Lib.hid ho
  have HS := Lib.hid hS
  have hbA := b1c w (pko p.o.n p.o.e p.o.u p.o.r (.slice d1 p.D.length d2) (.slice a1 p.A.length a2) (.slice g1 p.G.length g2) (.slice b1 p.B.length b2) (.slice r1 p.R.length r2) (.slice p1 p.o.P.length p2) (.slice s1 p.S.length s2) (.slice l1 p.L.length l2) (.slice f1 p.F.length f2))
  have HPB := Lib.hid (pb_new w p (.slice d1 p.D.length d2) (.slice a1 p.A.length a2) (.slice g1 p.G.length g2) (.slice b1 p.B.length b2) (.slice r1 p.R.length r2) (.slice p1 p.o.P.length p2) (.slice s1 p.S.length s2) (.slice l1 p.L.length l2) (.slice f1 p.F.length f2))
  clear hz hl ho hS
  go_enter Tryz.func38, Tryz.ntmps38
  go_wp2_with fail
  go_loopw [9] (fun i W => ∃ k : Nat, k ≤ l.length ∧ i = .int .i64 k ∧ Below w.heap.size w W ∧ Hid (Pb W w.heap.size p (.slice d1 p.D.length d2) (.slice a1 p.A.length a2) (.slice g1 p.G.length g2) (.slice b1 p.B.length b2) (.slice r1 p.R.length r2) (.slice p1 p.o.P.length p2) (.slice s1 p.S.length s2) (.slice l1 p.L.length l2) (.slice f1 p.F.length f2)) ∧ Hid (∀ j (hj : j < l.length), j < k → om l[j] p.o = false)) (fun i _ => l.length - (intOf i).toNat)
  case atStart => exact ⟨0, Nat.zero_le _, rfl, hbA, HPB, fun j _ h => absurd h (Nat.not_lt_zero _)⟩
  case round =>
    obtain ⟨k, hk, rfl, hW, HP, HN⟩ := hrel
    by_cases hlt : k < l.length
    · have hT := HF.out.on hW
      have c0 := hT.c0 k hlt
      have c1 := hT.c1 k hlt
      have c2 := hT.c2 k hlt
      have c3 := hT.c3 k hlt
      have c4 := hT.c4 k hlt
      have hSt := HS.out l[k] (List.getElem_mem hlt)
      have hbT := b1c wr (.cells #[.string ⟨l[k].n.toArray⟩, .int .i64 l[k].o, .int .i64 l[k].e, .string ⟨l[k].u.toArray⟩, .string ⟨l[k].r.toArray⟩] 112)
      have hP2 := HP.out.on hbT
      have e0 := hP2.c0
      have e1 := hP2.c1
      have e2 := hP2.c2
      have e3 := hP2.c3
      have e4 := hP2.c4
      have e5 := hP2.c5
      have e6 := hP2.c6
      have e7 := hP2.c7
      have e8 := hP2.c8
      have e9 := hP2.c9
      have e10 := hP2.c10
      have e11 := hP2.c11
      have e12 := hP2.c12
      have hWT := bon hW hbT
      have cM := rmeets_any p.o.n p.o.e p.o.u p.o.r (.slice d1 p.D.length d2) (.slice a1 p.A.length a2) (.slice g1 p.G.length g2) (.slice b1 p.B.length b2) (.slice r1 p.R.length r2) (.slice p1 p.o.P.length p2) (.slice s1 p.S.length s2) (.slice l1 p.L.length l2) (.slice f1 p.F.length f2) p.o.P l[k] _ (HZ.out.P.on hWT) HO.out.hP HO.out.k hSt HO.out.u HO.out.r
      rw [show mt p.o.n p.o.e p.o.u p.o.r p.o.P l[k] = om l[k] p.o from rfl] at cM
      obtain ⟨y, hy⟩ : ∃ y, om l[k] p.o = y := ⟨_, rfl⟩
      rw [hy] at cM
      have HY := Lib.hid hy
      clear hT hP2 hy hSt
      generalize l[k] = t at c0 c1 c2 c3 c4 hbT e0 e1 e2 e3 e4 e5 e6 e7 e8 e9 e10 e11 e12 hWT cM
      go_wp2_with fail
      refine cM.mono ?_
      rintro x w1 ⟨rfl, bw⟩
      have hb2 := bon hbT bw
      have HP1 := Lib.hid (HP.out.on hb2)
      clear cM e0 e1 e2 e3 e4 e5 e6 e7 e8 e9 e10 e11 e12 c0 c1 c2 c3 c4
      cases y with
      | true =>
        have HG : Hid (r = true) := by show _ = _; rw [HR.out]; exact any_yes k hlt HY.out
        go_wp2_with fail
        go_ret
        exact ⟨ret_bool HG.out.symm, bon hWT bw⟩
      | false =>
        have HG : Hid (∀ j (hj : j < l.length), j < k + 1 → om l[j] p.o = false) := fun j hj h => by
          by_cases e2 : j = k
          · subst e2; exact HY.out
          · exact HN.out j hj (by omega)
        go_wp2_with fail
        exact ⟨⟨k + 1, hlt, by go_num, bon hWT bw, HP1, HG⟩, by simp [intOf]; omega⟩
    · have HG : Hid (r = false) := by show _ = _; rw [HR.out]; exact any_no (fun j hj => HN.out j hj (by omega))
      go_wp2_with fail
      go_ret
      exact ⟨ret_bool HG.out.symm, hW⟩
theorem xone_nil (p : Pck) (vD vA vG vB vR vP vS vL vF : Value) (A : Option Addr) (c : Nat) (w : World) (hz : Pz w p vD vA vG vB vR vP vS vL vF) : Calls Tryz.prog 38 #[pkv p.o.n p.o.e p.o.u p.o.r vD vA vG vB vR vP vS vL vF, .slice A 0 c] w fun e w' => e = .returned (.bool false) ∧ Below w.heap.size w w' := by
  obtain ⟨d1, d2, rfl⟩ := hz.D.sl
  obtain ⟨a1, a2, rfl⟩ := hz.A.sl
  obtain ⟨g1, g2, rfl⟩ := hz.G.sl
  obtain ⟨b1, b2, rfl⟩ := hz.B.sl
  obtain ⟨r1, r2, rfl⟩ := hz.R.sl
  obtain ⟨p1, p2, rfl⟩ := hz.P.sl
  obtain ⟨s1, s2, rfl⟩ := hz.S.sl
  obtain ⟨l1, l2, rfl⟩ := hz.L.sl
  obtain ⟨f1, f2, rfl⟩ := hz.F.sl
  go_enter Tryz.func38, Tryz.ntmps38
  go_wp2
  refine wp_loop_rounds 1 ?_
  rw [rounds_succ]
  go_wp2
  go_ret
  exact ⟨rfl, b1c _ _⟩
theorem xone_any (p : Pck) (vD vA vG vB vR vP vS vL vF v : Value) (l : List Tm) (w : World) (hz : Pz w p vD vA vG vB vR vP vS vL vF) (hl : Ts w v l) (hn : l.length ≤ 1000) (ho : Oh p.o) (hS : ∀ t ∈ l, Sh t) : Calls Tryz.prog 38 #[pkv p.o.n p.o.e p.o.u p.o.r vD vA vG vB vR vP vS vL vF, v] w fun e w' => e = .returned (.bool (on1 p.o l)) ∧ Below w.heap.size w w' := by
  rcases hl.is with ⟨rfl, A, c, rfl⟩ | ⟨b, o, c, rfl, _, hf⟩
  · exact xone_nil p vD vA vG vB vR vP vS vL vF A c w hz
  · exact xone_row p vD vA vG vB vR vP vS vL vF b o c l w hz hf hn ho hS
end Go.Proofs.YthijccmiemlilaaGreatDoor
