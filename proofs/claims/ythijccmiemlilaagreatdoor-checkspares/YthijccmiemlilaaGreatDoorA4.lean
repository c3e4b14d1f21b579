/- The walk of the reference's Meets. -/
import Derived.Test.YthijccmiemlilaaGreatDoorA3
namespace Go.Proofs.YthijccmiemlilaaGreatDoor
open Go.RowKit Go.Sort

/-- A package as a value. -/
abbrev pkv (n : List UInt8) (e : Int) (u r : List UInt8) (vD vA vG vB vR vP vS vL vF : Value) : Value := .agg #[.string ⟨n.toArray⟩, .int .i64 e, .string ⟨u.toArray⟩, .string ⟨r.toArray⟩, vD, vA, vG, vB, vR, vP, vS, vL, vF]
abbrev pko (n : List UInt8) (e : Int) (u r : List UInt8) (vD vA vG vB vR vP vS vL vF : Value) : Obj := .cells #[.string ⟨n.toArray⟩, .int .i64 e, .string ⟨u.toArray⟩, .string ⟨r.toArray⟩, vD, vA, vG, vB, vR, vP, vS, vL, vF] 30

set_option maxHeartbeats 1600000 in
set_option maxRecDepth 100000 in
theorem rmeets_row (n : List UInt8) (e : Int) (u r : List UInt8) (vD vA vG vB vR vS vL vF : Value) (b o c : Nat) (P : List Tm) (t : Tm) (w : World) (hv : Tl w b o P) (hP : ∀ p ∈ P, Sh p) (hn : P.length ≤ 40) (ht : Sh t) (hu : u.length ≤ 100) (hr : r.length ≤ 100) :
    Calls Tryz.prog 69 #[pkv n e u r vD vA vG vB vR (.slice (some ⟨b, o, none⟩) P.length c) vS vL vF, tv t] w fun x w' => x = .returned (.bool (mt n e u r P t)) ∧ Below w.heap.size w w' := by
  have cI := fun W => ris_b e u r t.o t.e t.u t.r W (by omega) (by omega) (by have := ht.u; omega) (by have := ht.r; omega)
  obtain ⟨q, hq⟩ : ∃ q, q = Vm.iv (Vm.cv e u r t.e t.u t.r) t.o := ⟨_, rfl⟩
  have b2 := b2c w (pko n e u r vD vA vG vB vR (.slice (some ⟨b, o, none⟩) P.length c) vS vL vF) (.cells #[.string ⟨t.n.toArray⟩, .int .i64 t.o, .int .i64 t.e, .string ⟨t.u.toArray⟩, .string ⟨t.r.toArray⟩] 112)
  have hT := tc_new (w.alloc (pko n e u r vD vA vG vB vR (.slice (some ⟨b, o, none⟩) P.length c) vS vL vF)) t
  have hsz : (w.alloc (pko n e u r vD vA vG vB vR (.slice (some ⟨b, o, none⟩) P.length c) vS vL vF)).heap.size = w.heap.size + 1 := by show (w.heap.push _).size = _; rw [Array.size_push]
  rw [hsz] at hT
  unfold mt
  rw [← hq] at cI ⊢
  clear hq
  have HV := Lib.hid hv
  have HP := Lib.hid hP
  have HT := Lib.hid hT
  have Ht := Lib.hid ht
  clear hv hP hT ht
  have hc : (n == t.n) = true ∧ q = true ∨ (n == t.n) = false ∨ (n == t.n) = true ∧ q = false := by
    cases (n == t.n) <;> cases q <;> simp
  rcases hc with ⟨q1, rfl⟩ | q1 | ⟨q1, rfl⟩
  case inl =>
    go_enter Tryz.func69, Tryz.ntmps69
    go_wp2_with (go_at_call 94; refine (cI _).mono ?_; rintro x w1 ⟨rfl, bw⟩)
    go_ret
    exact ⟨retb (by rw [q1]; simp), bon b2 bw⟩
  case' inr.inl =>
    have HE : Hid (((n == t.n) && q || P.any (nv t)) = P.any (nv t)) := by show _ = _; rw [q1]; simp
    obtain ⟨r1, hr1⟩ : ∃ r, r = P.any (nv t) := ⟨_, rfl⟩
    rw [HE.out, ← hr1]
    have HR := Lib.hid hr1
    clear hr1 HE
    go_enter Tryz.func69, Tryz.ntmps69
    go_wp2_with fail
    have hb : Below w.heap.size w ((w.alloc (pko n e u r vD vA vG vB vR (.slice (some ⟨b, o, none⟩) P.length c) vS vL vF)).alloc (.cells #[.string ⟨t.n.toArray⟩, .int .i64 t.o, .int .i64 t.e, .string ⟨t.u.toArray⟩, .string ⟨t.r.toArray⟩] 112)) := b2
    have HT1 := HT
  case' inr.inr =>
    have HE : Hid (((n == t.n) && false || P.any (nv t)) = P.any (nv t)) := by show _ = _; simp
    obtain ⟨r1, hr1⟩ : ∃ r, r = P.any (nv t) := ⟨_, rfl⟩
    rw [HE.out, ← hr1]
    have HR := Lib.hid hr1
    clear hr1 HE
    go_enter Tryz.func69, Tryz.ntmps69
    go_wp2_with fail
    refine (cI _).mono ?_
    rintro x w1 ⟨rfl, bw⟩
    have hb := bon b2 bw
    have HT1 := Lib.hid (HT.out.on bw)
    have k4 : w1.cell? ⟨w.heap.size, 9, none⟩ = some (.slice (some ⟨b, o, none⟩) P.length c) := by rw [bw.cell (by simp; omega)]; simp
    go_wp2_with fail
  all_goals
    go_loopw [24] (fun i W => ∃ k : Nat, k ≤ P.length ∧ i = .int .i64 k ∧ Below w.heap.size w W ∧ Hid (Tc W (w.heap.size + 1) t) ∧ Hid (∀ j (hj : j < P.length), j < k → nv t P[j] = false)) (fun i _ => P.length - (intOf i).toNat)
    case atStart => exact ⟨0, Nat.zero_le _, rfl, hb, HT1, fun j _ h => absurd h (Nat.not_lt_zero _)⟩
    case round =>
      obtain ⟨k, hk, rfl, hW, HT2, HN⟩ := hrel
      by_cases hlt : k < P.length
      · have hF := HV.out.on hW
        have c0 := hF.c0 k hlt
        have c1 := hF.c1 k hlt
        have c2 := hF.c2 k hlt
        have c3 := hF.c3 k hlt
        have c4 := hF.c4 k hlt
        have hPk := HP.out P[k] (List.getElem_mem hlt)
        have bA := b1c wr (.cells #[.string ⟨P[k].n.toArray⟩, .int .i64 P[k].o, .int .i64 P[k].e, .string ⟨P[k].u.toArray⟩, .string ⟨P[k].r.toArray⟩] 112)
        have hT3 := HT2.out.on bA
        have d0 := hT3.c0
        have d1 := hT3.c1
        have d2 := hT3.c2
        have d3 := hT3.c3
        have d4 := hT3.c4
        have HT3 := Lib.hid hT3
        have cJ := fun W => ris_b P[k].e P[k].u P[k].r t.o t.e t.u t.r W (by have := hPk.u; omega) (by have := hPk.r; omega) (by have := Ht.out.u; omega) (by have := Ht.out.r; omega)
        have hbA := bon hW bA
        have HY : Hid (nv t P[k] = true → r1 = true) := fun e => by rw [HR.out]; exact List.any_eq_true.2 ⟨P[k], List.getElem_mem hlt, e⟩
        have HNn : Hid (nv t P[k] = false → ∀ j (hj : j < P.length), j < k + 1 → nv t P[j] = false) := fun e j hj h => by
          by_cases e2 : j = k
          · subst e2; exact e
          · exact HN.out j hj (by omega)
        obtain ⟨z, hz⟩ : ∃ z, z = Vm.iv (Vm.cv P[k].e P[k].u P[k].r t.e t.u t.r) t.o := ⟨_, rfl⟩
        have HNV : Hid (nv t P[k] = (P[k].n == t.n && (t.o == 0 || (P[k].o == 3 && z)))) := by show _ = _; rw [hz]; rfl
        rw [← hz] at cJ
        clear hF hPk hT3 hz
        cases q2 : (P[k].n == t.n) with
        | false =>
          have HG := Lib.hid (HNn.out (by rw [HNV.out, q2]; rfl))
          clear HY HNn HNV
          go_wp2_with fail
          exact ⟨⟨k + 1, hlt, by go_num, hbA, HT3, HG⟩, by simp [intOf]; omega⟩
        | true =>
          cases q3 : (t.o == 0) with
          | true =>
            have HG := Lib.hid (HY.out (by rw [HNV.out, q2, q3]; rfl))
            clear HY HNn HNV
            go_wp2_with fail
            go_ret
            exact ⟨retb HG.out.symm, hbA⟩
          | false =>
            cases q4 : (P[k].o == 3) with
            | false =>
              have HG := Lib.hid (HNn.out (by rw [HNV.out, q2, q3, q4]; rfl))
              clear HY HNn HNV
              go_wp2_with fail
              exact ⟨⟨k + 1, hlt, by go_num, hbA, HT3, HG⟩, by simp [intOf]; omega⟩
            | true =>
              cases z with
              | true =>
                have HG := Lib.hid (HY.out (by rw [HNV.out, q2, q3, q4]; rfl))
                clear HY HNn HNV
                go_wp2_with fail
                refine (cJ _).mono ?_
                rintro x w2 ⟨rfl, bw2⟩
                go_wp2_with fail
                go_ret
                exact ⟨retb HG.out.symm, bon hbA bw2⟩
              | false =>
                have HG := Lib.hid (HNn.out (by rw [HNV.out, q2, q3, q4]; rfl))
                clear HY HNn HNV
                go_wp2_with fail
                refine (cJ _).mono ?_
                rintro x w2 ⟨rfl, bw2⟩
                have HT4 := Lib.hid (HT3.out.on bw2)
                go_wp2_with fail
                exact ⟨⟨k + 1, hlt, by go_num, bon hbA bw2, HT4, HG⟩, by simp [intOf]; omega⟩
      · have hr : r1 = false := by
          rw [HR.out, List.any_eq_false]
          intro x hx
          obtain ⟨j, hj, rfl⟩ := List.getElem_of_mem hx
          simp [HN.out j hj (by omega)]
        have HZ := Lib.hid hr
        go_wp2_with fail
        go_ret
        exact ⟨retb HZ.out.symm, hW⟩

set_option maxHeartbeats 1600000 in
set_option maxRecDepth 100000 in
theorem rmeets_nil (n : List UInt8) (e : Int) (u r : List UInt8) (vD vA vG vB vR vS vL vF : Value) (A : Option Addr) (c : Nat) (t : Tm) (w : World) (ht : Sh t) (hu : u.length ≤ 100) (hr : r.length ≤ 100) :
    Calls Tryz.prog 69 #[pkv n e u r vD vA vG vB vR (.slice A 0 c) vS vL vF, tv t] w fun x w' => x = .returned (.bool (mt n e u r [] t)) ∧ Below w.heap.size w w' := by
  have cI := fun W => ris_b e u r t.o t.e t.u t.r W (by omega) (by omega) (by have := ht.u; omega) (by have := ht.r; omega)
  obtain ⟨q, hq⟩ : ∃ q, q = Vm.iv (Vm.cv e u r t.e t.u t.r) t.o := ⟨_, rfl⟩
  have b2 := b2c w (pko n e u r vD vA vG vB vR (.slice A 0 c) vS vL vF) (.cells #[.string ⟨t.n.toArray⟩, .int .i64 t.o, .int .i64 t.e, .string ⟨t.u.toArray⟩, .string ⟨t.r.toArray⟩] 112)
  unfold mt
  rw [← hq] at cI ⊢
  clear hq ht
  have hc : (n == t.n) = true ∧ q = true ∨ (n == t.n) = false ∨ (n == t.n) = true ∧ q = false := by
    cases (n == t.n) <;> cases q <;> simp
  rcases hc with ⟨q1, rfl⟩ | q1 | ⟨q1, rfl⟩
  · go_enter Tryz.func69, Tryz.ntmps69
    go_wp2_with (go_at_call 94; refine (cI _).mono ?_; rintro x w1 ⟨rfl, bw⟩)
    go_ret
    exact ⟨retb (by rw [q1]; simp), bon b2 bw⟩
  · go_enter Tryz.func69, Tryz.ntmps69
    go_wp2_with fail
    refine wp_loop_rounds 1 ?_
    rw [rounds_succ]
    go_wp2_with fail
    go_ret
    exact ⟨retb (by rw [q1]; simp), b2⟩
  · go_enter Tryz.func69, Tryz.ntmps69
    go_wp2_with fail
    refine (cI _).mono ?_
    rintro x w1 ⟨rfl, bw⟩
    have hb := bon b2 bw
    have k4 : w1.cell? ⟨w.heap.size, 9, none⟩ = some (.slice A 0 c) := by rw [bw.cell (by simp; omega)]; simp
    go_wp2_with fail
    refine wp_loop_rounds 1 ?_
    rw [rounds_succ]
    go_wp2_with fail
    go_ret
    exact ⟨retb (by simp), hb⟩
theorem rmeets_any (n : List UInt8) (e : Int) (u r : List UInt8) (vD vA vG vB vR vP vS vL vF : Value) (P : List Tm) (t : Tm) (w : World) (hv : Ts w vP P) (hP : ∀ p ∈ P, Sh p) (hn : P.length ≤ 40) (ht : Sh t) (hu : u.length ≤ 100) (hr : r.length ≤ 100) :
    Calls Tryz.prog 69 #[pkv n e u r vD vA vG vB vR vP vS vL vF, tv t] w fun x w' => x = .returned (.bool (mt n e u r P t)) ∧ Below w.heap.size w w' := by
  rcases hv.is with ⟨rfl, A, c, rfl⟩ | ⟨b, o, c, rfl, _, hf⟩
  · exact rmeets_nil n e u r vD vA vG vB vR vS vL vF A c t w ht hu hr
  · exact rmeets_row n e u r vD vA vG vB vR vS vL vF b o c P t w hf hP hn ht hu hr
end Go.Proofs.YthijccmiemlilaaGreatDoor
namespace Go.Proofs.YthijccmiemlilaaGreatDoor
open Go.RowKit Go.Sort

/-- An offer: its name, its version, what it provides. -/
structure Ofr where
  n : List UInt8
  e : Int
  u : List UInt8
  r : List UInt8
  P : List Tm
  deriving Inhabited
structure Oh (o : Ofr) : Prop where
  hP : ∀ p ∈ o.P, Sh p
  k : o.P.length ≤ 40
  u : o.u.length ≤ 100
  r : o.r.length ≤ 100
def om (t : Tm) (o : Ofr) : Bool := mt o.n o.e o.u o.r o.P t
/-- Offers in a row. -/
structure Ol (W : World) (b o : Nat) (l : List Ofr) : Prop where
  lt : b < W.heap.size
  c : ∀ i (hi : i < l.length), ∃ v, W.cell? ⟨b, o + i * 5, none⟩ = some (.string ⟨l[i].n.toArray⟩) ∧ W.cell? ⟨b, o + i * 5 + 1, none⟩ = some (.int .i64 l[i].e) ∧ W.cell? ⟨b, o + i * 5 + 2, none⟩ = some (.string ⟨l[i].u.toArray⟩) ∧
    W.cell? ⟨b, o + i * 5 + 3, none⟩ = some (.string ⟨l[i].r.toArray⟩) ∧ W.cell? ⟨b, o + i * 5 + 4, none⟩ = some v ∧ Ts W v l[i].P
theorem Ol.on {W w' : World} {b o : Nat} {l : List Ofr} (h : Ol W b o l) (k : Below W.heap.size W w') : Ol w' b o l :=
  ⟨Nat.lt_of_lt_of_le h.lt k.size, fun i hi => by
    obtain ⟨v, h0, h1, h2, h3, h4, h5⟩ := h.c i hi
    exact ⟨v, by rw [k.cell (p := ⟨b, _, none⟩) h.lt]; exact h0, by rw [k.cell (p := ⟨b, _, none⟩) h.lt]; exact h1, by rw [k.cell (p := ⟨b, _, none⟩) h.lt]; exact h2, by rw [k.cell (p := ⟨b, _, none⟩) h.lt]; exact h3, by rw [k.cell (p := ⟨b, _, none⟩) h.lt]; exact h4, h5.on k⟩⟩
structure Os' (W : World) (v : Value) (l : List Ofr) : Prop where
  is : (l = [] ∧ ∃ A c, v = .slice A 0 c) ∨ ∃ b o c, v = .slice (some ⟨b, o, none⟩) l.length c ∧ Ol W b o l
theorem Os'.on {W w' : World} {v : Value} {l : List Ofr} (h : Os' W v l) (k : Below W.heap.size W w') : Os' w' v l := by
  rcases h.is with h | ⟨b, o, c, h1, h3⟩
  · exact ⟨Or.inl h⟩
  · exact ⟨Or.inr ⟨b, o, c, h1, h3.on k⟩⟩

set_option maxHeartbeats 1600000 in
set_option maxRecDepth 100000 in
theorem clo64 (o : Ofr) (v : Value) (t : Tm) (a : Nat) (w : World) (hv : Ts w v o.P) (hT : Tc w a t) (ho : Oh o) (ht : Sh t) : Calls Tryz.prog 65 #[ofv o.n o.e o.u o.r v, .pointer (some ⟨a, 0, none⟩)] w fun e w' => e = .returned (.bool (om t o)) ∧ Below w.heap.size w w' := by
  have b1 := b1c w (.cells #[.string ⟨o.n.toArray⟩, .int .i64 o.e, .string ⟨o.u.toArray⟩, .string ⟨o.r.toArray⟩, v] 65)
  have cM : ∀ W, Below w.heap.size w W → Calls Tryz.prog 66 #[ofv o.n o.e o.u o.r v, tv t] W fun x w' => x = .returned (.bool (om t o)) ∧ Below W.heap.size W w' := fun W hW => meets_any o.n o.e o.u o.r v o.P t W (hv.on hW) ho.hP ho.k ht ho.u ho.r
  have hT2 := hT.on b1
  have d0 := hT2.c0
  have d1 := hT2.c1
  have d2 := hT2.c2
  have d3 := hT2.c3
  have d4 := hT2.c4
  generalize om t o = z at cM ⊢
  have HM := Lib.hid cM
  clear hT hT2 hv ho ht cM
  go_enter Tryz.func65, Tryz.ntmps65
  go_wp2_with fail
  refine (HM.out _ b1).mono ?_
  rintro x w1 ⟨rfl, bw⟩
  go_wp2_with fail
  go_ret
  exact ⟨rfl, bon b1 bw⟩

set_option maxHeartbeats 1600000 in
set_option maxRecDepth 100000 in
theorem idx64_row (b o c a : Nat) (l : List Ofr) (q : Ofr → Bool) (w : World) (h : Ol w b o l) (hn : l.length ≤ 1000000) (hq : ∀ i (hi : i < l.length) v W, Below w.heap.size w W → Ts W v l[i].P → Calls Tryz.prog 65 #[ofv l[i].n l[i].e l[i].u l[i].r v, .pointer (some ⟨a, 0, none⟩)] W fun e w' => e = .returned (.bool (q l[i])) ∧ Below W.heap.size W w') :
    Calls Tryz.prog 88 #[.slice (some ⟨b, o, none⟩) l.length c, .func (Fn.func 65) #[] #[.pointer (some ⟨a, 0, none⟩)]] w fun e w' => e = .returned (.int .i64 (fx (l.findIdx? q))) ∧ Below w.heap.size w w' := by
  obtain ⟨r, hr⟩ : ∃ r, r = fx (l.findIdx? q) := ⟨_, rfl⟩
  have HR := Lib.hid hr
  rw [← hr]
  clear hr
  have HQ := Lib.hid hq
  have HF := Lib.hid h
  clear hq h
  go_enter Tryz.func88, Tryz.ntmps88
  go_wp2
  go_loopw [8] (fun i W => ∃ k : Nat, k ≤ l.length ∧ i = .int .i64 k ∧ Below w.heap.size w W ∧ Hid (∀ j (hj : j < l.length), j < k → q l[j] = false)) (fun i _ => l.length - (intOf i).toNat)
  case atStart => exact ⟨0, Nat.zero_le _, rfl, Below.refl _ _, fun j _ h => absurd h (Nat.not_lt_zero _)⟩
  case round =>
    obtain ⟨k, hk, rfl, hW, HP⟩ := hrel
    by_cases hlt : k < l.length
    · obtain ⟨v, c0, c1, c2, c3, c4, hv⟩ := (HF.out.on hW).c k hlt
      have cC := HQ.out k hlt v wr hW hv
      clear hv
      cases hq : q l[k] with
      | true =>
        rw [hq] at cC
        have HG : Hid (r = k) := by show r = _; rw [HR.out, fi_yes k hlt hq (fun j hj h => HP.out j hj h)]; rfl
        go_wp2_with fail
        refine cC.mono ?_
        rintro e w1 ⟨rfl, b1⟩
        go_wp2_with fail
        go_ret
        exact ⟨reti HG.out.symm, bon hW b1⟩
      | false =>
        rw [hq] at cC
        have HN : Hid (∀ j (hj : j < l.length), j < k + 1 → q l[j] = false) := fun j hj h => by
          by_cases e : j = k
          · subst e; exact hq
          · exact HP.out j hj (by omega)
        go_wp2_with fail
        refine cC.mono ?_
        rintro e w1 ⟨rfl, b1⟩
        go_wp2_with fail
        exact ⟨⟨k + 1, hlt, by go_num, bon hW b1, HN⟩, by simp [intOf]; omega⟩
    · go_wp2
      go_ret
      exact ⟨reti (by rw [HR.out, fi_no (fun j hj => HP.out j hj (by omega))]; rfl), hW⟩
theorem idx64_nil (A : Option Addr) (c a : Nat) (w : World) : Calls Tryz.prog 88 #[.slice A 0 c, .func (Fn.func 65) #[] #[.pointer (some ⟨a, 0, none⟩)]] w fun e w' => e = .returned (.int .i64 (-1)) ∧ w' = w := by
  go_enter Tryz.func88, Tryz.ntmps88
  go_wp2
  refine wp_loop_rounds 1 ?_
  rw [rounds_succ]
  go_wp2
  go_ret
  exact ⟨rfl, rfl⟩
theorem idx64_any (v : Value) (a : Nat) (l : List Ofr) (q : Ofr → Bool) (w : World) (h : Os' w v l) (hn : l.length ≤ 1000000) (hq : ∀ i (hi : i < l.length) v W, Below w.heap.size w W → Ts W v l[i].P → Calls Tryz.prog 65 #[ofv l[i].n l[i].e l[i].u l[i].r v, .pointer (some ⟨a, 0, none⟩)] W fun e w' => e = .returned (.bool (q l[i])) ∧ Below W.heap.size W w') :
    Calls Tryz.prog 88 #[v, .func (Fn.func 65) #[] #[.pointer (some ⟨a, 0, none⟩)]] w fun e w' => e = .returned (.int .i64 (fx (l.findIdx? q))) ∧ Below w.heap.size w w' := by
  rcases h.is with ⟨rfl, A, c, rfl⟩ | ⟨b, o, c, rfl, hf⟩
  · exact (idx64_nil A c a w).mono fun x w' ⟨h1, h2⟩ => ⟨h1, by rw [h2]; exact Below.refl _ _⟩
  · exact idx64_row b o c a l q w hf hn hq
theorem con64_any (v : Value) (a : Nat) (l : List Ofr) (q : Ofr → Bool) (w : World) (h : Os' w v l) (hn : l.length ≤ 1000000) (hq : ∀ i (hi : i < l.length) v W, Below w.heap.size w W → Ts W v l[i].P → Calls Tryz.prog 65 #[ofv l[i].n l[i].e l[i].u l[i].r v, .pointer (some ⟨a, 0, none⟩)] W fun e w' => e = .returned (.bool (q l[i])) ∧ Below W.heap.size W w') :
    Calls Tryz.prog 64 #[v, .func (Fn.func 65) #[] #[.pointer (some ⟨a, 0, none⟩)]] w fun e w' => e = .returned (.bool (l.any q)) ∧ Below w.heap.size w w' := by
  have cI := idx64_any v a l q w h hn hq
  have HE := Lib.hid (fx_any q l)
  generalize fx (l.findIdx? q) = z at cI HE
  clear hq h
  go_enter Tryz.func64, Tryz.ntmps64
  go_wp2_with fail
  refine cI.mono ?_
  rintro e w1 ⟨rfl, b1⟩
  go_wp2
  all_goals go_ret
  all_goals exact ⟨retb (by rw [← HE.out]), b1⟩

/-- Is the term met by one of the offers? -/
def tm (O : List Ofr) (t : Tm) : Bool := O.any (om t)

set_option maxHeartbeats 1600000 in
set_option maxRecDepth 100000 in
/-- The closure of Met: its variable holds the offers. -/
theorem clo62 (O : List Ofr) (v : Value) (t : Tm) (a : Nat) (w : World) (ha : w.cell? ⟨a, 0, none⟩ = some v) (hv : Os' w v O) (hO : ∀ o ∈ O, Oh o) (hn : O.length ≤ 1000000) (ht : Sh t) : Calls Tryz.prog 63 #[tv t, .pointer (some ⟨a, 0, none⟩)] w fun e w' => e = .returned (.bool (tm O t)) ∧ Below w.heap.size w w' := by
  have b1 := b1c w (.cells #[.string ⟨t.n.toArray⟩, .int .i64 t.o, .int .i64 t.e, .string ⟨t.u.toArray⟩, .string ⟨t.r.toArray⟩] 112)
  have hT := tc_new w t
  have a1 : (w.alloc (.cells #[.string ⟨t.n.toArray⟩, .int .i64 t.o, .int .i64 t.e, .string ⟨t.u.toArray⟩, .string ⟨t.r.toArray⟩] 112)).cell? ⟨a, 0, none⟩ = some v := by rw [b1.cell (block_lt_of_cell ha)]; exact ha
  have cC := con64_any v w.heap.size O (om t) _ (hv.on b1) hn (fun i hi x W hW hx => clo64 O[i] x t _ W hx (hT.on hW) (hO _ (List.getElem_mem hi)) ht)
  unfold tm
  generalize O.any (om t) = z at cC ⊢
  have HC := Lib.hid cC
  clear cC hT hv hO hn ht ha
  go_enter Tryz.func63, Tryz.ntmps63
  go_wp2_with fail
  refine HC.out.mono ?_
  rintro x w1 ⟨rfl, bw⟩
  go_wp2_with fail
  go_ret
  exact ⟨rfl, bon b1 bw⟩

/-- Which one is the first that is not met? -/
def met (O : List Ofr) (l : List (List Tm)) : Int × Bool := match l.findIdx? (fun x => !(x.any (tm O))) with
  | some i => (i, false)
  | none => (0, true)
theorem ret2 {a b : Int} {x y : Bool} (h : (a, x) = (b, y)) : Ending.returned (.tuple #[.int .i64 a, .bool x]) = .returned (.tuple #[.int .i64 b, .bool y]) := by cases h; rfl

theorem Os'.sl {W : World} {v : Value} {l : List Ofr} (h : Os' W v l) : ∃ A c, v = .slice A l.length c := by
  rcases h.is with ⟨rfl, A, c, rfl⟩ | ⟨b, o, c, rfl, _⟩
  · exact ⟨A, c, rfl⟩
  · exact ⟨_, c, rfl⟩

set_option maxHeartbeats 1600000 in
set_option maxRecDepth 100000 in
theorem met_row (b o c : Nat) (vO : Value) (l : List (List Tm)) (O : List Ofr) (w : World) (hl : Al w b o l) (hn : l.length ≤ 1000) (hv : Os' w vO O) (hO : ∀ o ∈ O, Oh o) (hk : O.length ≤ 1000) (hS : ∀ x ∈ l, x.length ≤ 40 ∧ ∀ t ∈ x, Sh t) :
    Calls Tryz.prog 23 #[.slice (some ⟨b, o, none⟩) l.length c, vO] w fun e w' => e = .returned (.tuple #[.int .i64 (met O l).1, .bool (met O l).2]) ∧ Below w.heap.size w w' := by
  obtain ⟨r, hr⟩ : ∃ r, r = met O l := ⟨_, rfl⟩
  have HR := Lib.hid hr
  rw [← hr]
  clear hr
  obtain ⟨A, cO, rfl⟩ := hv.sl
  have b1 := b1c w (.cells #[.slice A O.length cO] 63)
  have a1 : (w.alloc (.cells #[.slice A O.length cO] 63)).cell? ⟨w.heap.size, 0, none⟩ = some (.slice A O.length cO) := by simp
  have HL := Lib.hid hl
  have HV := Lib.hid hv
  have HO := Lib.hid hO
  have HS := Lib.hid hS
  have Hb1 := Lib.hid b1
  have Ha1 := Lib.hid a1
  clear hl hv hO hS b1 a1
  go_enter Tryz.func23, Tryz.ntmps23
  go_wp2_with fail
  go_loopw [12] (fun i W => ∃ k : Nat, k ≤ l.length ∧ i = .int .i64 k ∧ Below w.heap.size w W ∧ Hid (W.cell? ⟨w.heap.size, 0, none⟩ = some (.slice A O.length cO)) ∧ Hid (∀ j (hj : j < l.length), j < k → (!(l[j].any (tm O))) = false)) (fun i _ => l.length - (intOf i).toNat)
  case atStart => exact ⟨0, Nat.zero_le _, rfl, Hb1.out, Ha1, fun j _ h => absurd h (Nat.not_lt_zero _)⟩
  case round =>
    obtain ⟨k, hkl, rfl, hW, HA, HN⟩ := hrel
    by_cases hlt : k < l.length
    · obtain ⟨x, c0, hx⟩ := (HL.out.on hW).c k hlt
      obtain ⟨hx1, hx2⟩ := HS.out l[k] (List.getElem_mem hlt)
      have cC := con62_any x w.heap.size l[k] (tm O) wr hx (by omega) (fun i hi W hW' => clo62 O (.slice A O.length cO) l[k][i] w.heap.size W (by rw [hW'.cell (block_lt_of_cell HA.out)]; exact HA.out) ((HV.out.on hW).on hW') HO.out (by omega) (hx2 _ (List.getElem_mem hi)))
      have HC := Lib.hid cC
      clear cC hx hx1 hx2
      cases q1 : l[k].any (tm O) with
      | true =>
        rw [q1] at HC
        have HG : Hid (∀ j (hj : j < l.length), j < k + 1 → (!(l[j].any (tm O))) = false) := fun j hj h => by
          by_cases e2 : j = k
          · subst e2; rw [q1]; rfl
          · exact HN.out j hj (by omega)
        clear q1
        go_wp2_with fail
        refine HC.out.mono ?_
        rintro e w1 ⟨rfl, bw⟩
        have HA1 : Hid (w1.cell? ⟨w.heap.size, 0, none⟩ = some (.slice A O.length cO)) := by show _ = _; rw [bw.cell (block_lt_of_cell HA.out)]; exact HA.out
        go_wp2_with fail
        exact ⟨⟨k + 1, hlt, by go_num, bon hW bw, HA1, HG⟩, by simp [intOf]; omega⟩
      | false =>
        rw [q1] at HC
        have HG : Hid (r = ((k : Int), false)) := by
          show _ = _
          rw [HR.out]; unfold met
          rw [fi_yes (q := fun x : List Tm => !(x.any (tm O))) k hlt (by rw [q1]; rfl) (fun j hj h => HN.out j hj h)]
        clear q1
        go_wp2_with fail
        refine HC.out.mono ?_
        rintro e w1 ⟨rfl, bw⟩
        go_wp2_with fail
        go_ret2
        exact ⟨ret2 HG.out.symm, bon hW bw⟩
    · have HG : Hid (r = (0, true)) := by
        show _ = _
        rw [HR.out]; unfold met
        rw [fi_no (q := fun x : List Tm => !(x.any (tm O))) (fun j hj => HN.out j hj (by omega))]
      go_wp2_with fail
      go_ret2
      exact ⟨ret2 HG.out.symm, hW⟩
theorem met_nil (A A' : Option Addr) (c n c' : Nat) (w : World) : Calls Tryz.prog 23 #[.slice A 0 c, .slice A' n c'] w fun e w' => e = .returned (.tuple #[.int .i64 0, .bool true]) ∧ Below w.heap.size w w' := by
  have b1 := b1c w (.cells #[.slice A' n c'] 63)
  go_enter Tryz.func23, Tryz.ntmps23
  go_wp2
  refine wp_loop_rounds 1 ?_
  rw [rounds_succ]
  go_wp2
  go_ret2
  exact ⟨rfl, b1⟩
theorem met_any (v vO : Value) (l : List (List Tm)) (O : List Ofr) (w : World) (hl : As w v l) (hn : l.length ≤ 1000) (hv : Os' w vO O) (hO : ∀ o ∈ O, Oh o) (hk : O.length ≤ 1000) (hS : ∀ x ∈ l, x.length ≤ 40 ∧ ∀ t ∈ x, Sh t) :
    Calls Tryz.prog 23 #[v, vO] w fun e w' => e = .returned (.tuple #[.int .i64 (met O l).1, .bool (met O l).2]) ∧ Below w.heap.size w w' := by
  rcases hl.is with ⟨rfl, A, c, rfl⟩ | ⟨b, o, c, rfl, _, hf⟩
  · obtain ⟨A', c', rfl⟩ := hv.sl
    exact met_nil A A' c _ c' w
  · exact met_row b o c vO l O w hf hn hv hO hk hS
end Go.Proofs.YthijccmiemlilaaGreatDoor
