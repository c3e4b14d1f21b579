/- The walk of the reference's Meets. -/
import Derived.Test.YtoijkbhgajghdaaGreatDoorDe
namespace Go.Proofs.YtoijkbhgajghdaaGreatDoor
open Go.RowKit Go.Sort

/-- A package as a value. -/
abbrev pkv (n : List UInt8) (e : Int) (u r : List UInt8) (vD vA vG vB vR vP vS vL vF : Value) : Value := .agg #[.string ⟨n.toArray⟩, .int .i64 e, .string ⟨u.toArray⟩, .string ⟨r.toArray⟩, vD, vA, vG, vB, vR, vP, vS, vL, vF]
abbrev pko (n : List UInt8) (e : Int) (u r : List UInt8) (vD vA vG vB vR vP vS vL vF : Value) : Obj := .cells #[.string ⟨n.toArray⟩, .int .i64 e, .string ⟨u.toArray⟩, .string ⟨r.toArray⟩, vD, vA, vG, vB, vR, vP, vS, vL, vF] 30

set_option maxHeartbeats 1600000 in
set_option maxRecDepth 100000 in
theorem rmeets_row (n : List UInt8) (e : Int) (u r : List UInt8) (vD vA vG vB vR vS vL vF : Value) (b o c : Nat) (P : List Tm) (t : Tm) (w : World) (hv : Tl w b o P) (hP : ∀ p ∈ P, Sh p) (hn : P.length ≤ 40) (ht : Sh t) (hu : u.length ≤ 100) (hr : r.length ≤ 100) :
    Calls Tryz.prog 69 #[pkv n e u r vD vA vG vB vR (.slice (some ⟨b, o, none⟩) P.length c) vS vL vF, tv t] w fun x w' => x = .returned (.bool (mt n e u r P t)) ∧ Below w.heap.size w w' := by
  have cI := fun W => ris_b e u r t.o t.e t.u t.r W (by omega) (by omega) (by have := ht.u; omega) (by have := ht.r; omega)
  obtain ⟨q, hq⟩ : ∃ q, q = Vm.iv (Vm.cv e u r t.e t.u t.r) t.o := ⟨_, rfl⟩
  have b2 := b2c w (pko n e u r vD vA vG vB vR (.slice (some ⟨b, o, none⟩) P.length c) vS vL vF) (.cells #[.string ⟨t.n.toArray⟩, .int .i64 t.o, .int .i64 t.e, .string ⟨t.u.toArray⟩, .string ⟨t.r.toArray⟩] 112)
  have hT := tc_new (w.alloc (pko n e u r vD vA vG vB vR (.slice (some ⟨b, o, none⟩) P.length c) vS vL vF)) t
  have hsz : (w.alloc (pko n e u r vD vA vG vB vR (.slice (some ⟨b, o, none⟩) P.length c) vS vL vF)).heap.size = w.heap.size + 1 := by show (w.heap.push _).size = _; rw [Array.size_push]
  rw [hsz] at hT
  unfold mt
  rw [← hq] at cI ⊢
  clear hq
  have HV := Lib.hid hv
  have HP := Lib.hid hP
  have HT := Lib.hid hT
  have Ht := Lib.hid ht
  clear hv hP hT ht
  have hc : (n == t.n) = true ∧ q = true ∨ (n == t.n) = false ∨ (n == t.n) = true ∧ q = false := by
    cases (n == t.n) <;> cases q <;> simp
  rcases hc with ⟨q1, rfl⟩ | q1 | ⟨q1, rfl⟩
  case inl =>
    go_enter Tryz.func69, Tryz.ntmps69
    go_wp2_with (go_at_call 94; refine (cI _).mono ?_; rintro x w1 ⟨rfl, bw⟩)
    go_ret
    exact ⟨retb (by rw [q1]; simp), bon b2 bw⟩
  case' inr.inl =>
    have HE : Hid (((n == t.n) && q || P.any (nv t)) = P.any (nv t)) := by show _ = _; rw [q1]; simp
    obtain ⟨r1, hr1⟩ : ∃ r, r = P.any (nv t) := ⟨_, rfl⟩
    rw [HE.out, ← hr1]
    have HR := Lib.hid hr1
    clear hr1 HE
    go_enter Tryz.func69, Tryz.ntmps69
    go_wp2_with fail
    have hb : Below w.heap.size w ((w.alloc (pko n e u r vD vA vG vB vR (.slice (some ⟨b, o, none⟩) P.length c) vS vL vF)).alloc (.cells #[.string ⟨t.n.toArray⟩, .int .i64 t.o, .int .i64 t.e, .string ⟨t.u.toArray⟩, .string ⟨t.r.toArray⟩] 112)) := b2
    have HT1 := HT
  case' inr.inr =>
    have HE : Hid (((n == t.n) && false || P.any (nv t)) = P.any (nv t)) := by show _ = _; simp
    obtain ⟨r1, hr1⟩ : ∃ r, r = P.any (nv t) := ⟨_, rfl⟩
    rw [HE.out, ← hr1]
    have HR := Lib.hid hr1
    clear hr1 HE
    go_enter Tryz.func69, Tryz.ntmps69
    go_wp2_with fail
    refine (cI _).mono ?_
    rintro x w1 ⟨rfl, bw⟩
    have hb := bon b2 bw
    have HT1 := Lib.hid (HT.out.on bw)
    have k4 : w1.cell? ⟨w.heap.size, 9, none⟩ = some (.slice (some ⟨b, o, none⟩) P.length c) := by rw [bw.cell (by simp; omega)]; simp
    go_wp2_with fail
  all_goals
    go_loopw [24] (fun i W => ∃ k : Nat, k ≤ P.length ∧ i = .int .i64 k ∧ Below w.heap.size w W ∧ Hid (Tc W (w.heap.size + 1) t) ∧ Hid (∀ j (hj : j < P.length), j < k → nv t P[j] = false)) (fun i _ => P.length - (intOf i).toNat)
    case atStart => exact ⟨0, Nat.zero_le _, rfl, hb, HT1, fun j _ h => absurd h (Nat.not_lt_zero _)⟩
    case round =>
      obtain ⟨k, hk, rfl, hW, HT2, HN⟩ := hrel
      by_cases hlt : k < P.length
      · have hF := HV.out.on hW
        have c0 := hF.c0 k hlt
        have c1 := hF.c1 k hlt
        have c2 := hF.c2 k hlt
        have c3 := hF.c3 k hlt
        have c4 := hF.c4 k hlt
        have hPk := HP.out P[k] (List.getElem_mem hlt)
        have bA := b1c wr (.cells #[.string ⟨P[k].n.toArray⟩, .int .i64 P[k].o, .int .i64 P[k].e, .string ⟨P[k].u.toArray⟩, .string ⟨P[k].r.toArray⟩] 112)
        have hT3 := HT2.out.on bA
        have d0 := hT3.c0
        have d1 := hT3.c1
        have d2 := hT3.c2
        have d3 := hT3.c3
        have d4 := hT3.c4
        have HT3 := Lib.hid hT3
        have cJ := fun W => ris_b P[k].e P[k].u P[k].r t.o t.e t.u t.r W (by have := hPk.u; omega) (by have := hPk.r; omega) (by have := Ht.out.u; omega) (by have := Ht.out.r; omega)
        have hbA := bon hW bA
        have HY : Hid (nv t P[k] = true → r1 = true) := fun e => by rw [HR.out]; exact List.any_eq_true.2 ⟨P[k], List.getElem_mem hlt, e⟩
        have HNn : Hid (nv t P[k] = false → ∀ j (hj : j < P.length), j < k + 1 → nv t P[j] = false) := fun e j hj h => by
          by_cases e2 : j = k
          · subst e2; exact e
          · exact HN.out j hj (by omega)
        obtain ⟨z, hz⟩ : ∃ z, z = Vm.iv (Vm.cv P[k].e P[k].u P[k].r t.e t.u t.r) t.o := ⟨_, rfl⟩
        have HNV : Hid (nv t P[k] = (P[k].n == t.n && (t.o == 0 || (P[k].o == 3 && z)))) := by show _ = _; rw [hz]; rfl
        rw [← hz] at cJ
        clear hF hPk hT3 hz
        cases q2 : (P[k].n == t.n) with
        | false =>
          have HG := Lib.hid (HNn.out (by rw [HNV.out, q2]; rfl))
          clear HY HNn HNV
          go_wp2_with fail
          exact ⟨⟨k + 1, hlt, by go_num, hbA, HT3, HG⟩, by simp [intOf]; omega⟩
        | true =>
          cases q3 : (t.o == 0) with
          | true =>
            have HG := Lib.hid (HY.out (by rw [HNV.out, q2, q3]; rfl))
            clear HY HNn HNV
            go_wp2_with fail
            go_ret
            exact ⟨retb HG.out.symm, hbA⟩
          | false =>
            cases q4 : (P[k].o == 3) with
            | false =>
              have HG := Lib.hid (HNn.out (by rw [HNV.out, q2, q3, q4]; rfl))
              clear HY HNn HNV
              go_wp2_with fail
              exact ⟨⟨k + 1, hlt, by go_num, hbA, HT3, HG⟩, by simp [intOf]; omega⟩
            | true =>
              cases z with
              | true =>
                have HG := Lib.hid (HY.out (by rw [HNV.out, q2, q3, q4]; rfl))
                clear HY HNn HNV
                go_wp2_with fail
                refine (cJ _).mono ?_
                rintro x w2 ⟨rfl, bw2⟩
                go_wp2_with fail
                go_ret
                exact ⟨retb HG.out.symm, bon hbA bw2⟩
              | false =>
                have HG := Lib.hid (HNn.out (by rw [HNV.out, q2, q3, q4]; rfl))
                clear HY HNn HNV
                go_wp2_with fail
                refine (cJ _).mono ?_
                rintro x w2 ⟨rfl, bw2⟩
                have HT4 := Lib.hid (HT3.out.on bw2)
                go_wp2_with fail
                exact ⟨⟨k + 1, hlt, by go_num, bon hbA bw2, HT4, HG⟩, by simp [intOf]; omega⟩
      · have hr : r1 = false := by
          rw [HR.out, List.any_eq_false]
          intro x hx
          obtain ⟨j, hj, rfl⟩ := List.getElem_of_mem hx
          simp [HN.out j hj (by omega)]
        have HZ := Lib.hid hr
        go_wp2_with fail
        go_ret
        exact ⟨retb HZ.out.symm, hW⟩

set_option maxHeartbeats 1600000 in
set_option maxRecDepth 100000 in
theorem rmeets_nil (n : List UInt8) (e : Int) (u r : List UInt8) (vD vA vG vB vR vS vL vF : Value) (A : Option Addr) (c : Nat) (t : Tm) (w : World) (ht : Sh t) (hu : u.length ≤ 100) (hr : r.length ≤ 100) :
    Calls Tryz.prog 69 #[pkv n e u r vD vA vG vB vR (.slice A 0 c) vS vL vF, tv t] w fun x w' => x = .returned (.bool (mt n e u r [] t)) ∧ Below w.heap.size w w' := by
  have cI := fun W => ris_b e u r t.o t.e t.u t.r W (by omega) (by omega) (by have := ht.u; omega) (by have := ht.r; omega)
  obtain ⟨q, hq⟩ : ∃ q, q = Vm.iv (Vm.cv e u r t.e t.u t.r) t.o := ⟨_, rfl⟩
  have b2 := b2c w (pko n e u r vD vA vG vB vR (.slice A 0 c) vS vL vF) (.cells #[.string ⟨t.n.toArray⟩, .int .i64 t.o, .int .i64 t.e, .string ⟨t.u.toArray⟩, .string ⟨t.r.toArray⟩] 112)
  unfold mt
  rw [← hq] at cI ⊢
  clear hq ht
  have hc : (n == t.n) = true ∧ q = true ∨ (n == t.n) = false ∨ (n == t.n) = true ∧ q = false := by
    cases (n == t.n) <;> cases q <;> simp
  rcases hc with ⟨q1, rfl⟩ | q1 | ⟨q1, rfl⟩
  · go_enter Tryz.func69, Tryz.ntmps69
    go_wp2_with (go_at_call 94; refine (cI _).mono ?_; rintro x w1 ⟨rfl, bw⟩)
    go_ret
    exact ⟨retb (by rw [q1]; simp), bon b2 bw⟩
  · go_enter Tryz.func69, Tryz.ntmps69
    go_wp2_with fail
    refine wp_loop_rounds 1 ?_
    rw [rounds_succ]
    go_wp2_with fail
    go_ret
    exact ⟨retb (by rw [q1]; simp), b2⟩
  · go_enter Tryz.func69, Tryz.ntmps69
    go_wp2_with fail
    refine (cI _).mono ?_
    rintro x w1 ⟨rfl, bw⟩
    have hb := bon b2 bw
    have k4 : w1.cell? ⟨w.heap.size, 9, none⟩ = some (.slice A 0 c) := by rw [bw.cell (by simp; omega)]; simp
    go_wp2_with fail
    refine wp_loop_rounds 1 ?_
    rw [rounds_succ]
    go_wp2_with fail
    go_ret
    exact ⟨retb (by simp), hb⟩
theorem rmeets_any (n : List UInt8) (e : Int) (u r : List UInt8) (vD vA vG vB vR vP vS vL vF : Value) (P : List Tm) (t : Tm) (w : World) (hv : Ts w vP P) (hP : ∀ p ∈ P, Sh p) (hn : P.length ≤ 40) (ht : Sh t) (hu : u.length ≤ 100) (hr : r.length ≤ 100) :
    Calls Tryz.prog 69 #[pkv n e u r vD vA vG vB vR vP vS vL vF, tv t] w fun x w' => x = .returned (.bool (mt n e u r P t)) ∧ Below w.heap.size w w' := by
  rcases hv.is with ⟨rfl, A, c, rfl⟩ | ⟨b, o, c, rfl, _, hf⟩
  · exact rmeets_nil n e u r vD vA vG vB vR vS vL vF A c t w ht hu hr
  · exact rmeets_row n e u r vD vA vG vB vR vS vL vF b o c P t w hf hP hn ht hu hr
end Go.Proofs.YtoijkbhgajghdaaGreatDoor
