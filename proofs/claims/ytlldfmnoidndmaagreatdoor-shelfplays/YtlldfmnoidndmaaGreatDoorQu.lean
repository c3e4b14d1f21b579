/- The keeper's says. -/
import Derived.Test.YtlldfmnoidndmaaGreatDoorYa
import Derived.Test.YtlldfmnoidndmaaGreatDoorQv
import Derived.Test.YtlldfmnoidndmaaGreatDoorQx
import Derived.Test.YtlldfmnoidndmaaGreatDoorQw
import Derived.Deep.MidRow
namespace Go.Proofs.YtlldfmnoidndmaaGreatDoor.Kep
open Go.RowKit Go.Sort

theorem short_any (e : Int) (u r : List UInt8) (w : World) : Calls Tryz.prog 68 #[.agg #[.int .i64 e, .string ⟨u.toArray⟩, .string ⟨r.toArray⟩]] w fun x w' =>
    x = .returned (.bool (decide (u.length ≤ 100) && decide (r.length ≤ 100))) ∧ w' = w.alloc (.cells #[.int .i64 e, .string ⟨u.toArray⟩, .string ⟨r.toArray⟩] 37) := by
  by_cases h1 : u.length ≤ 100
  all_goals by_cases h2 : r.length ≤ 100
  all_goals
    go_enter Tryz.func68, Tryz.ntmps68
    go_wp2
    go_ret
    exact ⟨ret_bool (by apply Bool.eq_iff_iff.2; constructor <;> intro hh <;> simp at hh ⊢ <;> omega), rfl⟩

theorem short_b (e : Int) (u r : List UInt8) (w : World) : Calls Tryz.prog 68 #[vv e u r] w fun x w' => x = .returned (.bool (decide (u.length ≤ 100) && decide (r.length ≤ 100))) ∧ Below w.heap.size w w' := by
  refine (short_any e u r w).mono ?_
  rintro x w' ⟨rfl, rfl⟩
  exact ⟨rfl, b1c _ _⟩

theorem flat_long (A : Option Addr) (n c : Nat) (w : World) (h : 40 < n) : Calls Tryz.prog 70 #[.slice A n c] w fun e w' => e = .returned (.bool false) ∧ w' = w := by
  go_enter Tryz.func70, Tryz.ntmps70
  go_wp2
  go_ret
  exact ⟨rfl, rfl⟩
theorem flat_nil (A : Option Addr) (c : Nat) (w : World) : Calls Tryz.prog 70 #[.slice A 0 c] w fun e w' => e = .returned (.bool true) ∧ w' = w := by
  go_enter Tryz.func70, Tryz.ntmps70
  go_wp2
  refine wp_loop_rounds 1 ?_
  rw [rounds_succ]
  go_wp2
  go_ret
  exact ⟨rfl, rfl⟩

set_option maxHeartbeats 1600000 in
set_option maxRecDepth 100000 in
theorem flat_row (b o c : Nat) (l : List Tm) (w : World) (h : Tl w b o l) (hn : l.length ≤ 40) : Calls Tryz.prog 70 #[.slice (some ⟨b, o, none⟩) l.length c] w fun e w' => e = .returned (.bool (l.all t1)) ∧ Below w.heap.size w w' := by
  obtain ⟨r, hr⟩ : ∃ r, r = l.all t1 := ⟨_, rfl⟩
  have HR := Lib.hid hr
  rw [← hr]
  clear hr
  have HF := Lib.hid h
  clear h
  go_enter Tryz.func70, Tryz.ntmps70
  go_wp2
  go_loopw [3] (fun i W => ∃ k : Nat, k ≤ l.length ∧ i = .int .i64 k ∧ Below w.heap.size w W ∧ Hid (∀ j (hj : j < l.length), j < k → t1 l[j] = true)) (fun i _ => l.length - (intOf i).toNat)
  case atStart => exact ⟨0, Nat.zero_le _, rfl, Below.refl _ _, fun j _ h => absurd h (Nat.not_lt_zero _)⟩
  case round =>
    obtain ⟨k, hk, rfl, hW, HP⟩ := hrel
    by_cases hlt : k < l.length
    · have hT := HF.out.on hW
      have c0 := hT.c0 k hlt
      have c2 := hT.c2 k hlt
      have c3 := hT.c3 k hlt
      have c4 := hT.c4 k hlt
      have HN : Hid (t1 l[k] = false → r = false) := fun e => by
        rw [HR.out, List.all_eq_false]
        exact ⟨l[k], List.getElem_mem hlt, by simp [e]⟩
      have HM : Hid (t1 l[k] = true → ∀ j (hj : j < l.length), j < k + 1 → t1 l[j] = true) := fun e j hj h => by
        by_cases e2 : j = k
        · subst e2; exact e
        · exact HP.out j hj (by omega)
      have cS := fun W => short_b l[k].e l[k].u l[k].r W
      clear hT
      by_cases h1 : l[k].n.length ≤ 60
      · cases hs : (decide (l[k].u.length ≤ 100) && decide (l[k].r.length ≤ 100)) with
        | true =>
          have HG := Lib.hid (HM.out (by unfold t1; rw [hs]; simp [h1]))
          rw [hs] at cS
          clear HN HM hs
          go_wp2_with (go_at_call 68; refine (cS _).mono ?_; rintro x w1 ⟨rfl, bw1⟩)
          exact ⟨⟨k + 1, hlt, by go_num, bon hW bw1, HG⟩, by simp [intOf]; omega⟩
        | false =>
          have HG := Lib.hid (HN.out (by unfold t1; rw [hs]; simp))
          rw [hs] at cS
          clear HN HM hs
          go_wp2_with (go_at_call 68; refine (cS _).mono ?_; rintro x w1 ⟨rfl, bw1⟩)
          go_ret
          exact ⟨retb HG.out.symm, bon hW bw1⟩
      · have HG := Lib.hid (HN.out (by unfold t1; simp [h1]))
        clear HN HM
        go_wp2_with (go_at_call 68; refine (cS _).mono ?_; rintro x w1 ⟨rfl, bw1⟩)
        go_ret
        exact ⟨retb HG.out.symm, hW⟩
    · have hall : l.all t1 = true := by
        rw [List.all_eq_true]
        intro f hf
        obtain ⟨j, hj, rfl⟩ := List.getElem_of_mem hf
        exact HP.out j hj (by omega)
      have HG := Lib.hid (HR.out.trans hall)
      go_wp2
      go_ret
      exact ⟨retb HG.out.symm, hW⟩
theorem flat_any (v : Value) (l : List Tm) (w : World) (h : Ts w v l) : Calls Tryz.prog 70 #[v] w fun e w' => e = .returned (.bool (fla l)) ∧ Below w.heap.size w w' := by
  rcases h.is with ⟨rfl, A, c, rfl⟩ | ⟨b, o, c, rfl, hc, hf⟩
  · exact (flat_nil A c w).mono fun x w' ⟨h1, h2⟩ => ⟨h1, by rw [h2]; exact Below.refl _ _⟩
  · by_cases hn : l.length ≤ 40
    · rw [show fla l = l.all t1 from by simp [fla, hn]]
      exact flat_row b o c l w hf hn
    · rw [show fla l = false from by simp [fla, hn]]
      exact (flat_long _ _ c w (by omega)).mono fun x w' ⟨h1, h2⟩ => ⟨h1, by rw [h2]; exact Below.refl _ _⟩
theorem terms_long (A : Option Addr) (n c : Nat) (w : World) (h : 40 < n) : Calls Tryz.prog 69 #[.slice A n c] w fun e w' => e = .returned (.bool false) ∧ w' = w := by
  go_enter Tryz.func69, Tryz.ntmps69
  go_wp2
  go_ret
  exact ⟨rfl, rfl⟩
theorem terms_nil (A : Option Addr) (c : Nat) (w : World) : Calls Tryz.prog 69 #[.slice A 0 c] w fun e w' => e = .returned (.bool true) ∧ w' = w := by
  go_enter Tryz.func69, Tryz.ntmps69
  go_wp2
  refine wp_loop_rounds 1 ?_
  rw [rounds_succ]
  go_wp2
  go_ret
  exact ⟨rfl, rfl⟩
set_option maxHeartbeats 1600000 in
set_option maxRecDepth 100000 in
theorem terms_row (b o c : Nat) (l : List (List Tm)) (w : World) (h : Al w b o l) (hn : l.length ≤ 40) : Calls Tryz.prog 69 #[.slice (some ⟨b, o, none⟩) l.length c] w fun e w' => e = .returned (.bool (l.all fla)) ∧ Below w.heap.size w w' := by
  obtain ⟨r, hr⟩ : ∃ r, r = l.all fla := ⟨_, rfl⟩
  have HR := Lib.hid hr
  rw [← hr]
  clear hr
  have HF := Lib.hid h
  clear h
  go_enter Tryz.func69, Tryz.ntmps69
  go_wp2
  go_loopw [3] (fun i W => ∃ k : Nat, k ≤ l.length ∧ i = .int .i64 k ∧ Below w.heap.size w W ∧ Hid (∀ j (hj : j < l.length), j < k → fla l[j] = true)) (fun i _ => l.length - (intOf i).toNat)
  case atStart => exact ⟨0, Nat.zero_le _, rfl, Below.refl _ _, fun j _ h => absurd h (Nat.not_lt_zero _)⟩
  case round =>
    obtain ⟨k, hk, rfl, hW, HP⟩ := hrel
    by_cases hlt : k < l.length
    · obtain ⟨v, c0, hv⟩ := (HF.out.on hW).c k hlt
      have HN : Hid (fla l[k] = false → r = false) := fun e => by
        rw [HR.out, List.all_eq_false]
        exact ⟨l[k], List.getElem_mem hlt, by simp [e]⟩
      have HM : Hid (fla l[k] = true → ∀ j (hj : j < l.length), j < k + 1 → fla l[j] = true) := fun e j hj h => by
        by_cases e2 : j = k
        · subst e2; exact e
        · exact HP.out j hj (by omega)
      have cS := flat_any v l[k] wr hv
      clear hv
      cases hs : fla l[k] with
      | true =>
        have HG := Lib.hid (HM.out hs)
        rw [hs] at cS
        clear HN HM hs
        go_wp2_with (go_at_call 70; refine cS.mono ?_; rintro x w1 ⟨rfl, bw1⟩)
        exact ⟨⟨k + 1, hlt, by go_num, bon hW bw1, HG⟩, by simp [intOf]; omega⟩
      | false =>
        have HG := Lib.hid (HN.out hs)
        rw [hs] at cS
        clear HN HM hs
        go_wp2_with (go_at_call 70; refine cS.mono ?_; rintro x w1 ⟨rfl, bw1⟩)
        go_ret
        exact ⟨retb HG.out.symm, bon hW bw1⟩
    · have hall : l.all fla = true := by
        rw [List.all_eq_true]
        intro f hf
        obtain ⟨j, hj, rfl⟩ := List.getElem_of_mem hf
        exact HP.out j hj (by omega)
      have HG := Lib.hid (HR.out.trans hall)
      go_wp2
      go_ret
      exact ⟨retb HG.out.symm, hW⟩
theorem terms_any (v : Value) (l : List (List Tm)) (w : World) (h : As w v l) : Calls Tryz.prog 69 #[v] w fun e w' => e = .returned (.bool (tla l)) ∧ Below w.heap.size w w' := by
  rcases h.is with ⟨rfl, A, c, rfl⟩ | ⟨b, o, c, rfl, hc, hf⟩
  · exact (terms_nil A c w).mono fun x w' ⟨h1, h2⟩ => ⟨h1, by rw [h2]; exact Below.refl _ _⟩
  · by_cases hn : l.length ≤ 40
    · rw [show tla l = l.all fla from by simp [tla, hn]]
      exact terms_row b o c l w hf hn
    · rw [show tla l = false from by simp [tla, hn]]
      exact (terms_long _ _ c w (by omega)).mono fun x w' ⟨h1, h2⟩ => ⟨h1, by rw [h2]; exact Below.refl _ _⟩

theorem texts_long (A : Option Addr) (n c : Nat) (w : World) (h : 40 < n) : Calls Tryz.prog 71 #[.slice A n c] w fun e w' => e = .returned (.bool false) ∧ w' = w := by
  go_enter Tryz.func71, Tryz.ntmps71
  go_wp2
  go_ret
  exact ⟨rfl, rfl⟩
theorem texts_nil (A : Option Addr) (c : Nat) (w : World) : Calls Tryz.prog 71 #[.slice A 0 c] w fun e w' => e = .returned (.bool true) ∧ w' = w := by
  go_enter Tryz.func71, Tryz.ntmps71
  go_wp2
  refine wp_loop_rounds 1 ?_
  rw [rounds_succ]
  go_wp2
  go_ret
  exact ⟨rfl, rfl⟩
set_option maxHeartbeats 1600000 in
theorem texts_row (b o c : Nat) (l : List (List UInt8)) (w : World) (h : Sr w b o l) (hn : l.length ≤ 40) : Calls Tryz.prog 71 #[.slice (some ⟨b, o, none⟩) l.length c] w fun e w' => e = .returned (.bool (l.all fun s => decide (s.length ≤ 100))) ∧ w' = w := by
  obtain ⟨r, hr⟩ : ∃ r, r = (l.all fun s => decide (s.length ≤ 100)) := ⟨_, rfl⟩
  rw [← hr]
  have HR := Lib.hid hr
  have HF := Lib.hid h
  clear h hr
  go_enter Tryz.func71, Tryz.ntmps71
  go_wp2
  go_loop [3] (fun i => ∃ k : Nat, k ≤ l.length ∧ i = .int .i64 k ∧ Hid (∀ j (hj : j < l.length), j < k → decide (l[j].length ≤ 100) = true)) (fun i => l.length - (intOf i).toNat)
  case atStart => exact ⟨0, Nat.zero_le _, rfl, fun j _ h => absurd h (Nat.not_lt_zero _)⟩
  case round =>
    obtain ⟨k, hk, rfl, HP⟩ := hrel
    by_cases hlt : k < l.length
    · have c0 := HF.out.c k hlt
      by_cases h1 : l[k].length ≤ 100
      · have HG : Hid (∀ j (hj : j < l.length), j < k + 1 → decide (l[j].length ≤ 100) = true) := fun j hj h => by
          by_cases e : j = k
          · subst e; exact decide_eq_true h1
          · exact HP.out j hj (by omega)
        go_wp2
        exact ⟨⟨k + 1, hlt, by go_num, HG⟩, by simp [intOf]; omega⟩
      · have hr : r = false := by rw [HR.out]; exact all_f k hlt (decide_eq_false h1)
        subst hr
        go_wp2
        go_ret
        exact ⟨rfl, rfl⟩
    · have hr : r = true := by rw [HR.out]; exact all_t (fun j hj => HP.out j hj (by omega))
      subst hr
      go_wp2
      go_ret
      exact ⟨rfl, rfl⟩
theorem texts_any (v : Value) (l : List (List UInt8)) (w : World) (h : Ss w v l) : Calls Tryz.prog 71 #[v] w fun e w' => e = .returned (.bool (txs l)) ∧ Below w.heap.size w w' := by
  have up : ∀ {y : Bool} {e : Ending} {w' : World}, (e = .returned (.bool y) ∧ w' = w) → txs l = y → e = .returned (.bool (txs l)) ∧ Below w.heap.size w w' := fun ⟨h1, h2⟩ hy => ⟨by rw [h1, hy], by rw [h2]; exact Below.refl _ _⟩
  rcases h.is with ⟨rfl, A, c, rfl⟩ | ⟨b, o, c, rfl, _, hf⟩
  · exact (texts_nil A c w).mono fun _ _ h => up h rfl
  · by_cases hn : l.length ≤ 40
    · exact (texts_row b o c l w hf hn).mono fun _ _ h => up h (by unfold txs; rw [decide_eq_true hn]; rfl)
    · exact (texts_long _ _ c w (by omega)).mono fun _ _ h => up h (by unfold txs; rw [decide_eq_false hn]; rfl)

set_option maxHeartbeats 6400000 in
set_option maxRecDepth 100000 in
theorem says_any (p : Pck) (vD vA vG vB vR vP vS vL vF : Value) (w : World) (hz : Pz w p vD vA vG vB vR vP vS vL vF) : Calls Tryz.prog 23 #[pkv p.o.n p.o.e p.o.u p.o.r vD vA vG vB vR vP vS vL vF] w fun x w' => Sy p x ∧ Below w.heap.size w w' := by
  have b0 := b1c w (pko p.o.n p.o.e p.o.u p.o.r vD vA vG vB vR vP vS vL vF)
  have B0 := Lib.hid (pb_new w p vD vA vG vB vR vP vS vL vF)
  have Z0 := Lib.hid (hz.on b0)
  clear hz
  by_cases h60 : p.o.n.length ≤ 60
  · have cS := fun W => short_b p.o.e p.o.u p.o.r W
    obtain ⟨y0, hy0⟩ : ∃ y, y = (decide (p.o.u.length ≤ 100) && decide (p.o.r.length ≤ 100)) := ⟨_, rfl⟩
    rw [← hy0] at cS
    have H0 := Lib.hid hy0
    clear hy0
    go_enter Tryz.func23, Tryz.ntmps23
    go_wp2_with fail
    refine (cS _).mono ?_
    rintro x w1 ⟨rfl, bw1⟩
    clear cS
    cases y0 with
    | false =>
      go_wp2_with fail
      go_ret
      exact ⟨⟨false, rfl, fun h => by cases h⟩, bon b0 bw1⟩
    | true =>
      have c1 := bon b0 bw1
      have B1 := Lib.hid (B0.out.on bw1)
      have Z1 := Lib.hid (Z0.out.on bw1)
      clear B0 Z0 bw1
      have k4 := B1.out.c4
      have cT := Lib.hid (terms_any vD p.D w1 Z1.out.D)
      obtain ⟨y1, hy1⟩ : ∃ y, y = tla p.D := ⟨_, rfl⟩
      rw [← hy1] at cT
      have H1 := Lib.hid hy1
      clear hy1
      go_wp2_with fail
      refine cT.out.mono ?_
      rintro x w2 ⟨rfl, bw⟩
      clear cT k4
      cases y1 with
      | false =>
        go_wp2_with fail
        go_ret
        exact ⟨⟨false, rfl, fun h => by cases h⟩, bon c1 bw⟩
      | true =>
        have c2 := bon c1 bw
        have B2 := Lib.hid (B1.out.on bw)
        have Z2 := Lib.hid (Z1.out.on bw)
        clear B1 Z1 bw c1
        have k5 := B2.out.c5
        have cT := Lib.hid (terms_any vA p.A w2 Z2.out.A)
        obtain ⟨y2, hy2⟩ : ∃ y, y = tla p.A := ⟨_, rfl⟩
        rw [← hy2] at cT
        have H2 := Lib.hid hy2
        clear hy2
        go_wp2_with fail
        refine cT.out.mono ?_
        rintro x w3 ⟨rfl, bw⟩
        clear cT k5
        cases y2 with
        | false =>
          go_wp2_with fail
          go_ret
          exact ⟨⟨false, rfl, fun h => by cases h⟩, bon c2 bw⟩
        | true =>
          have c3 := bon c2 bw
          have B3 := Lib.hid (B2.out.on bw)
          have Z3 := Lib.hid (Z2.out.on bw)
          clear B2 Z2 bw c2
          have k6 := B3.out.c6
          have cT := Lib.hid (flat_any vG p.G w3 Z3.out.G)
          obtain ⟨y3, hy3⟩ : ∃ y, y = fla p.G := ⟨_, rfl⟩
          rw [← hy3] at cT
          have H3 := Lib.hid hy3
          clear hy3
          go_wp2_with fail
          refine cT.out.mono ?_
          rintro x w4 ⟨rfl, bw⟩
          clear cT k6
          cases y3 with
          | false =>
            go_wp2_with fail
            go_ret
            exact ⟨⟨false, rfl, fun h => by cases h⟩, bon c3 bw⟩
          | true =>
            have c4 := bon c3 bw
            have B4 := Lib.hid (B3.out.on bw)
            have Z4 := Lib.hid (Z3.out.on bw)
            clear B3 Z3 bw c3
            have k7 := B4.out.c7
            have cT := Lib.hid (flat_any vB p.B w4 Z4.out.B)
            obtain ⟨y4, hy4⟩ : ∃ y, y = fla p.B := ⟨_, rfl⟩
            rw [← hy4] at cT
            have H4 := Lib.hid hy4
            clear hy4
            go_wp2_with fail
            refine cT.out.mono ?_
            rintro x w5 ⟨rfl, bw⟩
            clear cT k7
            cases y4 with
            | false =>
              go_wp2_with fail
              go_ret
              exact ⟨⟨false, rfl, fun h => by cases h⟩, bon c4 bw⟩
            | true =>
              have c5 := bon c4 bw
              have B5 := Lib.hid (B4.out.on bw)
              have Z5 := Lib.hid (Z4.out.on bw)
              clear B4 Z4 bw c4
              have k8 := B5.out.c8
              have cT := Lib.hid (flat_any vR p.R w5 Z5.out.R)
              obtain ⟨y5, hy5⟩ : ∃ y, y = fla p.R := ⟨_, rfl⟩
              rw [← hy5] at cT
              have H5 := Lib.hid hy5
              clear hy5
              go_wp2_with fail
              refine cT.out.mono ?_
              rintro x w6 ⟨rfl, bw⟩
              clear cT k8
              cases y5 with
              | false =>
                go_wp2_with fail
                go_ret
                exact ⟨⟨false, rfl, fun h => by cases h⟩, bon c5 bw⟩
              | true =>
                have c6 := bon c5 bw
                have B6 := Lib.hid (B5.out.on bw)
                have Z6 := Lib.hid (Z5.out.on bw)
                clear B5 Z5 bw c5
                have k9 := B6.out.c9
                have cT := Lib.hid (flat_any vP p.o.P w6 Z6.out.P)
                obtain ⟨y6, hy6⟩ : ∃ y, y = fla p.o.P := ⟨_, rfl⟩
                rw [← hy6] at cT
                have HP := Lib.hid hy6
                clear hy6
                go_wp2_with fail
                refine cT.out.mono ?_
                rintro x w7 ⟨rfl, bw⟩
                clear cT k9
                cases y6 with
                | false =>
                  go_wp2_with fail
                  go_ret
                  exact ⟨⟨false, rfl, fun h => by cases h⟩, bon c6 bw⟩
                | true =>
                  have c7 := bon c6 bw
                  have B7 := Lib.hid (B6.out.on bw)
                  have Z7 := Lib.hid (Z6.out.on bw)
                  clear B6 Z6 bw c6
                  have k10 := B7.out.c10
                  have cT := Lib.hid (texts_any vS p.S w7 Z7.out.S)
                  obtain ⟨y7, hy7⟩ : ∃ y, y = txs p.S := ⟨_, rfl⟩
                  rw [← hy7] at cT
                  have H7 := Lib.hid hy7
                  clear hy7
                  go_wp2_with fail
                  refine cT.out.mono ?_
                  rintro x w8 ⟨rfl, bw⟩
                  clear cT k10
                  cases y7 with
                  | false =>
                    go_wp2_with fail
                    go_ret
                    exact ⟨⟨false, rfl, fun h => by cases h⟩, bon c7 bw⟩
                  | true =>
                    have c8 := bon c7 bw
                    have B8 := Lib.hid (B7.out.on bw)
                    have Z8 := Lib.hid (Z7.out.on bw)
                    clear B7 Z7 bw c7
                    have k11 := B8.out.c11
                    have cT := Lib.hid (texts_any vL p.L w8 Z8.out.L)
                    obtain ⟨y8, hy8⟩ : ∃ y, y = txs p.L := ⟨_, rfl⟩
                    rw [← hy8] at cT
                    have H8 := Lib.hid hy8
                    clear hy8
                    go_wp2_with fail
                    refine cT.out.mono ?_
                    rintro x w9 ⟨rfl, bw⟩
                    clear cT k11
                    cases y8 with
                    | false =>
                      go_wp2_with fail
                      go_ret
                      exact ⟨⟨false, rfl, fun h => by cases h⟩, bon c8 bw⟩
                    | true =>
                      have c9 := bon c8 bw
                      have B9 := Lib.hid (B8.out.on bw)
                      have Z9 := Lib.hid (Z8.out.on bw)
                      clear B8 Z8 bw c8
                      have k12 := B9.out.c12
                      have hOh : fls p.F = true → Sok p := fun hF => ⟨h60, (ur H0.out.symm).1, (ur H0.out.symm).2, H1.out.symm, H2.out.symm, H3.out.symm, H4.out.symm, H5.out.symm, HP.out.symm, H7.out.symm, H8.out.symm, hF⟩
                      have HOh := Lib.hid hOh
                      clear hOh H0 H1 H2 H3 H4 H5 H7 H8 HP
                      rcases Z9.out.F.is with ⟨h0, A, c, rfl⟩ | ⟨b, o, c, rfl, _, hf⟩
                      · have HOk := Lib.hid (HOh.out (by rw [h0]; rfl))
                        clear Z9 B9 HOh h0
                        go_wp2_with fail
                        refine wp_loop_rounds 1 ?_
                        rw [rounds_succ]
                        go_wp2_with fail
                        go_ret
                        exact ⟨⟨true, rfl, fun _ => HOk.out⟩, c9⟩
                      · have HF := Lib.hid hf
                        clear hf Z9 B9
                        by_cases h30 : p.F.length ≤ 30
                        · go_wp2_with fail
                          go_loop [3] (fun i => ∃ k : Nat, k ≤ p.F.length ∧ i = .int .i64 k ∧ Hid (∀ j (hj : j < p.F.length), j < k → (decide (p.F[j].1.length ≤ 100) && decide (p.F[j].2.length ≤ 500)) = true)) (fun i => p.F.length - (intOf i).toNat)
                          case atStart => exact ⟨0, Nat.zero_le _, rfl, fun j _ h => absurd h (Nat.not_lt_zero _)⟩
                          case round =>
                            obtain ⟨k, hk, rfl, HJ⟩ := hrel
                            by_cases hlt : k < p.F.length
                            · have f0 := HF.out.c0 k hlt
                              have f1 := HF.out.c1 k hlt
                              by_cases h1 : p.F[k].1.length ≤ 100
                              · by_cases h2 : p.F[k].2.length ≤ 500
                                · have HG : Hid (∀ j (hj : j < p.F.length), j < k + 1 → (decide (p.F[j].1.length ≤ 100) && decide (p.F[j].2.length ≤ 500)) = true) := fun j hj h => by
                                    by_cases e : j = k
                                    · subst e; rw [decide_eq_true h1, decide_eq_true h2]; rfl
                                    · exact HJ.out j hj (by omega)
                                  go_wp2
                                  exact ⟨⟨k + 1, hlt, by go_num, HG⟩, by simp [intOf]; omega⟩
                                · go_wp2
                                  go_ret
                                  exact ⟨⟨false, rfl, fun h => by cases h⟩, c9⟩
                              · go_wp2
                                go_ret
                                exact ⟨⟨false, rfl, fun h => by cases h⟩, c9⟩
                            · have HOk := Lib.hid (HOh.out (by unfold fls; rw [decide_eq_true h30, all_t (fun j hj => HJ.out j hj (by omega))]; rfl))
                              go_wp2
                              go_ret
                              exact ⟨⟨true, rfl, fun _ => HOk.out⟩, c9⟩
                        · go_wp2_with fail
                          go_ret
                          exact ⟨⟨false, rfl, fun h => by cases h⟩, c9⟩
  · go_enter Tryz.func23, Tryz.ntmps23
    go_wp2_with fail
    go_ret
    exact ⟨⟨false, rfl, fun h => by cases h⟩, b0⟩
end Go.Proofs.YtlldfmnoidndmaaGreatDoor.Kep
namespace Go.Proofs.YtlldfmnoidndmaaGreatDoor.Dsk
open Go.RowKit Go.Sort Go.Maps

theorem aok_nd {p : Pck} (h : aok p = true) : (p.F.map (·.1)).Nodup := by
  refine List.pairwise_iff_getElem.2 fun i j hi hj hij e => ?_
  rw [List.length_map] at hi hj
  have h1 := (aok_pth h hj).2
  rw [List.any_eq_false] at h1
  have h2 := h1 p.F[i] (List.mem_take_iff_getElem.2 ⟨i, by omega, rfl⟩)
  simp only [List.getElem_map] at e
  unfold csh at h2
  rw [e] at h2
  simp at h2
theorem aok_name {p : Pck} (h : aok p = true) : p.o.n ≠ [] ∧ p.o.n.length ≤ 24 := by
  unfold aok rok nmo at h
  simp only [Bool.and_eq_true, decide_eq_true_eq] at h
  refine ⟨fun e => ?_, h.1.1.1.1.2⟩
  have := h.1.1.1.1.1
  rw [e] at this
  simp at this
theorem aok_set {p : Pck} (h : aok p = true) : ∀ x ∈ p.S, x.length ≤ 900 := fun x hx => by
  unfold aok rok pths at h
  simp only [Bool.and_eq_true, decide_eq_true_eq, List.all_eq_true] at h
  obtain ⟨i, hi, rfl⟩ := List.getElem_of_mem hx
  have h1 := h.1.2.2.2.2.2.2.2.2.2.1.2 i (List.mem_range.2 hi)
  rw [pki_at hi] at h1
  unfold pth at h1
  simp only [Bool.and_eq_true, decide_eq_true_eq] at h1
  have := h1.1.1.2
  omega
/-- A round of the law. -/
structure Stp (L : Kv Ent) (p : Pck) (tk : List UInt8 → Bool) (L2 : Kv Ent) : Prop where
  iv : Iv L2
  ln : L2.length ≤ L.length + 60
  fr : ∀ (i : Nat) (m : List UInt8), ¬ Clr L2 p.o.n tk p.F i m
  ag : putG L2 p.o.n p.S p.F [] = L2
  o : ∀ f ∈ p.F, (ent ([111, 47] ++ f.1) L2).now = p.o.n
  d : ∀ f ∈ p.F, ¬ f.1 ∈ p.S → ∃ e, lkL ([100, 47] ++ f.1) L2 = some e ∧ e.now = f.2
theorem put_step {L : Kv Ent} (hI : Iv L) {p : Pck} (hok : aok p = true) (hp : Pg p) {tk : List UInt8 → Bool} (hc : Clr L p.o.n tk p.F (-1) []) : Stp L p tk (putG L p.o.n p.S p.F []) := by
  obtain ⟨hn, hnl⟩ := aok_name hok
  have hnd := aok_nd hok
  have hfr := clr_free hI.sd.s hc
  have hpl : Pl L p.o.n p.S p.F (p.F.map (cmg L p.S)) (putG L p.o.n p.S p.F []) := by
    unfold putG
    rw [cml_nil]
    exact put_pl hI.sd hn p.S ⟨hnd, by simp⟩
  have hlen : (putG L p.o.n p.S p.F []).length ≤ L.length + 60 := by
    unfold putG ptG clL
    have hl := aok_len hok
    have h1 := lays_all (n := p.o.n) (SS := p.S) hI.sd.s hI.gd (by omega) (p.F.zip (cml L p.S p.F [])).reverse (fun x hx => aok_file hok hp (List.of_mem_zip (List.mem_reverse.1 hx)).1)
    have h2 := (csts_all h1.1 p.F (pts ((p.F.zip (cml L p.S p.F [])).reverse.foldl (layF p.o.n p.S) L) p.o.n)).2.2
    have h3 : (p.F.zip (cml L p.S p.F [])).reverse.length ≤ 20 := by rw [List.length_reverse, List.length_zip]; omega
    have h4 := h1.2.2.2
    omega
  generalize putG L p.o.n p.S p.F [] = L2 at hpl hlen ⊢
  have hfr2 := Pl.free hI.sd.s hpl hfr
  refine ⟨hpl.iv hI hfr hn (by omega) (fun f hf => (aok_file hok hp hf).2) (fun f hf => ⟨_, zip_mem hf, rfl⟩), hlen, fun i m h => free_clr hpl.sd.s hfr2 h, put_again hpl hn hnd, fun f hf => ?_, fun f hf hs => ?_⟩
  · rw [ent_lk (hpl.fo f hf)]
  · have h1 := hpl.fd _ (zip_mem (L := L) (SS := p.S) hf)
    dsimp only at h1
    have h2 : cmg L p.S f = true := by
      unfold cmg
      rw [if_neg]
      rw [List.contains_iff_mem]
      exact hs
    rw [if_pos h2] at h1
    exact ⟨_, h1, rfl⟩
/-- What a number picks. -/
def pkf (x y : Int) : Int := if 0 ≤ x then x % y else (IntKind.u64.wrap x).tmod y
set_option maxRecDepth 100000 in
theorem pick_fn (x y : Int) (w : World) (hx : -9223372036854775808 ≤ x) (hx' : x ≤ 9223372036854775807) (hy : 0 < y) (hy' : y ≤ 9223372036854775807) : Calls Tryz.prog 26 #[.int .i64 x, .int .i64 y] w fun e w' => e = .returned (.int .i64 (pkf x y)) ∧ w' = w := by
  have e2 : ∀ z : Int, wrap64 (z % y) = z % y := fun z => by
    have h1 := Int.emod_nonneg z (show y ≠ 0 by omega)
    have h2 := Int.emod_lt_of_pos z hy
    unfold wrap64
    omega
  by_cases h0 : 0 ≤ x
  · have e1 := e2 x
    have hp : pkf x y = x % y := if_pos h0
    rw [hp]
    clear hp
    go_enter Tryz.func26, Tryz.ntmps26
    go_wp2
    go_ret
    exact ⟨by simp [e1], rfl⟩
  · have hw : 0 ≤ IntKind.u64.wrap x := by unfold IntKind.wrap; simp [IntKind.signed, IntKind.bits]; omega
    have h1 := Int.tmod_nonneg y hw
    have h2 := Int.tmod_lt_of_pos (IntKind.u64.wrap x) hy
    have e1 : wrap64 ((IntKind.u64.wrap x).tmod y) = (IntKind.u64.wrap x).tmod y := by unfold wrap64; omega
    have hp : pkf x y = (IntKind.u64.wrap x).tmod y := if_neg h0
    rw [hp]
    clear h1 h2 hw hp
    go_enter Tryz.func26, Tryz.ntmps26
    go_wp2
    go_ret
    exact ⟨by simp, rfl⟩
theorem pkf_nat (x : Int) (y : Nat) (hy : 0 < y) : ∃ r : Nat, r < y ∧ pkf x y = r := by
  unfold pkf
  split
  · have h1 := Int.emod_nonneg x (show (y : Int) ≠ 0 by omega)
    have h2 := Int.emod_lt_of_pos x (show (0 : Int) < y by omega)
    exact ⟨(x % y).toNat, by omega, by omega⟩
  · have hw : 0 ≤ IntKind.u64.wrap x := by unfold IntKind.wrap; simp [IntKind.signed, IntKind.bits]; omega
    have h1 := Int.tmod_nonneg (y : Int) hw
    have h2 := Int.tmod_lt_of_pos (IntKind.u64.wrap x) (show (0 : Int) < y by omega)
    exact ⟨((IntKind.u64.wrap x).tmod y).toNat, by omega, by omega⟩
/-- Packages in a row. -/
structure PR (W : World) (v : Value) (l : List Pck) : Prop where
  is : (l = [] ∧ ∃ A c, v = .slice A 0 c) ∨ ∃ b o c, v = .slice (some ⟨b, o, none⟩) l.length c ∧ l.length ≤ c ∧ b < W.heap.size ∧ ∀ i (hi : i < l.length), ∃ vD vA vG vB vR vP vS vL vF, Pc W b (o + i * 13) l[i] vD vA vG vB vR vP vS vL vF ∧ Pz W l[i] vD vA vG vB vR vP vS vL vF
/-- Numbers in a row. -/
structure IR (W : World) (v : Value) (l : List Int) : Prop where
  is : (l = [] ∧ ∃ A c, v = .slice A 0 c) ∨ ∃ b o c, v = .slice (some ⟨b, o, none⟩) l.length c ∧ l.length ≤ c ∧ b < W.heap.size ∧ ∀ i (hi : i < l.length), W.cell? ⟨b, o + i, none⟩ = some (.int .i64 l[i])
set_option maxRecDepth 100000 in
theorem tk22 (b : Nat) (y : Bool) (m : List UInt8) (W : World) (h : W.cell? ⟨b, 0, none⟩ = some (.bool y)) : Calls Tryz.prog 22 #[.string ⟨m.toArray⟩, .pointer (some ⟨b, 0, none⟩)] W fun e w' => e = .returned (.bool y) ∧ Below W.heap.size W w' := by
  have hl : b < W.heap.size := block_lt_of_cell h
  go_enter Tryz.func22, Tryz.ntmps22
  go_wp2
  go_ret
  exact ⟨rfl, Below.refl _ _⟩
theorem may22 (b : Nat) (y : Bool) (m : List UInt8) (W : World) (h : W.cell? ⟨b, 0, none⟩ = some (.bool y)) : Calls Tryz.prog 46 #[.func (.func 22) #[] #[.pointer (some ⟨b, 0, none⟩)], .string ⟨m.toArray⟩] W fun e w' => e = .returned (.bool y) ∧ Below W.heap.size W w' :=
  may_any 22 (enters_of Tryz.func22 (by kernel_rfl) rfl) (.pointer (some ⟨b, 0, none⟩)) m y W fun V hV => tk22 b y m V ((hV.cell (p := ⟨b, 0, none⟩) (block_lt_of_cell h)).trans h)
theorem pc_range {W : World} {b o : Nat} {p : Pck} {vD vA vG vB vR vP vS vL vF : Value} (h : Pc W b o p vD vA vG vB vR vP vS vL vF) : W.rangeAt b o [.string ⟨p.o.n.toArray⟩, .int .i64 p.o.e, .string ⟨p.o.u.toArray⟩, .string ⟨p.o.r.toArray⟩, vD, vA, vG, vB, vR, vP, vS, vL, vF] := fun j v hj =>
  match j, hj with
  | 0, e => by cases e; exact h.c0
  | 1, e => by cases e; exact h.c1
  | 2, e => by cases e; exact h.c2
  | 3, e => by cases e; exact h.c3
  | 4, e => by cases e; exact h.c4
  | 5, e => by cases e; exact h.c5
  | 6, e => by cases e; exact h.c6
  | 7, e => by cases e; exact h.c7
  | 8, e => by cases e; exact h.c8
  | 9, e => by cases e; exact h.c9
  | 10, e => by cases e; exact h.c10
  | 11, e => by cases e; exact h.c11
  | 12, e => by cases e; exact h.c12
  | j + 13, e => by simp at e
theorem wpList_load_midg {ops : Array Oper} {rest : List Oper} {op : Oper} {a : Act} {w : World} {Q : Exit → Act → World → Prop} (hw : Region.wanted op (yielded ops a.tmps) = true) (ty : TypeId) (x : Operand) (ho : op.op = .load ty x)
    (b o : Nat) (hx : a.eval x = .pointer (some ⟨b, o, none⟩)) (cs : List Value) (d : TypeDesc) (hc : w.rangeAt b o cs)
    (hu : Tryz.prog.underlying ty = some d) (hd : d.isRow = true) (hi : (Tryz.prog.info? ty).map (·.size) = some cs.length)
    (h : wpList Tryz.prog ops Q rest (a.put op.dst (.agg cs.toArray)) w) : wpList Tryz.prog ops Q (op :: rest) a w :=
  BigFrame.wpList_want hw fun _ hK => wp_load_mid ty x ho b o hx cs d hc hu hd hi (hK _ _ h)
theorem may_up {b : Nat} {y : Bool} {V1 Y V : World} (h : V1.cell? ⟨b, 0, none⟩ = some (.bool y)) (hY : Below V1.heap.size V1 Y) (m : List UInt8) (hV : Below Y.heap.size Y V) : Calls Tryz.prog 46 #[.func (.func 22) #[] #[.pointer (some ⟨b, 0, none⟩)], .string ⟨m.toArray⟩] V fun e w' => e = .returned (.bool y) ∧ Below V.heap.size V w' := by
  refine may22 b y m V ?_
  have hb := hY.trans (hV.mono hY.size)
  exact (hb.cell (p := ⟨b, 0, none⟩) (block_lt_of_cell h)).trans h
end Go.Proofs.YtlldfmnoidndmaaGreatDoor.Dsk
