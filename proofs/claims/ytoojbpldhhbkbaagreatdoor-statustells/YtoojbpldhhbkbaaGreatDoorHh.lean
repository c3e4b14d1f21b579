/- The reference's Stands. -/
import Derived.Test.YtoojbpldhhbkbaaGreatDoorHg
namespace Go.Proofs.YtoojbpldhhbkbaaGreatDoor
open Go.RowKit Go.Shelf Go.Sort

/-- What may be, in the reference's order. -/
def sokA (x : Sta) : Bool := (decide (0 ≤ x.n) && decide (x.n ≤ 7)) && (decide (x.W.length ≤ 4) && (decide (x.T.length ≤ 2) && (ris x.W && ris x.T)))
def sokC (x : Sta) : Bool := Vm.rt x.e x.u x.r && (((x.n == 5) == decide (0 < x.W.length)) && ((!(x.n == 6) || decide (0 < x.T.length)) && (decide (x.T.length = 0) || (x.n == 5) || (x.n == 6))))
theorem sok_ref (x : Sta) : sok x = (sokA x && (if x.n = 0 then v0B x.e x.u x.r && (!x.held && (decide (x.W.length = 0) && decide (x.T.length = 0))) else x.W.all nmo && (x.T.all tko && sokC x))) := by
  obtain ⟨n, e, u, r, held, W, T⟩ := x
  unfold sokA sokC
  dsimp only
  by_cases h0 : n = 0
  · subst h0
    rw [sok0]
    simp only [if_true]
    by_cases hW : W.length = 0
    · by_cases hT : T.length = 0
      · obtain rfl := List.length_eq_zero_iff.1 hW
        obtain rfl := List.length_eq_zero_iff.1 hT
        simp [ris]
      · simp [hT]
    · simp [hW]
  · rw [sokn h0, if_neg h0, Bool.eq_iff_iff]
    unfold lok mayT
    simp only [Bool.and_eq_true, decide_eq_true_eq, beq_iff_eq, Bool.or_eq_true, Bool.not_eq_true', beq_eq_false_iff_ne]
    constructor
    · rintro ⟨⟨h1, h2⟩, h3, ⟨⟨h4, h5⟩, h6⟩, ⟨⟨h7, h8⟩, h9⟩, h10, h11⟩
      refine ⟨⟨⟨h1, h2⟩, h4, h7, h6, h9⟩, h5, h8, h3, ?_, ?_, ?_⟩
      · rw [h10]
        by_cases h5' : n = 5 <;> simp [h5']
      · by_cases h6' : n = 6
        · rw [if_pos h6'] at h11; right; simpa using h11
        · left; exact h6'
      · by_cases h6' : n = 6
        · right; exact h6'
        · rw [if_neg h6'] at h11
          by_cases h5' : n = 5
          · left; right; exact h5'
          · rw [if_neg h5'] at h11; left; left; simpa using h11
    · rintro ⟨⟨⟨h1, h2⟩, h4, h7, h6, h9⟩, h5, h8, h3, h10, h11, h12⟩
      refine ⟨⟨h1, h2⟩, h3, ⟨⟨h4, h5⟩, h6⟩, ⟨⟨h7, h8⟩, h9⟩, ?_, ?_⟩
      · rw [← h10]
        by_cases h5' : n = 5 <;> simp [h5']
      · by_cases h6' : n = 6
        · rw [if_pos h6']
          rcases h11 with h | h
          · exact absurd h6' h
          · simpa using h
        · rw [if_neg h6']
          by_cases h5' : n = 5
          · rw [if_pos h5']
          · rw [if_neg h5']
            rcases h12 with (h | h) | h
            · simpa using h
            · exact absurd h h5'
            · exact absurd h h6'
set_option maxHeartbeats 3200000 in
theorem stands_no (n e : Int) (u r : List UInt8) (held : Bool) (A A' : Option Addr) (c c' : Nat) (W T : List (List UInt8)) (w : World) (hW : Ss w (.slice A W.length c) W) (hT : Ss w (.slice A' T.length c') T) (hA : sokA ⟨n, e, u, r, held, W, T⟩ = false) :
    Calls Tryz.prog 10 #[stv n e u r held (.slice A W.length c) (.slice A' T.length c')] w fun y w' => y = .returned (.bool false) ∧ Below w.heap.size w w' := by
  have b1 := bA1 w (sto n e u r held (.slice A W.length c) (.slice A' T.length c') 26)
  have S1 := stc_new w n e u r held (.slice A W.length c) (.slice A' T.length c') 26
  have c1 := xin3_any n 0 7 (w.alloc (sto n e u r held (.slice A W.length c) (.slice A' T.length c') 26))
  have HA := Lib.hid hA
  unfold sokA at HA
  dsimp only at HA
  have HB := Lib.hid b1
  have HS := Lib.hid S1
  have HW := Lib.hid (hW.on b1)
  have HT := Lib.hid (hT.on b1)
  clear b1 S1 hW hT hA
  generalize (decide (0 ≤ n) && decide (n ≤ 7)) = y1 at HA c1
  cases y1 with
  | false =>
    go_enter Tryz.func10, Tryz.ntmps10
    go_wp2_with (go_at_call 31; refine c1.mono ?_; rintro e w' ⟨rfl, rfl⟩)
    go_ret
    exact ⟨rfl, HB.out⟩
  | true =>
    by_cases h4 : W.length ≤ 4
    · by_cases h2 : T.length ≤ 2
      · have cW := xris_any _ W _ HW.out (by omega)
        have HA2 : Hid ((ris W && ris T) = false) := by
          have := HA.out
          rw [decide_eq_true h4, decide_eq_true h2] at this
          exact Lib.hid (by simpa using this)
        have h4' : ¬ (4 : Int) < (W.length : Int) := by omega
        have h2' : ¬ (2 : Int) < (T.length : Int) := by omega
        clear HA
        generalize ris W = y2 at HA2 cW
        cases y2 with
        | false =>
          go_enter Tryz.func10, Tryz.ntmps10
          go_wp2_with (first | (go_at_call 31; refine c1.mono ?_; rintro e w' ⟨rfl, rfl⟩) | (go_at_call 32; refine cW.mono ?_; rintro e w' ⟨rfl, b2⟩))
          go_ret
          exact ⟨rfl, bt2 HB.out b2⟩
        | true =>
          have hr : ris T = false := by have := HA2.out; simpa using this
          go_enter Tryz.func10, Tryz.ntmps10
          go_wp2_with fail
          with_reducible refine c1.mono ?_
          rintro e w' ⟨rfl, rfl⟩
          go_wp2_with fail
          with_reducible refine cW.mono ?_
          rintro e w2 ⟨rfl, b2⟩
          have cT := xris_any _ T w2 (HT.out.on b2) (by omega)
          rw [hr] at cT
          obtain ⟨_, a0, a1, a2, a3, a4, a5, a6⟩ := HS.out.on b2
          clear cW
          go_wp2_with fail
          with_reducible refine cT.mono ?_
          rintro e w3 ⟨rfl, b3⟩
          clear cT a0 a1 a2 a3 a4 a5 a6
          go_wp2
          go_ret
          exact ⟨rfl, bt2 HB.out (bt2 b2 b3)⟩
      · have h4' : ¬ (4 : Int) < (W.length : Int) := by omega
        have h2' : (2 : Int) < (T.length : Int) := by omega
        go_enter Tryz.func10, Tryz.ntmps10
        go_wp2_with (go_at_call 31; refine c1.mono ?_; rintro e w' ⟨rfl, rfl⟩)
        go_ret
        exact ⟨rfl, HB.out⟩
    · have h4' : (4 : Int) < (W.length : Int) := by omega
      go_enter Tryz.func10, Tryz.ntmps10
      go_wp2_with (go_at_call 31; refine c1.mono ?_; rintro e w' ⟨rfl, rfl⟩)
      go_ret
      exact ⟨rfl, HB.out⟩
theorem byte_wrap (z : UInt8) : wrap64 (z.toNat : Int) = (z.toNat : Int) := by have := z.toNat_lt; unfold wrap64; omega
theorem sokA_parts {x : Sta} (h : sokA x = true) : (decide (0 ≤ x.n) && decide (x.n ≤ 7)) = true ∧ x.W.length ≤ 4 ∧ x.T.length ≤ 2 ∧ ris x.W = true ∧ ris x.T = true := by
  unfold sokA at h
  obtain ⟨h1, h⟩ := Bool.and_eq_true_iff.1 h
  obtain ⟨h2, h⟩ := Bool.and_eq_true_iff.1 h
  obtain ⟨h3, h⟩ := Bool.and_eq_true_iff.1 h
  obtain ⟨h4, h5⟩ := Bool.and_eq_true_iff.1 h
  exact ⟨h1, of_decide_eq_true h2, of_decide_eq_true h3, h4, h5⟩
set_option maxRecDepth 100000 in
set_option maxHeartbeats 3200000 in
theorem stands_0 (e : Int) (u r : List UInt8) (held : Bool) (A A' : Option Addr) (c c' : Nat) (W T : List (List UInt8)) (w : World) (hW : Ss w (.slice A W.length c) W) (hT : Ss w (.slice A' T.length c') T) (hA : sokA ⟨0, e, u, r, held, W, T⟩ = true) :
    Calls Tryz.prog 10 #[stv 0 e u r held (.slice A W.length c) (.slice A' T.length c')] w fun y w' => y = .returned (.bool (v0B e u r && (!held && (decide (W.length = 0) && decide (T.length = 0))))) ∧ Below w.heap.size w w' := by
  have b1 := bA1 w (sto 0 e u r held (.slice A W.length c) (.slice A' T.length c') 26)
  have S1 := stc_new w 0 e u r held (.slice A W.length c) (.slice A' T.length c') 26
  have c1 := xin3_any 0 0 7 (w.alloc (sto 0 e u r held (.slice A W.length c) (.slice A' T.length c') 26))
  obtain ⟨hn, h4, h2, hrW, hrT⟩ := sokA_parts hA
  dsimp only at hn h4 h2 hrW hrT
  rw [hn] at c1
  have cW := xris_any _ W _ (hW.on b1) (by omega)
  rw [hrW] at cW
  have h4' : ¬ (4 : Int) < (W.length : Int) := by omega
  have h2' : ¬ (2 : Int) < (T.length : Int) := by omega
  have HB := Lib.hid b1
  have HS := Lib.hid S1
  have HW := Lib.hid (hW.on b1)
  have HT := Lib.hid (hT.on b1)
  have hE := eqv0 e u r
  have hG := guard23
  clear b1 S1 hW hT hA hn h4 h2
  obtain ⟨y, hy⟩ : ∃ y, y = (v0B e u r && (!held && (decide (W.length = 0) && decide (T.length = 0)))) := ⟨_, rfl⟩
  rw [← hy]
  have HY := Lib.hid hy
  clear hy
  go_enter Tryz.func10, Tryz.ntmps10
  go_wp2_with fail
  with_reducible refine c1.mono ?_
  rintro e w' ⟨rfl, rfl⟩
  go_wp2_with fail
  with_reducible refine cW.mono ?_
  rintro e w2 ⟨rfl, b2⟩
  have cT := xris_any _ T w2 (HT.out.on b2) (by omega)
  rw [hrT] at cT
  obtain ⟨_, a0, a1, a2, a3, a4, a5, a6⟩ := HS.out.on b2
  clear cW c1
  go_wp2_with fail
  with_reducible refine cT.mono ?_
  rintro e w3 ⟨rfl, b3⟩
  clear cT a0 a1 a2 a3 a4 a5 a6
  have b23 := bt2 b2 b3
  have hb3 := Lib.hid (bt2 HB.out b23)
  obtain ⟨_, a0, a1, a2, a3, a4, a5, a6⟩ := HS.out.on b23
  cases hv : v0B e u r with
  | false =>
    obtain rfl : y = false := by rw [HY.out, hv]; rfl
    rw [hv] at hE
    clear HY hv
    go_wp2
    go_ret
    exact ⟨rfl, hb3.out⟩
  | true =>
    rw [hv] at hE
    cases held with
    | true =>
      obtain rfl : y = false := by rw [HY.out, hv]; rfl
      clear HY hv
      go_wp2
      go_ret
      exact ⟨rfl, hb3.out⟩
    | false =>
      have hy2 : y = (decide (W.length = 0) && decide (T.length = 0)) := by rw [HY.out, hv]; rfl
      have HZ := Lib.hid hy2
      clear HY hv hy2
      cases h1 : decide (W.length = 0) with
      | false =>
        obtain rfl : y = false := by rw [HZ.out, h1]; rfl
        have h1' : ((W.length : Int) == 0) = false := by simp at h1 ⊢; exact h1
        clear HZ h1
        go_wp2
        go_ret
        exact ⟨rfl, hb3.out⟩
      | true =>
        obtain rfl : y = ((T.length : Int) == 0) := by rw [HZ.out, h1]; rw [Bool.eq_iff_iff]; simp
        have h1' : ((W.length : Int) == 0) = true := by simp at h1 ⊢; exact h1
        clear HZ h1
        go_wp2
        all_goals go_ret
        all_goals exact ⟨rfl, hb3.out⟩
set_option maxRecDepth 100000 in
set_option maxHeartbeats 40000000 in
theorem stands_n (n : Int) (hn0 : n ≠ 0) (e : Int) (u r : List UInt8) (held : Bool) (A A' : Option Addr) (c c' : Nat) (W T : List (List UInt8)) (w : World) (hW : Ss w (.slice A W.length c) W) (hT : Ss w (.slice A' T.length c') T) (hA : sokA ⟨n, e, u, r, held, W, T⟩ = true) (g : Sg ⟨n, e, u, r, held, W, T⟩) (htab : Tab w) :
    Calls Tryz.prog 10 #[stv n e u r held (.slice A W.length c) (.slice A' T.length c')] w fun y w' => y = .returned (.bool (W.all nmo && (T.all tko && sokC ⟨n, e, u, r, held, W, T⟩))) ∧ Below w.heap.size w w' := by
  have b1 := bA1 w (sto n e u r held (.slice A W.length c) (.slice A' T.length c') 26)
  have S1 := stc_new w n e u r held (.slice A W.length c) (.slice A' T.length c') 26
  have c1 := xin3_any n 0 7 (w.alloc (sto n e u r held (.slice A W.length c) (.slice A' T.length c') 26))
  obtain ⟨hn, h4, h2, hrW, hrT⟩ := sokA_parts hA
  dsimp only at hn h4 h2 hrW hrT
  rw [hn] at c1
  have cW := xris_any _ W _ (hW.on b1) (by omega)
  rw [hrW] at cW
  have h4' : ¬ (4 : Int) < (W.length : Int) := by omega
  have h2' : ¬ (2 : Int) < (T.length : Int) := by omega
  have HB := Lib.hid b1
  have HS := Lib.hid S1
  have HW := Lib.hid (hW.on b1)
  have HT := Lib.hid (hT.on b1)
  have HTab := Lib.hid (tab_on htab b1)
  have HG := Lib.hid g
  have hnz : (n == 0) = false := beq_eq_false_iff_ne.2 hn0
  clear b1 S1 hW hT hA hn h4 h2 hn0 htab g
  obtain ⟨y, hy⟩ : ∃ y, y = (W.all nmo && (T.all tko && sokC ⟨n, e, u, r, held, W, T⟩)) := ⟨_, rfl⟩
  rw [← hy]
  have HY := Lib.hid hy
  clear hy
  go_enter Tryz.func10, Tryz.ntmps10
  go_wp2_with fail
  with_reducible refine c1.mono ?_
  rintro e w' ⟨rfl, rfl⟩
  go_wp2_with fail
  with_reducible refine cW.mono ?_
  rintro e w2 ⟨rfl, b2⟩
  have cT := xris_any _ T w2 (HT.out.on b2) (by omega)
  rw [hrT] at cT
  obtain ⟨_, a0, a1, a2, a3, a4, a5, a6⟩ := HS.out.on b2
  clear cW c1
  go_wp2_with fail
  with_reducible refine cT.mono ?_
  rintro e w3 ⟨rfl, b3⟩
  clear cT a0 a1 a2 a3 a4 a5 a6
  have b23 := bt2 b2 b3
  have hb3 := Lib.hid (bt2 HB.out b23)
  obtain ⟨_, a0, a1, a2, a3, a4, a5, a6⟩ := HS.out.on b23
  go_wp2
  simp only [show decide ((4 : Int) < (W.length : Int)) = false from decide_eq_false (by omega), show decide ((2 : Int) < (T.length : Int)) = false from decide_eq_false (by omega), Bool.or_self]
  have hwl := HG.out.w
  have htl := HG.out.t
  dsimp only at hwl htl
  have HWL := Lib.hid hwl
  have HTL := Lib.hid htl
  have HWc := Lib.hid (HW.out.on b23)
  have HTc := Lib.hid (HT.out.on b23)
  clear hwl htl HW HT
  go_loopw [65] (fun i W' => ∃ k : Nat, k ≤ W.length ∧ i = .int .i64 k ∧ W' = w3 ∧ Hid (∀ j (hj : j < W.length), j < k → nmo W[j] = true)) (fun i _ => W.length - (intOf i).toNat)
  case atStart => exact ⟨0, Nat.zero_le _, rfl, rfl, fun j _ h => absurd h (Nat.not_lt_zero _)⟩
  case round =>
    obtain ⟨k, hk, rfl, rfl, HP⟩ := hrel
    by_cases hlt : k < W.length
    · have hcc : ∃ b o, A = some ⟨b, o, none⟩ ∧ wr.cell? ⟨b, o + k, none⟩ = some (.string ⟨W[k].toArray⟩) := by
        rcases HWc.out.is with ⟨h0, _⟩ | ⟨b, o, c'', e, _, hs⟩
        · rw [h0] at hlt; simp at hlt
        · cases e; exact ⟨b, o, rfl, hs.c k hlt⟩
      obtain ⟨b, o, rfl, hc⟩ := hcc
      have cN := xname_any W[k] wr (by have := HWL.out W[k] (List.getElem_mem hlt); omega)
      have HM : Hid (nmo W[k] = true → ∀ j (hj : j < W.length), j < k + 1 → nmo W[j] = true) := fun hq j hj h => by
        by_cases e : j = k
        · subst e; exact hq
        · exact HP.out j hj (by omega)
      have HN : Hid (nmo W[k] = false → y = false) := fun h => by rw [HY.out, all_f k hlt h]; rfl
      generalize W[k] = x at hc cN HM HN
      cases hp : nmo x with
      | false =>
        have hr := HN.out hp
        subst hr
        rw [hp] at cN
        clear HM HN hp HY
        go_wp2_with (go_at_call 33; refine cN.mono ?_; rintro e w' ⟨rfl, rfl⟩)
        go_ret
        exact ⟨rfl, hb3.out⟩
      | true =>
        rw [hp] at cN
        have hm := Lib.hid (HM.out hp)
        clear HM HN hp
        go_wp2_with (go_at_call 33; refine cN.mono ?_; rintro e w' ⟨rfl, rfl⟩)
        exact ⟨⟨k + 1, hlt, by go_num, trivial, hm.out⟩, by simp [intOf]; omega⟩
    · have hy2 : y = (T.all tko && sokC ⟨n, e, u, r, held, W, T⟩) := by rw [HY.out, all_t (fun j hj => HP.out j hj (by omega))]; rfl
      have HY2 := Lib.hid hy2
      clear HP HY hy2
      go_wp2
      go_loopw [76] (fun i W' => ∃ k : Nat, k ≤ T.length ∧ i = .int .i64 k ∧ W' = wr ∧ Hid (∀ j (hj : j < T.length), j < k → tko T[j] = true)) (fun i _ => T.length - (intOf i).toNat)
      case atStart => exact ⟨0, Nat.zero_le _, rfl, rfl, fun j _ h => absurd h (Nat.not_lt_zero _)⟩
      case round =>
        obtain ⟨k, hk, rfl, rfl, HP⟩ := hrel
        by_cases hlt : k < T.length
        · have hcc : ∃ b o, A' = some ⟨b, o, none⟩ ∧ wr.cell? ⟨b, o + k, none⟩ = some (.string ⟨T[k].toArray⟩) := by
            rcases HTc.out.is with ⟨h0, _⟩ | ⟨b, o, c'', e, _, hs⟩
            · rw [h0] at hlt; simp at hlt
            · cases e; exact ⟨b, o, rfl, hs.c k hlt⟩
          obtain ⟨b, o, rfl, hc⟩ := hcc
          have hl := HTL.out T[k] (List.getElem_mem hlt)
          have HM : Hid (tko T[k] = true → ∀ j (hj : j < T.length), j < k + 1 → tko T[j] = true) := fun hq j hj h => by
            by_cases e : j = k
            · subst e; exact hq
            · exact HP.out j hj (by omega)
          have HN : Hid (tko T[k] = false → y = false) := fun h => by rw [HY2.out, all_f k hlt h]; rfl
          generalize T[k] = x at hc HM HN hl
          go_wp2
          go_loop [82] (fun i => ∃ j : Nat, j ≤ x.length ∧ i = .int .i64 j ∧ Hid (∀ i (hi : i < x.length), i < j → tby x[i] = true)) (fun i => x.length - (intOf i).toNat)
          case atStart => exact ⟨0, Nat.zero_le _, rfl, fun j _ h => absurd h (Nat.not_lt_zero _)⟩
          case round =>
            obtain ⟨j, hj, rfl, HQ⟩ := hrel
            by_cases hjl : j < x.length
            · have HM2 : Hid (tby x[j] = true → ∀ i (hi : i < x.length), i < j + 1 → tby x[i] = true) := fun hq i hi h => by
                by_cases e : i = j
                · subst e; exact hq
                · exact HQ.out i hi (by omega)
              have HN2 : Hid (tby x[j] = false → y = false) := fun h => HN.out (tk_no j hjl h).symm
              obtain ⟨z, hz⟩ : ∃ z, z = x[j] := ⟨_, rfl⟩
              have hbz : ∀ (h : j < (ByteArray.mk x.toArray).size), (ByteArray.mk x.toArray)[j]'h = z := fun h => hz.symm
              rw [← hz] at HM2 HN2
              clear hz
              have cI := xin3_any (z.toNat : Int) 33 126 wr
              obtain ⟨yI, hyI⟩ : ∃ yI, yI = (decide (33 ≤ (z.toNat : Int)) && decide ((z.toNat : Int) ≤ 126)) := ⟨_, rfl⟩
              rw [← hyI] at cI
              have HI := Lib.hid hyI
              have hwz : wrap64 (z.toNat : Int) = (z.toNat : Int) := byte_wrap z
              clear hyI
              go_wp2_with fail
              with_reducible refine cI.mono ?_
              rintro e w' ⟨rfl, rfl⟩
              clear cI
              cases yI with
              | false =>
                have hr := HN2.out (by unfold tby; rw [show (decide (33 ≤ z.toNat) && decide (z.toNat ≤ 126)) = false by rw [HI.out, Bool.eq_iff_iff]; simp; omega]; rfl)
                subst hr
                clear HM2 HN2 HN HM HY2 HI
                go_wp2
                go_ret
                exact ⟨rfl, hb3.out⟩
              | true =>
                have hI' : (decide (33 ≤ z.toNat) && decide (z.toNat ≤ 126)) = true := by rw [HI.out, Bool.eq_iff_iff]; simp; omega
                cases h44 : (z.toNat : Int) == 44 with
                | true =>
                  have hr := HN2.out (by unfold tby; rw [hI', decide_eq_true (show z.toNat = 44 by simp at h44; omega)]; rfl)
                  subst hr
                  clear HM2 HN2 HN HM HY2 HI hI'
                  go_wp2
                  go_ret
                  exact ⟨rfl, hb3.out⟩
                | false =>
                  have hm := Lib.hid (HM2.out (by unfold tby; rw [hI', decide_eq_false (show ¬ z.toNat = 44 by simp at h44; omega)]; rfl))
                  clear HM2 HN2 HI hI'
                  go_wp2
                  exact ⟨⟨j + 1, hjl, by go_num, hm.out⟩, by simp [intOf]; omega⟩
            · have hall : x.all tby = true := all_t fun i hi => HQ.out i hi (by omega)
              have cI := xin3_any (x.length : Int) 1 60 wr
              obtain ⟨yI, hyI⟩ : ∃ yI, yI = (decide (1 ≤ (x.length : Int)) && decide ((x.length : Int) ≤ 60)) := ⟨_, rfl⟩
              rw [← hyI] at cI
              have HI := Lib.hid hyI
              clear hyI HQ
              go_wp2_with fail
              with_reducible refine cI.mono ?_
              rintro e w' ⟨rfl, rfl⟩
              clear cI
              cases yI with
              | false =>
                have hr := HN.out (by unfold tko; rw [show (decide (1 ≤ x.length) && decide (x.length ≤ 60)) = false by rw [HI.out, Bool.eq_iff_iff]; simp; omega]; rfl)
                subst hr
                clear HN HM HY2 HI
                go_wp2
                go_ret
                exact ⟨rfl, hb3.out⟩
              | true =>
                have hI' : (decide (1 ≤ x.length) && decide (x.length ≤ 60)) = true := by rw [HI.out, Bool.eq_iff_iff]; simp; omega
                cases hd : x == [45] with
                | true =>
                  have hr := HN.out (by unfold tko; rw [hI', hd]; rfl)
                  subst hr
                  clear HN HM HY2 HI hI'
                  go_wp2
                  go_ret
                  exact ⟨rfl, hb3.out⟩
                | false =>
                  have hm := Lib.hid (HM.out (by unfold tko; rw [hI', hd, hall]; rfl))
                  clear HN HM HI hI' hall
                  go_wp2
                  exact ⟨⟨k + 1, hlt, by go_num, trivial, hm.out⟩, by simp [intOf]; omega⟩
        · have hy3 : y = sokC ⟨n, e, u, r, held, W, T⟩ := by rw [HY2.out, all_t (fun j hj => HP.out j hj (by omega))]; rfl
          have HY3 := Lib.hid hy3
          clear HP HY2 hy3
          have bd := (Below.refl wr.heap.size wr).drew
          have cR := xright_any e u r wr.drew HG.out.i.lo HG.out.i.hi HG.out.u HG.out.r (tab_on HTab.out (bt2 b23 bd))
          have Sd := (HS.out.on b23).on bd
          have HSd := Lib.hid Sd
          have hbd := Lib.hid (bt2 hb3.out bd)
          obtain ⟨_, d0, d1, d2, d3, d4, d5, d6⟩ := Sd
          unfold sokC at HY3
          dsimp only at HY3
          generalize Vm.rt e u r = yR at HY3 cR
          clear bd
          go_wp2
          go_region
          clear a0 a1 a2 a3 a4 a5 a6
          go_wp2_with fail
          with_reducible refine cR.mono ?_
          rintro e w5 ⟨rfl, b5⟩
          have hb5 := Lib.hid (bt2 hbd.out b5)
          clear d0 d1 d2 d3 d4 d5 d6 cR
          obtain ⟨_, d0, d1, d2, d3, d4, d5, d6⟩ := HSd.out.on b5
          cases yR with
          | false =>
            obtain rfl : y = false := HY3.out
            clear HY3
            go_wp2
            go_ret
            exact ⟨rfl, hb5.out⟩
          | true =>
            have hy4 : y = (((n == 5) == decide (0 < W.length)) && ((!(n == 6) || decide (0 < T.length)) && (decide (T.length = 0) || (n == 5) || (n == 6)))) := HY3.out
            clear HY3
            have g1 : decide (0 < (W.length : Int)) = decide (0 < W.length) := by rw [Bool.eq_iff_iff]; simp
            have g2 : decide (0 < (T.length : Int)) = decide (0 < T.length) := by rw [Bool.eq_iff_iff]; simp
            have g3 : ((T.length : Int) == 0) = decide (T.length = 0) := by rw [Bool.eq_iff_iff]; simp
            by_cases hW0 : 0 < W.length
            · cases h5 : n == 5 with
              | false =>
                have hy5 : y = false := by rw [hy4, h5, decide_eq_true hW0]; rfl
                subst hy5
                clear hy4 g1 g2 g3
                go_wp2
                go_ret
                exact ⟨rfl, hb5.out⟩
              | true =>
                have h6 : (n == 6) = false := by simp at h5 ⊢; omega
                have hy5 : y = true := by rw [hy4, h5, h6, decide_eq_true hW0]; simp
                subst hy5
                clear hy4 g1 g2 g3
                by_cases hT0 : T.length = 0
                · have hT0' : ((T.length : Int) == 0) = true := by simp [hT0]
                  clear hT0
                  go_wp2
                  go_ret
                  exact ⟨rfl, hb5.out⟩
                · have hT0' : ((T.length : Int) == 0) = false := by simp [hT0]
                  clear hT0
                  go_wp2
                  go_ret
                  exact ⟨rfl, hb5.out⟩
            · cases h5 : n == 5 with
              | true =>
                have hy5 : y = false := by rw [hy4, h5, decide_eq_false hW0]; rfl
                subst hy5
                clear hy4 g1 g2 g3
                go_wp2
                go_ret
                exact ⟨rfl, hb5.out⟩
              | false =>
                cases h6 : n == 6 with
                | true =>
                  by_cases hT0 : 0 < T.length
                  · have hy5 : y = true := by rw [hy4, h5, h6, decide_eq_false hW0, decide_eq_true hT0]; simp
                    subst hy5
                    clear hy4 g1 g2 g3
                    go_wp2
                    all_goals go_ret
                    all_goals exact ⟨rfl, hb5.out⟩
                  · have hy5 : y = false := by rw [hy4, h5, h6, decide_eq_false hW0, decide_eq_false hT0]; rfl
                    subst hy5
                    clear hy4 g1 g2 g3
                    go_wp2
                    all_goals go_ret
                    all_goals exact ⟨rfl, hb5.out⟩
                | false =>
                  by_cases hT0 : T.length = 0
                  · have hy5 : y = true := by rw [hy4, h5, h6, decide_eq_false hW0, decide_eq_true hT0]; simp
                    have hT0' : ((T.length : Int) == 0) = true := by simp [hT0]
                    subst hy5
                    clear hy4 g1 g2 g3 hT0
                    go_wp2
                    all_goals go_ret
                    all_goals exact ⟨rfl, hb5.out⟩
                  · have hy5 : y = false := by rw [hy4, h5, h6, decide_eq_false hW0, decide_eq_false hT0]; simp
                    have hT0' : ((T.length : Int) == 0) = false := by simp [hT0]
                    subst hy5
                    clear hy4 g1 g2 g3 hT0
                    go_wp2
                    all_goals go_ret
                    all_goals exact ⟨rfl, hb5.out⟩
end Go.Proofs.YtoojbpldhhbkbaaGreatDoor
