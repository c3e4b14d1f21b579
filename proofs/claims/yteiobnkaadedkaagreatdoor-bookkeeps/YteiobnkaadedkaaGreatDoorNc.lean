/- The walks of the reference's Change. -/
import Derived.Test.YteiobnkaadedkaaGreatDoorNb
namespace Go.Proofs.YteiobnkaadedkaaGreatDoor
open Go.RowKit Go.Sort Go.Maps

def rtcd (L : Kv Ent) (lf : Int) (k : List UInt8) : Int := if (lkL k L).isSome = false then 7 else if lf = 0 then 14 else 0
def rtl (L : Kv Ent) (lf : Int) (k : List UInt8) : Int := if (lkL k L).isSome = true then rch lf else lf
def rsL (L : Kv Ent) (lf : Int) (k : List UInt8) : Kv Ent := if (lkL k L).isSome = true ∧ lf ≠ 0 then putL k ⟨(ent k L).now, some (ent k L).now⟩ L else L
def rrL (L : Kv Ent) (lf : Int) (k : List UInt8) : Kv Ent := if (lkL k L).isSome = true ∧ lf ≠ 0 then delL k L else L
def rmcd (L : Kv Ent) (lf : Int) (k tt : List UInt8) : Int := if nok tt = false then 1 else rtcd L lf k
def rml (L : Kv Ent) (lf : Int) (k tt : List UInt8) : Int := if nok tt = true then rtl L lf k else lf
def rmL (L : Kv Ent) (lf : Int) (k tt : List UInt8) : Kv Ent := if nok tt = true ∧ (lkL k L).isSome = true ∧ lf ≠ 0 then putL tt (ent k L) (delL k L) else L
/-- What the last regions of Change read. -/
structure Us (b m bx : Nat) (v : Value) (W : World) : Prop where
  c0 : W.cell? ⟨b, 0, none⟩ = some (.map (some m))
  e0 : W.cell? ⟨bx, 0, none⟩ = some v
structure Vs (b m bx : Nat) (y : Rx) (W : World) : Prop where
  c0 : W.cell? ⟨b, 0, none⟩ = some (.map (some m))
  e0 : W.cell? ⟨bx, 0, none⟩ = some (.string ⟨y.now.toArray⟩)
  e1 : W.cell? ⟨bx, 1, none⟩ = some (.pointer (y.p.map fun a => ⟨a, 0, none⟩))

set_option maxHeartbeats 6400000 in
set_option maxRecDepth 100000 in
theorem rremove_any (b m : Nat) (K : Kv Rx) (L : Kv Ent) (lf bt : Int) (k : List UInt8) (w : World) (h : RD w b m K L lf bt) (hl : lf ≤ 9223372036854775807) (hk : k.length ≤ 1000000) (hn : L.length < 5000) :
    Calls Tryz.prog 10 #[.pointer (some ⟨b, 0, none⟩), .int .i64 2, .string ⟨k.toArray⟩, .string ⟨#[]⟩] w fun x w' => x = .returned (.int .i64 (rtcd L lf k)) ∧ Ro b m (rrL L lf k) (rtl L lf k) bt w w' := by
  obtain ⟨x, hx⟩ : ∃ x, x = rtcd L lf k := ⟨_, rfl⟩
  obtain ⟨L', hL'⟩ : ∃ L', L' = rrL L lf k := ⟨_, rfl⟩
  obtain ⟨l', hl'⟩ : ∃ l', l' = rtl L lf k := ⟨_, rfl⟩
  rw [← hx, ← hL', ← hl']
  have hat := h.at k
  have hy := (rlook_own h.map k hk).2
  rw [hat.2.2] at hy
  have c0 := (rc_of h.blk).c0
  have hltb := (rc_of h.blk).lt
  obtain ⟨y, hye⟩ : ∃ y, y = rent k K := ⟨_, rfl⟩
  rw [← hye] at hat hy
  have HAT := Lib.hid hat
  clear hat
  have hb1 := (Below.refl w.heap.size w).alloc (Nat.le_refl _) (rxo y)
  have hd1 := h.up hb1
  have hX1 := nb0 w (rxo y)
  have cP := power_any b m K L lf bt _ hd1 hl
  unfold rvv at hy
  unfold rtcd at hx
  unfold rrL at hL'
  unfold rtl at hl'
  cases hz : (lkL k L).isSome with
  | false =>
    rw [hz] at hy hx hL' hl'
    simp only [if_true, Bool.false_eq_true, false_and, if_false] at hx hL' hl'
    subst hx hL' hl'
    clear hye cP hX1
    go_enter Tryz.func10, Tryz.ntmps10
    go_wp2
    go_ret
    exact ⟨rfl, Ro.same hd1 (Kp.of hb1)⟩
  | true =>
    rw [hz] at hy hx hL' hl'
    simp only [Bool.true_eq_false, if_false, true_and, if_true] at hx hL' hl'
    rw [← hl'] at cP
    by_cases h0 : lf = 0
    · have e1 : rpw lf = 14 := by unfold rpw; rw [if_pos h0]
      rw [e1] at cP
      rw [if_pos h0] at hx
      rw [if_neg (fun hh => hh h0)] at hL'
      subst hx hL'
      clear hl' h0 e1 hye hX1
      go_enter Tryz.func10, Tryz.ntmps10
      go_wp2_with fail
      refine cP.mono ?_
      rintro x w2 ⟨rfl, hd, hkp⟩
      go_wp2
      go_ret
      exact ⟨rfl, Ro.below hb1 (Ro.same hd (kp_rx hkp))⟩
    · have e1 : rpw lf = 0 := by unfold rpw; rw [if_neg h0]
      rw [e1] at cP
      rw [if_neg h0] at hx
      rw [if_pos h0] at hL'
      have HX := Lib.hid hx
      have HL := Lib.hid hL'
      have HB1 := Lib.hid hb1
      have HX1 := Lib.hid hX1
      have HA := Lib.hid (HAT.out.2.1.kp (Kp.of (X := fun _ => False) hb1) (fun _ h => h.elim))
      have HA1 := Lib.hid HAT.out.1
      have HNB := Lib.hid (nob_cells hd1.blk (by decide))
      clear hx hL' hl' h0 e1 hl hye hb1 hX1 HAT hd1 h
      go_enter Tryz.func10, Tryz.ntmps10
      go_wp2_with fail
      refine cP.mono ?_
      rintro x w2 ⟨rfl, hd, hkp⟩
      have HA2 := Lib.hid (HA.out.kp hkp (fun i hi => by subst hi; exact HNB.out))
      have hX2 : w2.heap[w.heap.size]? = some (rxo y) := (hkp.block _ (by simp) (by omega)).trans HX1.out
      have x0 : w2.cell? ⟨w.heap.size, 0, none⟩ = some (.string ⟨y.now.toArray⟩) := by simp [World.cell?, hX2]
      have x1 : w2.cell? ⟨w.heap.size, 1, none⟩ = some (.pointer (y.p.map fun a => ⟨a, 0, none⟩)) := by simp [World.cell?, hX2]
      have d0 := (rc_of hd.blk).c0
      have hKn := hd.len
      have hown := hd.map
      go_wp2_with (at_delete; refine wpList_delete_own _ rfl _ _ 48 9 rfl 47 law9 Tryz.underlying48 Rv m K.length _ rfl hown _ _ rfl (key9 k hk) ?_; intro w3 hown3 hturn3)
      have hfin := Ro.below HB1.out (Ro.then (kp_rx hkp) (Ro.same (hd.del hown3 hturn3) (kp_turn hturn3)))
      rw [← HL.out] at hfin
      clear hown3 hturn3
      go_ret
      exact ⟨by rw [HX.out]; rfl, hfin⟩

set_option maxHeartbeats 6400000 in
set_option maxRecDepth 100000 in
theorem rsync_any (b m : Nat) (K : Kv Rx) (L : Kv Ent) (lf bt : Int) (k : List UInt8) (w : World) (h : RD w b m K L lf bt) (hl : lf ≤ 9223372036854775807) (hk : k.length ≤ 1000000) (hn : L.length < 5000) :
    Calls Tryz.prog 10 #[.pointer (some ⟨b, 0, none⟩), .int .i64 0, .string ⟨k.toArray⟩, .string ⟨#[]⟩] w fun x w' => x = .returned (.int .i64 (rtcd L lf k)) ∧ Ro b m (rsL L lf k) (rtl L lf k) bt w w' := by
  obtain ⟨x, hx⟩ : ∃ x, x = rtcd L lf k := ⟨_, rfl⟩
  obtain ⟨L', hL'⟩ : ∃ L', L' = rsL L lf k := ⟨_, rfl⟩
  obtain ⟨l', hl'⟩ : ∃ l', l' = rtl L lf k := ⟨_, rfl⟩
  rw [← hx, ← hL', ← hl']
  have hat := h.at k
  have hy := (rlook_own h.map k hk).2
  rw [hat.2.2] at hy
  have c0 := (rc_of h.blk).c0
  have hltb := (rc_of h.blk).lt
  obtain ⟨y, hye⟩ : ∃ y, y = rent k K := ⟨_, rfl⟩
  rw [← hye] at hat hy
  have HAT := Lib.hid hat
  clear hat
  have hb1 := (Below.refl w.heap.size w).alloc (Nat.le_refl _) (rxo y)
  have hd1 := h.up hb1
  have hX1 := nb0 w (rxo y)
  have cP := power_any b m K L lf bt _ hd1 hl
  unfold rvv at hy
  unfold rtcd at hx
  unfold rsL at hL'
  unfold rtl at hl'
  cases hz : (lkL k L).isSome with
  | false =>
    rw [hz] at hy hx hL' hl'
    simp only [if_true, Bool.false_eq_true, false_and, if_false] at hx hL' hl'
    subst hx hL' hl'
    clear hye cP hX1
    go_enter Tryz.func10, Tryz.ntmps10
    go_wp2
    go_ret
    exact ⟨rfl, Ro.same hd1 (Kp.of hb1)⟩
  | true =>
    rw [hz] at hy hx hL' hl'
    simp only [Bool.true_eq_false, if_false, true_and, if_true] at hx hL' hl'
    rw [← hl'] at cP
    by_cases h0 : lf = 0
    · have e1 : rpw lf = 14 := by unfold rpw; rw [if_pos h0]
      rw [e1] at cP
      rw [if_pos h0] at hx
      rw [if_neg (fun hh => hh h0)] at hL'
      subst hx hL'
      clear hl' h0 e1 hye hX1
      go_enter Tryz.func10, Tryz.ntmps10
      go_wp2_with fail
      refine cP.mono ?_
      rintro x w2 ⟨rfl, hd, hkp⟩
      go_wp2
      go_ret
      exact ⟨rfl, Ro.below hb1 (Ro.same hd (kp_rx hkp))⟩
    · have e1 : rpw lf = 0 := by unfold rpw; rw [if_neg h0]
      rw [e1] at cP
      rw [if_neg h0] at hx
      rw [if_pos h0] at hL'
      have HX := Lib.hid hx
      have HL := Lib.hid hL'
      have HB1 := Lib.hid hb1
      have HX1 := Lib.hid hX1
      have HA := Lib.hid (HAT.out.2.1.kp (Kp.of (X := fun _ => False) hb1) (fun _ h => h.elim))
      have HA1 := Lib.hid HAT.out.1
      have HNB := Lib.hid (nob_cells hd1.blk (by decide))
      clear hx hL' hl' h0 e1 hl hye hb1 hX1 HAT hd1 h
      go_enter Tryz.func10, Tryz.ntmps10
      go_wp2_with fail
      refine cP.mono ?_
      rintro x w2 ⟨rfl, hd, hkp⟩
      have HA2 := Lib.hid (HA.out.kp hkp (fun i hi => by subst hi; exact HNB.out))
      have hX2 : w2.heap[w.heap.size]? = some (rxo y) := (hkp.block _ (by simp) (by omega)).trans HX1.out
      have x0 : w2.cell? ⟨w.heap.size, 0, none⟩ = some (.string ⟨y.now.toArray⟩) := by simp [World.cell?, hX2]
      have x1 : w2.cell? ⟨w.heap.size, 1, none⟩ = some (.pointer (y.p.map fun a => ⟨a, 0, none⟩)) := by simp [World.cell?, hX2]
      have d0 := (rc_of hd.blk).c0
      have hKn := hd.len
      have hb3 := (Below.refl w2.heap.size w2).alloc (Nat.le_refl _) (bxo y.now)
      have hd3 := hd.up hb3
      have hX3 := nb0 w2 (bxo y.now)
      go_wp2_with fail
      generalize w2.alloc (bxo y.now) = W3 at hb3 hd3 hX3 ⊢
      have bd1 := (Below.refl W3.heap.size W3).drew
      have hd4 := hd3.up bd1
      have hX4 : W3.drew.heap[w2.heap.size]? = some (bxo y.now) := hX3
      have lc1 : Us b m w2.heap.size (.string ⟨y.now.toArray⟩) W3.drew := ⟨(rc_of hd4.blk).c0, by simp [World.cell?, hX4]⟩
      obtain ⟨w7, hrun, hown7, hturn⟩ := hd4.map.store law9 Tryz.underlying48 (by unfold maxLen; omega) (key9 k hk) (val := rvv ⟨y.now, some w2.heap.size⟩) (d := .held (rvv ⟨y.now, some w2.heap.size⟩)) (ps := []) rfl
      have HRD := Lib.hid (hd4.put (x := ⟨y.now, some w2.heap.size⟩) (e := ⟨(ent k L).now, some (ent k L).now⟩) HA1.out ⟨.inr ⟨_, _, rfl, rfl, by rw [← HA1.out]; exact hX4⟩⟩ hown7 hturn)
      have lc7 : Us b m w2.heap.size (.string ⟨y.now.toArray⟩) w7 := by
        have hwm : w2.heap.size ≠ m := fun e1 => by
          obtain ⟨es, cl, h1, _⟩ := hd4.map
          rw [← e1, hX4] at h1; cases h1
        have hX7 : w7.heap[w2.heap.size]? = some (bxo y.now) := (hturn.grown.block _ (Array.getElem?_eq_some_iff.1 hX4).1 (fun e1 => hwm (by cases e1; rfl))).trans hX4
        exact ⟨(rc_of HRD.out.blk).c0, by simp [World.cell?, hX7]⟩
      have hfin := Ro.below HB1.out (Ro.then (kp_rx hkp) (Ro.below hb3 (Ro.below bd1 (Ro.same HRD.out (kp_turn hturn)))))
      rw [← HL.out] at hfin
      have HF := Lib.hid hfin
      clear hown7 hturn hd4 hX4 bd1 hfin HRD hd3 hX3 hb3 x0 x1 d0 hX2 hd
      refine wp_region_held (S := Us b m w2.heap.size (.string ⟨y.now.toArray⟩)) (by kernel_rfl) ?_
      refine wpAnyH_take (i := 0) (v := .pointer (some ⟨b, 0, none⟩)) rfl (by kernel_rfl) (by kernel_rfl) (by kernel_rfl) (fun _ _ _ h => h) (.inl ⟨rfl, fun w' _ => by simp [go_sem]⟩) lc1 ?_
      refine wpAnyH_take (i := 1) (v := .pointer (some ⟨b, 0, none⟩)) rfl (by kernel_rfl) (by kernel_rfl) (by kernel_rfl) (fun _ _ _ h => h) (.inl ⟨rfl, fun w' _ => by simp [go_sem]⟩) lc1 ?_
      refine wpAnyH_take (i := 2) (v := .pointer (some ⟨b, 0, none⟩)) rfl (by kernel_rfl) (by kernel_rfl) (by kernel_rfl) (fun _ _ _ h => h) (.inl ⟨rfl, fun w' _ => by simp [go_sem]⟩) lc1 ?_
      refine wpAnyH_take (i := 3) (v := .map (some m)) rfl (by kernel_rfl) (by kernel_rfl) (by kernel_rfl) (fun _ _ _ h => h) (.inl ⟨rfl, fun w' hw => by have h1 := hw.c0; simp [go_sem, h1]⟩) lc1 ?_
      refine wpAnyH_take (i := 4) (v := .string ⟨k.toArray⟩) rfl (by kernel_rfl) (by kernel_rfl) (by kernel_rfl) (fun _ _ _ h => h) (.inl ⟨rfl, fun w' _ => by simp [go_sem]⟩) lc1 ?_
      refine wpAnyH_take (i := 5) (v := .string ⟨y.now.toArray⟩) rfl (by kernel_rfl) (by kernel_rfl) (by kernel_rfl) (fun _ _ _ h => h) (.inl ⟨rfl, fun w' hw => by have h1 := hw.e0; simp [go_sem, h1]⟩) lc1 ?_
      refine wpAnyH_take (i := 6) (v := rvv ⟨y.now, some w2.heap.size⟩) rfl (by kernel_rfl) (by kernel_rfl) (by kernel_rfl) (fun _ _ _ h => h) (.inl ⟨rfl, fun w' _ => by simp [go_sem, rvv]⟩) lc1 ?_
      refine wpAnyH_all (rs := [7]) (by kernel_rfl) (by simp) fun j hj => ?_
      obtain rfl : j = 7 := by simpa using hj
      refine wpOp_go rfl rfl ?_
      unfold Oper.wp
      simp [go_sem, hrun]
      refine ⟨lc7, wpAnyH_done (by kernel_rfl) ?_ _⟩
      go_wp2
      go_ret
      exact ⟨by rw [HX.out]; rfl, HF.out⟩

set_option maxHeartbeats 6400000 in
set_option maxRecDepth 100000 in
theorem rmove_any (b m : Nat) (K : Kv Rx) (L : Kv Ent) (lf bt : Int) (k tt : List UInt8) (w : World) (h : RD w b m K L lf bt) (hl : lf ≤ 9223372036854775807) (hk : k.length ≤ 1000000) (htt : tt.length ≤ 1000000) (hn : L.length < 5000) :
    Calls Tryz.prog 10 #[.pointer (some ⟨b, 0, none⟩), .int .i64 1, .string ⟨k.toArray⟩, .string ⟨tt.toArray⟩] w fun x w' => x = .returned (.int .i64 (rmcd L lf k tt)) ∧ Ro b m (rmL L lf k tt) (rml L lf k tt) bt w w' := by
  obtain ⟨x, hx⟩ : ∃ x, x = rmcd L lf k tt := ⟨_, rfl⟩
  obtain ⟨L', hL'⟩ : ∃ L', L' = rmL L lf k tt := ⟨_, rfl⟩
  obtain ⟨l', hl'⟩ : ∃ l', l' = rml L lf k tt := ⟨_, rfl⟩
  rw [← hx, ← hL', ← hl']
  have hat := h.at k
  have hy := (rlook_own h.map k hk).2
  rw [hat.2.2] at hy
  have c0 := (rc_of h.blk).c0
  have hltb := (rc_of h.blk).lt
  obtain ⟨y, hye⟩ : ∃ y, y = rent k K := ⟨_, rfl⟩
  rw [← hye] at hat hy
  have HAT := Lib.hid hat
  clear hat
  have hb1 := (Below.refl w.heap.size w).alloc (Nat.le_refl _) (rxo y)
  have hd1 := h.up hb1
  have hX1 := nb0 w (rxo y)
  have cP := power_any b m K L lf bt _ hd1 hl
  unfold rvv at hy
  unfold rmcd at hx
  unfold rmL at hL'
  unfold rml at hl'
  have cN : ∀ W, Calls Tryz.prog 33 #[.int .i64 (tt.length : Int), .int .i64 1, .int .i64 80] W fun x w' => x = .returned (.bool (nok tt)) ∧ w' = W := fun W => by
    have := in_any tt.length W
    rwa [nok_in] at this
  cases hzn : nok tt with
  | false =>
    rw [hzn] at cN hx hL' hl'
    simp only [if_true, Bool.false_eq_true, false_and, if_false] at hx hL' hl'
    subst hx hL' hl'
    clear hye cP hX1
    go_enter Tryz.func10, Tryz.ntmps10
    go_wp2_with fail
    refine (cN _).mono ?_
    rintro x w1 ⟨rfl, rfl⟩
    go_wp2
    go_ret
    exact ⟨rfl, Ro.same hd1 (Kp.of hb1)⟩
  | true =>
  rw [hzn] at cN hx hL' hl'
  simp only [Bool.true_eq_false, if_false, true_and, if_true] at hx hL' hl'
  unfold rtcd at hx
  unfold rtl at hl'
  cases hz : (lkL k L).isSome with
  | false =>
    rw [hz] at hy hx hL' hl'
    simp only [if_true, Bool.false_eq_true, false_and, if_false] at hx hL' hl'
    subst hx hL' hl'
    clear hye cP hX1
    go_enter Tryz.func10, Tryz.ntmps10
    go_wp2_with fail
    refine (cN _).mono ?_
    rintro x w1 ⟨rfl, rfl⟩
    go_wp2
    go_ret
    exact ⟨rfl, Ro.same hd1 (Kp.of hb1)⟩
  | true =>
    rw [hz] at hy hx hL' hl'
    simp only [Bool.true_eq_false, if_false, true_and, if_true] at hx hL' hl'
    rw [← hl'] at cP
    by_cases h0 : lf = 0
    · have e1 : rpw lf = 14 := by unfold rpw; rw [if_pos h0]
      rw [e1] at cP
      rw [if_pos h0] at hx
      rw [if_neg (fun hh => hh h0)] at hL'
      subst hx hL'
      clear hl' h0 e1 hye hX1
      go_enter Tryz.func10, Tryz.ntmps10
      go_wp2_with fail
      refine (cN _).mono ?_
      rintro x w1 ⟨rfl, rfl⟩
      go_wp2_with fail
      refine cP.mono ?_
      rintro x w2 ⟨rfl, hd, hkp⟩
      go_wp2
      go_ret
      exact ⟨rfl, Ro.below hb1 (Ro.same hd (kp_rx hkp))⟩
    · have e1 : rpw lf = 0 := by unfold rpw; rw [if_neg h0]
      rw [e1] at cP
      rw [if_neg h0] at hx
      rw [if_pos h0] at hL'
      have HX := Lib.hid hx
      have HL := Lib.hid hL'
      have HB1 := Lib.hid hb1
      have HX1 := Lib.hid hX1
      have HA := Lib.hid (HAT.out.2.1.kp (Kp.of (X := fun _ => False) hb1) (fun _ h => h.elim))
      have HA1 := Lib.hid HAT.out.1
      have HNB := Lib.hid (nob_cells hd1.blk (by decide))
      clear hx hL' hl' h0 e1 hl hye hb1 hX1 HAT hd1 h
      go_enter Tryz.func10, Tryz.ntmps10
      go_wp2_with fail
      refine (cN _).mono ?_
      rintro x w1 ⟨rfl, rfl⟩
      go_wp2_with fail
      refine cP.mono ?_
      rintro x w2 ⟨rfl, hd, hkp⟩
      have HA2 := Lib.hid (HA.out.kp hkp (fun i hi => by subst hi; exact HNB.out))
      have hX2 : w2.heap[w.heap.size]? = some (rxo y) := (hkp.block _ (by simp) (by omega)).trans HX1.out
      have x0 : w2.cell? ⟨w.heap.size, 0, none⟩ = some (.string ⟨y.now.toArray⟩) := by simp [World.cell?, hX2]
      have x1 : w2.cell? ⟨w.heap.size, 1, none⟩ = some (.pointer (y.p.map fun a => ⟨a, 0, none⟩)) := by simp [World.cell?, hX2]
      have d0 := (rc_of hd.blk).c0
      have hKn := hd.len
      have hown := hd.map
      go_wp2_with (at_delete; refine wpList_delete_own _ rfl _ _ 48 9 rfl 47 law9 Tryz.underlying48 Rv m K.length _ rfl hown _ _ rfl (key9 k hk) ?_; intro w3 hown3 hturn3)
      have hd3 := hd.del hown3 hturn3
      have hA3 := HA2.out.kp (kp_turn (b := b) hturn3) hd.nob
      have hwm : w.heap.size ≠ m := fun e1 => by
        obtain ⟨es, cl, h1, _⟩ := hown
        rw [← e1, hX2] at h1; cases h1
      have hX3 : w3.heap[w.heap.size]? = some (rxo y) := (hturn3.grown.block _ (Array.getElem?_eq_some_iff.1 hX2).1 (fun e1 => hwm (by cases e1; rfl))).trans hX2
      have HK3 := Lib.hid (kp_turn (b := b) hturn3)
      clear hown3 hturn3
      go_wp2_with fail
      have bd1 := (Below.refl w3.heap.size w3).drew
      have hd4 := hd3.up bd1
      have hX4 : w3.drew.heap[w.heap.size]? = some (rxo y) := hX3
      have lc1 : Vs b m w.heap.size y w3.drew := ⟨(rc_of hd4.blk).c0, by simp [World.cell?, hX4], by simp [World.cell?, hX4]⟩
      have hld := len_del (L := K) k
      obtain ⟨w7, hrun, hown7, hturn⟩ := hd4.map.store law9 Tryz.underlying48 (by unfold maxLen; omega) (key9 tt htt) (val := rvv y) (d := .held (rvv y)) (ps := []) rfl
      have HRD := Lib.hid (hd4.put (x := y) (e := ent k L) HA1.out (hA3.kp (Kp.of (X := fun _ => False) bd1) (fun _ h => h.elim)) hown7 hturn)
      have lc7 : Vs b m w.heap.size y w7 := by
        have hX7 : w7.heap[w.heap.size]? = some (rxo y) := (hturn.grown.block _ (Array.getElem?_eq_some_iff.1 hX4).1 (fun e1 => hwm (by cases e1; rfl))).trans hX4
        exact ⟨(rc_of HRD.out.blk).c0, by simp [World.cell?, hX7], by simp [World.cell?, hX7]⟩
      have hfin := Ro.below HB1.out (Ro.then (kp_rx hkp) (Ro.then HK3.out (Ro.below bd1 (Ro.same HRD.out (kp_turn hturn)))))
      rw [← HL.out] at hfin
      have HF := Lib.hid hfin
      clear hown7 hturn hd4 hX4 bd1 hfin HRD hd3 hX3 x0 x1 d0 hX2 hd hown hA3
      refine wp_region_held (S := Vs b m w.heap.size y) (by kernel_rfl) ?_
      refine wpAnyH_take (i := 0) (v := .pointer (some ⟨b, 0, none⟩)) rfl (by kernel_rfl) (by kernel_rfl) (by kernel_rfl) (fun _ _ _ h => h) (.inl ⟨rfl, fun w' _ => by simp [go_sem]⟩) lc1 ?_
      refine wpAnyH_take (i := 1) (v := .pointer (some ⟨b, 0, none⟩)) rfl (by kernel_rfl) (by kernel_rfl) (by kernel_rfl) (fun _ _ _ h => h) (.inl ⟨rfl, fun w' _ => by simp [go_sem]⟩) lc1 ?_
      refine wpAnyH_take (i := 2) (v := .pointer (some ⟨b, 0, none⟩)) rfl (by kernel_rfl) (by kernel_rfl) (by kernel_rfl) (fun _ _ _ h => h) (.inl ⟨rfl, fun w' _ => by simp [go_sem]⟩) lc1 ?_
      refine wpAnyH_take (i := 3) (v := .map (some m)) rfl (by kernel_rfl) (by kernel_rfl) (by kernel_rfl) (fun _ _ _ h => h) (.inl ⟨rfl, fun w' hw => by have h1 := hw.c0; simp [go_sem, h1]⟩) lc1 ?_
      refine wpAnyH_take (i := 4) (v := .string ⟨tt.toArray⟩) rfl (by kernel_rfl) (by kernel_rfl) (by kernel_rfl) (fun _ _ _ h => h) (.inl ⟨rfl, fun w' _ => by simp [go_sem]⟩) lc1 ?_
      refine wpAnyH_take (i := 5) (v := rvv y) rfl (by kernel_rfl) (by kernel_rfl) (by kernel_rfl) (fun _ _ _ h => h) (.inl ⟨rfl, fun w' hw => by have h1 := hw.e0; have h2 := hw.e1; simp [go_sem, h1, h2, rvv]⟩) lc1 ?_
      refine wpAnyH_all (rs := [6]) (by kernel_rfl) (by simp) fun j hj => ?_
      obtain rfl : j = 6 := by simpa using hj
      refine wpOp_go rfl rfl ?_
      unfold Oper.wp
      simp [go_sem, hrun]
      refine ⟨lc7, wpAnyH_done (by kernel_rfl) ?_ _⟩
      go_wp2
      go_ret
      exact ⟨by rw [HX.out]; rfl, HF.out⟩
end Go.Proofs.YteiobnkaadedkaaGreatDoor
