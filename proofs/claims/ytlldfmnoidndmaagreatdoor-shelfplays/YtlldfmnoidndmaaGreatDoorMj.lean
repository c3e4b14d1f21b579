/- The walks of a disk's Sync, Remove, Move. -/
import Derived.Test.YtlldfmnoidndmaaGreatDoorMi
namespace Go.Proofs.YtlldfmnoidndmaaGreatDoor.Dsk
open Go.RowKit Go.Sort Go.Maps

theorem ent_le {k : List UInt8} {L : Kv Ent} (h : Srt L) : (ent k L).now.length ≤ tot nl L := by
  rw [ent_len]; exact olen_le nl k h
def tcd (L : Kv Ent) (e : Bool) (c : Int) (k : List UInt8) : Int := if (lkL k L).isSome = false then 7 else if pwr e c = false then 14 else 0
def tc (L : Kv Ent) (e : Bool) (c : Int) (k : List UInt8) : Int := if (lkL k L).isSome = true then chg e c else c
def sL (L : Kv Ent) (e : Bool) (c : Int) (k : List UInt8) : Kv Ent := if (lkL k L).isSome = true ∧ pwr e c = true then putL k ⟨(ent k L).now, some (ent k L).now⟩ L else L
def rL (L : Kv Ent) (e : Bool) (c : Int) (k : List UInt8) : Kv Ent := if (lkL k L).isSome = true ∧ pwr e c = true then delL k L else L
def mcd (L : Kv Ent) (e : Bool) (c : Int) (k tt : List UInt8) : Int := if nok tt = false then 1 else tcd L e c k
def mc (L : Kv Ent) (e : Bool) (c : Int) (k tt : List UInt8) : Int := if nok tt = true then tc L e c k else c
def mL (L : Kv Ent) (e : Bool) (c : Int) (k tt : List UInt8) : Kv Ent := if nok tt = true ∧ (lkL k L).isSome = true ∧ pwr e c = true then putL tt (ent k L) (delL k L) else L

set_option maxHeartbeats 3200000 in
set_option maxRecDepth 100000 in
theorem sync_any (b : Nat) (mb : Option Nat) (L : Kv Ent) (e : Bool) (c : Int) (bd : Bool) (r : Int) (k : List UInt8) (w : World) (h : PD w b mb L e c bd r) (hc : c ≤ 9223372036854775807) (hk : k.length ≤ 1000000) (hT : tot nl L ≤ 1000000) (hn : L.length < 5000) :
    Calls Tryz.prog 106 #[.pointer (some ⟨b, 0, none⟩), .string ⟨k.toArray⟩] w fun x w' => x = .returned (evv (tcd L e c k)) ∧ Po b mb (sL L e c k) e (tc L e c k) bd r w w' := by
  obtain ⟨x, hx⟩ : ∃ x, x = evv (tcd L e c k) := ⟨_, rfl⟩
  obtain ⟨L', hL'⟩ : ∃ L', L' = sL L e c k := ⟨_, rfl⟩
  obtain ⟨c', hc'⟩ : ∃ c', c' = tc L e c k := ⟨_, rfl⟩
  rw [← hx, ← hL', ← hc']
  unfold tcd at hx
  unfold sL at hL'
  unfold tc at hc'
  have c0 := (dc_of h.blk).c0
  have hy := (look_any h k hk w (fun _ _ => rfl)).2
  have hyl := ent_le (k := k) h.srt
  have hblt := (Array.getElem?_eq_some_iff.1 h.blk).1
  have hdx : ¬ DX b mb w.heap.size := fun hx => by
    rcases hx with hx | hx
    · omega
    · have := (h.map _ hx).lt; omega
  obtain ⟨y, hye⟩ : ∃ y, y = ent k L := ⟨_, rfl⟩
  rw [← hye] at hy hyl
  try rw [← hye] at hL'
  have hb1 := (Below.refl w.heap.size w).alloc (Nat.le_refl _) (eno y)
  have hd1 := h.up hb1
  have HX := Lib.hid (nb0 w (eno y))
  have cC := change_any b mb L e c bd r _ hd1 hc
  unfold chv at cC
  unfold pv at hy
  cases hz : (lkL k L).isSome with
  | false =>
    rw [hz] at hy hx hL' hc'
    simp only [if_true, Bool.false_eq_true, false_and, if_false] at hx hL' hc'
    subst hx hL' hc'
    clear hye cC HX
    go_enter Tryz.func106, Tryz.ntmps106
    go_wp2
    go_ret
    exact ⟨rfl, Po.same hd1 (Kp.of hb1)⟩
  | true =>
    rw [hz] at hy hx hL' hc'
    simp only [Bool.true_eq_false, if_false, true_and, if_true] at hx hL' hc'
    cases hp : pwr e c with
    | false =>
      rw [hp] at cC hx hL'
      simp only [if_true, Bool.false_eq_true, if_false] at hx hL' cC
      subst hx hL' hc'
      clear hye HX
      go_enter Tryz.func106, Tryz.ntmps106
      go_wp2_with fail
      refine cC.mono ?_
      rintro x w2 ⟨rfl, hd, hkp⟩
      go_wp2
      go_ret
      exact ⟨rfl, Po.below hb1 (Po.same hd (kp_dx hkp))⟩
    | true =>
      rw [hp] at cC hx hL'
      simp only [Bool.true_eq_false, if_false, if_true] at hx hL' cC
      rw [← hc'] at cC
      subst hx
      have HL := Lib.hid hL'
      have HB1 := Lib.hid hb1
      clear hc' hye hL' hb1 hd1 h
      go_enter Tryz.func106, Tryz.ntmps106
      go_wp2_with fail
      refine cC.mono ?_
      rintro x w2 ⟨rfl, hd, hkp⟩
      have hX2 : w2.heap[w.heap.size]? = some (eno y) := (hkp.block _ (by simp) (fun e1 => by have := (Array.getElem?_eq_some_iff.1 hd.blk).1; have hbl := hblt; omega)).trans HX.out
      have x0 : w2.cell? ⟨w.heap.size, 0, none⟩ = some (.string ⟨y.now.toArray⟩) := by simp [World.cell?, hX2]
      have x1 : w2.cell? ⟨w.heap.size, 1, none⟩ = some (.string ⟨(y.sf.getD []).toArray⟩) := by simp [World.cell?, hX2]
      have x2 : w2.cell? ⟨w.heap.size, 2, none⟩ = some (.bool y.sf.isSome) := by simp [World.cell?, hX2]
      have cS := settled_any y.now w2
      go_wp2_with fail
      refine cS.mono ?_
      rintro x w3 ⟨rfl, hb3⟩
      have hd3 := hd.up hb3
      have cP := put_any b mb L e c' bd r k ⟨y.now, some y.now⟩ w3 hd3 hk (by omega) (by dsimp only; omega) (by omega)
      rw [← HL.out] at cP
      unfold pv at cP ⊢
      have HB3 := Lib.hid hb3
      clear cS hd3 hd hb3
      go_wp2_with fail
      refine cP.mono ?_
      rintro x w4 ⟨rfl, hpu⟩
      have hfin := Po.below HB1.out (Po.then (kp_dx hkp) (fun _ hm => Or.inl hm) (Po.below HB3.out (Po.put hpu)))
      go_wp2
      go_ret
      exact ⟨rfl, hfin⟩

set_option maxHeartbeats 3200000 in
set_option maxRecDepth 100000 in
theorem remove_any (b : Nat) (mb : Option Nat) (L : Kv Ent) (e : Bool) (c : Int) (bd : Bool) (r : Int) (k : List UInt8) (w : World) (h : PD w b mb L e c bd r) (hc : c ≤ 9223372036854775807) (hk : k.length ≤ 1000000) (hT : tot nl L ≤ 1000000) (hn : L.length < 5000) :
    Calls Tryz.prog 62 #[.pointer (some ⟨b, 0, none⟩), .string ⟨k.toArray⟩] w fun x w' => x = .returned (evv (tcd L e c k)) ∧ Po b mb (rL L e c k) e (tc L e c k) bd r w w' := by
  obtain ⟨x, hx⟩ : ∃ x, x = evv (tcd L e c k) := ⟨_, rfl⟩
  obtain ⟨L', hL'⟩ : ∃ L', L' = rL L e c k := ⟨_, rfl⟩
  obtain ⟨c', hc'⟩ : ∃ c', c' = tc L e c k := ⟨_, rfl⟩
  rw [← hx, ← hL', ← hc']
  unfold tcd at hx
  unfold rL at hL'
  unfold tc at hc'
  have c0 := (dc_of h.blk).c0
  have hy := (look_any h k hk w (fun _ _ => rfl)).2
  have hyl := ent_le (k := k) h.srt
  have hblt := (Array.getElem?_eq_some_iff.1 h.blk).1
  have hdx : ¬ DX b mb w.heap.size := fun hx => by
    rcases hx with hx | hx
    · omega
    · have := (h.map _ hx).lt; omega
  obtain ⟨y, hye⟩ : ∃ y, y = ent k L := ⟨_, rfl⟩
  rw [← hye] at hy hyl
  try rw [← hye] at hL'
  have hb1 := (Below.refl w.heap.size w).alloc (Nat.le_refl _) (eno y)
  have hd1 := h.up hb1
  have HX := Lib.hid (nb0 w (eno y))
  have cC := change_any b mb L e c bd r _ hd1 hc
  unfold chv at cC
  unfold pv at hy
  cases hz : (lkL k L).isSome with
  | false =>
    rw [hz] at hy hx hL' hc'
    simp only [if_true, Bool.false_eq_true, false_and, if_false] at hx hL' hc'
    subst hx hL' hc'
    clear hye cC HX
    go_enter Tryz.func62, Tryz.ntmps62
    go_wp2
    go_ret
    exact ⟨rfl, Po.same hd1 (Kp.of hb1)⟩
  | true =>
    rw [hz] at hy hx hL' hc'
    simp only [Bool.true_eq_false, if_false, true_and, if_true] at hx hL' hc'
    cases hp : pwr e c with
    | false =>
      rw [hp] at cC hx hL'
      simp only [if_true, Bool.false_eq_true, if_false] at hx hL' cC
      subst hx hL' hc'
      clear hye HX
      go_enter Tryz.func62, Tryz.ntmps62
      go_wp2_with fail
      refine cC.mono ?_
      rintro x w2 ⟨rfl, hd, hkp⟩
      go_wp2
      go_ret
      exact ⟨rfl, Po.below hb1 (Po.same hd (kp_dx hkp))⟩
    | true =>
      rw [hp] at cC hx hL'
      simp only [Bool.true_eq_false, if_false, if_true] at hx hL' cC
      rw [← hc'] at cC
      subst hx
      have HL := Lib.hid hL'
      have HB1 := Lib.hid hb1
      clear hc' hye hL' hb1 hd1 h
      go_enter Tryz.func62, Tryz.ntmps62
      go_wp2_with fail
      refine cC.mono ?_
      rintro x w2 ⟨rfl, hd, hkp⟩
      have cD := drop_any b mb L e c' bd r k w2 hd hk (by omega)
      rw [← HL.out] at cD
      go_wp2_with fail
      refine cD.mono ?_
      rintro x w3 ⟨rfl, hd3, hk3⟩
      have hfin := Po.below HB1.out (Po.then (kp_dx hkp) (fun _ hm => Or.inl hm) (Po.same hd3 hk3))
      go_wp2
      go_ret
      exact ⟨rfl, hfin⟩

set_option maxHeartbeats 3200000 in
set_option maxRecDepth 100000 in
theorem move_any (b : Nat) (mb : Option Nat) (L : Kv Ent) (e : Bool) (c : Int) (bd : Bool) (r : Int) (k tt : List UInt8) (w : World) (h : PD w b mb L e c bd r) (hc : c ≤ 9223372036854775807) (hk : k.length ≤ 1000000) (hto : tt.length ≤ 1000000) (hT : tot nl L ≤ 1000000) (hn : L.length < 5000) :
    Calls Tryz.prog 107 #[.pointer (some ⟨b, 0, none⟩), .string ⟨k.toArray⟩, .string ⟨tt.toArray⟩] w fun x w' => x = .returned (evv (mcd L e c k tt)) ∧ Po b mb (mL L e c k tt) e (mc L e c k tt) bd r w w' := by
  obtain ⟨x, hx⟩ : ∃ x, x = evv (mcd L e c k tt) := ⟨_, rfl⟩
  obtain ⟨L', hL'⟩ : ∃ L', L' = mL L e c k tt := ⟨_, rfl⟩
  obtain ⟨c', hc'⟩ : ∃ c', c' = mc L e c k tt := ⟨_, rfl⟩
  rw [← hx, ← hL', ← hc']
  unfold mcd at hx
  unfold mL at hL'
  unfold mc at hc'
  have cN : Calls Tryz.prog 146 #[.string ⟨tt.toArray⟩] w fun x w' => x = .returned (.bool (nok tt)) ∧ w' = w := named_any tt w
  cases hzn : nok tt with
  | false =>
    rw [hzn] at cN hx hL' hc'
    simp only [if_true, Bool.false_eq_true, false_and, if_false] at hx hL' hc'
    subst hx hL' hc'
    go_enter Tryz.func107, Tryz.ntmps107
    go_wp2_with fail
    refine cN.mono ?_
    rintro x w1 ⟨rfl, rfl⟩
    go_wp2
    go_ret
    exact ⟨rfl, Po.same h (Kp.refl _ _)⟩
  | true =>
  rw [hzn] at cN hx hL' hc'
  simp only [Bool.true_eq_false, if_false, true_and, if_true] at hx hL' hc'
  unfold tcd at hx
  unfold tc at hc'
  have c0 := (dc_of h.blk).c0
  have hy := (look_any h k hk w (fun _ _ => rfl)).2
  have hyl := ent_le (k := k) h.srt
  have hblt := (Array.getElem?_eq_some_iff.1 h.blk).1
  have hdx : ¬ DX b mb w.heap.size := fun hx => by
    rcases hx with hx | hx
    · omega
    · have := (h.map _ hx).lt; omega
  obtain ⟨y, hye⟩ : ∃ y, y = ent k L := ⟨_, rfl⟩
  rw [← hye] at hy hyl
  try rw [← hye] at hL'
  have hb1 := (Below.refl w.heap.size w).alloc (Nat.le_refl _) (eno y)
  have hd1 := h.up hb1
  have HX := Lib.hid (nb0 w (eno y))
  have cC := change_any b mb L e c bd r _ hd1 hc
  unfold chv at cC
  unfold pv at hy
  cases hz : (lkL k L).isSome with
  | false =>
    rw [hz] at hy hx hL' hc'
    simp only [if_true, Bool.false_eq_true, false_and, if_false] at hx hL' hc'
    subst hx hL' hc'
    clear hye cC HX
    go_enter Tryz.func107, Tryz.ntmps107
    go_wp2_with fail
    refine cN.mono ?_
    rintro x w1 ⟨rfl, rfl⟩
    go_wp2
    go_ret
    exact ⟨rfl, Po.same hd1 (Kp.of hb1)⟩
  | true =>
    rw [hz] at hy hx hL' hc'
    simp only [Bool.true_eq_false, if_false, true_and, if_true] at hx hL' hc'
    cases hp : pwr e c with
    | false =>
      rw [hp] at cC hx hL'
      simp only [if_true, Bool.false_eq_true, if_false] at hx hL' cC
      subst hx hL' hc'
      clear hye HX
      go_enter Tryz.func107, Tryz.ntmps107
      go_wp2_with fail
      refine cN.mono ?_
      rintro x w1 ⟨rfl, rfl⟩
      go_wp2_with fail
      refine cC.mono ?_
      rintro x w2 ⟨rfl, hd, hkp⟩
      go_wp2
      go_ret
      exact ⟨rfl, Po.below hb1 (Po.same hd (kp_dx hkp))⟩
    | true =>
      rw [hp] at cC hx hL'
      simp only [Bool.true_eq_false, if_false, if_true] at hx hL' cC
      rw [← hc'] at cC
      subst hx
      have HL := Lib.hid hL'
      have HB1 := Lib.hid hb1
      clear hc' hye hL' hb1 hd1 h
      go_enter Tryz.func107, Tryz.ntmps107
      go_wp2_with fail
      refine cN.mono ?_
      rintro x w1 ⟨rfl, rfl⟩
      go_wp2_with fail
      refine cC.mono ?_
      rintro x w2 ⟨rfl, hd, hkp⟩
      have hX2 : w2.heap[w1.heap.size]? = some (eno y) := (hkp.block _ (by simp) (fun e1 => by have := (Array.getElem?_eq_some_iff.1 hd.blk).1; have hbl := hblt; omega)).trans HX.out
      have x0 : w2.cell? ⟨w1.heap.size, 0, none⟩ = some (.string ⟨y.now.toArray⟩) := by simp [World.cell?, hX2]
      have x1 : w2.cell? ⟨w1.heap.size, 1, none⟩ = some (.string ⟨(y.sf.getD []).toArray⟩) := by simp [World.cell?, hX2]
      have x2 : w2.cell? ⟨w1.heap.size, 2, none⟩ = some (.bool y.sf.isSome) := by simp [World.cell?, hX2]
      have cD := drop_any b mb L e c' bd r k w2 hd hk (by omega)
      go_wp2_with fail
      refine cD.mono ?_
      rintro x w3 ⟨rfl, hd3, hk3⟩
      have hne : ¬ DX b mb w1.heap.size := hdx
      have hlt2 := (Array.getElem?_eq_some_iff.1 hX2).1
      have hX3 : w3.heap[w1.heap.size]? = some (eno y) := (hk3.block _ hlt2 hne).trans hX2
      have y0 : w3.cell? ⟨w1.heap.size, 0, none⟩ = some (.string ⟨y.now.toArray⟩) := by simp [World.cell?, hX3]
      have y1 : w3.cell? ⟨w1.heap.size, 1, none⟩ = some (.string ⟨(y.sf.getD []).toArray⟩) := by simp [World.cell?, hX3]
      have y2 : w3.cell? ⟨w1.heap.size, 2, none⟩ = some (.bool y.sf.isSome) := by simp [World.cell?, hX3]
      have htd := tot_del nl k hd.srt
      have hld := len_del (L := L) k
      have cP := put_any b mb (delL k L) e c' bd r tt y w3 hd3 hto (by omega) (by omega) (by omega)
      rw [← HL.out] at cP
      unfold pv at cP
      clear cD hd3 hd
      go_wp2_with fail
      refine cP.mono ?_
      rintro x w4 ⟨rfl, hpu⟩
      have hfin := Po.below HB1.out (Po.then (kp_dx hkp) (fun _ hm => Or.inl hm) (Po.then hk3 (fun _ hm => Or.inl hm) (Po.put hpu)))
      go_wp2
      go_ret
      exact ⟨rfl, hfin⟩
end Go.Proofs.YtlldfmnoidndmaaGreatDoor.Dsk
