/- A shelf: lay walked. -/
import Derived.Test.YtlldfmnoidndmaaGreatDoorSe
import Derived.Lib.QuietBelow
namespace Go.Proofs.YtlldfmnoidndmaaGreatDoor.Dsk
open Go.RowKit Go.Sort Go.Maps

theorem kpL_eq {L : Kv Ent} (hS : Srt L) (f s : List UInt8) : kpL L f s = putL f ⟨s, some s⟩ (delL frN L) := by
  refine ext_lk (kpL_srt hS f s) ((hS.del _).put _ _) fun k => ?_
  rw [kpL_lk hS]
  by_cases e : k = f
  · rw [if_pos e, e, lk_put_same (hS.del _)]
  · rw [if_neg e, lk_put_other (hS.del _) e]
    by_cases e2 : k = frN
    · rw [if_pos e2, e2, lk_del_same]
    · rw [if_neg e2, lk_del_other hS e2]
theorem kpL_le {L : Kv Ent} (hS : Srt L) (f s : List UInt8) : tot nl (kpL L f s) ≤ tot nl L + s.length ∧ (kpL L f s).length ≤ L.length + 1 := by
  rw [kpL_eq hS]
  have h1 := tot_put nl f ⟨s, some s⟩ (hS.del frN)
  have h2 := tot_del nl frN hS
  have h3 := len_put (delL frN L) f ⟨s, some s⟩
  have h4 := len_del (L := L) frN
  have e1 : nl ⟨s, some s⟩ = s.length := rfl
  omega
/-- What lay leaves. -/
def ly1 (L : Kv Ent) (n p : List UInt8) : Kv Ent := if (ent ([111, 47] ++ p) L).now = n then L else kpL L ([111, 47] ++ p) n
def ly2 (L : Kv Ent) (p t : List UInt8) (cm : Bool) : Kv Ent := if cm = true then kpL L ([100, 47] ++ p) t else L
def ly3 (L : Kv Ent) (p t : List UInt8) (st : Bool) : Kv Ent := if st = true then kpL L ([99, 47] ++ p) t else delL ([99, 47] ++ p) L
theorem ly1_all {L : Kv Ent} (hS : Srt L) (n p : List UInt8) (hn : n.length ≤ 1000) : Srt (ly1 L n p) ∧ tot nl (ly1 L n p) ≤ tot nl L + 1000 ∧ (ly1 L n p).length ≤ L.length + 1 := by
  unfold ly1
  split
  · exact ⟨hS, by omega, by omega⟩
  · have := kpL_le hS ([111, 47] ++ p) n
    exact ⟨kpL_srt hS _ _, by omega, by omega⟩
theorem ly2_all {L : Kv Ent} (hS : Srt L) (p t : List UInt8) (cm : Bool) (ht : t.length ≤ 1000) : Srt (ly2 L p t cm) ∧ tot nl (ly2 L p t cm) ≤ tot nl L + 1000 ∧ (ly2 L p t cm).length ≤ L.length + 1 := by
  unfold ly2
  split
  · have := kpL_le hS ([100, 47] ++ p) t
    exact ⟨kpL_srt hS _ _, by omega, by omega⟩
  · exact ⟨hS, by omega, by omega⟩
section
variable {w W W2 : World} {s d : Nat} {Z : Nat → Prop} {L : Kv Ent}
/-- Texts that lie in a zone. -/
structure Sl (Z : Nat → Prop) (W : World) (v : Value) (l : List (List UInt8)) : Prop where
  ss : Ss W v l
  lo : ∀ b o n c, v = .slice (some ⟨b, o, none⟩) n c → l ≠ [] → Z b
theorem Sl.zn {v : Value} {l : List (List UInt8)} (h : Sl Z W v l) (hz : Zn Z W W2) (hs : ∀ k, Z k → k < W2.heap.size) : Sl Z W2 v l := by
  refine ⟨?_, h.lo⟩
  rcases h.ss.is with h1 | ⟨b, o, c, h1, h2, h3⟩
  · exact ⟨.inl h1⟩
  · by_cases hl : l = []
    · subst hl
      exact ⟨.inl ⟨rfl, _, _, h1⟩⟩
    · have h4 := h.lo b o _ c h1 hl
      exact ⟨.inr ⟨b, o, c, h1, h2, hs b h4, fun i hi' => (hz.cell h4).trans (h3.c i hi')⟩⟩
theorem Sl.up {v : Value} {l : List (List UInt8)} (h : Sl Z W v l) (hb : Below W.heap.size W W2) : Sl Z W2 v l := ⟨h.ss.on hb, h.lo⟩
theorem Sl.more {Z' : Nat → Prop} {v : Value} {l : List (List UInt8)} (h : Sl Z W v l) (hz : ∀ k, Z k → Z' k) : Sl Z' W v l := ⟨h.ss, fun b o n c h1 h2 => hz b (h.lo b o n c h1 h2)⟩
set_option maxRecDepth 100000 in
set_option maxHeartbeats 8000000 in
theorem lay_any (h : SJ w s d L Z W) (n : List UInt8) (e : Int) (u r : List UInt8) (vD vA vG vB vR vP vS vL vF : Value) (pa da : List UInt8) (cm : Bool) (SS : List (List UInt8)) (hS : Sl Z W vS SS) (hSl : SS.length ≤ 1000000) (hpa : pa.length ≤ 70) (hpa1 : 1 ≤ pa.length) (hda : da.length ≤ 1000) (hnl : n.length ≤ 1000) (hT : tot nl L ≤ 980000) (hLl : L.length ≤ 4800) :
    Calls Tryz.prog 53 #[.pointer (some ⟨s, 0, none⟩), pkv n e u r vD vA vG vB vR vP vS vL vF, .agg #[.string ⟨pa.toArray⟩, .string ⟨da.toArray⟩], .bool cm] W fun x W2 => x = .returned .nilIface ∧ Zn Z W W2 ∧ SJ w s d (ly3 (ly2 (ly1 L n pa) pa da cm) pa da (SS.contains pa)) Z W2 := by
  have bA := (Below.refl W.heap.size W).alloc (Nat.le_refl _) (pko n e u r vD vA vG vB vR vP vS vL vF)
  have bB := bA.alloc bA.size (.cells #[.string ⟨pa.toArray⟩, .string ⟨da.toArray⟩] 73)
  have x0 : ((W.alloc (pko n e u r vD vA vG vB vR vP vS vL vF)).alloc (.cells #[.string ⟨pa.toArray⟩, .string ⟨da.toArray⟩] 73)).heap[W.heap.size]? = some (pko n e u r vD vA vG vB vR vP vS vL vF) := by
    rw [Below.heap_alloc _ _ W.heap.size (by simp)]
    exact nb0 _ _
  have x1 : ((W.alloc (pko n e u r vD vA vG vB vR vP vS vL vF)).alloc (.cells #[.string ⟨pa.toArray⟩, .string ⟨da.toArray⟩] 73)).heap[W.heap.size + 1]? = some (.cells #[.string ⟨pa.toArray⟩, .string ⟨da.toArray⟩] 73 (0, 0)) := by
    have := nb0 (W.alloc (pko n e u r vD vA vG vB vR vP vS vL vF)) (.cells #[.string ⟨pa.toArray⟩, .string ⟨da.toArray⟩] 73)
    rwa [World.size_alloc] at this
  obtain ⟨st, hst⟩ : ∃ st, st = SS.contains pa := ⟨_, rfl⟩
  have HJ := Lib.hid (h.add bB)
  have HS := Lib.hid ((hS.up bB).more (Z' := Zu Z W.heap.size ((W.alloc (pko n e u r vD vA vG vB vR vP vS vL vF)).alloc (.cells #[.string ⟨pa.toArray⟩, .string ⟨da.toArray⟩] 73)).heap.size) fun _ => .inl)
  have HB := Lib.hid (Zn.below bB h.hs)
  have HX0 := Lib.hid x0
  have HX1 := Lib.hid x1
  have hsrt := Lib.hid h.srt
  rw [← hst]
  have HST := Lib.hid hst
  clear h bA bB x0 x1 hS hst
  go_enter Tryz.func53, Tryz.ntmps53
  go_upto_region 1 with fail
  generalize (W.alloc (pko n e u r vD vA vG vB vR vP vS vL vF)).alloc (.cells #[.string ⟨pa.toArray⟩, .string ⟨da.toArray⟩] 73) = V at HJ HS HB HX0 HX1 ⊢
  have HZ0 : Hid (Zu Z W.heap.size V.heap.size W.heap.size ∧ Zu Z W.heap.size V.heap.size (W.heap.size + 1)) := ⟨.inr ⟨Nat.le_refl _, (Array.getElem?_eq_some_iff.1 HX0.out).1⟩, .inr ⟨by omega, (Array.getElem?_eq_some_iff.1 HX1.out).1⟩⟩
  have q0 : V.cell? ⟨W.heap.size + 1, 0, none⟩ = some (.string ⟨pa.toArray⟩) := by simp [World.cell?, HX1.out]
  have q1 : V.cell? ⟨W.heap.size, 0, none⟩ = some (.string ⟨n.toArray⟩) := by simp [World.cell?, HX0.out]
  obtain ⟨on, hon⟩ : ∃ on, on = (ent ([111, 47] ++ pa) L).now := ⟨_, rfl⟩
  have d61 : ∀ dd os, Calls Tryz.prog 61 #[.pointer (some ⟨s, 0, none⟩), .string ⟨pa.toArray⟩] (grow (redrawn V dd) os) fun z w'' => z = .returned (.string ⟨on.toArray⟩) ∧ ∃ q : Regrown, w'' = grow (redrawn V q.d) q.os := fun dd os => Calls.regrown_of (by rw [hon]; exact owner_any (HJ.out.up (below_regrown V dd os)) pa (by omega))
  have g0 := cell_regrown q0
  have g1 := cell_regrown q1
  have HON := Lib.hid hon
  have hVW : W.heap.size + 2 ≤ V.heap.size := (Array.getElem?_eq_some_iff.1 HX1.out).1
  have hnok1 : nok ([111, 47] ++ pa) = true := by unfold nok; simp; omega
  have hnok2 : nok ([100, 47] ++ pa) = true := by unfold nok; simp; omega
  have hnok3 : nok ([99, 47] ++ pa) = true := by unfold nok; simp; omega
  have hl1 : ([111, 47] ++ pa).length ≤ 1000 := by simp; omega
  have hl2 : ([100, 47] ++ pa).length ≤ 1000 := by simp; omega
  have hl3 : ([99, 47] ++ pa).length ≤ 1000 := by simp; omega
  have HN : Hid (nok ([111, 47] ++ pa) = true ∧ nok ([100, 47] ++ pa) = true ∧ nok ([99, 47] ++ pa) = true ∧ ([111, 47] ++ pa).length ≤ 1000 ∧ ([100, 47] ++ pa).length ≤ 1000 ∧ ([99, 47] ++ pa).length ≤ 1000) := ⟨hnok1, hnok2, hnok3, hl1, hl2, hl3⟩
  clear hon q0 q1 hnok1 hnok2 hnok3 hl1 hl2 hl3
  refine wp_region_quiet_below (by kernel_rfl) (by kernel_rfl) ?_
  repeat (any_goals (first | go_big_quiet_step (with_reducible exact d61 _ _) | quiet_step (with_reducible exact d61 _ _)))
  refine wpQuiet_nil ?_
  intro _ hw'
  obtain ⟨⟨dq, osq⟩, hw''⟩ := hw'
  subst hw''
  have bR := below_regrown V dq osq
  generalize grow (redrawn V dq) osq = V1 at bR ⊢
  have HJ1 := Lib.hid (HJ.out.up bR)
  have HZ1 : Hid (Zn (Zu Z W.heap.size V.heap.size) V V1) := Zn.below bR HJ.out.hs
  clear d61 g0 g1 bR HJ
  by_cases ho : on = n
  case' pos =>
    have hoe : (on == n) = true := by simpa using ho
    rw [hoe, Bool.not_true]
    have HL1 : Hid (ly1 L n pa = L) := by show _ = _; unfold ly1; rw [if_pos (by rw [← HON.out]; exact ho)]
    obtain ⟨L1, hL1⟩ : ∃ L1, L1 = L := ⟨_, rfl⟩
    have HE1 : Hid (L1 = ly1 L n pa) := by show _ = _; rw [HL1.out, hL1]
    have HJ2 : Hid (SJ w s d L1 (Zu Z W.heap.size V.heap.size) V1) := by show SJ w s d L1 (Zu Z W.heap.size V.heap.size) V1; rw [hL1]; exact HJ1.out
    have HZ2 := HZ1
    clear ho HL1 hL1 HJ1 HZ1 HON
    go_upto_if 28 with fail
    generalize V1 = V2 at HJ2 HZ2 ⊢
  case' neg =>
    have hoe : (on == n) = false := by rw [beq_eq_false_iff_ne]; exact ho
    rw [hoe, Bool.not_false]
    have HL1 : Hid (ly1 L n pa = kpL L ([111, 47] ++ pa) n) := by show _ = _; unfold ly1; rw [if_neg (by rw [← HON.out]; exact ho)]
    have cK := skeep_any HJ1.out ([111, 47] ++ pa) n HN.out.1 HN.out.2.2.2.1 hnl (by omega) (by omega)
    have k0 : V1.cell? ⟨W.heap.size + 1, 0, none⟩ = some (.string ⟨pa.toArray⟩) := by rw [HZ1.out.cell HZ0.out.2]; simp [World.cell?, HX1.out]
    have k1 : V1.cell? ⟨W.heap.size, 0, none⟩ = some (.string ⟨n.toArray⟩) := by rw [HZ1.out.cell HZ0.out.1]; simp [World.cell?, HX0.out]
    rw [← cat2] at cK
    obtain ⟨L1, hL1⟩ : ∃ L1, L1 = kpL L ([111, 47] ++ pa) n := ⟨_, rfl⟩
    have HE1 : Hid (L1 = ly1 L n pa) := by show _ = _; rw [HL1.out, hL1]
    rw [← hL1] at cK
    clear ho HL1 hL1 HJ1 HON
    go_upto_if 28 with fail
    refine cK.mono ?_
    rintro x V2 ⟨rfl, hz2, hJ2⟩
    have HJ2 := Lib.hid hJ2
    have HZ2 : Hid (Zn (Zu Z W.heap.size V.heap.size) V V2) := HZ1.out.trans hz2
    clear cK hz2 hJ2 k0 k1 HZ1
    go_upto_if 28 with fail
  all_goals
    have h1a := ly1_all hsrt.out n pa hnl
    rw [← HE1.out] at h1a
    obtain ⟨hs1, ht1, hll1⟩ := h1a
    have HS1 := Lib.hid hs1
    clear hs1
    cases cm with
    | true =>
      have k0 : V2.cell? ⟨W.heap.size + 1, 0, none⟩ = some (.string ⟨pa.toArray⟩) := by rw [HZ2.out.cell HZ0.out.2]; simp [World.cell?, HX1.out]
      have k1 : V2.cell? ⟨W.heap.size + 1, 1, none⟩ = some (.string ⟨da.toArray⟩) := by rw [HZ2.out.cell HZ0.out.2]; simp [World.cell?, HX1.out]
      have cK := skeep_any HJ2.out ([100, 47] ++ pa) da HN.out.2.1 HN.out.2.2.2.2.1 hda (by omega) (by omega)
      rw [← cat2] at cK
      obtain ⟨L2, hL2⟩ : ∃ L2, L2 = kpL L1 ([100, 47] ++ pa) da := ⟨_, rfl⟩
      have HE2 : Hid (L2 = ly2 L1 pa da true) := by show _ = _; rw [hL2]; rfl
      rw [← hL2] at cK
      clear hL2 HJ2
      go_upto_region 9 with fail
      refine cK.mono ?_
      rintro x V3 ⟨rfl, hz3, hJ3⟩
      have HJ3 := Lib.hid hJ3
      have HZ3 : Hid (Zn (Zu Z W.heap.size V.heap.size) V V3) := HZ2.out.trans hz3
      clear cK hz3 hJ3 k0 k1 HZ2
      go_upto_region 9 with fail
      have h2a := ly2_all HS1.out pa da true hda
      rw [← HE2.out] at h2a
      obtain ⟨hs2, ht2, hll2⟩ := h2a
      have hV3 := HJ3.out.hs
      have hS3 := HS.out.zn HZ3.out hV3
      have k10 : V3.cell? ⟨W.heap.size, 10, none⟩ = some vS := by rw [HZ3.out.cell HZ0.out.1]; simp [World.cell?, HX0.out]
      have k0 : V3.cell? ⟨W.heap.size + 1, 0, none⟩ = some (.string ⟨pa.toArray⟩) := by rw [HZ3.out.cell HZ0.out.2]; simp [World.cell?, HX1.out]
      have k1 : V3.cell? ⟨W.heap.size + 1, 1, none⟩ = some (.string ⟨da.toArray⟩) := by rw [HZ3.out.cell HZ0.out.2]; simp [World.cell?, HX1.out]
      have cC := contains_any (p := pa) hS3.ss hSl
      rw [← HST.out] at cC
      have cK := skeep_any HJ3.out ([99, 47] ++ pa) da HN.out.2.2.1 HN.out.2.2.2.2.2 hda (by omega) (by omega)
      have cO := lose_any HJ3.out ([99, 47] ++ pa) HN.out.2.2.2.2.2 (by omega) (by omega)
      have HZW : Hid (∀ V4, Zn (Zu Z W.heap.size V.heap.size) V3 V4 → Zn Z W V4) := fun V4 hz => (HB.out.trans (HZ3.out.mono fun _ => .inl)).trans (hz.mono fun _ => .inl)
      have HLE : Hid (ly3 (ly2 (ly1 L n pa) pa da true) pa da st = ly3 L2 pa da st) := by show _ = _; rw [HE2.out, HE1.out]
      rw [← cat2] at cK cO
      clear hs2 hS3 hV3 HJ3 HZ3 HE1 HE2 HS1 HS HX0 HX1 HB
      go_wp2_with fail
      refine cC.mono ?_
      rintro x V4 ⟨rfl, hw⟩
      rw [hw]
      clear hw cC V4
      cases st with
      | true =>
        clear cO
        go_wp2_with fail
        refine cK.mono ?_
        rintro x V4 ⟨rfl, hz4, hJ4⟩
        have HF : Hid (Zn Z W V4 ∧ SJ w s d (ly3 (ly2 (ly1 L n pa) pa da true) pa da true) Z V4) := ⟨HZW.out V4 hz4, by rw [HLE.out]; exact hJ4.less fun _ => .inl⟩
        clear cK hz4 hJ4 k0 k1 k10 HLE HZW
        go_wp2
        go_ret
        exact ⟨rfl, HF.out.1, HF.out.2⟩
      | false =>
        clear cK
        go_wp2_with fail
        refine cO.mono ?_
        rintro x V4 ⟨rfl, hz4, hJ4⟩
        have HF : Hid (Zn Z W V4 ∧ SJ w s d (ly3 (ly2 (ly1 L n pa) pa da true) pa da false) Z V4) := ⟨HZW.out V4 hz4, by rw [HLE.out]; exact hJ4.less fun _ => .inl⟩
        clear cO hz4 hJ4 k0 k1 k10 HLE HZW
        go_wp2
        go_ret
        exact ⟨rfl, HF.out.1, HF.out.2⟩
    | false =>
      obtain ⟨L2, hL2⟩ : ∃ L2, L2 = L1 := ⟨_, rfl⟩
      have HE2 : Hid (L2 = ly2 L1 pa da false) := by show _ = _; rw [hL2]; rfl
      have HJ3 : Hid (SJ w s d L2 (Zu Z W.heap.size V.heap.size) V2) := by show SJ w s d L2 (Zu Z W.heap.size V.heap.size) V2; rw [hL2]; exact HJ2.out
      have HZ3 := HZ2
      clear hL2 HJ2 HZ2
      go_upto_region 9 with fail
      generalize V2 = V3 at HJ3 HZ3 ⊢
      have h2a := ly2_all HS1.out pa da false hda
      rw [← HE2.out] at h2a
      obtain ⟨hs2, ht2, hll2⟩ := h2a
      have hV3 := HJ3.out.hs
      have hS3 := HS.out.zn HZ3.out hV3
      have k10 : V3.cell? ⟨W.heap.size, 10, none⟩ = some vS := by rw [HZ3.out.cell HZ0.out.1]; simp [World.cell?, HX0.out]
      have k0 : V3.cell? ⟨W.heap.size + 1, 0, none⟩ = some (.string ⟨pa.toArray⟩) := by rw [HZ3.out.cell HZ0.out.2]; simp [World.cell?, HX1.out]
      have k1 : V3.cell? ⟨W.heap.size + 1, 1, none⟩ = some (.string ⟨da.toArray⟩) := by rw [HZ3.out.cell HZ0.out.2]; simp [World.cell?, HX1.out]
      have cC := contains_any (p := pa) hS3.ss hSl
      rw [← HST.out] at cC
      have cK := skeep_any HJ3.out ([99, 47] ++ pa) da HN.out.2.2.1 HN.out.2.2.2.2.2 hda (by omega) (by omega)
      have cO := lose_any HJ3.out ([99, 47] ++ pa) HN.out.2.2.2.2.2 (by omega) (by omega)
      have HZW : Hid (∀ V4, Zn (Zu Z W.heap.size V.heap.size) V3 V4 → Zn Z W V4) := fun V4 hz => (HB.out.trans (HZ3.out.mono fun _ => .inl)).trans (hz.mono fun _ => .inl)
      have HLE : Hid (ly3 (ly2 (ly1 L n pa) pa da false) pa da st = ly3 L2 pa da st) := by show _ = _; rw [HE2.out, HE1.out]
      rw [← cat2] at cK cO
      clear hs2 hS3 hV3 HJ3 HZ3 HE1 HE2 HS1 HS HX0 HX1 HB
      go_wp2_with fail
      refine cC.mono ?_
      rintro x V4 ⟨rfl, hw⟩
      rw [hw]
      clear hw cC V4
      cases st with
      | true =>
        clear cO
        go_wp2_with fail
        refine cK.mono ?_
        rintro x V4 ⟨rfl, hz4, hJ4⟩
        have HF : Hid (Zn Z W V4 ∧ SJ w s d (ly3 (ly2 (ly1 L n pa) pa da false) pa da true) Z V4) := ⟨HZW.out V4 hz4, by rw [HLE.out]; exact hJ4.less fun _ => .inl⟩
        clear cK hz4 hJ4 k0 k1 k10 HLE HZW
        go_wp2
        go_ret
        exact ⟨rfl, HF.out.1, HF.out.2⟩
      | false =>
        clear cK
        go_wp2_with fail
        refine cO.mono ?_
        rintro x V4 ⟨rfl, hz4, hJ4⟩
        have HF : Hid (Zn Z W V4 ∧ SJ w s d (ly3 (ly2 (ly1 L n pa) pa da false) pa da false) Z V4) := ⟨HZW.out V4 hz4, by rw [HLE.out]; exact hJ4.less fun _ => .inl⟩
        clear cO hz4 hJ4 k0 k1 k10 HLE HZW
        go_wp2
        go_ret
        exact ⟨rfl, HF.out.1, HF.out.2⟩
end
end Go.Proofs.YtlldfmnoidndmaaGreatDoor.Dsk
