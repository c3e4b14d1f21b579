/- A shelf: Edit, whatever lies there. -/
import Derived.Test.YtlldfmnoidndmaaGreatDoorSz
import Derived.Test.YtlldfmnoidndmaaGreatDoorWd
import Derived.Deep.MidRow
namespace Go.Proofs.YtlldfmnoidndmaaGreatDoor.Dsk
open Go.RowKit Go.Sort Go.Maps

section
variable {w W : World} {s d : Nat} {Z : Nat → Prop} {L : Kv Ent}
set_option maxRecDepth 100000 in
theorem edit_none (h : SJ w s d L Z W) (p t : List UInt8) (y : Bool) (hp : p.length ≤ 1000) (hne : (ent ([111, 47] ++ p) L).now = []) : Calls Tryz.prog 18 #[.pointer (some ⟨s, 0, none⟩), .string ⟨p.toArray⟩, .string ⟨t.toArray⟩, .bool y] W fun x W2 => x = .returned (.iface 33 (.int .i64 7)) ∧ Zn Z W W2 ∧ SJ w s d L Z W2 := by
  have cO := owner_any h p hp
  rw [hne, show (([] : List UInt8).toArray) = #[] from rfl] at cO
  have HJ := Lib.hid h
  clear h hne
  go_enter Tryz.func18, Tryz.ntmps18
  go_wp2_with fail
  refine cO.mono ?_
  rintro x w1 ⟨rfl, b1⟩
  have HF : Hid (Zn Z W w1 ∧ SJ w s d L Z w1) := ⟨Zn.below b1 HJ.out.hs, HJ.out.up b1⟩
  clear cO b1
  go_wp2
  go_ret
  exact ⟨rfl, HF.out.1, HF.out.2⟩
set_option maxRecDepth 100000 in
theorem edit_set (h : SJ w s d L Z W) (p t : List UInt8) (hp : p.length ≤ 70) (ht : t.length ≤ 1000) (hT : tot nl L ≤ 990000) (hn : L.length ≤ 4900) (hne : (ent ([111, 47] ++ p) L).now ≠ []) : Calls Tryz.prog 18 #[.pointer (some ⟨s, 0, none⟩), .string ⟨p.toArray⟩, .string ⟨t.toArray⟩, .bool false] W fun x W2 => x = .returned .nilIface ∧ Zn Z W W2 ∧ SJ w s d (kpL L ([100, 47] ++ p) t) Z W2 := by
  have cO := owner_any h p (by omega)
  have hnok : nok ([100, 47] ++ p) = true := by unfold nok; simp; omega
  obtain ⟨n, hnn⟩ : ∃ n, n = (ent ([111, 47] ++ p) L).now := ⟨_, rfl⟩
  rw [← hnn] at cO hne
  have hne0 : (n == []) = false := by rw [beq_eq_false_iff_ne]; exact hne
  have cK := fun W1 (hb : Below W.heap.size W W1) => skeep_any (h.up hb) ([100, 47] ++ p) t hnok (by simp; omega) ht hT hn
  rw [← cat2] at cK
  have Hs := Lib.hid h.hs
  clear h hnn hnok
  go_enter Tryz.func18, Tryz.ntmps18
  go_wp2_with fail
  refine cO.mono ?_
  rintro x w1 ⟨rfl, b1⟩
  have cK' := cK w1 b1
  have HZ := Lib.hid (Zn.below b1 Hs.out)
  clear cK cO b1
  go_wp2_with fail
  refine cK'.mono ?_
  rintro x w2 ⟨rfl, hz, hJ⟩
  have HF : Hid (Zn Z W w2 ∧ SJ w s d (kpL L ([100, 47] ++ p) t) Z w2) := ⟨HZ.out.trans hz, hJ⟩
  clear cK' hz hJ HZ
  go_wp2
  go_ret
  exact ⟨rfl, HF.out.1, HF.out.2⟩
set_option maxRecDepth 100000 in
theorem edit_miss (h : SJ w s d L Z W) (p t : List UInt8) (hp : p.length ≤ 70) (hT : tot nl L ≤ 990000) (hn : L.length ≤ 4900) (hne : (ent ([111, 47] ++ p) L).now ≠ []) : Calls Tryz.prog 18 #[.pointer (some ⟨s, 0, none⟩), .string ⟨p.toArray⟩, .string ⟨t.toArray⟩, .bool true] W fun x W2 => x = .returned (evv (rdc ([100, 47] ++ p) L)) ∧ Zn Z W W2 ∧ SJ w s d (delL ([100, 47] ++ p) L) Z W2 := by
  have cO := owner_any h p (by omega)
  obtain ⟨n, hnn⟩ : ∃ n, n = (ent ([111, 47] ++ p) L).now := ⟨_, rfl⟩
  rw [← hnn] at cO hne
  have hne0 : (n == []) = false := by rw [beq_eq_false_iff_ne]; exact hne
  obtain ⟨mb, hX⟩ := h
  have hcs : tcd L false 0 ([100, 47] ++ p) = rdc ([100, 47] ++ p) L ∧ rL L false 0 ([100, 47] ++ p) = delL ([100, 47] ++ p) L ∧ tc L false 0 ([100, 47] ++ p) = 0 := by
    unfold tcd rL tc rdc
    rw [pwf, chf]
    cases hl : lkL ([100, 47] ++ p) L with
    | none =>
      rw [del_none hl]
      simp
    | some a => simp
  have HC : Hid (∀ W1, Below W.heap.size W W1 → Calls Tryz.prog 62 #[.pointer (some ⟨d, 0, none⟩), .string (⟨([100, 47] : List UInt8).toArray⟩ ++ ⟨p.toArray⟩)] W1 fun x W2 => x = .returned (evv (rdc ([100, 47] ++ p) L)) ∧ Zn Z W1 W2 ∧ SJ w s d (delL ([100, 47] ++ p) L) Z W2) := fun W1 hb => by
    have hX1 := hX.up hb
    have cR := remove_any d mb L false 0 false 0 ([100, 47] ++ p) W1 hX1.pd (by omega) (by simp; omega) (by omega) (by omega)
    rw [hcs.1, hcs.2.1, hcs.2.2, ← cat2] at cR
    refine cR.mono ?_
    rintro x W2 ⟨rfl, hp1⟩
    have h2 := hX1.po hp1
    exact ⟨rfl, h2.1, h2.2⟩
  have HS : Hid (∀ W1, Below W.heap.size W W1 → W1.cell? ⟨s, 0, none⟩ = some (.pointer (some ⟨d, 0, none⟩))) := fun W1 hb => (hX.up hb).cs
  have Hs := Lib.hid hX.hs
  obtain ⟨ev, hev⟩ : ∃ ev, ev = evv (rdc ([100, 47] ++ p) L) := ⟨_, rfl⟩
  rw [← hev] at HC ⊢
  have hevs : ev = .nilIface ∨ ev = .iface 33 (.int .i64 7) := by
    rw [hev]
    unfold rdc
    split
    · exact .inl rfl
    · exact .inr rfl
  clear hX hcs hnn hev
  rcases hevs with rfl | rfl
  all_goals
    go_enter Tryz.func18, Tryz.ntmps18
    go_wp2_with fail
    refine cO.mono ?_
    rintro x w1 ⟨rfl, b1⟩
    have cR := HC.out w1 b1
    have c0 := HS.out w1 b1
    have HZ := Lib.hid (Zn.below b1 Hs.out)
    clear cO b1
    go_wp2_with fail
    refine cR.mono ?_
    rintro x w2 ⟨rfl, hz, hJ⟩
    have HF : Hid (Zn Z W w2 ∧ SJ w s d (delL ([100, 47] ++ p) L) Z w2) := ⟨HZ.out.trans hz, hJ⟩
    clear cR hz hJ HZ c0
    go_wp2
    go_ret
    exact ⟨rfl, HF.out.1, HF.out.2⟩
end
end Go.Proofs.YtlldfmnoidndmaaGreatDoor.Dsk
namespace Go.Proofs.YtlldfmnoidndmaaGreatDoor.Dsk
open Go.RowKit Go.Sort Go.Maps

theorem bare_nil (w : World) : Calls Tryz.prog 7 #[.nilIface, .int .i64 0] w fun x w' => x = .returned (.bool true) ∧ Below w.heap.size w w' := by
  go_enter Tryz.func7, Tryz.ntmps7
  go_wp2_with fail
  refine (bareF_any 0 _).mono ?_
  rintro x w1 ⟨rfl, b1⟩
  go_wp2_with fail
  refine (is_nil _).mono ?_
  rintro x w2 ⟨rfl, b2⟩
  go_wp2
  go_ret
  exact ⟨rfl, bon b1 b2⟩
theorem bare_errno (c : Int) (w : World) (hE : ErrT w) : Calls Tryz.prog 7 #[.iface 33 (.int .i64 c), .int .i64 c] w fun x w' => x = .returned (.bool true) ∧ Below w.heap.size w w' := by
  have HE := Lib.hid hE
  clear hE
  go_enter Tryz.func7, Tryz.ntmps7
  go_wp2_with fail
  refine (bareF_any c _).mono ?_
  rintro x w1 ⟨rfl, b1⟩
  go_wp2_with fail
  refine (is_errno c _ (HE.out.on b1)).mono ?_
  rintro x w2 ⟨rfl, b2⟩
  go_wp2
  go_ret
  exact ⟨rfl, bon b1 b2⟩
set_option maxRecDepth 100000 in
set_option maxHeartbeats 1600000 in
theorem sameT_any {W : World} {B B' : Nat} (P Q : Option Addr) (c c' : Nat) (l : List (List UInt8)) (h : Tr B W P l) (h' : Tr B' W Q l) (hl : l.length ≤ 100000000) : Calls Tryz.prog 64 #[.slice P l.length c, .slice Q l.length c'] W fun x W2 => x = .returned (.bool true) ∧ Below W.heap.size W W2 := by
  have H1 := Lib.hid h
  have H2 := Lib.hid h'
  clear h h'
  go_enter Tryz.func64, Tryz.ntmps64
  go_wp2_with fail
  go_loopw [5] (fun iv Y => ∃ k : Nat, k ≤ l.length ∧ iv = .int .i64 k ∧ Below W.heap.size W Y) (fun iv _ => l.length - (intOf iv).toNat)
  case atStart => exact ⟨0, Nat.zero_le _, rfl, Below.refl _ _⟩
  case round =>
    obtain ⟨k, hk, rfl, hbY⟩ := hrel
    by_cases hlt : k < l.length
    · obtain ⟨g, rfl, _, g2, gc⟩ := (H1.out.on hbY).c k hlt
      obtain ⟨g', rfl, _, g2', gc'⟩ := (H2.out.on hbY).c k hlt
      generalize l[k] = x at gc gc'
      have gd : wr.drew.cell? ⟨g, k, none⟩ = some (.string ⟨x.toArray⟩) := gc
      have gd' : wr.drew.cell? ⟨g', k, none⟩ = some (.string ⟨x.toArray⟩) := gc'
      have hx : (x == x) = true := beq_self_eq_true _
      have HB := Lib.hid hbY.drew
      go_wp2_with (go_region)
      exact ⟨⟨k + 1, hlt, by go_num, HB.out⟩, by simp [intOf]; omega⟩
    · go_wp2
      go_ret
      exact ⟨rfl, hbY⟩
theorem Tie.len {L : Kv Ent} {A D S : Kv (List UInt8)} (h : Tie L A D S) (hS : Srt L) : A.length ≤ L.length ∧ D.length ≤ L.length ∧ S.length ≤ L.length := by
  have key : ∀ (K : List UInt8 → List UInt8) (O : Kv (List UInt8)), Srt O → (∀ p q, K p = K q ↔ p = q) → (∀ p, lkL (K p) L = (lkL p O).map En) → O.length ≤ L.length := fun K O hO hK hl => by
    have h1 : (O.map fun x => K x.1).Nodup := by
      refine List.pairwise_map.2 (List.Pairwise.imp ?_ hO)
      intro a b hab e
      have := bb_lt hab
      rw [(hK _ _).1 e] at this
      exact absurd this (List.lt_irrefl _)
    have h2 : (O.map fun x => K x.1) ⊆ L.map (·.1) := fun k hk => by
      obtain ⟨⟨p, v⟩, hp, rfl⟩ := List.mem_map.1 hk
      have h3 : lkL p O = some v := (lk_iff hO).2 hp
      have h4 := hl p
      rw [h3] at h4
      exact List.mem_map.2 ⟨_, (lk_iff hS).1 h4, rfl⟩
    have h5 := h1.length_le_of_subset h2
    rw [List.length_map, List.length_map] at h5
    exact h5
  exact ⟨key oK A h.sa (fun _ _ => oK_inj) h.o, key dK D h.sd (fun _ _ => dK_inj) h.d, key cK S h.ss (fun _ _ => cK_inj) h.c⟩
theorem own_lit (V : World) (p : List UInt8) : (V.alloc (.cells #[.string ⟨p.toArray⟩] 9)).ownsRow V.heap.size 9 1 (.slice (some ⟨V.heap.size, 0, none⟩) 1 1) [p].length ([p].map encStr) := by
  refine ⟨by simp, .inr ⟨V.heap.size, 1, #[.string ⟨p.toArray⟩], rfl, Nat.le_refl _, nb0 _ _, Nat.le_refl _, by unfold maxLen; omega, by simp, ?_⟩⟩
  simp [encStr]
theorem Iv.own {L : Kv Ent} (hI : Iv L) {A D S : Kv (List UInt8)} (hT : Tie L A D S) : ∀ p m, lkL p A = some m → p.length ≤ 60 ∧ m.length ≤ 60 ∧ m ≠ [] := fun p m h => by
  have h1 := hT.o p
  rw [h] at h1
  obtain ⟨n, h2, h3, h4⟩ := hI.owner h1
  rw [h1] at h2
  have e : m = n := by simpa using h2
  exact ⟨hI.path h1, by rw [e]; exact h4, by rw [e]; exact h3⟩
section
variable {w W : World} {s d : Nat} {Z : Nat → Prop} {L : Kv Ent} {r mw md ms : Nat} {A D S : Kv (List UInt8)}
set_option maxRecDepth 100000 in
set_option maxHeartbeats 16000000 in
theorem sameS_any (hJ : SJ w s d L Z W) (hX : RX W r mw md ms A D S) (hT : Tie L A D S) (hI : Iv L) (hn : L.length ≤ 4900) (pa : List UInt8) (hp : pa.length ≤ 70) (hE : ErrT W) : Calls Tryz.prog 20 #[.pointer (some ⟨s, 0, none⟩), .pointer (some ⟨r, 0, none⟩), .string ⟨pa.toArray⟩] W fun x W2 => x = .returned (.bool true) ∧ Below W.heap.size W W2 := by
  obtain ⟨i0, hi0, hz0, hz1, hz2⟩ := infoQ info9
  obtain ⟨hAl, hDl, hSl⟩ := hT.len hJ.srt
  have hown := hI.own hT
  have HOW := Lib.hid hown
  have cO := rowners_any hX (by omega) (fun p m h => by have := (hown p m h).2.1; omega)
  have HTie := Lib.hid hT
  have HI := Lib.hid hI
  have HJ := Lib.hid hJ
  have HX := Lib.hid hX
  have HE := Lib.hid hE
  obtain ⟨os, hos⟩ : ∃ os, os = rown A := ⟨_, rfl⟩
  have HOS := Lib.hid hos
  have hol : os.length ≤ 4900 := by rw [hos, ← hT.ows hI.sd]; exact Nat.le_trans (ows_len L) hn
  rw [← hos] at cO
  have hwz : w.heap.size ≤ W.heap.size := hJ.bl.size
  clear hJ hX hT hI hE hown hos
  go_enter Tryz.func20, Tryz.ntmps20
  go_wp2_with fail
  refine cO.mono ?_
  rintro x V1 ⟨v, rfl, hTx, b1⟩
  obtain ⟨NA, nc, rfl, hTr⟩ := tr_tx hTx
  have cP := owners_gen (HJ.out.up b1) hn HI.out.gd.osm
  rw [HTie.out.ows HI.out.sd, ← HOS.out] at cP
  have HTr := Lib.hid hTr
  have HB1 := Lib.hid b1
  clear cO hTx hTr b1
  go_wp2_with fail
  refine cP.mono ?_
  rintro x U2 ⟨v, rfl, hTx, b2⟩
  obtain ⟨OA, oc, rfl, hTo⟩ := tr_tx hTx
  have cS := sameT_any OA NA oc nc os hTo (HTr.out.on b2) (by omega)
  have HB2u := Lib.hid (HB1.out.trans (b2.mono HB1.out.size))
  have HTr2u := Lib.hid (HTr.out.on b2)
  clear cP hTx hTo b2 HB1 HTr
  go_wp2_with fail
  refine cS.mono ?_
  rintro x V2 ⟨rfl, b2⟩
  have HB2 := Lib.hid (HB2u.out.trans (b2.mono HB2u.out.size))
  have HTr2 := Lib.hid (HTr2u.out.on b2)
  clear cS b2 HB2u HTr2u
  have hb3 := (Below.refl V2.heap.size V2).alloc (Nat.le_refl _) (.cells #[.string ⟨pa.toArray⟩] 9)
  have hrow := own_lit V2 pa
  obtain ⟨B, hB⟩ : ∃ B, B = V2.heap.size := ⟨_, rfl⟩
  obtain ⟨V3, hV3⟩ : ∃ V3, V3 = V2.alloc (.cells #[.string ⟨pa.toArray⟩] 9) := ⟨_, rfl⟩
  rw [← hV3, ← hB] at hrow
  rw [← hV3] at hb3
  have HROW : Hid (∃ al : List (List UInt8), V3.ownsRow B 9 1 (.slice (some ⟨B, 0, none⟩) 1 1) al.length (al.map encStr) ∧ (∀ x ∈ al, x.length ≤ 1000) ∧ al.length ≤ 1 + 0 * 4900 ∧ Below V2.heap.size V2 V3) := ⟨[pa], hrow, fun x hx => by
    have : x = pa := by simpa using hx
    rw [this]; omega, by simp, hb3⟩
  have hBV : B ≤ V2.heap.size := by omega
  go_upto_region 5 with fail
  rw [← hV3, ← hB]
  clear hrow hb3 hV3
  have hBV2 : V2.heap.size ≤ B := by omega
  clear hB
  go_wp2_with fail
  go_loopw [8, 9] (fun av iv Y => ∃ k : Nat, k ≤ os.length ∧ iv = .int .i64 k ∧ Hid (∃ al : List (List UInt8), Y.ownsRow B 9 1 av al.length (al.map encStr) ∧ (∀ x ∈ al, x.length ≤ 1000) ∧ al.length ≤ 1 + k * 4900 ∧ Below V2.heap.size V2 Y)) (fun _ iv _ => os.length - (intOf iv).toNat)
  case atStart => exact ⟨0, Nat.zero_le _, rfl, HROW⟩
  case round =>
    clear HROW
    obtain ⟨k, hk, rfl, HQ⟩ := hrel
    obtain ⟨al, hrow, hax, hall, hbY⟩ := HQ.out
    clear HQ
    by_cases hlt : k < os.length
    · obtain ⟨ng, rfl, _, hng, hnc0⟩ := HTr2.out.c k hlt
      have hWY := HB2.out.trans (hbY.mono HB2.out.size)
      have hnc := (hbY.cell (p := ⟨ng, k, none⟩) hng).trans hnc0
      have hngr := block_lt_of_cell hnc
      have hnm : os[k] ∈ rown A := by rw [← HOS.out]; exact List.getElem_mem hlt
      generalize os[k] = nm at hnc0 hnc hnm
      obtain ⟨p0, hp0⟩ := (mem_rown HX.out.sa).1 hnm
      have hnl : nm.length ≤ 60 := (HOW.out _ _ hp0).2.1
      have hpm : p0 ∈ rpt A nm := (mem_rpt HX.out.sa).2 hp0
      have cP := rpaths_any (HX.out.on hWY) nm (by omega)
      have HPE := Lib.hid (HTie.out.pts HI.out.sd nm)
      have HSE := Lib.hid (HTie.out.sts HI.out.sd nm)
      have hpl : (rpt A nm).length ≤ 4900 := by
        unfold rpt
        rw [List.length_map]
        exact Nat.le_trans (List.length_filter_le _ _) (by omega)
      have HPX : Hid (∀ x ∈ rpt A nm, x.length ≤ 60) := fun x hx => (HOW.out x nm ((mem_rpt HX.out.sa).1 hx)).1
      have hpne : 0 < (rpt A nm).length := List.length_pos_of_mem hpm
      obtain ⟨ps, hps⟩ : ∃ ps, ps = rpt A nm := ⟨_, rfl⟩
      rw [← hps] at cP hpl hpne HPX HPE
      have HPSE := Lib.hid hps
      have HWY := Lib.hid hWY
      have HROW := Lib.hid (And.intro hrow (And.intro hax (And.intro hall hbY)))
      clear hrow hax hall hbY hWY hps hp0 hpm hnm hnc0 hng
      go_wp2_with fail
      refine cP.mono ?_
      rintro x V4 ⟨v, rfl, hTx, b4⟩
      obtain ⟨PA, pc, rfl, hTp⟩ := tr_tx hTx
      have HTp := Lib.hid hTp
      have hW4 := HWY.out.trans (b4.mono HWY.out.size)
      have HB4 := Lib.hid b4
      have LC : V4.drew.cell? ⟨ng, k, none⟩ = some (.string ⟨nm.toArray⟩) := (b4.cell (p := ⟨ng, k, none⟩) hngr).trans hnc
      have bD := (Below.refl V4.heap.size V4).drew
      have hWd := hW4.trans (bD.mono hW4.size)
      have c58 := paths_gen (HJ.out.up hWd) hn HI.out.gd.osm nm (by omega)
      rw [HPE.out] at c58
      have HWd := Lib.hid hWd
      clear cP hTx hTp b4 hnc hW4 hWd
      go_wp2_with fail
      refine wp_region_held (S := fun V => V.cell? ⟨ng, k, none⟩ = some (.string ⟨nm.toArray⟩)) (by kernel_rfl) ?_
      refine take_d (some 37) (i := 0) (v := .pointer (some ⟨s, 0, none⟩)) rfl rfl (by as_aux_lemma => kernel_rfl) (by as_aux_lemma => kernel_rfl) (by as_aux_lemma => kernel_rfl) (fun _ _ _ h => h) (.inl ⟨by kernel_rfl, fun w' hw => by simp [go_sem]⟩) LC ?_
      refine take_d (some 38) (i := 1) (v := .slice (some ⟨ng, 0, none⟩) os.length nc) rfl rfl (by as_aux_lemma => kernel_rfl) (by as_aux_lemma => kernel_rfl) (by as_aux_lemma => kernel_rfl) (fun _ _ _ h => h) (.inl ⟨by kernel_rfl, fun w' hw => by simp [go_sem]⟩) LC ?_
      refine take_d (some 39) (i := 2) (v := .int .i64 k) rfl rfl (by as_aux_lemma => kernel_rfl) (by as_aux_lemma => kernel_rfl) (by as_aux_lemma => kernel_rfl) (fun _ _ _ h => h) (.inl ⟨by kernel_rfl, fun w' hw => by simp [go_sem]⟩) LC ?_
      refine take_d (some 40) (i := 3) (v := .pointer (some ⟨ng, k, none⟩)) rfl rfl (by as_aux_lemma => kernel_rfl) (by as_aux_lemma => kernel_rfl) (by as_aux_lemma => kernel_rfl) (fun _ _ _ h => h) (.inl ⟨by kernel_rfl, fun w' hw => by simp [go_sem, hlt]⟩) LC ?_
      refine take_d (some 41) (i := 4) (v := .string ⟨nm.toArray⟩) rfl rfl (by as_aux_lemma => kernel_rfl) (by as_aux_lemma => kernel_rfl) (by as_aux_lemma => kernel_rfl) (fun _ _ _ h => h) (.inl ⟨by kernel_rfl, fun w' hw => by simp [go_sem, hw]⟩) LC ?_
      refine take_d (some 43) (i := 6) (v := .slice PA ps.length pc) rfl rfl (by as_aux_lemma => kernel_rfl) (by as_aux_lemma => kernel_rfl) (by as_aux_lemma => kernel_rfl) (fun _ _ _ h => h) (.inl ⟨by kernel_rfl, fun w' hw => by simp [go_sem]⟩) LC ?_
      try simp only [Act.put, List.setIfInBounds_toArray, List.set_cons_succ, List.set_cons_zero]
      refine wpAnyH_all (rs := [5]) (by as_aux_lemma => kernel_rfl) (by simp) fun j hj => ?_
      obtain rfl : j = 5 := by simpa using hj
      refine wpOp_want rfl (by kernel_rfl) ?_
      unfold Oper.wp
      simp [go_sem]
      refine c58.mono ?_
      rintro z W5 ⟨v5, rfl, h5, b5⟩
      obtain ⟨QA, qc, rfl, _, hTq⟩ := tr_own h5
      have hngd : ng < V4.drew.heap.size := block_lt_of_cell LC
      replace LC : W5.cell? ⟨ng, k, none⟩ = some (.string ⟨nm.toArray⟩) := (b5.cell (p := ⟨ng, k, none⟩) hngd).trans LC
      have c64 := sameT_any QA PA qc pc ps hTq ((HTp.out.on bD).on b5) (by omega)
      refine ⟨LC, ?_⟩
      try simp only [Act.put, List.setIfInBounds_toArray, List.set_cons_succ, List.set_cons_zero]
      refine wpAnyH_all (rs := [7]) (by as_aux_lemma => kernel_rfl) (by simp) fun j hj => ?_
      obtain rfl : j = 7 := by simpa using hj
      refine wpOp_want rfl (by kernel_rfl) ?_
      unfold Oper.wp
      simp [go_sem]
      refine c64.mono ?_
      rintro z W6 ⟨rfl, b6⟩
      have hng5 : ng < W5.heap.size := block_lt_of_cell LC
      replace LC : W6.cell? ⟨ng, k, none⟩ = some (.string ⟨nm.toArray⟩) := (b6.cell (p := ⟨ng, k, none⟩) hng5).trans LC
      refine ⟨LC, ?_⟩
      refine take_d (some 45) (i := 8) (v := .bool false) rfl rfl (by as_aux_lemma => kernel_rfl) (by as_aux_lemma => kernel_rfl) (by as_aux_lemma => kernel_rfl) (fun _ _ _ h => h) (.inl ⟨by kernel_rfl, fun w' hw => by simp [go_sem]⟩) LC ?_
      refine take_d (some 46) (i := 9) (v := .bool false) rfl rfl (by as_aux_lemma => kernel_rfl) (by as_aux_lemma => kernel_rfl) (by as_aux_lemma => kernel_rfl) (fun _ _ _ h => h) (.inl ⟨by kernel_rfl, fun w' hw => by simp [go_sem]⟩) LC ?_
      refine take_d (some 47) (i := 10) (v := .pointer (some ⟨s, 0, none⟩)) rfl rfl (by as_aux_lemma => kernel_rfl) (by as_aux_lemma => kernel_rfl) (by as_aux_lemma => kernel_rfl) (fun _ _ _ h => h) (.inl ⟨by kernel_rfl, fun w' hw => by simp [go_sem]⟩) LC ?_
      refine take_d (some 48) (i := 11) (v := .slice (some ⟨ng, 0, none⟩) os.length nc) rfl rfl (by as_aux_lemma => kernel_rfl) (by as_aux_lemma => kernel_rfl) (by as_aux_lemma => kernel_rfl) (fun _ _ _ h => h) (.inl ⟨by kernel_rfl, fun w' hw => by simp [go_sem]⟩) LC ?_
      refine take_d (some 49) (i := 12) (v := .int .i64 k) rfl rfl (by as_aux_lemma => kernel_rfl) (by as_aux_lemma => kernel_rfl) (by as_aux_lemma => kernel_rfl) (fun _ _ _ h => h) (.inl ⟨by kernel_rfl, fun w' hw => by simp [go_sem]⟩) LC ?_
      refine take_d (some 50) (i := 13) (v := .pointer (some ⟨ng, k, none⟩)) rfl rfl (by as_aux_lemma => kernel_rfl) (by as_aux_lemma => kernel_rfl) (by as_aux_lemma => kernel_rfl) (fun _ _ _ h => h) (.inl ⟨by kernel_rfl, fun w' hw => by simp [go_sem, hlt]⟩) LC ?_
      refine take_d (some 51) (i := 14) (v := .string ⟨nm.toArray⟩) rfl rfl (by as_aux_lemma => kernel_rfl) (by as_aux_lemma => kernel_rfl) (by as_aux_lemma => kernel_rfl) (fun _ _ _ h => h) (.inl ⟨by kernel_rfl, fun w' hw => by simp [go_sem, hw]⟩) LC ?_
      refine take_d (some 53) (i := 16) (v := .pointer (some ⟨r, 0, none⟩)) rfl rfl (by as_aux_lemma => kernel_rfl) (by as_aux_lemma => kernel_rfl) (by as_aux_lemma => kernel_rfl) (fun _ _ _ h => h) (.inl ⟨by kernel_rfl, fun w' hw => by simp [go_sem]⟩) LC ?_
      refine take_d (some 54) (i := 17) (v := .slice (some ⟨ng, 0, none⟩) os.length nc) rfl rfl (by as_aux_lemma => kernel_rfl) (by as_aux_lemma => kernel_rfl) (by as_aux_lemma => kernel_rfl) (fun _ _ _ h => h) (.inl ⟨by kernel_rfl, fun w' hw => by simp [go_sem]⟩) LC ?_
      refine take_d (some 55) (i := 18) (v := .int .i64 k) rfl rfl (by as_aux_lemma => kernel_rfl) (by as_aux_lemma => kernel_rfl) (by as_aux_lemma => kernel_rfl) (fun _ _ _ h => h) (.inl ⟨by kernel_rfl, fun w' hw => by simp [go_sem]⟩) LC ?_
      refine take_d (some 56) (i := 19) (v := .pointer (some ⟨ng, k, none⟩)) rfl rfl (by as_aux_lemma => kernel_rfl) (by as_aux_lemma => kernel_rfl) (by as_aux_lemma => kernel_rfl) (fun _ _ _ h => h) (.inl ⟨by kernel_rfl, fun w' hw => by simp [go_sem, hlt]⟩) LC ?_
      refine take_d (some 57) (i := 20) (v := .string ⟨nm.toArray⟩) rfl rfl (by as_aux_lemma => kernel_rfl) (by as_aux_lemma => kernel_rfl) (by as_aux_lemma => kernel_rfl) (fun _ _ _ h => h) (.inl ⟨by kernel_rfl, fun w' hw => by simp [go_sem, hw]⟩) LC ?_
      have b56 := b5.trans (b6.mono b5.size)
      have hW5 := HWd.out.trans (b56.mono HWd.out.size)
      have c65 := settings_gen (HJ.out.up hW5) HI.out.gd hn nm (by omega)
      rw [HSE.out] at c65
      try simp only [Act.put, List.setIfInBounds_toArray, List.set_cons_succ, List.set_cons_zero]
      refine wpAnyH_all (rs := [15]) (by as_aux_lemma => kernel_rfl) (by simp) fun j hj => ?_
      obtain rfl : j = 15 := by simpa using hj
      refine wpOp_wantf (k := 9) (d := 46) rfl rfl rfl rfl ?_
      unfold Oper.wp
      simp [go_sem]
      refine c65.mono ?_
      rintro z W7 ⟨SA, sc, rfl, _, hTs, b7⟩
      have hng6 : ng < W6.heap.size := block_lt_of_cell LC
      replace LC : W7.cell? ⟨ng, k, none⟩ = some (.string ⟨nm.toArray⟩) := (b7.cell (p := ⟨ng, k, none⟩) hng6).trans LC
      have hW7 := hW5.trans (b7.mono hW5.size)
      have c66 := rset_any (HX.out.on hW7) nm (by omega) (fun p m h => by have := (HOW.out p m h).1; omega)
      refine ⟨LC, ?_⟩
      try simp only [Act.put, List.setIfInBounds_toArray, List.set_cons_succ, List.set_cons_zero]
      refine wpAnyH_all (rs := [21]) (by as_aux_lemma => kernel_rfl) (by simp) fun j hj => ?_
      obtain rfl : j = 21 := by simpa using hj
      refine wpOp_wantf (k := 9) (d := 46) rfl rfl rfl rfl ?_
      unfold Oper.wp
      simp [go_sem]
      refine c66.mono ?_
      rintro z W8 ⟨v8, rfl, hT8, b8⟩
      obtain ⟨RA, rc, rfl, hTr8⟩ := tr_tx hT8
      have hng7 : ng < W7.heap.size := block_lt_of_cell LC
      replace LC : W8.cell? ⟨ng, k, none⟩ = some (.string ⟨nm.toArray⟩) := (b8.cell (p := ⟨ng, k, none⟩) hng7).trans LC
      have c64b := sameT_any SA RA sc rc (rset A S nm) (hTs.on b8) hTr8 (by unfold rset; rw [← HPSE.out]; exact Nat.le_trans (List.length_filter_le _ _) (by omega))
      refine ⟨LC, ?_⟩
      try simp only [Act.put, List.setIfInBounds_toArray, List.set_cons_succ, List.set_cons_zero]
      refine wpAnyH_all (rs := [22]) (by as_aux_lemma => kernel_rfl) (by simp) fun j hj => ?_
      obtain rfl : j = 22 := by simpa using hj
      refine wpOp_wantf (k := 9) (d := 46) rfl rfl rfl rfl ?_
      unfold Oper.wp
      simp [go_sem]
      refine c64b.mono ?_
      rintro z W9 ⟨rfl, b9⟩
      have hng8 : ng < W8.heap.size := block_lt_of_cell LC
      replace LC : W9.cell? ⟨ng, k, none⟩ = some (.string ⟨nm.toArray⟩) := (b9.cell (p := ⟨ng, k, none⟩) hng8).trans LC
      refine ⟨LC, ?_⟩
      refine take_d (some 60) (i := 23) (v := .bool false) rfl rfl (by as_aux_lemma => kernel_rfl) (by as_aux_lemma => kernel_rfl) (by as_aux_lemma => kernel_rfl) (fun _ _ _ h => h) (.inl ⟨by kernel_rfl, fun w' hw => by simp [go_sem]⟩) LC ?_
      refine take_d (some 61) (i := 24) (v := .bool false) rfl rfl (by as_aux_lemma => kernel_rfl) (by as_aux_lemma => kernel_rfl) (by as_aux_lemma => kernel_rfl) (fun _ _ _ h => h) (.inl ⟨by kernel_rfl, fun w' hw => by simp [go_sem]⟩) LC ?_
      try simp only [Act.put, List.setIfInBounds_toArray, List.set_cons_succ, List.set_cons_zero]
      refine wpAnyH_done (by as_aux_lemma => kernel_rfl) ?_ _
      have b89 := b8.trans (b9.mono b8.size)
      have b48 : Below V4.heap.size V4 W9 := ((bD.trans (b56.mono bD.size)).trans (b7.mono (Nat.le_trans bD.size b56.size))).trans (b89.mono (Nat.le_trans (Nat.le_trans bD.size b56.size) b7.size))
      obtain ⟨hrow, hax, hall, hbY⟩ := HROW.out
      have hYV : Below wr.heap.size wr W9 := HB4.out.trans (b48.mono HB4.out.size)
      have hb8 : Below V2.heap.size V2 W9 := hbY.trans (hYV.mono hbY.size)
      have hrow8 := own_on' hrow hYV
      have hTp8 := HTp.out.on b48
      obtain ⟨pg, rfl, _, hpg8, _⟩ := hTp8.c 0 hpne
      have hnews : ∀ j u, (ps.map encStr)[j]? = some u → W9.cell? ((⟨pg, 0, none⟩ : Addr).add j) = some u := fun j u hj => by
        rw [List.getElem?_map] at hj
        cases hq : ps[j]? with
        | none => rw [hq] at hj; cases hj
        | some q =>
          rw [hq] at hj
          obtain ⟨hjl, hje⟩ := List.getElem?_eq_some_iff.1 hq
          obtain ⟨g2, e2, _, _, h4⟩ := hTp8.c j hjl
          cases e2
          rw [hje] at h4
          have : u = encStr q := by simpa using hj.symm
          rw [this]
          by_cases hj0 : j = 0
          · subst hj0
            simpa [Addr.add, encStr] using h4
          · simpa [Addr.add, encStr, hj0] using h4
      have hone : ∀ u ∈ ps.map encStr, u.oneCell' = true := fun u hu => by
        obtain ⟨q, _, rfl⟩ := List.mem_map.1 hu
        simp [Value.oneCell']
      have hk4 : k * 4900 ≤ 24010000 := by have := Nat.mul_le_mul_right 4900 (Nat.le_trans (Nat.le_of_lt hlt) hol); omega
      have hb8s := hb8.size
      have HNW : Hid (∀ v3 w3, w3.ownsRow B 9 1 v3 (al.length + ps.length) (al.map encStr ++ ps.map encStr) → W9.grownBy w3 u8.ownBlock → ∃ al : List (List UInt8), w3.ownsRow B 9 1 v3 al.length (al.map encStr) ∧ (∀ x ∈ al, x.length ≤ 1000) ∧ al.length ≤ 1 + (k + 1) * 4900 ∧ Below V2.heap.size V2 w3) := fun v3 w3 h1 h2 => ⟨al ++ ps, by rw [List.length_append, List.map_append]; exact h1, fun x hx => by
        rcases List.mem_append.1 hx with hx | hx
        · exact hax x hx
        · have := HPX.out x hx; omega, by rw [List.length_append]; omega, hb8.grown h2 hb8.size (fun j hj => Nat.le_trans hBV2 (hrow8.lt j hj).1)⟩
      clear LC c58 c64 c65 c66 c64b hTq hTs hT8 hTr8 b5 b6 b56 b7 b8 b9 b89 bD hngd hng5 hng6 hng7 hng8 h5 hW5 hW7 b48 hrow hbY hYV hb8 hTp8 hax HB4 HTp HROW HPX HSE HPE HPSE HWd HWY hngr
      go_wp2_with (first
        | (at_builtin; refine wpList_append_own _ rfl _ _ 40 rfl B 9 i0 (.string ⟨#[]⟩) 1 16 Tryz.underlying40 hi0 hz0 hz1 hz2 rfl (by decide) _ _ _ rfl hrow8 ⟨pg, 0, none⟩ ps.length pc (ps.map encStr) rfl (by simp) hnews hone (by unfold maxLen; omega) (by omega) (by omega) ?_; intro v' w3 hown' hg3 hnil3; go_frame))
      exact ⟨⟨k + 1, hlt, by go_num, HNW.out _ _ hown' hg3⟩, by simp [intOf]; omega⟩
    · have hWY := HB2.out.trans (hbY.mono HB2.out.size)
      have hal : al.length ≤ 25000000 := by have := Nat.mul_le_mul_right 4900 (Nat.le_trans hk hol); omega
      obtain ⟨AA, ac2, hu8, _, hTa⟩ := tr_own (v := u8) (l := al) hrow
      subst hu8
      have HTa := Lib.hid hTa
      have HAX := Lib.hid hax
      have HWY := Lib.hid hWY
      obtain ⟨V5, hV5⟩ : ∃ V5, V5 = wr := ⟨_, rfl⟩
      rw [← hV5] at HTa HWY
      rw [← hV5]
      clear hrow hax hall hbY hWY hTa hV5
      go_wp2_with fail
      go_loopw [11] (fun iv Y => ∃ j : Nat, j ≤ al.length ∧ iv = .int .i64 j ∧ Below V5.heap.size V5 Y) (fun iv _ => al.length - (intOf iv).toNat)
      case atStart => exact ⟨0, Nat.zero_le _, rfl, Below.refl _ _⟩
      case round =>
        obtain ⟨j, hj, rfl, hbJ⟩ := hrel
        have hWJ := HWY.out.trans (hbJ.mono HWY.out.size)
        by_cases hjt : j < al.length
        · obtain ⟨ag, rfl, _, hag, hac⟩ := (HTa.out.on hbJ).c j hjt
          have hxl := HAX.out _ (List.getElem_mem hjt)
          generalize al[j] = x at hac hxl
          have bD := (Below.refl wr.heap.size wr).drew
          have hWd := hWJ.trans (bD.mono hWJ.size)
          have hXd := HX.out.on hWd
          have hl1 := mtlook2 hXd.d x (by omega)
          have d0 : wr.drew.cell? ⟨ag, j, none⟩ = some (.string ⟨x.toArray⟩) := hac
          have d1 : wr.drew.cell? ⟨r, 1, none⟩ = some (.map (some md)) := hXd.cl.2.1
          have hrd : r < wr.drew.heap.size := hXd.lt.1
          have cR := sread_any (HJ.out.up hWd) x hxl
          rw [show (ent ([100, 47] ++ x) L).now = tat x D from HTie.out.dat x, show rdc ([100, 47] ++ x) L = (if (lkL x D).isSome = true then 0 else 7) from HTie.out.rd x] at cR
          have HWd := Lib.hid hWd
          have hbJd := hbJ.trans (bD.mono hbJ.size)
          have HBJ := Lib.hid hbJd
          have hagd : ag < wr.drew.heap.size := block_lt_of_cell d0
          have HD0 := Lib.hid d0
          have HOE := Lib.hid (HTie.out.own x)
          generalize hta : tat x A = ta at HOE
          have HTA := Lib.hid hta
          generalize tat x D = td at cR hl1
          obtain ⟨yy, hyy⟩ : ∃ yy, yy = (lkL x D).isSome := ⟨_, rfl⟩
          rw [← hyy] at cR hl1
          clear hta hyy hXd hWd hWJ hbJ hbJd bD hac
          have htt : (td == td) = true := beq_self_eq_true _
          have haa : (ta == ta) = true := beq_self_eq_true _
          have tailQ : ∀ V6, Below wr.drew.heap.size wr.drew V6 → Hid (V6.cell? ⟨ag, j, none⟩ = some (.string ⟨x.toArray⟩) ∧ Below W.heap.size W V6 ∧ Below V5.heap.size V5 V6) := fun V6 b6 => ⟨(b6.cell (p := ⟨ag, j, none⟩) hagd).trans HD0.out, HWd.out.trans (b6.mono HWd.out.size), HBJ.out.trans (b6.mono HBJ.out.size)⟩
          have HTQ := Lib.hid tailQ
          clear tailQ
          cases yy with
          | true =>
            rw [if_pos rfl, show evv 0 = .nilIface from rfl] at cR
            go_wp2_with (go_region)
            refine cR.mono ?_
            rintro z V6 ⟨rfl, b6⟩
            have H6 := HTQ.out V6 b6
            clear cR b6 hl1 d0 d1 hagd hrd HD0 HTQ HWd HBJ
            have hX6 := HX.out.on H6.out.2.1
            have q0 := hX6.cl.1
            have g0 := cell_regrown H6.out.1
            have g1 := cell_regrown q0
            have hr6 := hX6.lt.1
            have hag6 : ag < V6.heap.size := block_lt_of_cell H6.out.1
            have d61 : ∀ dd os, Calls Tryz.prog 61 #[.pointer (some ⟨s, 0, none⟩), .string ⟨x.toArray⟩] (grow (redrawn V6 dd) os) fun z w'' => z = .returned (.string ⟨ta.toArray⟩) ∧ ∃ q : Regrown, w'' = grow (redrawn V6 q.d) q.os := fun dd os => Calls.regrown_of (by rw [← HOE.out]; exact owner_any (HJ.out.up (H6.out.2.1.trans ((below_regrown V6 dd os).mono H6.out.2.1.size))) x hxl)
            have hlk : ∀ dd os, (Instr.lookup 80 (.map (some mw)) (.string ⟨x.toArray⟩) false).run Tryz.prog (grow (redrawn V6 dd) os) = .ok (.string ⟨ta.toArray⟩) (grow (redrawn V6 dd) os) := fun dd os => by
              have := mtlook (HX.out.on (H6.out.2.1.trans ((below_regrown V6 dd os).mono H6.out.2.1.size))).a x (by omega)
              rw [HTA.out] at this
              exact this
            clear hX6 q0
            go_wp2_with fail
            refine wp_region_quiet_below (by kernel_rfl) (by kernel_rfl) ?_
            repeat (any_goals (first | go_big_quiet_step (with_reducible exact d61 _ _) | quiet_step (with_reducible exact d61 _ _)))
            refine wpQuiet_nil ?_
            intro _ hw'
            obtain ⟨⟨dq, osq⟩, hw''⟩ := hw'
            subst hw''
            have HBR := Lib.hid (H6.out.2.2.trans ((below_regrown V6 dq osq).mono H6.out.2.2.size))
            generalize grow (redrawn V6 dq) osq = V7 at HBR ⊢
            clear d61 hlk g0 g1 H6
            go_wp2_with fail
            exact ⟨⟨j + 1, hjt, by go_num, HBR.out⟩, by simp [intOf]; omega⟩
          | false =>
            rw [if_neg (by simp), show evv 7 = .iface 33 (.int .i64 7) from rfl] at cR
            go_wp2_with (go_region)
            refine cR.mono ?_
            rintro z V6 ⟨rfl, b6⟩
            have H6 := HTQ.out V6 b6
            clear cR b6 hl1 d0 d1 hagd hrd HD0 HTQ HWd HBJ
            have hX6 := HX.out.on H6.out.2.1
            have q0 := hX6.cl.1
            have g0 := cell_regrown H6.out.1
            have g1 := cell_regrown q0
            have hr6 := hX6.lt.1
            have hag6 : ag < V6.heap.size := block_lt_of_cell H6.out.1
            have d61 : ∀ dd os, Calls Tryz.prog 61 #[.pointer (some ⟨s, 0, none⟩), .string ⟨x.toArray⟩] (grow (redrawn V6 dd) os) fun z w'' => z = .returned (.string ⟨ta.toArray⟩) ∧ ∃ q : Regrown, w'' = grow (redrawn V6 q.d) q.os := fun dd os => Calls.regrown_of (by rw [← HOE.out]; exact owner_any (HJ.out.up (H6.out.2.1.trans ((below_regrown V6 dd os).mono H6.out.2.1.size))) x hxl)
            have d7 : ∀ dd os, Calls Tryz.prog 7 #[.iface 33 (.int .i64 7), .int .i64 7] (grow (redrawn V6 dd) os) fun z w'' => z = .returned (.bool true) ∧ ∃ q : Regrown, w'' = grow (redrawn V6 q.d) q.os := fun dd os => Calls.regrown_of (bare_errno 7 _ (HE.out.on (H6.out.2.1.trans ((below_regrown V6 dd os).mono H6.out.2.1.size))))
            have hlk : ∀ dd os, (Instr.lookup 80 (.map (some mw)) (.string ⟨x.toArray⟩) false).run Tryz.prog (grow (redrawn V6 dd) os) = .ok (.string ⟨ta.toArray⟩) (grow (redrawn V6 dd) os) := fun dd os => by
              have := mtlook (HX.out.on (H6.out.2.1.trans ((below_regrown V6 dd os).mono H6.out.2.1.size))).a x (by omega)
              rw [HTA.out] at this
              exact this
            clear hX6 q0
            go_wp2_with fail
            refine wp_region_quiet_below (by kernel_rfl) (by kernel_rfl) ?_
            repeat (any_goals (first | go_big_quiet_step (first | with_reducible exact d61 _ _ | with_reducible exact d7 _ _) | quiet_step (first | with_reducible exact d61 _ _ | with_reducible exact d7 _ _)))
            refine wpQuiet_nil ?_
            intro _ hw'
            obtain ⟨⟨dq, osq⟩, hw''⟩ := hw'
            subst hw''
            have HBR := Lib.hid (H6.out.2.2.trans ((below_regrown V6 dq osq).mono H6.out.2.2.size))
            generalize grow (redrawn V6 dq) osq = V7 at HBR ⊢
            clear d61 d7 hlk g0 g1 H6
            go_wp2_with fail
            exact ⟨⟨j + 1, hjt, by go_num, HBR.out⟩, by simp [intOf]; omega⟩
        · have HF := Lib.hid hWJ
          clear hbJ hWJ
          go_wp2
          go_ret
          exact ⟨rfl, HF.out⟩
end
end Go.Proofs.YtlldfmnoidndmaaGreatDoor.Dsk
namespace Go.Proofs.YtlldfmnoidndmaaGreatDoor.Dsk
open Go.RowKit Go.Sort Go.Maps

theorem may10 (b : Nat) (t m : List UInt8) (W : World) (h : W.cell? ⟨b, 14, none⟩ = some (.string ⟨t.toArray⟩)) : Calls Tryz.prog 46 #[.func (.func 10) #[] #[.pointer (some ⟨b, 0, none⟩)], .string ⟨m.toArray⟩] W fun e w' => e = .returned (.bool (tkf t m)) ∧ Below W.heap.size W w' :=
  may_any 10 (enters_of Tryz.func10 (by kernel_rfl) rfl) (.pointer (some ⟨b, 0, none⟩)) m (tkf t m) W fun V hV => tk10 b t m V ((hV.cell (p := ⟨b, 14, none⟩) (block_lt_of_cell h)).trans h)
theorem SJ.kp {w A B : World} {s d : Nat} {Z X : Nat → Prop} {L : Kv Ent} (h : SJ w s d L Z A) (hk : Kp X A B) (hX : ∀ k, X k → Z k ∧ w.heap.size ≤ k) : SJ w s d L Z B := by
  obtain ⟨mb, hx⟩ := h
  have hn : ∀ k, k < A.heap.size → (k = s ∨ DX d mb k) → B.heap[k]? = A.heap[k]? := fun k hk' hk2 => hk.block k hk' (fun e => hx.hz k hk2 (hX k e).1)
  exact ⟨mb, hx.bl.trans (hk.below hx.bl.size fun k h1 h2 => by have := (hX k h2).2; omega), (hn s (hx.lt s (.inl rfl)) (.inl rfl)).trans hx.blk, hx.pd.on fun k hk' h2 => hn k hk' (.inr h2), hx.sp, hx.hx, hx.hz, fun k hk' => Nat.lt_of_lt_of_le (hx.hs k hk') hk.size⟩
/-- Where the law stands. -/
structure LS (W : World) (s d r mw md ms : Nat) (Z : Nat → Prop) (n : Nat) (Y : World) : Prop where
  is : ∃ L A D S, SJ W s d L Z Y ∧ RX Y r mw md ms A D S ∧ Tie L A D S ∧ Iv L ∧ L.length ≤ n
section
variable {W Y : World} {s d r mw md ms n bx : Nat} {Z : Nat → Prop} {L : Kv Ent} {A D S : Kv (List UInt8)}
theorem LS.less {Z' : Nat → Prop} {n' : Nat} (h : LS W s d r mw md ms Z n Y) (hz : ∀ k, Z' k → Z k) (hn : n ≤ n') : LS W s d r mw md ms Z' n' Y := by
  obtain ⟨L, A, D, S, h1, h2, h3, h4, h5⟩ := h.is
  exact ⟨L, A, D, S, h1.less hz, h2, h3, h4, by omega⟩
theorem LS.up {V : World} (h : LS W s d r mw md ms Z n Y) (hb : Below Y.heap.size Y V) : LS W s d r mw md ms Z n V := by
  obtain ⟨L, A, D, S, h1, h2, h3, h4, h5⟩ := h.is
  exact ⟨L, A, D, S, h1.up hb, h2.on hb, h3, h4, h5⟩
theorem rx_zn {V : World} (h : RX Y r mw md ms A D S) (hz : Zn Z Y V) (hZ : ∀ k, (k = r ∨ RM mw md ms k) → Z k) : RX V r mw md ms A D S := h.keep fun j hj => hz j (hZ j hj)
/-- Put, and the reference's behind it, and what the law asks of both. -/
theorem put_both (hJ : SJ W s d L Z Y) (hX : RX Y r mw md ms A D S) (hT : Tie L A D S) (hI : Iv L) (hn : L.length ≤ 1790) (hZ : ∀ k, (k = r ∨ RM mw md ms k) → Z k ∧ W.heap.size ≤ k) (hZ0 : ∀ k, k < W.heap.size → Z k) (hbZ : Z bx) (hbM : ¬ RM mw md ms bx)
    (p : Pck) (vD vA vG vB vR vP vS vL vF va : Value) (t : List UInt8) (aw : List Bool) (hz : Pz W p vD vA vG vB vR vP vS vL vF) (hp : Pg p) (hTb : Tab W) (hM : MaxN W) (hFi : Fi W) (hE : ErrT W) (hAn : An W va aw) (hbx : Y.cell? ⟨bx, 14, none⟩ = some (.string ⟨t.toArray⟩)) :
    Calls Tryz.prog 14 #[.pointer (some ⟨s, 0, none⟩), pkv p.o.n p.o.e p.o.u p.o.r vD vA vG vB vR vP vS vL vF, .func (.func 10) #[] #[.pointer (some ⟨bx, 0, none⟩)], va] Y fun e1 W2 => ∃ v1, e1 = .returned v1 ∧ Zn Z Y W2 ∧
      Calls Tryz.prog 15 #[.pointer (some ⟨r, 0, none⟩), pkv p.o.n p.o.e p.o.u p.o.r vD vA vG vB vR vP vS vL vF, .func (.func 10) #[] #[.pointer (some ⟨bx, 0, none⟩)], va] W2 fun e2 W3 => ∃ c pl, e2 = .returned (.agg #[.int .i64 c, .int .i64 pl]) ∧ LS W s d r mw md ms Z (L.length + 60) W3 ∧ W3.heap[bx]? = Y.heap[bx]? ∧
        Calls Tryz.prog 13 #[v1, .agg #[.int .i64 c, .int .i64 pl]] W3 fun e3 W4 => e3 = .returned (.bool true) ∧ Below W3.heap.size W3 W4 := by
  have hlen := hT.len hJ.srt
  have hown := hI.own hT
  have hbY : bx < Y.heap.size := block_lt_of_cell hbx
  have hFz : Fz Z Y vF p.F := ⟨(hz.on hJ.bl).F, fun b o n c e1 e2 => by
    rcases hz.F.is with ⟨h3, _⟩ | ⟨b3, o3, c3, h3, _, h4⟩
    · exact absurd h3 e2
    · rw [h3] at e1; cases e1; exact hZ0 _ h4.lt⟩
  have hSl : Sl Z Y vS p.S := ⟨(hz.on hJ.bl).S, fun b o n c e1 e2 => by
    rcases hz.S.is with ⟨h3, _⟩ | ⟨b3, o3, c3, h3, _, h4⟩
    · exact absurd h3 e2
    · rw [h3] at e1; cases e1; exact hZ0 _ h4.lt⟩
  have second : ∀ W2, Zn Z Y W2 → ∀ L2, SJ W s d L2 Z W2 → Calls Tryz.prog 15 #[.pointer (some ⟨r, 0, none⟩), pkv p.o.n p.o.e p.o.u p.o.r vD vA vG vB vR vP vS vL vF, .func (.func 10) #[] #[.pointer (some ⟨bx, 0, none⟩)], va] W2 fun x W3 => Rpu W2 r mw md ms A D S p t aw x W3 := fun W2 hzn L2 hJ2 =>
    rput_any (rx_zn hX hzn fun k hk => (hZ k hk).1) p vD vA vG vB vR vP vS vL vF va bx t aw (hz.on hJ2.bl) hp (tab_on hTb hJ2.bl) (hFi.on hJ2.bl) (hAn.on hJ2.bl) (by omega) (by omega) (by omega) (fun q m h => by have := hown q m h; omega) ((hzn.cell hbZ).trans hbx)
  have hZk : ∀ k, RM mw md ms k → Z k ∧ W.heap.size ≤ k := fun k hk => hZ k (.inr hk)
  rcases Bool.eq_false_or_eq_true (aok p) with hok | hok
  · refine (put_gen hJ p vD vA vG vB vR vP vS vL vF va 10 #[.pointer (some ⟨bx, 0, none⟩)] (tkf t) aw (hz.on hJ.bl) hp (tab_on hTb hJ.bl) (hM.on hJ.bl) hok hFz hSl (hAn.on hJ.bl) hI.gd (by have := hI.tot; omega) (by omega) (fun m V _ hV => may10 bx t m V ((hV.cell (p := ⟨bx, 14, none⟩) hbY).trans hbx))).mono ?_
    rintro x W2 (⟨hcl, rfl, hzn, hJ2⟩ | ⟨i, m, hcl, g, rfl, hg1, hg2, hzn, hJ2⟩)
    · refine ⟨_, rfl, hzn, (second W2 hzn _ hJ2).mono ?_⟩
      intro x W3 hR
      cases hR with
      | arg _ h1 _ _ => rw [hok] at h1; cases h1
      | two _ i m h1 h2 _ _ => exact absurd (hT.clash hI.sd hcl h2).1 (by omega)
      | ok _ A' D' S' h1 h2 h3 h4 h5 =>
        obtain ⟨hI2, hl2, hP2⟩ := put_stepA hI hok hp aw hcl
        have hT2 : Tie (putG L p.o.n p.S p.F aw) A' D' S' := hT.put (by unfold cml; rw [cmf_len]; simp) hP2 (by rw [hT.rcm] at h3; exact h3)
        have hJ3 := hJ2.kp h5 hZk
        refine ⟨0, -1, rfl, ⟨_, A', D', S', hJ3, h4, hT2, hI2, hl2⟩, ?_, (is_nil W3).mono fun x W4 h => h⟩
        exact (h5.block bx (hJ2.hs bx hbZ) hbM).trans (hzn bx hbZ)
    · refine ⟨_, rfl, hzn, (second W2 hzn _ hJ2).mono ?_⟩
      intro x W3 hR
      cases hR with
      | arg _ h1 _ _ => rw [hok] at h1; cases h1
      | ok _ A' D' S' h1 h2 _ _ _ => exact absurd (hT.clash hI.sd hcl h2).1 (by omega)
      | two _ i' m' h1 h2 h3 h4 =>
        have he := (hT.clash hI.sd hcl h2).1
        have hi : i' = i := by omega
        subst hi
        have hg3 := (h4.block g (Array.getElem?_eq_some_iff.1 hg2).1).trans hg2
        refine ⟨9, i', rfl, ⟨L, A, D, S, hJ2.up h4, h3, hT, hI, by omega⟩, (h4.block bx (hJ2.hs bx hbZ)).trans (hzn bx hbZ), (is_at 9 i' g W3 (hE.on (hJ2.up h4).bl) (by simp [World.cell?, hg3]) (by simp [World.cell?, hg3])).mono fun x W4 h => h⟩
  · refine (put_arg hJ p vD vA vG vB vR vP vS vL vF va 10 #[.pointer (some ⟨bx, 0, none⟩)] (hz.on hJ.bl) hp (tab_on hTb hJ.bl) (hM.on hJ.bl) hok).mono ?_
    rintro x W2 ⟨rfl, hzn, hJ2⟩
    refine ⟨_, rfl, hzn, (second W2 hzn _ hJ2).mono ?_⟩
    intro x W3 hR
    cases hR with
    | two _ i m h1 _ _ _ => rw [hok] at h1; cases h1
    | ok _ A' D' S' h1 _ _ _ _ => rw [hok] at h1; cases h1
    | arg _ h1 h2 h3 =>
      exact ⟨1, -1, rfl, ⟨L, A, D, S, hJ2.up h3, h2, hT, hI, by omega⟩, (h3.block bx (hJ2.hs bx hbZ)).trans (hzn bx hbZ), (is_errno 1 W3 (hE.on (hJ2.up h3).bl)).mono fun x W4 h => h⟩
theorem drop_both (hJ : SJ W s d L Z Y) (hX : RX Y r mw md ms A D S) (hT : Tie L A D S) (hI : Iv L) (hn : L.length ≤ 1790) (hZ : ∀ k, (k = r ∨ RM mw md ms k) → Z k ∧ W.heap.size ≤ k) (hbZ : Z bx) (hbM : ¬ RM mw md ms bx) (nm : List UInt8) (hnm : nm.length ≤ 40) (all : Bool) :
    Calls Tryz.prog 16 #[.pointer (some ⟨s, 0, none⟩), .string ⟨nm.toArray⟩, .bool all] Y fun e1 W2 => e1 = .returned .nilIface ∧ Zn Z Y W2 ∧
      Calls Tryz.prog 17 #[.pointer (some ⟨r, 0, none⟩), .string ⟨nm.toArray⟩, .bool all] W2 fun e2 W3 => e2 = .returned (.tuple #[]) ∧ LS W s d r mw md ms Z (L.length + 60) W3 ∧ W3.heap[bx]? = Y.heap[bx]? := by
  have hlen := hT.len hJ.srt
  have hown := hI.own hT
  refine (drop_gen hJ hI.gd.osm nm (by omega) all (fun q hq => hI.gd.pts hq) (by have := hI.tot; omega) (by omega)).mono ?_
  rintro x W2 ⟨rfl, hzn, hJ2⟩
  refine ⟨rfl, hzn, (rdrop_any (rx_zn hX hzn fun k hk => (hZ k hk).1) nm all (by omega) (fun q m h => by have := hown q m h; omega)).mono ?_⟩
  rintro x W3 ⟨rfl, h4, h5⟩
  have hD := drop_dp hI.sd nm all
  exact ⟨rfl, ⟨_, _, _, _, hJ2.kp h5 fun k hk => hZ k (.inr hk), h4, hT.drop hD, hD.iv hI, by have := hD.ln; omega⟩, (h5.block bx (hJ2.hs bx hbZ) hbM).trans (hzn bx hbZ)⟩
theorem edit_both (hJ : SJ W s d L Z Y) (hX : RX Y r mw md ms A D S) (hT : Tie L A D S) (hI : Iv L) (hn : L.length ≤ 1790) (hZ : ∀ k, (k = r ∨ RM mw md ms k) → Z k ∧ W.heap.size ≤ k) (hbZ : Z bx) (hbM : ¬ RM mw md ms bx) (pa da : List UInt8) (hpa : pa.length ≤ 70) (hda : da.length ≤ 300) (y : Bool) (hE : ErrT W) :
    Calls Tryz.prog 18 #[.pointer (some ⟨s, 0, none⟩), .string ⟨pa.toArray⟩, .string ⟨da.toArray⟩, .bool y] Y fun e1 W2 => ∃ v1, e1 = .returned v1 ∧ Zn Z Y W2 ∧
      Calls Tryz.prog 19 #[.pointer (some ⟨r, 0, none⟩), .string ⟨pa.toArray⟩, .string ⟨da.toArray⟩, .bool y] W2 fun e2 W3 => ∃ c, e2 = .returned (.int .i64 c) ∧ LS W s d r mw md ms Z (L.length + 60) W3 ∧ W3.heap[bx]? = Y.heap[bx]? ∧
        Calls Tryz.prog 7 #[v1, .int .i64 c] W3 fun e3 W4 => e3 = .returned (.bool true) ∧ Below W3.heap.size W3 W4 := by
  have hlen := hT.len hJ.srt
  have htot := hI.tot
  have hoe : (ent ([111, 47] ++ pa) L).now = tat pa A := hT.own pa
  have hlk : ∀ {o : List UInt8}, tat pa A = o → o ≠ [] → ∃ e, lkL (oK pa) L = some e := fun {o} h1 h2 => by
    unfold tat at h1
    have h3 := hT.o pa
    cases h4 : lkL pa A with
    | none => rw [h4] at h1; exact absurd h1.symm h2
    | some x => rw [h4] at h3; exact ⟨_, h3⟩
  have second : ∀ W2, Zn Z Y W2 → Calls Tryz.prog 19 #[.pointer (some ⟨r, 0, none⟩), .string ⟨pa.toArray⟩, .string ⟨da.toArray⟩, .bool y] W2 fun x W3 => x = .returned (.int .i64 (rE A D pa da y).1) ∧ RX W3 r mw md ms A (rE A D pa da y).2 S ∧ Kp (RM mw md ms) W2 W3 := fun W2 hzn => redit_any (rx_zn hX hzn fun k hk => (hZ k hk).1) pa da y (by omega) (by omega)
  have hZk : ∀ k, RM mw md ms k → Z k ∧ W.heap.size ≤ k := fun k hk => hZ k (.inr hk)
  by_cases e : tat pa A = []
  · refine (edit_none hJ pa da y (by omega) (hoe.trans e)).mono ?_
    rintro x W2 ⟨rfl, hzn, hJ2⟩
    refine ⟨_, rfl, hzn, (second W2 hzn).mono ?_⟩
    rintro x W3 ⟨rfl, h4, h5⟩
    have er : rE A D pa da y = (7, D) := by unfold rE; rw [if_pos e]
    rw [er] at h4 ⊢
    have hJ3 := hJ2.kp h5 hZk
    exact ⟨7, rfl, ⟨L, A, D, S, hJ3, h4, hT, hI, by omega⟩, (h5.block bx (hJ2.hs bx hbZ) hbM).trans (hzn bx hbZ), bare_errno 7 W3 (hE.on hJ3.bl)⟩
  · obtain ⟨e0, he0⟩ := hlk rfl e
    cases y with
    | false =>
      refine (edit_set hJ pa da hpa (by omega) (by omega) (by omega) (fun h => e (hoe.symm.trans h))).mono ?_
      rintro x W2 ⟨rfl, hzn, hJ2⟩
      refine ⟨_, rfl, hzn, (second W2 hzn).mono ?_⟩
      rintro x W3 ⟨rfl, h4, h5⟩
      have er : rE A D pa da false = (0, putL pa da D) := by unfold rE; rw [if_neg e, if_pos rfl]
      rw [er] at h4 ⊢
      have hJ3 := hJ2.kp h5 hZk
      have hI2 : Iv (kpL L ([100, 47] ++ pa) da) := hI.edit (hI.sd.kp _ _ (fr_d pa)) he0 (fun k hk => by rw [hI.sd.lk, if_neg hk]) (fun e1 h1 => by
        rw [hI.sd.lk, if_pos rfl] at h1
        cases h1
        show da.length ≤ 500
        omega)
      have hl2 : (kpL L ([100, 47] ++ pa) da).length ≤ L.length + 60 := by
        rw [kpL_put hI.sd.s hI.sd.fr]
        have := putL_len ([100, 47] ++ pa) (⟨da, some da⟩ : Ent) L
        omega
      exact ⟨0, rfl, ⟨_, A, _, S, hJ3, h4, hT.setD hI.sd pa da, hI2, hl2⟩, (h5.block bx (hJ2.hs bx hbZ) hbM).trans (hzn bx hbZ), bare_nil W3⟩
    | true =>
      refine (edit_miss hJ pa da hpa (by omega) (by omega) (fun h => e (hoe.symm.trans h))).mono ?_
      rintro x W2 ⟨rfl, hzn, hJ2⟩
      refine ⟨_, rfl, hzn, (second W2 hzn).mono ?_⟩
      rintro x W3 ⟨rfl, h4, h5⟩
      have hJ3 := hJ2.kp h5 hZk
      have hT2 := hT.delD hI.sd pa
      have hI2 : Iv (delL ([100, 47] ++ pa) L) := hI.edit (hI.sd.del _) he0 (fun k hk => by rw [del_lk hI.sd.s, if_neg hk]) (fun e1 h1 => by
        rw [del_lk hI.sd.s, if_pos rfl] at h1
        cases h1)
      have hl2 : (delL ([100, 47] ++ pa) L).length ≤ L.length + 60 := by
        have := len_del (L := L) ([100, 47] ++ pa)
        omega
      have hrd : rdc ([100, 47] ++ pa) L = if (lkL pa D).isSome = true then 0 else 7 := hT.rd pa
      rw [hrd]
      cases hs : (lkL pa D).isSome with
      | true =>
        have er : rE A D pa da true = (0, delL pa D) := by unfold rE; rw [if_neg e, if_neg (by simp), if_pos hs]
        rw [er] at h4 ⊢
        exact ⟨0, rfl, ⟨_, A, _, S, hJ3, h4, hT2, hI2, hl2⟩, (h5.block bx (hJ2.hs bx hbZ) hbM).trans (hzn bx hbZ), bare_nil W3⟩
      | false =>
        have er : rE A D pa da true = (7, D) := by unfold rE; rw [if_neg e, if_neg (by simp), if_neg (by rw [hs]; simp)]
        rw [er] at h4 ⊢
        have hdn : lkL pa D = none := by cases h : lkL pa D with | none => rfl | some v => rw [h] at hs; cases hs
        rw [del_none hdn] at hT2
        exact ⟨7, rfl, ⟨_, A, _, S, hJ3, h4, hT2, hI2, hl2⟩, (h5.block bx (hJ2.hs bx hbZ) hbM).trans (hzn bx hbZ), bare_errno 7 W3 (hE.on hJ3.bl)⟩
end
end Go.Proofs.YtlldfmnoidndmaaGreatDoor.Dsk
namespace Go.Proofs.YtlldfmnoidndmaaGreatDoor.Dsk
open Go.RowKit Go.Sort Go.Maps

/-- A move. -/
structure Mv where
  a : Int
  p : Pck
  t : List UInt8
  w : List Bool
  h : List UInt8
  d : List UInt8
  y : Bool
  deriving Inhabited
abbrev mvl (m : Mv) (vD vA vG vB vR vP vS vL vF va : Value) : List Value := [.int .i64 m.a, .string ⟨m.p.o.n.toArray⟩, .int .i64 m.p.o.e, .string ⟨m.p.o.u.toArray⟩, .string ⟨m.p.o.r.toArray⟩, vD, vA, vG, vB, vR, vP, vS, vL, vF, .string ⟨m.t.toArray⟩, va, .string ⟨m.h.toArray⟩, .string ⟨m.d.toArray⟩, .bool m.y]
abbrev mvo (m : Mv) (vD vA vG vB vR vP vS vL vF va : Value) : Obj := .cells (mvl m vD vA vG vB vR vP vS vL vF va).toArray 46
structure MR (W : World) (v : Value) (l : List Mv) : Prop where
  is : (l = [] ∧ ∃ A c, v = .slice A 0 c) ∨ ∃ b o c, v = .slice (some ⟨b, o, none⟩) l.length c ∧ l.length ≤ c ∧ b < W.heap.size ∧ ∀ i (hi : i < l.length), ∃ vD vA vG vB vR vP vS vL vF va, W.rangeAt b (o + i * 19) (mvl l[i] vD vA vG vB vR vP vS vL vF va) ∧ Pz W l[i].p vD vA vG vB vR vP vS vL vF ∧ An W va l[i].w
theorem mv_cell {V : World} {bx : Nat} {m : Mv} {vD vA vG vB vR vP vS vL vF va : Value} (h : V.heap[bx]? = some (mvo m vD vA vG vB vR vP vS vL vF va)) (i : Nat) (v : Value) (hv : (mvl m vD vA vG vB vR vP vS vL vF va)[i]? = some v) : V.cell? ⟨bx, i, none⟩ = some v := by
  simp only [World.cell?, h]
  simpa using hv
theorem mv_pack {V : World} {bx : Nat} {m : Mv} {vD vA vG vB vR vP vS vL vF va : Value} (h : V.heap[bx]? = some (mvo m vD vA vG vB vR vP vS vL vF va)) : V.rangeAt bx 1 [.string ⟨m.p.o.n.toArray⟩, .int .i64 m.p.o.e, .string ⟨m.p.o.u.toArray⟩, .string ⟨m.p.o.r.toArray⟩, vD, vA, vG, vB, vR, vP, vS, vL, vF] := fun j v hj => by
  refine mv_cell h (1 + j) v ?_
  rw [Nat.add_comm]
  show [.string ⟨m.p.o.n.toArray⟩, .int .i64 m.p.o.e, .string ⟨m.p.o.u.toArray⟩, .string ⟨m.p.o.r.toArray⟩, vD, vA, vG, vB, vR, vP, vS, vL, vF, .string ⟨m.t.toArray⟩, va, .string ⟨m.h.toArray⟩, .string ⟨m.d.toArray⟩, .bool m.y][j]? = some v
  have hl : j < 13 := (List.getElem?_eq_some_iff.1 hj).1
  rw [← hj]
  show ([.string ⟨m.p.o.n.toArray⟩, .int .i64 m.p.o.e, .string ⟨m.p.o.u.toArray⟩, .string ⟨m.p.o.r.toArray⟩, vD, vA, vG, vB, vR, vP, vS, vL, vF] ++ [.string ⟨m.t.toArray⟩, va, .string ⟨m.h.toArray⟩, .string ⟨m.d.toArray⟩, .bool m.y])[j]? = _
  exact List.getElem?_append_left hl
theorem wpList_store_new {ops : Array Oper} {rest : List Oper} {o : Oper} {a : Act} {w : World} {Q : Exit → Act → World → Prop} (hgd : o.guard = none) (ty : TypeId) (x y : Operand) (ho : o.op = .store ty x y)
    (cells old : Array Value) (hx : a.eval x = .pointer (some ⟨w.heap.size, 0, none⟩)) (hy : a.eval y = .agg cells) (hi : (Tryz.prog.info? ty).map (·.size) = some cells.size) (hold : old.size = cells.size) (h1 : cells.all (·.oneCell') = true)
    (h : wpList Tryz.prog ops Q rest (a.put o.dst undef) (w.alloc (.cells cells ty))) : wpList Tryz.prog ops Q (o :: rest) a (w.alloc (.cells old ty)) :=
  wpList_store_row hgd ty x y ho w.heap.size cells hx hy ty old (nb0 w _) hi hold h1 (by rw [World.setRow_alloc_new]; exact h)
theorem over_none (w : World) : Calls Tryz.prog 6 #[.pointer none] w fun x W2 => x = .returned (.tuple #[.pointer none, .iface 33 (.int .i64 7)]) ∧ Below w.heap.size w W2 := by
  go_enter Tryz.func6, Tryz.ntmps6
  go_wp2
  go_ret2
  exact ⟨rfl, Below.refl _ _⟩
set_option maxRecDepth 100000 in
set_option maxHeartbeats 32000000 in
theorem plays_row (W : World) (vl : Value) (l : List Mv) (hl : MR W vl l) (hw : ∀ m ∈ l, Pw m.p) (hT : Tab W) (hM : MaxN W) (hFi : Fi W) (hE : ErrT W) : Calls Tryz.prog 3 #[vl] W fun x W2 => x = .returned (.bool true) ∧ Below W.heap.size W W2 := by
  obtain ⟨lA, lc, rfl⟩ : ∃ lA lc, vl = .slice lA l.length lc := by
    rcases hl.is with ⟨h, A, c, h1⟩ | ⟨b, o, c, h1, _⟩
    · rw [h]; exact ⟨_, _, h1⟩
    · exact ⟨_, _, h1⟩
  have HMR : Hid (∀ i (hi : i < l.length), ∃ b o, lA = some ⟨b, o, none⟩ ∧ b < W.heap.size ∧ ∃ vD vA vG vB vR vP vS vL vF va, W.rangeAt b (o + i * 19) (mvl l[i] vD vA vG vB vR vP vS vL vF va) ∧ Pz W l[i].p vD vA vG vB vR vP vS vL vF ∧ An W va l[i].w) := fun i hi => by
    rcases hl.is with ⟨h, _⟩ | ⟨b, o, c, h1, _, hb, h2⟩
    · rw [h] at hi; simp at hi
    · cases h1
      exact ⟨b, o, rfl, hb, h2 i hi⟩
  have HW := Lib.hid hw
  have HT := Lib.hid hT
  have HM := Lib.hid hM
  have HFi := Lib.hid hFi
  have HE := Lib.hid hE
  by_cases h30 : l.length ≤ 30
  case neg =>
    clear hl hw hT hM hFi hE
    go_enter Tryz.func3, Tryz.ntmps3
    go_wp2
    go_ret
    exact ⟨rfl, Below.refl _ _⟩
  have cO := over_any W
  clear hl hw hT hM hFi hE
  go_enter Tryz.func3, Tryz.ntmps3
  go_wp2_with fail
  refine cO.mono ?_
  rintro x V1 ⟨s, rfl, hJ⟩
  obtain ⟨d, hd⟩ : ∃ d, d = W.heap.size := ⟨_, rfl⟩
  rw [← hd] at hJ
  have HJ : Hid (SJ W s d [] (fun k => k < W.heap.size) V1) := by rw [hd] at hJ ⊢; exact hJ
  have cN := over_none V1
  clear cO hJ hd
  go_wp2_with fail
  refine cN.mono ?_
  rintro x V2 ⟨rfl, b2⟩
  have HJ2 := Lib.hid (HJ.out.up b2)
  have cB := bare_errno 7 V2 (HE.out.on HJ2.out.bl)
  clear cN b2 HJ
  go_wp2_with fail
  refine cB.mono ?_
  rintro x V3 ⟨rfl, b3⟩
  have HJ3 := Lib.hid (HJ2.out.up b3)
  have cR := rnew_any V3
  clear cB b3 HJ2
  go_wp2_with fail
  refine cR.mono ?_
  rintro x V4 ⟨r, mw, md, ms, rfl, hr1, hr2, hr3, hr4, hX, b4⟩
  obtain ⟨Z, hZe⟩ : ∃ Z : Nat → Prop, Z = Zu (fun k => k < W.heap.size) V3.heap.size V4.heap.size := ⟨_, rfl⟩
  have hlt := hX.lt
  have hW3 := HJ3.out.bl.size
  have HZ : Hid (∀ k, (k = r ∨ RM mw md ms k) → Z k ∧ W.heap.size ≤ k) := fun k hk => by
    rw [hZe]
    rcases hk with rfl | rfl | rfl | rfl
    · exact ⟨.inr ⟨by omega, by omega⟩, by omega⟩
    · exact ⟨.inr ⟨by omega, by omega⟩, by omega⟩
    · exact ⟨.inr ⟨by omega, by omega⟩, by omega⟩
    · exact ⟨.inr ⟨by omega, by omega⟩, by omega⟩
  have HZ0 : Hid (∀ k, k < W.heap.size → Z k) := fun k hk => by rw [hZe]; exact .inl hk
  have hJ4 := HJ3.out.add b4
  rw [← hZe] at hJ4
  have HL0 : Hid (LS W s d r mw md ms Z (60 * 0) V4) := ⟨[], [], [], [], hJ4, hX, tie_nil, iv_nil, Nat.zero_le _⟩
  have HMt : Hid (∀ k, RM mw md ms k → k < V4.heap.size) := fun k hk => by
    rcases hk with rfl | rfl | rfl
    · exact hlt.2.1
    · exact hlt.2.2.1
    · exact hlt.2.2.2
  have H4Z : Hid (∀ k, Z k → k < V4.heap.size) := hJ4.hs
  clear cR hX b4 hJ4 hZe HJ3 hlt hr1 hr2 hr3 hr4 hW3
  go_wp2_with fail
  go_loopw [8] (fun iv Y => ∃ k : Nat, k ≤ l.length ∧ iv = .int .i64 k ∧ Hid (LS W s d r mw md ms Z (60 * k) Y) ∧ V4.heap.size ≤ Y.heap.size) (fun iv _ => l.length - (intOf iv).toNat)
  case atStart => exact ⟨0, Nat.zero_le _, rfl, HL0, Nat.le_refl _⟩
  case round =>
    clear HL0
    obtain ⟨k, hk, rfl, HK, h4Y⟩ := hrel
    by_cases hlt : k < l.length
    · obtain ⟨b, o, rfl, hb, vD, vA, vG, vB, vR, vP, vS, vL, vF, va, hra0, hPz, hAn⟩ := HMR.out k hlt
      have hPw := HW.out _ (List.getElem_mem hlt)
      generalize l[k] = m at hra0 hPz hAn hPw
      obtain ⟨L, A, D, S, hJ, hX, hTi, hI, hLn⟩ := HK.out
      obtain ⟨D1, D2, hvD⟩ := as_sl hPz.D
      obtain ⟨A1, A2, hvA⟩ := as_sl hPz.A
      obtain ⟨G1, G2, hvG⟩ := ts_sl hPz.G
      obtain ⟨Q1, Q2, hvB⟩ := ts_sl hPz.B
      obtain ⟨R1, R2, hvR⟩ := ts_sl hPz.R
      obtain ⟨P1, P2, hvP⟩ := ts_sl hPz.P
      obtain ⟨S1, S2, hvS⟩ := ss_sl hPz.S
      obtain ⟨L1, L2, hvL⟩ := ss_sl hPz.L
      obtain ⟨F1, F2, hvF⟩ := fs_sl hPz.F
      obtain ⟨W1, W2, hva⟩ : ∃ ap ac, va = .slice ap m.w.length ac := by
        rcases hAn.is with ⟨h, A, c, h1⟩ | ⟨b, o, c, h1, _⟩
        · rw [h]; exact ⟨_, _, h1⟩
        · exact ⟨_, _, h1⟩
      have hra : wr.rangeAt b (o + k * 19) (mvl m vD vA vG vB vR vP vS vL vF va) := fun j v hj => (hJ.bl.cell (p := ⟨b, o + k * 19 + j, none⟩) hb).trans (hra0 j v hj)
      have hbw : b < wr.heap.size := Nat.lt_of_lt_of_le hb hJ.bl.size
      have hbB := (Below.refl wr.heap.size wr).alloc (Nat.le_refl _) (mvo m vD vA vG vB vR vP vS vL vF va)
      have hxB := nb0 wr (mvo m vD vA vG vB vR vP vS vL vF va)
      obtain ⟨bx, hbx⟩ : ∃ bx, bx = wr.heap.size := ⟨_, rfl⟩
      obtain ⟨V5, hV5⟩ : ∃ V5, V5 = wr.alloc (mvo m vD vA vG vB vR vP vS vL vF va) := ⟨_, rfl⟩
      rw [← hV5] at hbB hxB
      rw [← hbx] at hxB
      have hJ5 := hJ.add hbB
      obtain ⟨Z2, hZ2⟩ : ∃ Z2 : Nat → Prop, Z2 = Zu Z wr.heap.size V5.heap.size := ⟨_, rfl⟩
      rw [← hZ2] at hJ5
      have HZZ : Hid (∀ k, Z k → Z2 k) := fun k hk => by rw [hZ2]; exact .inl hk
      have HbZ : Hid (Z2 bx ∧ ¬ RM mw md ms bx) := ⟨by rw [hZ2]; exact .inr ⟨by omega, by have := (Array.getElem?_eq_some_iff.1 hxB).1; omega⟩, fun hr => by have := HMt.out bx hr; omega⟩
      have HZ2 : Hid (∀ k, (k = r ∨ RM mw md ms k) → Z2 k ∧ W.heap.size ≤ k) := fun k hk => ⟨HZZ.out k (HZ.out k hk).1, (HZ.out k hk).2⟩
      have HZ02 : Hid (∀ k, k < W.heap.size → Z2 k) := fun k hk => HZZ.out k (HZ0.out k hk)
      have H4X : Hid (LS W s d r mw md ms Z2 (60 * k) V5) := ⟨L, A, D, S, hJ5, hX.on hbB, hTi, hI, hLn⟩
      have HXB := Lib.hid hxB
      have hPzB : Pz W m.p vD vA vG vB vR vP vS vL vF := hPz
      have HPz := Lib.hid hPzB
      have HAn := Lib.hid hAn
      have cY := says_any m.p vD vA vG vB vR vP vS vL vF V5 (hPz.on hJ5.bl)
      have HBL := Lib.hid hJ5.bl
      have h4bx : V4.heap.size ≤ bx := by rw [hbx]; exact h4Y
      subst hvD hvA hvG hvB hvR hvP hvS hvL hvF hva
      clear hJ hX hTi hI hLn hPz hPzB hAn hra0 hbB hxB hJ5 hZ2 HK HMR h4Y
      go_upto_region 11 with fail
      refine wp_region_lit ?_
      refine wpList_plain rfl fun K hK => ?_
      unfold Oper.wp
      simp [go_sem]
      refine hK _ _ ?_
      clear hK K
      refine wpList_plain rfl fun K hK => ?_
      unfold Oper.wp
      simp [go_sem]
      refine hK _ _ ?_
      clear hK K
      refine wpList_plain rfl fun K hK => ?_
      unfold Oper.wp
      simp [go_sem, hlt]
      refine hK _ _ ?_
      clear hK K
      refine wpList_load_mid rfl 46 _ rfl b (o + k * 19) rfl _ _ hra Tryz.underlying46 rfl (by kernel_rfl) ?_
      refine wpList_plain rfl fun K hK => ?_
      unfold Oper.wp
      simp [go_sem]
      refine hK _ _ ?_
      clear hK K
      refine wpList_store_new rfl 46 _ _ rfl _ _ rfl rfl (by kernel_rfl) (by rfl) (by first | rfl | simp [Value.oneCell']) ?_
      go_frame
      rw [← hbx]
      clear hra hbw
      have hV5' : wr.alloc (.cells (mvl m (.slice D1 m.p.D.length D2) (.slice A1 m.p.A.length A2) (.slice G1 m.p.G.length G2) (.slice Q1 m.p.B.length Q2) (.slice R1 m.p.R.length R2) (.slice P1 m.p.o.P.length P2) (.slice S1 m.p.S.length S2) (.slice L1 m.p.L.length L2) (.slice F1 m.p.F.length F2) (.slice W1 m.w.length W2)).toArray 46) = V5 := hV5.symm
      try rw [hV5']
      clear hV5 hV5' hbx
      have h4b : V4.heap.size ≤ bx := h4bx
      have hrP := mv_pack HXB.out
      have hbx5 : bx < V5.heap.size := (Array.getElem?_eq_some_iff.1 HXB.out).1
      go_upto_region 12 with fail
      refine wp_region_lit ?_
      refine wpList_plain rfl fun K hK => ?_
      unfold Oper.wp
      simp [go_sem]
      refine hK _ _ ?_
      clear hK K
      refine wpList_load_mid rfl 43 _ rfl bx 1 rfl _ _ hrP Tryz.underlying43 rfl (by kernel_rfl) ?_
      go_frame
      go_wp2_with fail
      refine cY.mono ?_
      rintro x Y1 ⟨⟨y, rfl, hy⟩, b1⟩
      have HY := Lib.hid hy
      have H1X := Lib.hid ((b1.block bx hbx5).trans HXB.out)
      have H1L := Lib.hid (H4X.out.up b1)
      have h51 : bx < Y1.heap.size := Nat.lt_of_lt_of_le hbx5 b1.size
      clear cY hy b1 hrP H4X HXB HBL
      cases y with
      | false =>
        clear HY
        have HFz : Hid (LS W s d r mw md ms Z (60 * (k + 1)) Y1) := H1L.out.less HZZ.out (by omega)
        go_wp2_with fail
        exact ⟨⟨k + 1, hlt, by go_num, HFz, by omega⟩, by simp [intOf]; omega⟩
      | true =>
        have hSok := HY.out rfl
        have hPg := pg_of hSok hPw
        clear HY hPw
        have c0 := mv_cell H1X.out 0 _ rfl
        have c1 := mv_cell H1X.out 1 _ rfl
        have c14 := mv_cell H1X.out 14 _ rfl
        have c15 := mv_cell H1X.out 15 _ rfl
        have c16 := mv_cell H1X.out 16 _ rfl
        have c17 := mv_cell H1X.out 17 _ rfl
        have c18 := mv_cell H1X.out 18 _ rfl
        have hbxl : bx < Y1.heap.size := block_lt_of_cell c0
        by_cases h70 : m.h.length ≤ 70
        case neg =>
          have g70 : (70 : Int) < (m.h.length : Int) := by omega
          have HFz : Hid (LS W s d r mw md ms Z (60 * (k + 1)) Y1) := H1L.out.less HZZ.out (by omega)
          go_wp2_with fail
          exact ⟨⟨k + 1, hlt, by go_num, HFz, by omega⟩, by simp [intOf]; omega⟩
        have g70 : ¬ (70 : Int) < (m.h.length : Int) := by omega
        by_cases h300 : m.d.length ≤ 300
        case neg =>
          have g300 : (300 : Int) < (m.d.length : Int) := by omega
          have HFz : Hid (LS W s d r mw md ms Z (60 * (k + 1)) Y1) := H1L.out.less HZZ.out (by omega)
          go_wp2_with fail
          exact ⟨⟨k + 1, hlt, by go_num, HFz, by omega⟩, by simp [intOf]; omega⟩
        have g300 : ¬ (300 : Int) < (m.d.length : Int) := by omega
        by_cases hw30 : m.w.length ≤ 30
        case neg =>
          have gw : (30 : Int) < (m.w.length : Int) := by omega
          have HFz : Hid (LS W s d r mw md ms Z (60 * (k + 1)) Y1) := H1L.out.less HZZ.out (by omega)
          go_wp2_with fail
          exact ⟨⟨k + 1, hlt, by go_num, HFz, by omega⟩, by simp [intOf]; omega⟩
        have gw : ¬ (30 : Int) < (m.w.length : Int) := by omega
        by_cases e0 : m.a = 0
        · rw [e0] at c0
          obtain ⟨L, A, D, S, hJ, hX, hTi, hI, hLn⟩ := H1L.out
          have hlen := hTi.len hJ.srt
          have hown := hI.own hTi
          have hFl := fls_p hPg.F
          have hnl : m.p.o.n.length ≤ 60 := hSok.n
          have cC1 := rclash_any hX (by omega) (fun q n h => by have := hown q n h; omega) m.p.o.n m.p.o.e m.p.o.u m.p.o.r (.slice D1 m.p.D.length D2) (.slice A1 m.p.A.length A2) (.slice G1 m.p.G.length G2) (.slice Q1 m.p.B.length Q2) (.slice R1 m.p.R.length R2) (.slice P1 m.p.o.P.length P2) (.slice S1 m.p.S.length S2) (.slice L1 m.p.L.length L2) (.slice F1 m.p.F.length F2) bx m.t m.p.F (HPz.out.on hJ.bl).F (by omega) (fun f hf => by have := (hFl.2 f hf).1; omega) c14
          have HJ1 := Lib.hid hJ
          have HX1 := Lib.hid hX
          have HTi := Lib.hid hTi
          have HI := Lib.hid hI
          have HFl := Lib.hid hFl
          have hFl1 := hFl.1
          have hrP := mv_pack H1X.out
          clear hJ hX hTi hI hown hFl H1L
          go_upto_region 16 with fail
          refine wp_region_lit ?_
          refine wpList_plain rfl fun K hK => ?_
          unfold Oper.wp
          simp [go_sem]
          refine hK _ _ ?_
          clear hK K
          refine wpList_plain rfl fun K hK => ?_
          unfold Oper.wp
          simp [go_sem]
          refine hK _ _ ?_
          clear hK K
          refine wpList_load_mid rfl 43 _ rfl bx 1 rfl _ _ hrP Tryz.underlying43 rfl (by kernel_rfl) ?_
          go_frame
          go_wp2_with fail
          refine cC1.mono ?_
          rintro x Y2 ⟨⟨ci, cn, rfl, hcl1⟩, b2⟩
          have hJ2 := HJ1.out.up b2
          have hx2 := (b2.block bx h51).trans H1X.out
          have HCl1 := Lib.hid hcl1
          have c14 := mv_cell hx2 14 _ rfl
          have hbx2 : bx < Y2.heap.size := block_lt_of_cell c14
          have cC2 := clash_gen hJ2 (by omega) HI.out.gd.osm m.p.o.n (by omega) m.p.o.e m.p.o.u m.p.o.r (.slice D1 m.p.D.length D2) (.slice A1 m.p.A.length A2) (.slice G1 m.p.G.length G2) (.slice Q1 m.p.B.length Q2) (.slice R1 m.p.R.length R2) (.slice P1 m.p.o.P.length P2) (.slice S1 m.p.S.length S2) (.slice L1 m.p.L.length L2) (.slice F1 m.p.F.length F2) 10 #[.pointer (some ⟨bx, 0, none⟩)] (tkf m.t) m.p.F (HPz.out.on hJ2.bl).F (by omega) (fun f hf => by have := (HFl.out.2 f hf).1; omega) (fun q p hp => HI.out.gd.pts hp) (fun n V _ hV => may10 bx m.t n V ((hV.cell (p := ⟨bx, 14, none⟩) hbx2).trans c14))
          have hrP := mv_pack hx2
          have HJ2 := Lib.hid hJ2
          have HX2 := Lib.hid (HX1.out.on b2)
          have H2X := Lib.hid hx2
          clear cC1 hcl1 b2 HJ1 HX1 H1X hJ2 hx2 c0 c1 c15 c16 c17 c18 hbxl h51 hbx5
          go_upto_region 17 with fail
          refine wp_region_lit ?_
          refine wpList_plain rfl fun K hK => ?_
          unfold Oper.wp
          simp [go_sem]
          refine hK _ _ ?_
          clear hK K
          refine wpList_plain rfl fun K hK => ?_
          unfold Oper.wp
          simp [go_sem]
          refine hK _ _ ?_
          clear hK K
          refine wpList_load_mid rfl 43 _ rfl bx 1 rfl _ _ hrP Tryz.underlying43 rfl (by kernel_rfl) ?_
          go_frame
          go_wp2_with fail
          refine cC2.mono ?_
          rintro x Y3 ⟨⟨cj, cm, rfl, hcl2⟩, b3⟩
          obtain ⟨rfl, rfl⟩ := HTi.out.clash HI.out.sd hcl2 HCl1.out
          have bD := (Below.refl Y3.heap.size Y3).drew
          have b3d := b3.trans (bD.mono b3.size)
          have hJ3 := HJ2.out.up b3d
          have LC : Y3.drew.heap[bx]? = some (mvo m (.slice D1 m.p.D.length D2) (.slice A1 m.p.A.length A2) (.slice G1 m.p.G.length G2) (.slice Q1 m.p.B.length Q2) (.slice R1 m.p.R.length R2) (.slice P1 m.p.o.P.length P2) (.slice S1 m.p.S.length S2) (.slice L1 m.p.L.length L2) (.slice F1 m.p.F.length F2) (.slice W1 m.w.length W2)) := (b3d.block bx hbx2).trans H2X.out
          have cP := put_both hJ3 (HX2.out.on b3d) HTi.out HI.out (by omega) HZ2.out HZ02.out HbZ.out.1 HbZ.out.2 m.p (.slice D1 m.p.D.length D2) (.slice A1 m.p.A.length A2) (.slice G1 m.p.G.length G2) (.slice Q1 m.p.B.length Q2) (.slice R1 m.p.R.length R2) (.slice P1 m.p.o.P.length P2) (.slice S1 m.p.S.length S2) (.slice L1 m.p.L.length L2) (.slice F1 m.p.F.length F2) (.slice W1 m.w.length W2) m.t m.w HPz.out hPg HT.out HM.out HFi.out HE.out HAn.out (mv_cell LC 14 _ rfl)
          clear cC2 hcl2 b3 bD b3d HJ2 HX2 H2X HCl1 hJ3 hrP c14 hbx2
          go_upto_region 18 with fail
          refine wp_region_held (S := fun V => V.heap[bx]? = some (mvo m (.slice D1 m.p.D.length D2) (.slice A1 m.p.A.length A2) (.slice G1 m.p.G.length G2) (.slice Q1 m.p.B.length Q2) (.slice R1 m.p.R.length R2) (.slice P1 m.p.o.P.length P2) (.slice S1 m.p.S.length S2) (.slice L1 m.p.L.length L2) (.slice F1 m.p.F.length F2) (.slice W1 m.w.length W2))) (by kernel_rfl) ?_
          refine take_d (some 97) (i := 0) (v := .int .i64 cj) rfl rfl (by as_aux_lemma => kernel_rfl) (by as_aux_lemma => kernel_rfl) (by as_aux_lemma => kernel_rfl) (fun _ _ _ h => h) (.inl ⟨by kernel_rfl, fun w' hw => by simp [go_sem]⟩) LC ?_
          refine take_d (some 98) (i := 1) (v := .int .i64 cj) rfl rfl (by as_aux_lemma => kernel_rfl) (by as_aux_lemma => kernel_rfl) (by as_aux_lemma => kernel_rfl) (fun _ _ _ h => h) (.inl ⟨by kernel_rfl, fun w' hw => by simp [go_sem]⟩) LC ?_
          refine take_d (some 99) (i := 2) (v := .bool false) rfl rfl (by as_aux_lemma => kernel_rfl) (by as_aux_lemma => kernel_rfl) (by as_aux_lemma => kernel_rfl) (fun _ _ _ h => h) (.inl ⟨by kernel_rfl, fun w' hw => by simp [go_sem]⟩) LC ?_
          refine take_d (some 100) (i := 3) (v := .bool false) rfl rfl (by as_aux_lemma => kernel_rfl) (by as_aux_lemma => kernel_rfl) (by as_aux_lemma => kernel_rfl) (fun _ _ _ h => h) (.inl ⟨by kernel_rfl, fun w' hw => by simp [go_sem]⟩) LC ?_
          refine take_d (some 101) (i := 4) (v := .string ⟨cm.toArray⟩) rfl rfl (by as_aux_lemma => kernel_rfl) (by as_aux_lemma => kernel_rfl) (by as_aux_lemma => kernel_rfl) (fun _ _ _ h => h) (.inl ⟨by kernel_rfl, fun w' hw => by simp [go_sem]⟩) LC ?_
          refine take_d (some 102) (i := 5) (v := .string ⟨cm.toArray⟩) rfl rfl (by as_aux_lemma => kernel_rfl) (by as_aux_lemma => kernel_rfl) (by as_aux_lemma => kernel_rfl) (fun _ _ _ h => h) (.inl ⟨by kernel_rfl, fun w' hw => by simp [go_sem]⟩) LC ?_
          refine take_d (some 103) (i := 6) (v := .bool false) rfl rfl (by as_aux_lemma => kernel_rfl) (by as_aux_lemma => kernel_rfl) (by as_aux_lemma => kernel_rfl) (fun _ _ _ h => h) (.inl ⟨by kernel_rfl, fun w' hw => by simp [go_sem]⟩) LC ?_
          refine take_d (some 104) (i := 7) (v := .bool false) rfl rfl (by as_aux_lemma => kernel_rfl) (by as_aux_lemma => kernel_rfl) (by as_aux_lemma => kernel_rfl) (fun _ _ _ h => h) (.inl ⟨by kernel_rfl, fun w' hw => by simp [go_sem]⟩) LC ?_
          refine take_d (some 105) (i := 8) (v := .bool false) rfl rfl (by as_aux_lemma => kernel_rfl) (by as_aux_lemma => kernel_rfl) (by as_aux_lemma => kernel_rfl) (fun _ _ _ h => h) (.inl ⟨by kernel_rfl, fun w' hw => by simp [go_sem]⟩) LC ?_
          refine take_d (some 106) (i := 9) (v := .pointer (some ⟨s, 0, none⟩)) rfl rfl (by as_aux_lemma => kernel_rfl) (by as_aux_lemma => kernel_rfl) (by as_aux_lemma => kernel_rfl) (fun _ _ _ h => h) (.inl ⟨by kernel_rfl, fun w' hw => by simp [go_sem]⟩) LC ?_
          refine take_d (some 107) (i := 10) (v := .pointer (some ⟨bx, 1, none⟩)) rfl rfl (by as_aux_lemma => kernel_rfl) (by as_aux_lemma => kernel_rfl) (by as_aux_lemma => kernel_rfl) (fun _ _ _ h => h) (.inl ⟨by kernel_rfl, fun w' hw => by simp [go_sem]⟩) LC ?_
          try simp only [Act.put, List.setIfInBounds_toArray, List.set_cons_succ, List.set_cons_zero]
          refine take_d (some 108) (i := 11) rfl rfl (by as_aux_lemma => kernel_rfl) (by as_aux_lemma => kernel_rfl) (by as_aux_lemma => kernel_rfl) (fun _ _ _ h => h) (yieldsIf_load_mid (by kernel_rfl) 43 _ rfl bx 1 rfl _ _ (fun V hV => mv_pack hV) Tryz.underlying43 rfl (by kernel_rfl)) LC ?_
          refine take_d (some 109) (i := 12) (v := .func (.func 10) #[] #[.pointer (some ⟨bx, 0, none⟩)]) rfl rfl (by as_aux_lemma => kernel_rfl) (by as_aux_lemma => kernel_rfl) (by as_aux_lemma => kernel_rfl) (fun _ _ _ h => h) (.inl ⟨by kernel_rfl, fun w' hw => by simp [go_sem]⟩) LC ?_
          refine take_d (some 110) (i := 13) (v := .pointer (some ⟨bx, 15, none⟩)) rfl rfl (by as_aux_lemma => kernel_rfl) (by as_aux_lemma => kernel_rfl) (by as_aux_lemma => kernel_rfl) (fun _ _ _ h => h) (.inl ⟨by kernel_rfl, fun w' hw => by simp [go_sem]⟩) LC ?_
          refine take_d (some 111) (i := 14) (v := .slice W1 m.w.length W2) rfl rfl (by as_aux_lemma => kernel_rfl) (by as_aux_lemma => kernel_rfl) (by as_aux_lemma => kernel_rfl) (fun _ _ _ h => h) (.inl ⟨by kernel_rfl, fun w' hw => by simp [go_sem, mv_cell hw 15 _ rfl]⟩) LC ?_
          refine take_d (some 113) (i := 16) (v := .pointer (some ⟨r, 0, none⟩)) rfl rfl (by as_aux_lemma => kernel_rfl) (by as_aux_lemma => kernel_rfl) (by as_aux_lemma => kernel_rfl) (fun _ _ _ h => h) (.inl ⟨by kernel_rfl, fun w' hw => by simp [go_sem]⟩) LC ?_
          refine take_d (some 114) (i := 17) (v := .pointer (some ⟨bx, 1, none⟩)) rfl rfl (by as_aux_lemma => kernel_rfl) (by as_aux_lemma => kernel_rfl) (by as_aux_lemma => kernel_rfl) (fun _ _ _ h => h) (.inl ⟨by kernel_rfl, fun w' hw => by simp [go_sem]⟩) LC ?_
          try simp only [Act.put, List.setIfInBounds_toArray, List.set_cons_succ, List.set_cons_zero]
          refine take_d (some 115) (i := 18) rfl rfl (by as_aux_lemma => kernel_rfl) (by as_aux_lemma => kernel_rfl) (by as_aux_lemma => kernel_rfl) (fun _ _ _ h => h) (yieldsIf_load_mid (by kernel_rfl) 43 _ rfl bx 1 rfl _ _ (fun V hV => mv_pack hV) Tryz.underlying43 rfl (by kernel_rfl)) LC ?_
          refine take_d (some 116) (i := 19) (v := .func (.func 10) #[] #[.pointer (some ⟨bx, 0, none⟩)]) rfl rfl (by as_aux_lemma => kernel_rfl) (by as_aux_lemma => kernel_rfl) (by as_aux_lemma => kernel_rfl) (fun _ _ _ h => h) (.inl ⟨by kernel_rfl, fun w' hw => by simp [go_sem]⟩) LC ?_
          refine take_d (some 117) (i := 20) (v := .pointer (some ⟨bx, 15, none⟩)) rfl rfl (by as_aux_lemma => kernel_rfl) (by as_aux_lemma => kernel_rfl) (by as_aux_lemma => kernel_rfl) (fun _ _ _ h => h) (.inl ⟨by kernel_rfl, fun w' hw => by simp [go_sem]⟩) LC ?_
          refine take_d (some 118) (i := 21) (v := .slice W1 m.w.length W2) rfl rfl (by as_aux_lemma => kernel_rfl) (by as_aux_lemma => kernel_rfl) (by as_aux_lemma => kernel_rfl) (fun _ _ _ h => h) (.inl ⟨by kernel_rfl, fun w' hw => by simp [go_sem, mv_cell hw 15 _ rfl]⟩) LC ?_
          try simp only [Act.put, List.setIfInBounds_toArray, List.set_cons_succ, List.set_cons_zero]
          refine wpAnyH_all (rs := [15]) (by as_aux_lemma => kernel_rfl) (by simp) fun j hj => ?_
          obtain rfl : j = 15 := by simpa using hj
          refine wpOp_wantf (k := 8) (d := 105) rfl rfl rfl rfl ?_
          unfold Oper.wp
          simp [go_sem]
          refine cP.mono ?_
          rintro z Y4 ⟨v1, rfl, hz4, cP2⟩
          replace LC : Y4.heap[bx]? = some (mvo m (.slice D1 m.p.D.length D2) (.slice A1 m.p.A.length A2) (.slice G1 m.p.G.length G2) (.slice Q1 m.p.B.length Q2) (.slice R1 m.p.R.length R2) (.slice P1 m.p.o.P.length P2) (.slice S1 m.p.S.length S2) (.slice L1 m.p.L.length L2) (.slice F1 m.p.F.length F2) (.slice W1 m.w.length W2)) := (hz4 bx HbZ.out.1).trans LC
          refine ⟨LC, ?_⟩
          try simp only [Act.put, List.setIfInBounds_toArray, List.set_cons_succ, List.set_cons_zero]
          refine wpAnyH_all (rs := [22]) (by as_aux_lemma => kernel_rfl) (by simp) fun j hj => ?_
          obtain rfl : j = 22 := by simpa using hj
          refine wpOp_wantf (k := 8) (d := 105) rfl rfl rfl rfl ?_
          unfold Oper.wp
          simp [go_sem]
          refine cP2.mono ?_
          rintro z Y5 ⟨fc, fpl, rfl, hL5, hx5, cIs⟩
          have LC5 : Y5.heap[bx]? = some (mvo m (.slice D1 m.p.D.length D2) (.slice A1 m.p.A.length A2) (.slice G1 m.p.G.length G2) (.slice Q1 m.p.B.length Q2) (.slice R1 m.p.R.length R2) (.slice P1 m.p.o.P.length P2) (.slice S1 m.p.S.length S2) (.slice L1 m.p.L.length L2) (.slice F1 m.p.F.length F2) (.slice W1 m.w.length W2)) := hx5.trans ((hz4 bx HbZ.out.1).symm.trans LC)
          refine ⟨LC5, ?_⟩
          try simp only [Act.put, List.setIfInBounds_toArray, List.set_cons_succ, List.set_cons_zero]
          refine wpAnyH_all (rs := [23]) (by as_aux_lemma => kernel_rfl) (by simp) fun j hj => ?_
          obtain rfl : j = 23 := by simpa using hj
          refine wpOp_wantf (k := 8) (d := 105) rfl rfl rfl rfl ?_
          unfold Oper.wp
          simp [go_sem]
          refine cIs.mono ?_
          rintro z Y6 ⟨rfl, b6⟩
          have hbx5 : bx < Y5.heap.size := (Array.getElem?_eq_some_iff.1 LC5).1
          have LC6 : Y6.heap[bx]? = some (mvo m (.slice D1 m.p.D.length D2) (.slice A1 m.p.A.length A2) (.slice G1 m.p.G.length G2) (.slice Q1 m.p.B.length Q2) (.slice R1 m.p.R.length R2) (.slice P1 m.p.o.P.length P2) (.slice S1 m.p.S.length S2) (.slice L1 m.p.L.length L2) (.slice F1 m.p.F.length F2) (.slice W1 m.w.length W2)) := (b6.block bx hbx5).trans LC5
          refine ⟨LC6, ?_⟩
          refine take_d (some 121) (i := 24) (v := .bool false) rfl rfl (by as_aux_lemma => kernel_rfl) (by as_aux_lemma => kernel_rfl) (by as_aux_lemma => kernel_rfl) (fun _ _ _ h => h) (.inl ⟨by kernel_rfl, fun w' hw => by simp [go_sem]⟩) LC6 ?_
          refine take_d (some 122) (i := 25) (v := .bool false) rfl rfl (by as_aux_lemma => kernel_rfl) (by as_aux_lemma => kernel_rfl) (by as_aux_lemma => kernel_rfl) (fun _ _ _ h => h) (.inl ⟨by kernel_rfl, fun w' hw => by simp [go_sem]⟩) LC6 ?_
          try simp only [Act.put, List.setIfInBounds_toArray, List.set_cons_succ, List.set_cons_zero]
          refine wpAnyH_done (by as_aux_lemma => kernel_rfl) ?_ _
          have H6L : Hid (LS W s d r mw md ms Z2 (60 * (k + 1)) Y6) := (hL5.up b6).less (fun _ h => h) (by omega)
          have H6X := Lib.hid LC6
          clear LC LC5 LC6 hL5 b6 hx5 hz4 cP cP2 cIs
          obtain ⟨La, Aa, Da, Sa, hJa, hXa, hTa, hIa, hLa⟩ := H6L.out
          have z16 := mv_cell H6X.out 16 _ rfl
          have hzl : bx < Y6.heap.size := block_lt_of_cell z16
          have cSh := sameS_any hJa hXa hTa hIa (by omega) m.h (by omega) (HE.out.on hJa.bl)
          clear hJa hXa hTa hIa hLa
          go_wp2_with fail
          refine cSh.mono ?_
          rintro x Yz ⟨rfl, bz⟩
          have HFz : Hid (LS W s d r mw md ms Z (60 * (k + 1)) Yz) := (H6L.out.up bz).less HZZ.out (Nat.le_refl _)
          have hszz : V4.heap.size ≤ Yz.heap.size := by have := bz.size; omega
          clear cSh bz z16 hzl H6L H6X
          go_wp2_with fail
          exact ⟨⟨k + 1, hlt, by go_num, HFz, hszz⟩, by simp [intOf]; omega⟩
        · have f0 : (m.a == 0) = false := beq_eq_false_iff_ne.2 e0
          by_cases e1 : m.a = 1
          · rw [e1] at c0
            clear f0 e0
            by_cases h40 : m.p.o.n.length ≤ 40
            · obtain ⟨L, A, D, S, hJ, hX, hTi, hI, hLn⟩ := H1L.out
              have cD := drop_both hJ hX hTi hI (by omega) HZ2.out HbZ.out.1 HbZ.out.2 m.p.o.n h40 m.y
              have g40 : (m.p.o.n.length : Int) ≤ 40 := by omega
              clear hJ hX hTi hI H1L
              go_wp2_with fail
              refine cD.mono ?_
              rintro x Y2 ⟨rfl, hz2, cD2⟩
              have hx2 := (hz2 bx HbZ.out.1).trans H1X.out
              have d1 := mv_cell hx2 1 _ rfl
              have d18 := mv_cell hx2 18 _ rfl
              have hbx2 : bx < Y2.heap.size := block_lt_of_cell d1
              clear cD
              go_wp2_with fail
              refine cD2.mono ?_
              rintro x Y3 ⟨rfl, hL3, hx3⟩
              have H3L : Hid (LS W s d r mw md ms Z2 (60 * (k + 1)) Y3) := hL3.less (fun _ h => h) (by omega)
              have H3X := Lib.hid (hx3.trans H1X.out)
              clear cD2 hL3 hx3 hz2 hx2 d1 d18 hbx2
              obtain ⟨La, Aa, Da, Sa, hJa, hXa, hTa, hIa, hLa⟩ := H3L.out
              have z16 := mv_cell H3X.out 16 _ rfl
              have hzl : bx < Y3.heap.size := block_lt_of_cell z16
              have cSh := sameS_any hJa hXa hTa hIa (by omega) m.h (by omega) (HE.out.on hJa.bl)
              clear hJa hXa hTa hIa hLa
              go_wp2_with fail
              refine cSh.mono ?_
              rintro x Yz ⟨rfl, bz⟩
              have HFz : Hid (LS W s d r mw md ms Z (60 * (k + 1)) Yz) := (H3L.out.up bz).less HZZ.out (Nat.le_refl _)
              have hszz : V4.heap.size ≤ Yz.heap.size := by have := bz.size; omega
              clear cSh bz z16 hzl H3L H3X
              go_wp2_with fail
              exact ⟨⟨k + 1, hlt, by go_num, HFz, hszz⟩, by simp [intOf]; omega⟩
            · have g40 : ¬ (m.p.o.n.length : Int) ≤ 40 := by omega
              have H3L : Hid (LS W s d r mw md ms Z2 (60 * (k + 1)) Y1) := H1L.out.less (fun _ h => h) (by omega)
              obtain ⟨La, Aa, Da, Sa, hJa, hXa, hTa, hIa, hLa⟩ := H3L.out
              have z16 := mv_cell H1X.out 16 _ rfl
              have hzl : bx < Y1.heap.size := block_lt_of_cell z16
              have cSh := sameS_any hJa hXa hTa hIa (by omega) m.h (by omega) (HE.out.on hJa.bl)
              clear hJa hXa hTa hIa hLa
              go_wp2_with fail
              refine cSh.mono ?_
              rintro x Yz ⟨rfl, bz⟩
              have HFz : Hid (LS W s d r mw md ms Z (60 * (k + 1)) Yz) := (H3L.out.up bz).less HZZ.out (Nat.le_refl _)
              have hszz : V4.heap.size ≤ Yz.heap.size := by have := bz.size; omega
              clear cSh bz z16 hzl H3L H1X
              go_wp2_with fail
              exact ⟨⟨k + 1, hlt, by go_num, HFz, hszz⟩, by simp [intOf]; omega⟩
          · have f1 : (m.a == 1) = false := beq_eq_false_iff_ne.2 e1
            by_cases e2 : m.a = 2
            · rw [e2] at c0
              clear f0 f1 e0 e1
              obtain ⟨L, A, D, S, hJ, hX, hTi, hI, hLn⟩ := H1L.out
              have bD := (Below.refl Y1.heap.size Y1).drew
              have LC : Y1.drew.heap[bx]? = some (mvo m (.slice D1 m.p.D.length D2) (.slice A1 m.p.A.length A2) (.slice G1 m.p.G.length G2) (.slice Q1 m.p.B.length Q2) (.slice R1 m.p.R.length R2) (.slice P1 m.p.o.P.length P2) (.slice S1 m.p.S.length S2) (.slice L1 m.p.L.length L2) (.slice F1 m.p.F.length F2) (.slice W1 m.w.length W2)) := H1X.out
              have cE := edit_both (hJ.up bD) (hX.on bD) hTi hI (by omega) HZ2.out HbZ.out.1 HbZ.out.2 m.h m.d h70 h300 m.y HE.out
              clear hJ hX hTi hI H1L bD
              go_upto_region 26 with fail
              refine wp_region_held (S := fun V => V.heap[bx]? = some (mvo m (.slice D1 m.p.D.length D2) (.slice A1 m.p.A.length A2) (.slice G1 m.p.G.length G2) (.slice Q1 m.p.B.length Q2) (.slice R1 m.p.R.length R2) (.slice P1 m.p.o.P.length P2) (.slice S1 m.p.S.length S2) (.slice L1 m.p.L.length L2) (.slice F1 m.p.F.length F2) (.slice W1 m.w.length W2))) (by kernel_rfl) ?_
              refine take_d (some 147) (i := 0) (v := .pointer (some ⟨s, 0, none⟩)) rfl rfl (by as_aux_lemma => kernel_rfl) (by as_aux_lemma => kernel_rfl) (by as_aux_lemma => kernel_rfl) (fun _ _ _ h => h) (.inl ⟨by kernel_rfl, fun w' hw => by simp [go_sem]⟩) LC ?_
              refine take_d (some 148) (i := 1) (v := .pointer (some ⟨bx, 16, none⟩)) rfl rfl (by as_aux_lemma => kernel_rfl) (by as_aux_lemma => kernel_rfl) (by as_aux_lemma => kernel_rfl) (fun _ _ _ h => h) (.inl ⟨by kernel_rfl, fun w' hw => by simp [go_sem]⟩) LC ?_
              refine take_d (some 149) (i := 2) (v := .string ⟨m.h.toArray⟩) rfl rfl (by as_aux_lemma => kernel_rfl) (by as_aux_lemma => kernel_rfl) (by as_aux_lemma => kernel_rfl) (fun _ _ _ h => h) (.inl ⟨by kernel_rfl, fun w' hw => by simp [go_sem, mv_cell hw 16 _ rfl]⟩) LC ?_
              refine take_d (some 150) (i := 3) (v := .pointer (some ⟨bx, 17, none⟩)) rfl rfl (by as_aux_lemma => kernel_rfl) (by as_aux_lemma => kernel_rfl) (by as_aux_lemma => kernel_rfl) (fun _ _ _ h => h) (.inl ⟨by kernel_rfl, fun w' hw => by simp [go_sem]⟩) LC ?_
              refine take_d (some 151) (i := 4) (v := .string ⟨m.d.toArray⟩) rfl rfl (by as_aux_lemma => kernel_rfl) (by as_aux_lemma => kernel_rfl) (by as_aux_lemma => kernel_rfl) (fun _ _ _ h => h) (.inl ⟨by kernel_rfl, fun w' hw => by simp [go_sem, mv_cell hw 17 _ rfl]⟩) LC ?_
              refine take_d (some 152) (i := 5) (v := .pointer (some ⟨bx, 18, none⟩)) rfl rfl (by as_aux_lemma => kernel_rfl) (by as_aux_lemma => kernel_rfl) (by as_aux_lemma => kernel_rfl) (fun _ _ _ h => h) (.inl ⟨by kernel_rfl, fun w' hw => by simp [go_sem]⟩) LC ?_
              refine take_d (some 153) (i := 6) (v := .bool m.y) rfl rfl (by as_aux_lemma => kernel_rfl) (by as_aux_lemma => kernel_rfl) (by as_aux_lemma => kernel_rfl) (fun _ _ _ h => h) (.inl ⟨by kernel_rfl, fun w' hw => by simp [go_sem, mv_cell hw 18 _ rfl]⟩) LC ?_
              refine take_d (some 155) (i := 8) (v := .pointer (some ⟨r, 0, none⟩)) rfl rfl (by as_aux_lemma => kernel_rfl) (by as_aux_lemma => kernel_rfl) (by as_aux_lemma => kernel_rfl) (fun _ _ _ h => h) (.inl ⟨by kernel_rfl, fun w' hw => by simp [go_sem]⟩) LC ?_
              refine take_d (some 156) (i := 9) (v := .pointer (some ⟨bx, 16, none⟩)) rfl rfl (by as_aux_lemma => kernel_rfl) (by as_aux_lemma => kernel_rfl) (by as_aux_lemma => kernel_rfl) (fun _ _ _ h => h) (.inl ⟨by kernel_rfl, fun w' hw => by simp [go_sem]⟩) LC ?_
              refine take_d (some 157) (i := 10) (v := .string ⟨m.h.toArray⟩) rfl rfl (by as_aux_lemma => kernel_rfl) (by as_aux_lemma => kernel_rfl) (by as_aux_lemma => kernel_rfl) (fun _ _ _ h => h) (.inl ⟨by kernel_rfl, fun w' hw => by simp [go_sem, mv_cell hw 16 _ rfl]⟩) LC ?_
              refine take_d (some 158) (i := 11) (v := .pointer (some ⟨bx, 17, none⟩)) rfl rfl (by as_aux_lemma => kernel_rfl) (by as_aux_lemma => kernel_rfl) (by as_aux_lemma => kernel_rfl) (fun _ _ _ h => h) (.inl ⟨by kernel_rfl, fun w' hw => by simp [go_sem]⟩) LC ?_
              refine take_d (some 159) (i := 12) (v := .string ⟨m.d.toArray⟩) rfl rfl (by as_aux_lemma => kernel_rfl) (by as_aux_lemma => kernel_rfl) (by as_aux_lemma => kernel_rfl) (fun _ _ _ h => h) (.inl ⟨by kernel_rfl, fun w' hw => by simp [go_sem, mv_cell hw 17 _ rfl]⟩) LC ?_
              refine take_d (some 160) (i := 13) (v := .pointer (some ⟨bx, 18, none⟩)) rfl rfl (by as_aux_lemma => kernel_rfl) (by as_aux_lemma => kernel_rfl) (by as_aux_lemma => kernel_rfl) (fun _ _ _ h => h) (.inl ⟨by kernel_rfl, fun w' hw => by simp [go_sem]⟩) LC ?_
              refine take_d (some 161) (i := 14) (v := .bool m.y) rfl rfl (by as_aux_lemma => kernel_rfl) (by as_aux_lemma => kernel_rfl) (by as_aux_lemma => kernel_rfl) (fun _ _ _ h => h) (.inl ⟨by kernel_rfl, fun w' hw => by simp [go_sem, mv_cell hw 18 _ rfl]⟩) LC ?_
              try simp only [Act.put, List.setIfInBounds_toArray, List.set_cons_succ, List.set_cons_zero]
              refine wpAnyH_all (rs := [7]) (by as_aux_lemma => kernel_rfl) (by simp) fun j hj => ?_
              obtain rfl : j = 7 := by simpa using hj
              refine wpOp_want rfl (by kernel_rfl) ?_
              unfold Oper.wp
              simp [go_sem]
              refine cE.mono ?_
              rintro z Y4 ⟨v1, rfl, hz4, cP2⟩
              replace LC : Y4.heap[bx]? = some (mvo m (.slice D1 m.p.D.length D2) (.slice A1 m.p.A.length A2) (.slice G1 m.p.G.length G2) (.slice Q1 m.p.B.length Q2) (.slice R1 m.p.R.length R2) (.slice P1 m.p.o.P.length P2) (.slice S1 m.p.S.length S2) (.slice L1 m.p.L.length L2) (.slice F1 m.p.F.length F2) (.slice W1 m.w.length W2)) := (hz4 bx HbZ.out.1).trans LC
              refine ⟨LC, ?_⟩
              try simp only [Act.put, List.setIfInBounds_toArray, List.set_cons_succ, List.set_cons_zero]
              refine wpAnyH_all (rs := [15]) (by as_aux_lemma => kernel_rfl) (by simp) fun j hj => ?_
              obtain rfl : j = 15 := by simpa using hj
              refine wpOp_want rfl (by kernel_rfl) ?_
              unfold Oper.wp
              simp [go_sem]
              refine cP2.mono ?_
              rintro z Y5 ⟨fc, rfl, hL5, hx5, cIs⟩
              have LC5 : Y5.heap[bx]? = some (mvo m (.slice D1 m.p.D.length D2) (.slice A1 m.p.A.length A2) (.slice G1 m.p.G.length G2) (.slice Q1 m.p.B.length Q2) (.slice R1 m.p.R.length R2) (.slice P1 m.p.o.P.length P2) (.slice S1 m.p.S.length S2) (.slice L1 m.p.L.length L2) (.slice F1 m.p.F.length F2) (.slice W1 m.w.length W2)) := hx5.trans ((hz4 bx HbZ.out.1).symm.trans LC)
              refine ⟨LC5, ?_⟩
              try simp only [Act.put, List.setIfInBounds_toArray, List.set_cons_succ, List.set_cons_zero]
              refine wpAnyH_all (rs := [16]) (by as_aux_lemma => kernel_rfl) (by simp) fun j hj => ?_
              obtain rfl : j = 16 := by simpa using hj
              refine wpOp_want rfl (by kernel_rfl) ?_
              unfold Oper.wp
              simp [go_sem]
              refine cIs.mono ?_
              rintro z Y6 ⟨rfl, b6⟩
              have hbx5 : bx < Y5.heap.size := (Array.getElem?_eq_some_iff.1 LC5).1
              have LC6 : Y6.heap[bx]? = some (mvo m (.slice D1 m.p.D.length D2) (.slice A1 m.p.A.length A2) (.slice G1 m.p.G.length G2) (.slice Q1 m.p.B.length Q2) (.slice R1 m.p.R.length R2) (.slice P1 m.p.o.P.length P2) (.slice S1 m.p.S.length S2) (.slice L1 m.p.L.length L2) (.slice F1 m.p.F.length F2) (.slice W1 m.w.length W2)) := (b6.block bx hbx5).trans LC5
              refine ⟨LC6, ?_⟩
              refine take_d (some 164) (i := 17) (v := .bool false) rfl rfl (by as_aux_lemma => kernel_rfl) (by as_aux_lemma => kernel_rfl) (by as_aux_lemma => kernel_rfl) (fun _ _ _ h => h) (.inl ⟨by kernel_rfl, fun w' hw => by simp [go_sem]⟩) LC6 ?_
              try simp only [Act.put, List.setIfInBounds_toArray, List.set_cons_succ, List.set_cons_zero]
              refine wpAnyH_done (by as_aux_lemma => kernel_rfl) ?_ _
              have H6L : Hid (LS W s d r mw md ms Z2 (60 * (k + 1)) Y6) := (hL5.up b6).less (fun _ h => h) (by omega)
              have H6X := Lib.hid LC6
              clear LC LC5 LC6 hL5 b6 hx5 hz4 cE cP2 cIs
              obtain ⟨La, Aa, Da, Sa, hJa, hXa, hTa, hIa, hLa⟩ := H6L.out
              have z16 := mv_cell H6X.out 16 _ rfl
              have hzl : bx < Y6.heap.size := block_lt_of_cell z16
              have cSh := sameS_any hJa hXa hTa hIa (by omega) m.h (by omega) (HE.out.on hJa.bl)
              clear hJa hXa hTa hIa hLa
              go_wp2_with fail
              refine cSh.mono ?_
              rintro x Yz ⟨rfl, bz⟩
              have HFz : Hid (LS W s d r mw md ms Z (60 * (k + 1)) Yz) := (H6L.out.up bz).less HZZ.out (Nat.le_refl _)
              have hszz : V4.heap.size ≤ Yz.heap.size := by have := bz.size; omega
              clear cSh bz z16 hzl H6L H6X
              go_wp2_with fail
              exact ⟨⟨k + 1, hlt, by go_num, HFz, hszz⟩, by simp [intOf]; omega⟩
            · have f2 : (m.a == 2) = false := beq_eq_false_iff_ne.2 e2
              have H3L : Hid (LS W s d r mw md ms Z2 (60 * (k + 1)) Y1) := H1L.out.less (fun _ h => h) (by omega)
              obtain ⟨La, Aa, Da, Sa, hJa, hXa, hTa, hIa, hLa⟩ := H3L.out
              have z16 := mv_cell H1X.out 16 _ rfl
              have hzl : bx < Y1.heap.size := block_lt_of_cell z16
              have cSh := sameS_any hJa hXa hTa hIa (by omega) m.h (by omega) (HE.out.on hJa.bl)
              clear hJa hXa hTa hIa hLa
              go_wp2_with fail
              refine cSh.mono ?_
              rintro x Yz ⟨rfl, bz⟩
              have HFz : Hid (LS W s d r mw md ms Z (60 * (k + 1)) Yz) := (H3L.out.up bz).less HZZ.out (Nat.le_refl _)
              have hszz : V4.heap.size ≤ Yz.heap.size := by have := bz.size; omega
              clear cSh bz z16 hzl H3L H1X
              go_wp2_with fail
              exact ⟨⟨k + 1, hlt, by go_num, HFz, hszz⟩, by simp [intOf]; omega⟩
    · obtain ⟨L, A, D, S, hJ, hX, hTi, hI, hLn⟩ := HK.out
      have HF := Lib.hid hJ.bl
      clear hJ hX hTi hI hLn HK
      go_wp2
      go_ret
      exact ⟨rfl, HF.out⟩
end Go.Proofs.YtlldfmnoidndmaaGreatDoor.Dsk
