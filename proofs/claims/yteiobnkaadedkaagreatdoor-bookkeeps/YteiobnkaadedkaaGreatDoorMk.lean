/- The walk of a disk's Start. -/
import Derived.Test.YteiobnkaadedkaaGreatDoorMj
namespace Go.Proofs.YteiobnkaadedkaaGreatDoor
open Go.RowKit Go.Sort Go.Maps

/-- What is left of files. -/
def gl (n : Int) (o : Option Ent) : Option Ent := o.bind fun e => (lf e n).map fun s => ⟨s, some s⟩
def stL (L : Kv Ent) (n : Int) : Kv Ent := L.filterMap fun p => (gl n (some p.2)).map fun e => (p.1, e)
theorem stL_srt {L : Kv Ent} (h : Srt L) (n : Int) : Srt (stL L n) := by
  unfold stL Srt
  rw [List.pairwise_filterMap]
  refine h.imp fun {p q} hpq x hx y hy => ?_
  obtain ⟨_, _, rfl⟩ := Option.map_eq_some_iff.1 hx
  obtain ⟨_, _, rfl⟩ := Option.map_eq_some_iff.1 hy
  exact hpq
theorem stL_lk {L : Kv Ent} (h : Srt L) (n : Int) (k : List UInt8) : lkL k (stL L n) = gl n (lkL k L) := by
  cases hl : lkL k L with
  | none =>
    show _ = none
    rw [lk_none] at hl ⊢
    intro p hp
    obtain ⟨q, hq, hx⟩ := List.mem_filterMap.1 hp
    obtain ⟨_, _, rfl⟩ := Option.map_eq_some_iff.1 hx
    exact hl q hq
  | some a =>
    have hm := (lk_iff h).1 hl
    cases hg : gl n (some a) with
    | none =>
      rw [lk_none]
      intro p hp e
      obtain ⟨q, hq, hx⟩ := List.mem_filterMap.1 hp
      obtain ⟨_, hy, rfl⟩ := Option.map_eq_some_iff.1 hx
      have := h.inj hq hm e
      subst this
      rw [hg] at hy; cases hy
    | some x =>
      refine (lk_iff (stL_srt h n)).2 (List.mem_filterMap.2 ⟨(k, a), hm, ?_⟩)
      rw [hg]; rfl
/-- All is short. -/
structure Bn (M : Nat) (L : Kv Ent) : Prop where
  is : ∀ k a, lkL k L = some a → a.now.length ≤ M ∧ (a.sf.getD []).length ≤ M
theorem lf_le {e : Ent} {n : Int} {M : Nat} {s : List UInt8} (h : e.now.length ≤ M ∧ (e.sf.getD []).length ≤ M) (hs : lf e n = some s) : s.length ≤ M := by
  unfold lf at hs
  split at hs
  · cases hs; exact h.1
  · split at hs
    · rw [hs] at h; exact h.2
    · cases hs
      simp only [List.length_append, List.length_take, List.length_drop]
      omega
theorem gl_le {o : Option Ent} {n : Int} {M : Nat} (h : ∀ e, o = some e → e.now.length ≤ M ∧ (e.sf.getD []).length ≤ M) : ∀ a, gl n o = some a → a.now.length ≤ M ∧ (a.sf.getD []).length ≤ M := fun a ha => by
  obtain ⟨e, he, h1⟩ := Option.bind_eq_some_iff.1 ha
  obtain ⟨s, hs, rfl⟩ := Option.map_eq_some_iff.1 h1
  have := lf_le (h e he) hs
  exact ⟨this, this⟩
theorem bn_tot {M : Nat} {L : Kv Ent} (h : Bn M L) (hs : Srt L) : tot nl L ≤ L.length * M := tot_le nl M fun p hp => (h.is p.1 p.2 ((lk_iff hs).2 hp)).1
theorem len_tot {α : Type} (L : Kv α) : tot (fun _ => 1) L = L.length := by
  unfold tot; induction L with
  | nil => rfl
  | cons y r ih => simp only [List.map_cons, List.sum_cons, List.length_cons] at ih ⊢; omega
theorem len_put_there {α : Type} {L : Kv α} (h : Srt L) {k : List UInt8} {a b : α} (hk : lkL k L = some b) : (putL k a L).length = L.length := by
  have h1 := tot_put (fun _ => 1) k a h
  rw [len_tot, len_tot] at h1
  have h2 : olen (fun _ : α => 1) k L = 1 := by unfold olen; rw [hk]
  omega
/-- Some names are done. -/
structure St (L : Kv Ent) (n : Int) (ns : List (List UInt8)) (L' : Kv Ent) : Prop where
  srt : Srt L'
  len : L'.length ≤ L.length
  lk : ∀ k, lkL k L' = if k ∈ ns then gl n (lkL k L) else lkL k L
theorem St.bn {L L' : Kv Ent} {n : Int} {ns : List (List UInt8)} {M : Nat} (h : St L n ns L') (hb : Bn M L) : Bn M L' := ⟨fun k a ha => by
  rw [h.lk] at ha
  split at ha
  · exact gl_le (fun e he => hb.is k e he) a ha
  · exact hb.is k a ha⟩
theorem St.put {L L' : Kv Ent} {n : Int} {ns : List (List UInt8)} (h : St L n ns L') {k : List UInt8} {e : Ent} {s : List UInt8} (hk : k ∉ ns) (he : lkL k L = some e) (hs : lf e n = some s) : St L n (ns ++ [k]) (putL k ⟨s, some s⟩ L') := by
  have hl : lkL k L' = some e := by rw [h.lk, if_neg hk, he]
  refine ⟨h.srt.put _ _, by rw [len_put_there h.srt hl]; exact h.len, fun x => ?_⟩
  by_cases hx : x = k
  · subst hx
    rw [lk_put_same h.srt, if_pos (by simp), he]
    show _ = (lf e n).map _
    rw [hs]; rfl
  · rw [lk_put_other h.srt hx, h.lk]
    simp [hx]
theorem St.del {L L' : Kv Ent} {n : Int} {ns : List (List UInt8)} (h : St L n ns L') {k : List UInt8} {e : Ent} (hk : k ∉ ns) (he : lkL k L = some e) (hs : lf e n = none) : St L n (ns ++ [k]) (delL k L') := by
  refine ⟨h.srt.del _, Nat.le_trans (len_del k) h.len, fun x => ?_⟩
  by_cases hx : x = k
  · subst hx
    rw [lk_del_same, if_pos (by simp), he]
    show _ = (lf e n).map _
    rw [hs]; rfl
  · rw [lk_del_other h.srt hx, h.lk]
    simp [hx]
theorem nms_mem {α : Type} {L : Kv α} {k : List UInt8} : k ∈ nms L ↔ ∃ a, (k, a) ∈ L := by
  unfold nms
  rw [(List.mergeSort_perm _ _).mem_iff, List.mem_map]
  constructor
  · rintro ⟨p, hp, rfl⟩; exact ⟨p.2, hp⟩
  · rintro ⟨a, ha⟩; exact ⟨(k, a), ha, rfl⟩
theorem nms_nodup {α : Type} {L : Kv α} (h : Srt L) : (nms L).Nodup := by
  unfold nms
  rw [(List.mergeSort_perm _ _).nodup_iff]
  refine List.pairwise_map.2 (h.imp fun {p q} hpq e => ?_)
  rw [e, WideAt.bytes_irrefl] at hpq; cases hpq
theorem St.done {L L' : Kv Ent} {n : Int} (hS : Srt L) (h : St L n (nms L) L') : L' = stL L n := by
  refine ext_lk h.srt (stL_srt hS n) fun k => ?_
  rw [h.lk, stL_lk hS]
  split
  · rfl
  · rename_i hk
    cases hl : lkL k L with
    | none => rfl
    | some a => exact absurd (nms_mem.2 ⟨a, (lk_iff hS).1 hl⟩) hk
theorem nms_len {α : Type} (L : Kv α) : (nms L).length = L.length := by unfold nms; rw [List.length_mergeSort, List.length_map]
theorem take_not {l : List (List UInt8)} (h : l.Nodup) (i : Nat) (hi : i < l.length) : l[i] ∉ l.take i := fun hm => by
  obtain ⟨j, hj, e⟩ := List.mem_take_iff_getElem.1 hm
  have := (List.getElem_inj (xs := l) (h₀ := by omega) (h₁ := hi) h).1 e
  omega

set_option maxHeartbeats 3200000 in
set_option maxRecDepth 100000 in
theorem start_any (b : Nat) (mb : Option Nat) (L : Kv Ent) (e : Bool) (c : Int) (bd : Bool) (r n : Int) (w : World) (h : PD w b mb L e c bd r) (hB : Bn 1000 L) (hn : L.length ≤ 1000) (hk : ∀ k ∈ nms L, k.length ≤ 1000) (hn' : n ≤ 9223372036854775807) :
    Calls Tryz.prog 23 #[.pointer (some ⟨b, 0, none⟩), .int .i64 n] w fun x w' => x = .returned (.tuple #[]) ∧ Po b mb (stL L n) false (-1) bd r w w' := by
  have cC := cut_any b mb L e c bd r (-1) w h
  rw [show decide ((0 : Int) ≤ -1) = false from rfl] at cC
  have hS := h.srt
  have HB := Lib.hid hB
  have HK := Lib.hid hk
  have HS := Lib.hid hS
  clear h hB hk hS
  go_enter Tryz.func23, Tryz.ntmps23
  go_wp2_with fail
  refine cC.mono ?_
  rintro x w1 ⟨rfl, hd1, hk1⟩
  have cL := list_any b mb L false (-1) bd r w1 hd1 (by omega)
  have HK1 := Lib.hid (kp_dx (mb := mb) hk1)
  clear cC hk1
  go_wp2_with fail
  refine cL.mono ?_
  rintro x w2 ⟨v, rfl, ht, hb2⟩
  have hd2 := hd1.up hb2
  have HF : Hid (∀ W L', Po b mb L' false (-1) bd r w2 W → Po b mb L' false (-1) bd r w W) := fun W L' hp => Po.then HK1.out (fun _ hm => Or.inl hm) (Po.below hb2 hp)
  have hlb : ∀ m, mb = some m → m < w1.heap.size := fun m hm => (hd1.map m hm).lt
  have hbb := (Array.getElem?_eq_some_iff.1 hd1.blk).1
  rcases ht.is with ⟨hnil, rfl⟩ | ⟨nb, cp, rfl, hnb, hnl, hcell⟩
  · have hL : L = stL L n := by
      have : L = [] := by
        have := nms_len L
        rw [hnil] at this
        exact List.length_eq_zero_iff.1 this.symm
      subst this; rfl
    have HP := Lib.hid (HF.out w2 (stL L n) (hL ▸ Po.same hd2 (Kp.refl _ _)))
    clear hL hd2 hd1 cL HK1 HF hb2 ht hnil
    go_wp2_with fail
    refine wp_loop_rounds 1 ?_
    rw [rounds_succ]
    go_wp2
    exact bodyPost_end (results_none rfl _ _ _) rfl ⟨rfl, HP.out⟩
  · have hnn := nms_len L
    have HD2 := Lib.hid hd2
    have HC := Lib.hid hcell
    clear hd2 hd1 cL HK1 hb2 ht hcell
    have hnd : ¬ DX b mb nb := fun hx => by
      rcases hx with hx | hx
      · omega
      · have := hlb _ hx; omega
    go_wp2_with fail
    go_loopw [13] (fun i W => ∃ k : Nat, k ≤ (nms L).length ∧ i = .int .i64 k ∧ ∃ L', Po b mb L' false (-1) bd r w2 W ∧ St L n ((nms L).take k) L') (fun i _ => (nms L).length - (intOf i).toNat)
    case atStart => exact ⟨0, Nat.zero_le _, rfl, L, Po.same HD2.out (Kp.refl _ _), ⟨HS.out, Nat.le_refl _, fun k => by simp⟩⟩
    case round =>
      obtain ⟨i, hi, rfl, L', hP, hSt⟩ := hrel
      by_cases hlt : i < (nms L).length
      · have hc := HC.out i hlt
        obtain ⟨⟨mb', hd, hmm⟩, hkp⟩ := hP
        have q0 : wr.cell? ⟨nb, i, none⟩ = some (.string ⟨(nms L)[i].toArray⟩) := (World.cell?_of_block (w := w2) (hkp.block nb hnl hnd)).trans hc
        have hkl := HK.out _ (List.getElem_mem hlt)
        have hnot := take_not (nms_nodup HS.out) i hlt
        obtain ⟨a, ha⟩ := nms_mem.1 (List.getElem_mem hlt)
        have ha := (lk_iff HS.out).2 ha
        have HT : Hid ((nms L).take (i + 1) = (nms L).take i ++ [(nms L)[i]]) := List.take_succ_eq_append_getElem hlt
        generalize (nms L)[i] = k at q0 hkl hnot ha HT hc
        have hak : lkL k L' = some a := by rw [hSt.lk, if_neg hnot, ha]
        have hent : ent k L' = a := by unfold ent; rw [hak]; rfl
        have c0 := (dc_of hd.blk).c0
        have hy := (look_any hd k (by omega) wr (fun _ _ => rfl)).1
        rw [hent] at hy
        have hab := HB.out.is k a ha
        have cF := left_any a n wr (by omega) (by omega) hn'
        have hBL := hSt.bn HB.out
        have htot := bn_tot hBL hSt.srt
        have hlen := hSt.len
        have htt : tot nl L' ≤ 1000000 := by
          have : L'.length * 1000 ≤ 1000 * 1000 := Nat.mul_le_mul (by omega) (Nat.le_refl _)
          omega
        cases hlf : lf a n with
        | none =>
          rw [hlf] at cF
          have HS2 := Lib.hid (hSt.del hnot ha hlf)
          have cD := fun w3 (hb3 : Below wr.heap.size wr w3) => drop_any b mb' L' false (-1) bd r k w3 (hd.up hb3) (by omega) (by omega)
          have HM := Lib.hid hmm
          have HKp := Lib.hid hkp
          unfold pv at hy cF
          clear hd hSt hent hak ha hnot hc hmm hkp hBL
          go_wp2_with fail
          refine cF.mono ?_
          rintro x w3 ⟨rfl, hb3⟩
          have cD' := cD w3 hb3
          clear cD cF
          go_wp2_with fail
          refine cD'.mono ?_
          rintro x w4 ⟨rfl, hd4, hk4⟩
          have hfin := Po.then HKp.out HM.out (Po.below hb3 (Po.same hd4 hk4))
          clear cD' hd4 hk4 hb3
          go_wp2_with fail
          exact ⟨⟨i + 1, hlt, by go_num, _, hfin, by rw [HT.out]; exact HS2.out⟩, by simp [intOf]; omega⟩
        | some s =>
          rw [hlf] at cF
          have hsl := lf_le hab hlf
          have HS2 := Lib.hid (hSt.put hnot ha hlf)
          have cS := fun w3 => settled_any s w3
          have cP := fun w3 (hb3 : Below wr.heap.size wr w3) => put_any b mb' L' false (-1) bd r k ⟨s, some s⟩ w3 (hd.up hb3) (by omega) (by omega) (by dsimp only; omega) (by omega)
          have HM := Lib.hid hmm
          have HKp := Lib.hid hkp
          unfold pv at hy cF cS cP
          clear hd hSt hent hak ha hnot hc hmm hkp hBL
          go_wp2_with fail
          refine cF.mono ?_
          rintro x w3 ⟨rfl, hb3⟩
          have cS' := cS w3
          clear cS cF
          go_wp2_with fail
          refine cS'.mono ?_
          rintro x w4 ⟨rfl, hb4⟩
          have hb34 := hb3.trans (hb4.mono hb3.size)
          have cP' := cP w4 hb34
          clear cP cS' hb3 hb4
          go_wp2_with fail
          refine cP'.mono ?_
          rintro x w5 ⟨rfl, hpu⟩
          have hfin := Po.then HKp.out HM.out (Po.below hb34 (Po.put hpu))
          clear cP' hpu hb34
          go_wp2_with fail
          exact ⟨⟨i + 1, hlt, by go_num, _, hfin, by rw [HT.out]; exact HS2.out⟩, by simp [intOf]; omega⟩
      · obtain rfl : i = (nms L).length := by omega
        rw [List.take_length] at hSt
        have hL := hSt.done HS.out
        subst hL
        have HP := Lib.hid (HF.out _ _ hP)
        clear hP hSt
        go_wp2
        exact bodyPost_end (results_none rfl _ _ _) rfl ⟨rfl, HP.out⟩
end Go.Proofs.YteiobnkaadedkaaGreatDoor
