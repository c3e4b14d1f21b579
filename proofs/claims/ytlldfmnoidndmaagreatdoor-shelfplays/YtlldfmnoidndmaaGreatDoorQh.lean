/- No path is two packages', or lies beneath another package's. -/
import Derived.Test.YtlldfmnoidndmaaGreatDoorQe
import Derived.Maps.RangeWalk
namespace Go.Proofs.YtlldfmnoidndmaaGreatDoor.Dsk
open Go.RowKit Go.Sort Go.Maps

def sv (s : List UInt8) : Value := .string ⟨s.toArray⟩
abbrev MT (w : World) (m : Nat) (O : Kv (List UInt8)) : Prop := w.ownsMap Tryz.prog 9 Rv m O.length (toD sv O)
theorem zero9 (w : World) : (zeroValue 9).run Tryz.prog w = .ok (.string ⟨#[]⟩) w := by kernel_rfl
def tat (k : List UInt8) (O : Kv (List UInt8)) : List UInt8 := (lkL k O).getD []
theorem mtlook {w : World} {m : Nat} {O : Kv (List UInt8)} (h : MT w m O) (k : List UInt8) (hk : k.length ≤ 1000000) :
    (Instr.lookup 80 (.map (some m)) (.string ⟨k.toArray⟩) false).run Tryz.prog w = .ok (.string ⟨(tat k O).toArray⟩) w := by
  have hat : ∀ v ps, Rv v = some ((toD sv O).atKey (.string k) (.held (.string ⟨#[]⟩)), ps) → v = .string ⟨(tat k O).toArray⟩ := fun v ps hv => by
    rw [toD_at] at hv
    unfold tat
    cases hl : lkL k O with
    | none => rw [hl] at hv; simpa [Rv] using congrArg (fun o => o.map Prod.fst) hv
    | some a => rw [hl] at hv; simpa [Rv, sv] using congrArg (fun o => o.map Prod.fst) hv
  obtain ⟨v, ps, h1, h2⟩ := h.lookup law9 Tryz.underlying80 (zero9 w) (zd := .held (.string ⟨#[]⟩)) (zp := []) rfl (key9 k hk)
  rw [h1, hat v ps h2]
theorem mt_on {w w' : World} {m : Nat} {O : Kv (List UInt8)} (h : MT w m O) (hk : w'.heap[m]? = w.heap[m]?) : MT w' m O := by
  obtain ⟨es, cl, h1, h2⟩ := h
  exact ⟨es, cl, hk.trans h1, h2⟩
theorem mt_made (w : World) : MT (w.alloc (.map #[] 0)) w.heap.size [] := by
  have := World.ownsMap_made w Tryz.prog 9 Rv
  exact this
theorem mt_lt {w : World} {m : Nat} {O : Kv (List UInt8)} (h : MT w m O) : m < w.heap.size := by
  obtain ⟨es, cl, h1, _⟩ := h
  exact (Array.getElem?_eq_some_iff.1 h1).1
theorem str_key {key : Value} {kl : Lit} (h : keyOf Tryz.prog 9 key = some kl) : ∃ s : List UInt8, key = .string ⟨s.toArray⟩ ∧ kl = .string s := by
  cases key <;> simp [keyOf, Tryz.underlying9, mapKey] at h
  rename_i s
  obtain ⟨_, rfl⟩ := h
  exact ⟨s.data.toList, by simp, rfl⟩
section
variable {ops : Array Oper} {rest : List Oper} {o : Oper} {a : Act} {Q : Exit → Act → World → Prop}
theorem next_texts (w : World) (hg : o.guard = none) (it : Operand) (hop : o.op = Op.next it false) (mn r n : Nat) (O : Kv (List UInt8)) (left : Lit → Bool) (cnt : Nat) (hit : a.eval it = .pointer (some ⟨r, 0, none⟩)) (h : w.ranges Tryz.prog 9 Rv mn r n (toD sv O) left cnt)
    (hDone : (∀ kl, left kl = false) → wpList Tryz.prog ops Q rest (a.put o.dst (.tuple #[.bool false])) w)
    (hMore : ∀ (k s : List UInt8) (w' : World) (cnt' : Nat), left (.string k) = true → lkL k O = some s → w'.ranges Tryz.prog 9 Rv mn r n (toD sv O) (fun z => left z && !z.sameKey (.string k)) cnt' → cnt' < cnt → w.grownBy w' (some r) → w'.heap.size = w.heap.size →
      (Instr.entry (.pointer (some ⟨r, 0, none⟩))).run Tryz.prog w' = .ok (.tuple #[.string ⟨k.toArray⟩, .string ⟨s.toArray⟩]) w' → wpList Tryz.prog ops Q rest (a.put o.dst (.tuple #[.bool true, .string ⟨k.toArray⟩, .string ⟨s.toArray⟩])) w') :
    wpList Tryz.prog ops Q (o :: rest) a w := by
  refine wpList_next_ranges w hg it hop 9 law9 Rv (fun s : List UInt8 => .string ⟨s.toArray⟩) (fun v : Value => v) (fun key kl hk => ?_) (fun v _ _ => ⟨v, rfl⟩) mn r n (toD sv O) left cnt hit h (fun _ hl => hDone hl) ?_
  · obtain ⟨s, h1, _⟩ := str_key hk
    exact ⟨s, h1⟩
  · intro x c kl y w' cnt' hkey hlk hv hat hrg hlt hgr hsz hen
    obtain ⟨s, h1, h2⟩ := str_key hkey
    have e1 : x = s := by simpa using h1
    subst e1
    subst h2
    cases hv
    cases hl : lkL x O with
    | none =>
      have h3 := hat (.map [])
      rw [toD_at, hl] at h3
      cases h3
    | some t =>
      have h3 := hat (.map [])
      rw [toD_at, hl] at h3
      simp at h3
      subst h3
      exact hMore x t w' cnt' hlk hl hrg hlt hgr hsz hen
end
theorem rg_kp {w w' : World} {mn r n cnt : Nat} {D : DataW Value} {left : Lit → Bool} (h : w.ranges Tryz.prog 9 Rv mn r n D left cnt) (hb : w'.heap[mn]? = w.heap[mn]?) (hr : w'.heap[r]? = w.heap[r]?) : w'.ranges Tryz.prog 9 Rv mn r n D left cnt := by
  obtain ⟨es, clock, since, seen, c0, h1, h2, h3, h4, h5, h6⟩ := h
  exact ⟨es, clock, since, seen, c0, hb.trans h1, h2, h3, h4, hr.trans h5, h6⟩
theorem rg_lt {w : World} {mn r n cnt : Nat} {D : DataW Value} {left : Lit → Bool} (h : w.ranges Tryz.prog 9 Rv mn r n D left cnt) : mn < w.heap.size ∧ r < w.heap.size := by
  obtain ⟨es, clock, since, seen, c0, h1, h2, h3, h4, h5, h6⟩ := h
  exact ⟨(Array.getElem?_eq_some_iff.1 h1).1, (Array.getElem?_eq_some_iff.1 h5).1⟩
theorem gr_below {W W' : World} (h : W.grownBy W' none) : Below W.heap.size W W' := (Kp.grown (X := fun _ => False) h (fun k hk => by cases hk)).below (Nat.le_refl _) fun _ _ x => x
/-- The paths so far, by whose they are. -/
structure PO (L : Kv Ent) (os : List (List UInt8)) (k : Nat) (ps : List (List UInt8)) (j : Nat) (O : Kv (List UInt8)) : Prop where
  s : Srt O
  n : O.length ≤ k * 4900 + j
  i : ∀ q n, lkL q O = some n → q ∈ pts L n ∧ ((∃ i, ∃ (_ : i < os.length), i < k ∧ n = os[i]) ∨ (∃ t, ∃ (_ : t < ps.length), t < j ∧ ps[t] = q))
theorem nodup_idx {α : Type} {l : List α} (h : l.Nodup) {i j : Nat} (hi : i < l.length) (hj : j < l.length) (e : l[i] = l[j]) : i = j := by
  rcases Nat.lt_trichotomy i j with h1 | h1 | h1
  · exact absurd e ((List.pairwise_iff_getElem.1 h) i j hi hj h1)
  · exact h1
  · exact absurd e.symm ((List.pairwise_iff_getElem.1 h) j i hj hi h1)
theorem pts_fun {L : Kv Ent} (hS : Srt L) {p n m : List UInt8} (h1 : p ∈ pts L n) (h2 : p ∈ pts L m) : n = m := by
  obtain ⟨e, a1, b1⟩ := (mem_pts hS).1 h1
  obtain ⟨e', a2, b2⟩ := (mem_pts hS).1 h2
  rw [a1] at a2
  cases a2
  exact b1.symm.trans b2
theorem pts_nodup {L : Kv Ent} (hS : Srt L) (n : List UInt8) : (pts L n).Nodup := by
  unfold pts ptf
  refine List.Pairwise.filter _ ?_
  have h1 : (L.map (·.1)).Nodup := by
    refine List.pairwise_map.2 (hS.imp fun {p q} hpq e => ?_)
    have := bb_lt hpq
    rw [e] at this
    exact absurd this (List.lt_irrefl _)
  have h2 := List.Pairwise.filter (fun k => isO k) h1
  refine List.pairwise_map.2 (List.Pairwise.imp_of_mem ?_ h2)
  intro a b ha hb hab e
  have ea := isO_drop (List.mem_filter.1 ha).2
  have eb := isO_drop (List.mem_filter.1 hb).2
  exact hab (by rw [ea, eb, e])
theorem ows_nodup (L : Kv Ent) : (ows L).Nodup := by
  unfold ows
  refine List.pairwise_map.2 ((owM_srt L Srt.nil).imp fun {p q} hpq e => ?_)
  have := bb_lt hpq
  rw [e] at this
  exact absurd this (List.lt_irrefl _)
section
variable {w W : World} {s d : Nat} {Z : Nat → Prop} {L : Kv Ent}
set_option maxRecDepth 100000 in
set_option maxHeartbeats 8000000 in
theorem apart_any (h : SJ w s d L Z W) (hG : Gd L) (hn : L.length ≤ 4900) (hA : ∀ p n q m, p ∈ pts L n → q ∈ pts L m → n ≠ m → Lib.hasPrefix q (p ++ [47]) = false) : Calls Tryz.prog 27 #[.pointer (some ⟨s, 0, none⟩)] W fun x W2 => x = .returned (.bool true) ∧ Below W.heap.size W W2 := by
  have hmm := @run_makeMap Tryz.prog
  have bM := (Below.refl W.heap.size W).alloc (Nat.le_refl _) (.map #[] 0)
  have HM0 := Lib.hid (mt_made W)
  obtain ⟨mm, hmmE⟩ : ∃ mm, mm = W.heap.size := ⟨_, rfl⟩
  obtain ⟨V1, hV1⟩ : ∃ V1, V1 = W.alloc (.map #[] 0) := ⟨_, rfl⟩
  rw [← hmmE, ← hV1] at HM0
  rw [← hV1] at bM
  have cO := owners_gen (h.up bM) hn hG.osm
  have hol : (ows L).length ≤ 4900 := Nat.le_trans (ows_len L) hn
  have HOS : Hid (∀ x ∈ ows L, x.length ≤ 1000) := fun x hx => ows_short h.srt hG.osm hx
  have HON := Lib.hid (ows_nodup L)
  have HSr := Lib.hid h.srt
  have HJ := Lib.hid h
  have HGd := Lib.hid hG
  have HA := Lib.hid hA
  have HBM := Lib.hid bM
  have hmW : W.heap.size ≤ mm := by omega
  have hm1 : mm < V1.heap.size := mt_lt HM0.out
  generalize ows L = os at cO hol HOS HON
  clear h hG hA bM
  go_enter Tryz.func27, Tryz.ntmps27
  go_upto_region 2 with fail
  rw [← hV1, ← hmmE]
  clear hV1 hmmE hmm
  go_wp2_with fail
  refine cO.mono ?_
  rintro x V2 ⟨v, rfl, hTx, b2⟩
  obtain ⟨A, c, rfl, hTr⟩ := tr_tx hTx
  have HTr := Lib.hid hTr
  have HB2 := Lib.hid (HBM.out.trans (b2.mono HBM.out.size))
  have HM2 : Hid (MT V2 mm []) := mt_on HM0.out (b2.block mm hm1)
  have h12 := b2.size
  clear cO hTx hTr b2 HM0 HBM
  go_wp2_with fail
  go_loopw [16] (fun iv Y => ∃ k : Nat, k ≤ os.length ∧ iv = .int .i64 k ∧ Hid (∃ O, PO L os k [] 0 O ∧ MT Y mm O) ∧ Hid (KM mm V2 Y ∧ Below W.heap.size W Y)) (fun iv _ => os.length - (intOf iv).toNat)
  case atStart => exact ⟨0, Nat.zero_le _, rfl, ⟨[], ⟨Srt.nil, by simp, fun q n hq => (by cases hq)⟩, HM2.out⟩, ⟨Nat.le_refl _, fun _ _ _ => rfl⟩, HB2.out⟩
  case round =>
    obtain ⟨k, hk, rfl, HK, HY⟩ := hrel
    by_cases hlt : k < os.length
    · obtain ⟨g, rfl, hg1, hg2, hgc0⟩ := HTr.out.c k hlt
      have hgc := (World.cell?_of_block (a := ⟨g, k, none⟩) (HY.out.1.2 g hg2 (by omega))).trans hgc0
      have hgr : g < wr.heap.size := Nat.lt_of_lt_of_le hg2 HY.out.1.1
      have hnl := HOS.out _ (List.getElem_mem hlt)
      have HNN : Hid (∀ i (hi : i < os.length), i < k → os[i] ≠ os[k]) := fun i hi hik e => by
        have := nodup_idx HON.out _ _ e
        omega
      have cP := paths_gen (HJ.out.up HY.out.2) hn HGd.out.osm os[k] hnl
      have hpl : (pts L os[k]).length ≤ 4900 := Nat.le_trans (ptf_len L _ _) (by rw [List.length_map]; exact hn)
      have HP9 : Hid (∀ x ∈ pts L os[k], x.length ≤ 900) := fun x hx => HGd.out.pts hx
      have HPN := Lib.hid (pts_nodup HSr.out os[k])
      have HPM : Hid (∀ q, q ∈ pts L os[k] → ∀ n, q ∈ pts L n → n = os[k]) := fun q h1 n h2 => pts_fun HSr.out h2 h1
      have HKN : Hid (∀ O, PO L os k (pts L os[k]) (pts L os[k]).length O → PO L os (k + 1) [] 0 O) := fun O hO => ⟨hO.s, by have := hO.n; omega, fun q n hq => by
        obtain ⟨h1, h2⟩ := hO.i q n hq
        refine ⟨h1, .inl ?_⟩
        rcases h2 with ⟨i, hi, h3, h4⟩ | ⟨t, ht, _, h4⟩
        · exact ⟨i, hi, by omega, h4⟩
        · exact ⟨k, hlt, by omega, pts_fun HSr.out h1 (by rw [← h4]; exact List.getElem_mem ht)⟩⟩
      have HIN : Hid (∀ j (hj : j < (pts L os[k]).length) O, PO L os k (pts L os[k]) j O → lkL (pts L os[k])[j] O = none) := fun j hj O hO => by
        cases hl : lkL (pts L os[k])[j] O with
        | none => rfl
        | some n =>
          exfalso
          obtain ⟨h1, h2⟩ := hO.i _ n hl
          have e1 := HPM.out _ (List.getElem_mem hj) n h1
          rcases h2 with ⟨i, hi, h3, h4⟩ | ⟨t, ht, h3, h4⟩
          · exact HNN.out i hi h3 (h4.symm.trans e1)
          · have := nodup_idx HPN.out _ _ h4
            omega
      have HPP : Hid (∀ j (hj : j < (pts L os[k]).length) O, PO L os k (pts L os[k]) j O → PO L os k (pts L os[k]) (j + 1) (putL (pts L os[k])[j] os[k] O)) := fun j hj O hO => by
        refine ⟨hO.s.put _ _, Nat.le_trans (putL_len _ _ _) (by have := hO.n; omega), fun q n hq => ?_⟩
        by_cases e : q = (pts L os[k])[j]
        · subst e
          rw [lk_put_same hO.s] at hq
          cases hq
          exact ⟨List.getElem_mem hj, .inr ⟨j, hj, by omega, rfl⟩⟩
        · rw [lk_put_other hO.s e] at hq
          obtain ⟨h1, h2⟩ := hO.i q n hq
          exact ⟨h1, h2.imp id fun ⟨t, ht, h3, h4⟩ => ⟨t, ht, by omega, h4⟩⟩
      have HST : Hid (∃ O, PO L os k (pts L os[k]) 0 O ∧ MT wr mm O) := by
        obtain ⟨O, hO, hM⟩ := HK.out
        exact ⟨O, ⟨hO.s, hO.n, fun q n hq => (hO.i q n hq).imp id fun h => h.imp id fun ⟨t, ht, _⟩ => absurd ht (Nat.not_lt_zero _)⟩, hM⟩
      generalize pts L os[k] = ps at cP hpl HP9 HPN HPM HKN HIN HPP HST
      generalize os[k] = n at hgc hnl cP HNN HPM HPP hgc0
      clear HK HNN HPM HPN hgc0
      go_wp2_with fail
      refine cP.mono ?_
      rintro x V3 ⟨v3, rfl, hr3, b3⟩
      obtain ⟨A3, c3, rfl, _, hTr3⟩ := tr_own hr3
      have HTr3 := Lib.hid hTr3
      have hmY : mm < wr.heap.size := by have := HY.out.1.1; omega
      have HST3 : Hid (∃ O, PO L os k ps 0 O ∧ MT V3 mm O) := by
        obtain ⟨O, hO, hM⟩ := HST.out
        exact ⟨O, hO, mt_on hM (b3.block mm hmY)⟩
      have HY3 : Hid (KM mm V2 V3 ∧ Below W.heap.size W V3) := ⟨HY.out.1.on b3, HY.out.2.trans (b3.mono HY.out.2.size)⟩
      have h3s := b3.size
      clear cP hr3 hTr3 b3 HST HY hgc
      go_wp2_with fail
      go_loopw [24] (fun iv Y => ∃ j : Nat, j ≤ ps.length ∧ iv = .int .i64 j ∧ Hid (∃ O, PO L os k ps j O ∧ MT Y mm O) ∧ Hid (KM mm V3 Y ∧ Below W.heap.size W Y)) (fun iv _ => ps.length - (intOf iv).toNat)
      case atStart => exact ⟨0, Nat.zero_le _, rfl, HST3.out, ⟨Nat.le_refl _, fun _ _ _ => rfl⟩, HY3.out.2⟩
      case round =>
        obtain ⟨j, hj, rfl, HK, HYj⟩ := hrel
        by_cases hjt : j < ps.length
        · obtain ⟨g3, rfl, hg31, hg32, hgc30⟩ := HTr3.out.c j hjt
          have hgc3 := (World.cell?_of_block (a := ⟨g3, j, none⟩) (HYj.out.1.2 g3 hg32 (by omega))).trans hgc30
          have hgr3 : g3 < wr.heap.size := Nat.lt_of_lt_of_le hg32 HYj.out.1.1
          have hp9 := HP9.out _ (List.getElem_mem hjt)
          obtain ⟨O, hO, hM⟩ := HK.out
          have hlook := mtlook hM ps[j] (by omega)
          rw [show tat ps[j] O = [] by unfold tat; rw [HIN.out j hjt O hO]; rfl, show (([] : List UInt8).toArray) = #[] from rfl] at hlook
          obtain ⟨w7, hrun, hown7, hturn⟩ := hM.store law9 Tryz.underlying80 (by unfold maxLen; have := hO.n; omega) (key9 ps[j] (by omega)) (val := .string ⟨n.toArray⟩) (d := .held (.string ⟨n.toArray⟩)) (ps := []) rfl
          have h7 : MT w7 mm (putL ps[j] n O) := by
            have e1 := toD_put sv ps[j] n O
            rw [show DataW.held (sv n) = DataW.held (Value.string ⟨n.toArray⟩) from rfl] at e1
            rw [e1] at hown7
            exact own_tight hown7
          have HF7 : Hid ((∃ O, PO L os k ps (j + 1) O ∧ MT w7 mm O) ∧ (KM mm V3 w7 ∧ Below W.heap.size W w7)) := ⟨⟨_, HPP.out j hjt O hO, h7⟩, ⟨Nat.le_trans HYj.out.1.1 hturn.grown.size, fun t ht hm => (hturn.grown.block t (Nat.lt_of_lt_of_le ht HYj.out.1.1) (fun e => hm (by cases e; rfl))).trans (HYj.out.1.2 t ht hm)⟩, HYj.out.2.grown hturn.grown HYj.out.2.size (fun r hr => by cases hr; exact hmW)⟩
          generalize ps[j] = p at hgc3 hlook hrun hp9 hgc30
          clear HK hM hO h7 hown7 hturn HYj hgc30
          go_wp2_with fail
          exact ⟨⟨j + 1, hjt, by go_num, HF7.out.1, HF7.out.2⟩, by simp [intOf]; omega⟩
        · have hje : j = ps.length := by omega
          have HFe : Hid ((∃ O, PO L os (k + 1) [] 0 O ∧ MT wr mm O) ∧ (KM mm V2 wr ∧ Below W.heap.size W wr)) := by
            obtain ⟨O, hO, hM⟩ := HK.out
            rw [hje] at hO
            exact ⟨⟨O, HKN.out O hO, hM⟩, ⟨Nat.le_trans HY3.out.1.1 HYj.out.1.1, fun t ht hm => (HYj.out.1.2 t (Nat.lt_of_lt_of_le ht HY3.out.1.1) hm).trans (HY3.out.1.2 t ht hm)⟩, HYj.out.2⟩
          clear HK HYj hje
          go_wp2_with fail
          exact ⟨⟨k + 1, hlt, by go_num, HFe.out.1, HFe.out.2⟩, by simp [intOf]; omega⟩
    · have hke : k = os.length := by omega
      obtain ⟨O, hO, hM⟩ := HK.out
      have HPO : Hid (∀ q n, lkL q O = some n → q ∈ pts L n) := fun q n hq => (hO.i q n hq).1
      have hOl : O.length ≤ 100000000 := by have := hO.n; omega
      have HM : Hid (MT wr mm O) := hM
      have HYe := Lib.hid HY.out.2
      clear HK HY hke hO hM HM2 HB2
      obtain ⟨V4, hV4⟩ : ∃ V4, V4 = wr := ⟨_, rfl⟩
      rw [← hV4] at HM HYe ⊢
      clear hV4
      have hown := HM.out
      go_wp2_with (first
        | (at_range; refine wpList_range_own _ rfl _ 80 rfl 9 9 law9 Tryz.underlying80 Rv mm O.length (toD sv O) rfl hown ?_; intro W5 hrg0 hg0 hs0)
        | fail)
      go_frame
      have hb5 := gr_below hg0
      have HR0 : Hid (W5.ranges Tryz.prog 9 Rv mm V4.heap.size O.length (toD sv O) (Maps.has (toD sv O)) (Maps.size (toD sv O)) ∧ Below W.heap.size W W5) := ⟨hrg0, HYe.out.trans (hb5.mono HYe.out.size)⟩
      have hr1W : W.heap.size ≤ V4.heap.size := HYe.out.size
      generalize V4.heap.size = r1 at HR0 hr1W ⊢
      clear hrg0 hg0 hs0 hb5 hown HM HYe
      go_loopw [39] (fun _ Y => ∃ left cnt, Hid (Y.ranges Tryz.prog 9 Rv mm r1 O.length (toD sv O) left cnt ∧ Below W.heap.size W Y)) (fun _ Y => Y.rangeLeft mm r1)
      case atStart => exact ⟨_, _, HR0⟩
      case round =>
        clear HR0
        obtain ⟨left, cnt, HR⟩ := hrel
        have hrg := HR.out.1
        go_wp2_with (first
          | (at_next; refine next_texts _ rfl _ rfl mm r1 _ _ left cnt rfl hrg ?_ ?_)
          | fail)
        · intro hl0
          clear hl0 hrg
          have HF := Lib.hid HR.out.2
          clear HR
          go_wp2
          go_ret
          exact ⟨rfl, HF.out⟩
        · intro p n W6 cnt6 hlk hlo hrg6 hlt6 hg6 hs6 hen
          have hp1 := HPO.out p n hlo
          have hp9 := HGd.out.pts hp1
          have hle := hrg.left_eq
          have HL := Lib.hid (And.intro hle hlt6)
          have H6 : Hid (W6.ranges Tryz.prog 9 Rv mm r1 O.length (toD sv O) (fun z => left z && !z.sameKey (.string p)) cnt6 ∧ Below W.heap.size W W6) := ⟨hrg6, HR.out.2.grown hg6 HR.out.2.size (fun r hr => by cases hr; exact hr1W)⟩
          have hown6 : MT W6 mm O := hrg6.owns
          have HP1 := Lib.hid hp1
          clear hrg hlk hlo hrg6 hlt6 hg6 hs6 hle HR hp1
          go_wp2_with (first
            | (at_range; refine wpList_range_own _ rfl _ 80 rfl 9 9 law9 Tryz.underlying80 Rv mm O.length (toD sv O) rfl hown6 ?_; intro W7 hrg7 hg7 hs7)
            | fail)
          go_frame
          have hb7 := gr_below hg7
          have hlt6 := rg_lt H6.out.1
          have H7 : Hid (W7.ranges Tryz.prog 9 Rv mm W6.heap.size O.length (toD sv O) (Maps.has (toD sv O)) (Maps.size (toD sv O)) ∧ W7.ranges Tryz.prog 9 Rv mm r1 O.length (toD sv O) (fun z => left z && !z.sameKey (.string p)) cnt6 ∧ Below W.heap.size W W7) := ⟨hrg7, rg_kp H6.out.1 (hb7.block mm hlt6.1) (hb7.block r1 hlt6.2), H6.out.2.trans (hb7.mono H6.out.2.size)⟩
          have hr2W : W.heap.size ≤ W6.heap.size := H6.out.2.size
          have hr21 : W6.heap.size ≠ r1 := by have := hlt6.2; omega
          have hr2m : W6.heap.size ≠ mm := by have := hlt6.1; omega
          generalize W6.heap.size = r2 at H7 hr2W hr21 hr2m ⊢
          clear hrg7 hg7 hs7 hb7 hown6 H6 hen hlt6
          go_loopw [46] (fun _ Y => ∃ left2 cnt2, Hid (Y.ranges Tryz.prog 9 Rv mm r2 O.length (toD sv O) left2 cnt2 ∧ Y.ranges Tryz.prog 9 Rv mm r1 O.length (toD sv O) (fun z => left z && !z.sameKey (.string p)) cnt6 ∧ Below W.heap.size W Y)) (fun _ Y => Y.rangeLeft mm r2)
          case atStart => exact ⟨_, _, H7⟩
          case round =>
            clear H7
            obtain ⟨left2, cnt2, HR2⟩ := hrel
            have hrg2 := HR2.out.1
            go_wp2_with (first
              | (at_next; refine next_texts _ rfl _ rfl mm r2 _ _ left2 cnt2 rfl hrg2 ?_ ?_)
              | fail)
            · intro hl0
              have hle2 := HR2.out.2.1.left_eq
              have HF : Hid ((wr.ranges Tryz.prog 9 Rv mm r1 O.length (toD sv O) (fun z => left z && !z.sameKey (.string p)) cnt6 ∧ Below W.heap.size W wr) ∧ wr.rangeLeft mm r1 = cnt6) := ⟨HR2.out.2, hle2⟩
              clear hl0 hrg2 HR2 hle2
              go_wp2_with fail
              exact ⟨⟨_, _, HF.out.1⟩, by rw [HF.out.2, HL.out.1]; exact HL.out.2⟩
            · intro q m W8 cnt8 hlk2 hlo2 hrg8 hlt8 hg8 hs8 hen8
              have hq1 := HPO.out q m hlo2
              have hq9 := HGd.out.pts hq1
              have hle2 := hrg2.left_eq
              have hlr := rg_lt HR2.out.2.1
              have hrg81 := rg_kp HR2.out.2.1 (hg8.block mm hlr.1 (fun e => hr2m (by cases e; rfl))) (hg8.block r1 hlr.2 (fun e => hr21 (by cases e; rfl)))
              have hle8 := hrg8.left_eq
              have H8 : Hid ((W8.ranges Tryz.prog 9 Rv mm r2 O.length (toD sv O) (fun z => left2 z && !z.sameKey (.string q)) cnt8 ∧ W8.ranges Tryz.prog 9 Rv mm r1 O.length (toD sv O) (fun z => left z && !z.sameKey (.string p)) cnt6 ∧ Below W.heap.size W W8) ∧ W8.rangeLeft mm r2 < wr.rangeLeft mm r2) := ⟨⟨hrg8, hrg81, HR2.out.2.2.grown hg8 HR2.out.2.2.size (fun r hr => by cases hr; exact hr2W)⟩, by rw [hle8, hle2]; exact hlt8⟩
              have cH := Tryz.strings_HasPrefix ⟨q.toArray⟩ ⟨(p ++ [47]).toArray⟩ W8
              change Calls Tryz.prog 41 _ W8 fun e w' => e = .returned (.bool (Lib.hasPrefix q (p ++ [47]))) ∧ w' = W8 at cH
              rw [← cat2] at cH
              clear hrg2 HR2 hrg8 hrg81 hle2 hle8 hlk2 hlo2 hlt8 hg8 hs8 hlr
              by_cases e : n = m
              · have he : (n == m) = true := beq_iff_eq.2 e
                clear e cH hq1
                go_wp2_with fail
                exact ⟨⟨_, _, H8.out.1⟩, H8.out.2⟩
              · have he : (n == m) = false := beq_eq_false_iff_ne.2 e
                rw [HA.out p n q m HP1.out hq1 e] at cH
                clear e hq1
                go_wp2_with fail
                refine cH.mono ?_
                rintro x W9 ⟨rfl, rfl⟩
                clear cH
                go_wp2_with fail
                exact ⟨⟨_, _, H8.out.1⟩, H8.out.2⟩
end
end Go.Proofs.YtlldfmnoidndmaaGreatDoor.Dsk
