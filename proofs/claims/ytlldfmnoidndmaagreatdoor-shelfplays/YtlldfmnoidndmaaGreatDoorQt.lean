/- The reference's shelf: three maps; Paths. -/
import Derived.Test.YtlldfmnoidndmaaGreatDoorQh
import Derived.Test.YtlldfmnoidndmaaGreatDoorSy
import Derived.Sort.OwnSorted
import Derived.Maps.AppendAt
import Derived.Test.YtlldfmnoidndmaaGreatDoorQw
namespace Go.Proofs.YtlldfmnoidndmaaGreatDoor.Dsk
open Go.RowKit Go.Sort Go.Maps

/-- The reference's shelf: whose paths are, what lies there, what was shipped. -/
structure RX (W : World) (r mw md ms : Nat) (A D S : Kv (List UInt8)) : Prop where
  blk : W.heap[r]? = some (.cells #[.map (some mw), .map (some md), .map (some ms)] 82 (0, 0))
  a : MT W mw A
  d : MT W md D
  s : MT W ms S
  sa : Srt A
  sd : Srt D
  ss : Srt S
  n1 : mw ≠ md
  n2 : mw ≠ ms
  n3 : md ≠ ms
theorem RX.on {W W2 : World} {r mw md ms : Nat} {A D S : Kv (List UInt8)} (h : RX W r mw md ms A D S) (hb : Below W.heap.size W W2) : RX W2 r mw md ms A D S :=
  ⟨(hb.block r (Array.getElem?_eq_some_iff.1 h.blk).1).trans h.blk, mt_on h.a (hb.block mw (mt_lt h.a)), mt_on h.d (hb.block md (mt_lt h.d)), mt_on h.s (hb.block ms (mt_lt h.s)), h.sa, h.sd, h.ss, h.n1, h.n2, h.n3⟩
/-- The paths of one. -/
def rpt (A : Kv (List UInt8)) (n : List UInt8) : List (List UInt8) := (A.filter fun p => p.2 == n).map (·.1)
theorem mem_rpt {A : Kv (List UInt8)} (h : Srt A) {n p : List UInt8} : p ∈ rpt A n ↔ lkL p A = some n := by
  unfold rpt
  rw [List.mem_map, lk_iff h]
  constructor
  · rintro ⟨⟨a, b⟩, h1, rfl⟩
    have := List.mem_filter.1 h1
    have e : b = n := by simpa using this.2
    rw [← e]
    exact this.1
  · intro h1
    exact ⟨(p, n), List.mem_filter.2 ⟨h1, by simp⟩, rfl⟩
theorem rpt_srt {A : Kv (List UInt8)} (h : Srt A) (n : List UInt8) : (rpt A n).Pairwise fun x y => bytesBefore x y = true := List.pairwise_map.2 (h.filter _)
theorem bbs_nodup {l : List (List UInt8)} (h : l.Pairwise fun x y => bytesBefore x y = true) : l.Nodup := h.imp fun {p q} hpq e => by
  have := bb_lt hpq
  rw [e] at this
  exact absurd this (List.lt_irrefl _)
theorem bbs_sort {l ss : List (List UInt8)} (h : l.Pairwise fun x y => bytesBefore x y = true) (hn : ss.Nodup) (hm : ∀ x, x ∈ ss ↔ x ∈ l) : (ss.mergeSort fun x y => decide (x ≤ y)) = l := by
  have hp : ss.Perm l := (List.perm_ext_iff_of_nodup hn (bbs_nodup h)).2 hm
  rw [mergeSort_of_perm hp]
  exact List.mergeSort_of_pairwise (h.imp fun {p q} hpq => decide_eq_true (List.le_of_lt (bb_lt hpq)))
/-- What was collected so far: those that were met, and are one's. -/
structure CF (A : Kv (List UInt8)) (n : List UInt8) (left : Lit → Bool) (ss : List (List UInt8)) : Prop where
  nd : ss.Nodup
  m : ∀ x, x ∈ ss ↔ lkL x A = some n ∧ left (.string x) = false
theorem sameKey_str (x k : List UInt8) : (Lit.string x).sameKey (.string k) = (x == k) := by
  simp [Lit.sameKey]
set_option maxHeartbeats 3200000 in
set_option maxRecDepth 100000 in
theorem rpaths_any {W : World} {r mw md ms : Nat} {A D S : Kv (List UInt8)} (h : RX W r mw md ms A D S) (n : List UInt8) (hA : A.length ≤ 1000000) : Calls Tryz.prog 40 #[.pointer (some ⟨r, 0, none⟩), .string ⟨n.toArray⟩] W fun x W2 => ∃ v, x = .returned v ∧ Tx W.heap.size W2 v (rpt A n) ∧ Below W.heap.size W W2 := by
  obtain ⟨i0, hi, hz0, hz1, hz2⟩ := infoQ info9
  have hown := h.a
  have hbl := hown.lt
  have c0 : W.cell? ⟨r, 0, none⟩ = some (.map (some mw)) := by simp [World.cell?, h.blk]
  have hrl : r < W.heap.size := block_lt_of_cell c0
  have HSr := Lib.hid h.sa
  have hsz : Maps.size (toD sv A) = A.length := toD_size _ _
  clear h
  go_enter Tryz.func40, Tryz.ntmps40
  go_wp2_with (first | (at_range; refine wpList_range_own _ rfl _ 80 rfl 9 9 law9 Tryz.underlying80 Rv mw A.length _ rfl hown ?_; intro w1 hrg1 hg1 hs1))
  have hb1 : Below W.heap.size W w1 := gr_below hg1
  have HR := Lib.hid hrg1
  clear hg1 hs1 hrg1
  go_frame
  go_loopw [5] (fun v wr => ∃ (left : Lit → Bool) (cnt : Nat) (ss : List (List UInt8)), wr.ranges Tryz.prog 9 Rv mw W.heap.size A.length (toD sv A) left cnt ∧ ss.length + cnt ≤ A.length ∧ wr.ownsRow W.heap.size 9 1 v ss.length (ss.map encStr) ∧ (v = .slice none 0 0 → ss = []) ∧ Hid (CF A n left ss) ∧ Below W.heap.size W wr) (fun _ wr => wr.rangeLeft mw W.heap.size)
  case atStart => exact ⟨_, _, [], HR.out, by simp [hsz], World.ownsRow_nil _ _ _ _, fun _ => rfl, ⟨List.nodup_nil, fun x => ⟨fun hx => (by cases hx), fun ⟨h1, h2⟩ => by rw [toD_has, h1] at h2; cases h2⟩⟩, hb1⟩
  case round =>
    obtain ⟨left, cnt, ss, hrg, hcs, hrow, hnn, HC, hnx⟩ := hrel
    have HRg := Lib.hid hrg
    go_wp2_with (first | (at_next; refine next_texts _ rfl _ rfl mw W.heap.size A.length _ _ _ rfl hrg ?_ ?_))
    · intro hl0
      have e1 : (ss.mergeSort fun x y => decide (x ≤ y)) = rpt A n := bbs_sort (rpt_srt HSr.out n) HC.out.nd fun x => by
        rw [HC.out.m, mem_rpt HSr.out]
        exact ⟨fun h => h.1, fun h => ⟨h, hl0 _⟩⟩
      have e2 : ss.length = (rpt A n).length := by rw [← e1, List.length_mergeSort]
      rcases hrow.2 with ⟨hnil, hx0⟩ | ⟨g, cap, cur, rfl, hbase, hb, h1, h2, h3, h4⟩
      · have hss := hnn hnil
        subst hss hnil
        have cS := Tryz.sort_Strings_none none 0 wr
        have ht : Tx W.heap.size wr (.slice none 0 0) (rpt A n) := ⟨.inl ⟨List.length_eq_zero_iff.1 e2.symm, rfl⟩⟩
        clear hrow HC e1 e2 hl0 hrg
        go_wp2_with fail
        refine cS.mono ?_
        rintro x w' ⟨rfl, rfl⟩
        go_wp2
        go_ret
        exact ⟨_, rfl, ht, hnx⟩
      · have hH : Holds encStr wr g 0 ss.toArray := holds_of_block hb (by simpa using h4)
        have hgl : g < wr.heap.size := (Array.getElem?_eq_some_iff.1 hb).1
        have hc := Tryz.sort_Strings g 0 cap ss wr hH hgl (by omega)
        have HO : Hid (∀ nn os, (grow (putRow encStr (Sort.ahead wr nn) g 0 (ss.mergeSort fun x y => decide (x ≤ y)).toArray) os).ownsRow W.heap.size 9 1 (.slice (some ⟨g, 0, none⟩) ss.length cap) ss.length ((ss.mergeSort (fun x y => decide (x ≤ y))).map encStr) ∧ Below W.heap.size W (grow (putRow encStr (Sort.ahead wr nn) g 0 (ss.mergeSort fun x y => decide (x ≤ y)).toArray) os)) := fun nn os => ⟨ownsRow_sorted (by simp) hbase hb h1 h2 h3, hnx.grown (grownBy_sorted _) hnx.size (fun j hj => by cases hj; exact hbase)⟩
        have HE1 := Lib.hid e1
        have HE2 := Lib.hid e2
        clear hrow HC e1 e2 hl0 hrg hH h1 h2 h3 h4 hb
        go_wp2_with fail
        refine hc.mono ?_
        rintro x w' ⟨rfl, nn, os, rfl⟩
        obtain ⟨h5, h6⟩ := HO.out nn os
        generalize grow (putRow encStr (Sort.ahead wr nn) g 0 (ss.mergeSort fun x y => decide (x ≤ y)).toArray) os = w9 at h5 h6 ⊢
        rw [HE1.out, HE2.out] at h5
        have ht : Tx W.heap.size _ _ (rpt A n) := tx_own h5 fun hv => by cases hv
        rw [← HE2.out] at ht
        clear h5 HO hc
        go_wp2
        go_ret
        exact ⟨_, rfl, ht, h6⟩
    · intro x m w2 cnt2 hlx hlk hrg2 hlt hg2 hs2 hen
      have hrow2 := hrow.kept hg2 (Or.inr (row_ne_iter hrow hrg).symm)
      have hcs2 : ss.length + 1 + cnt2 ≤ A.length := by omega
      have hnx2 := hnx.grown hg2 hnx.size (fun j hj => by cases hj; exact Nat.le_refl _)
      have hbw2 := hnx2.size
      have HLf : Hid (∀ y, (left (.string y) && !(Lit.string y).sameKey (.string x)) = false ↔ left (.string y) = false ∨ y = x) := fun y => by
        rw [sameKey_str]
        cases left (.string y) <;> simp
      by_cases e : m = n
      · have he : (m == n) = true := beq_iff_eq.2 e
        have HC2 : Hid (CF A n (fun z => left z && !z.sameKey (.string x)) (ss ++ [x])) := by
          refine ⟨?_, fun y => ?_⟩
          · rw [List.nodup_append]
            refine ⟨HC.out.nd, by simp, fun a ha b hb hab => ?_⟩
            have hbx : b = x := by simpa using hb
            have := ((HC.out.m a).1 ha).2
            rw [hab, hbx, hlx] at this
            cases this
          · rw [List.mem_append, HC.out.m, HLf.out]
            constructor
            · rintro (⟨h1, h2⟩ | h1)
              · exact ⟨h1, .inl h2⟩
              · have : y = x := by simpa using h1
                subst this
                exact ⟨by rw [hlk, e], .inr rfl⟩
            · rintro ⟨h1, h2 | h2⟩
              · exact .inl ⟨h1, h2⟩
              · exact .inr (by simp [h2])
        clear hs2 HC hlk hlx e HLf
        go_wp2_with (first
          | (at_builtin; refine wpList_append_own _ rfl _ _ 40 rfl W.heap.size 9 i0 (.string ⟨#[]⟩) 1 16 Tryz.underlying40 hi hz0 hz1 hz2 rfl (by decide) _ _ _ rfl (hrow2.alloc _) ⟨w2.heap.size, 0, none⟩ 1 1 [encStr x] rfl rfl (cell_one_new _ _ _) (by simp [Value.oneCell', encStr]) (by unfold maxLen; omega) (by omega) (by simp; omega) ?_; intro v' w3 hown' hg3 hnil3; go_frame))
        have hrg3 := (hrg2.alloc _).kept hg3 (row_ne_low hrow2 hbl) (row_ne_iter hrow2 hrg2)
        have hnx3 := (hnx2.alloc hbw2 _).grown hg3 (by simp; omega) (fun j hj => (hrow2.lt j hj).1)
        exact ⟨⟨_, cnt2, ss ++ [x], hrg3, by simp; omega, by simpa using hown', fun hv' => by have := (hnil3.1 hv').2; omega, HC2, hnx3⟩, by rw [hrg3.left_eq, HRg.out.left_eq]; exact hlt⟩
      · have he : (m == n) = false := beq_eq_false_iff_ne.2 e
        have HC2 : Hid (CF A n (fun z => left z && !z.sameKey (.string x)) ss) := by
          refine ⟨HC.out.nd, fun y => ?_⟩
          rw [HC.out.m, HLf.out]
          constructor
          · rintro ⟨h1, h2⟩; exact ⟨h1, .inl h2⟩
          · rintro ⟨h1, h2 | h2⟩
            · exact ⟨h1, h2⟩
            · subst h2
              rw [hlk] at h1
              exact absurd (Option.some.inj h1) e
        have hle2 := hrg2.left_eq
        have HM : Hid (w2.rangeLeft mw W.heap.size < wr.rangeLeft mw W.heap.size) := by show _ < _; rw [hle2, HRg.out.left_eq]; exact hlt
        have HQ : Hid (w2.ranges Tryz.prog 9 Rv mw W.heap.size A.length (toD sv A) (fun z => left z && !z.sameKey (.string x)) cnt2 ∧ w2.ownsRow W.heap.size 9 1 _ ss.length (ss.map encStr) ∧ Below W.heap.size W w2) := ⟨hrg2, hrow2, hnx2⟩
        clear hs2 HC hlk hlx e HLf hle2 hrg2 hrow2 hnx2 hrow hrg hnx
        go_wp2_with fail
        exact ⟨⟨_, cnt2, ss, HQ.out.1, by omega, HQ.out.2.1, hnn, HC2, HQ.out.2.2⟩, HM.out⟩
end Go.Proofs.YtlldfmnoidndmaaGreatDoor.Dsk
namespace Go.Proofs.YtlldfmnoidndmaaGreatDoor.Dsk
open Go.RowKit Go.Sort Go.Maps

section
variable {ops : Array Oper} {rest : List Oper} {o : Oper} {a : Act} {Q : Exit → Act → World → Prop}
theorem next_vals (w : World) (hg : o.guard = none) (it : Operand) (hop : o.op = Op.next it false) (mn r n : Nat) (O : Kv Value) (left : Lit → Bool) (cnt : Nat) (hit : a.eval it = .pointer (some ⟨r, 0, none⟩)) (h : w.ranges Tryz.prog 9 Rv mn r n (toD (fun v : Value => v) O) left cnt)
    (hDone : (∀ kl, left kl = false) → wpList Tryz.prog ops Q rest (a.put o.dst (.tuple #[.bool false])) w)
    (hMore : ∀ (k : List UInt8) (v : Value) (w' : World) (cnt' : Nat), left (.string k) = true → lkL k O = some v → w'.ranges Tryz.prog 9 Rv mn r n (toD (fun v : Value => v) O) (fun z => left z && !z.sameKey (.string k)) cnt' → cnt' < cnt → w.grownBy w' (some r) → w'.heap.size = w.heap.size →
      (Instr.entry (.pointer (some ⟨r, 0, none⟩))).run Tryz.prog w' = .ok (.tuple #[.string ⟨k.toArray⟩, v]) w' → wpList Tryz.prog ops Q rest (a.put o.dst (.tuple #[.bool true, .string ⟨k.toArray⟩, v])) w') :
    wpList Tryz.prog ops Q (o :: rest) a w := by
  refine wpList_next_ranges w hg it hop 9 law9 Rv (fun s : List UInt8 => .string ⟨s.toArray⟩) (fun v : Value => v) (fun key kl hk => ?_) (fun v _ _ => ⟨v, rfl⟩) mn r n (toD (fun v : Value => v) O) left cnt hit h (fun _ hl => hDone hl) ?_
  · obtain ⟨s, h1, _⟩ := str_key hk
    exact ⟨s, h1⟩
  · intro x c kl y w' cnt' hkey hlk hv hat hrg hlt hgr hsz hen
    obtain ⟨s, h1, h2⟩ := str_key hkey
    have e1 : x = s := by simpa using h1
    subst e1
    subst h2
    cases hv
    cases hl : lkL x O with
    | none =>
      have h3 := hat (.map [])
      rw [toD_at, hl] at h3
      cases h3
    | some t =>
      have h3 := hat (.map [])
      rw [toD_at, hl] at h3
      simp at h3
      subst h3
      exact hMore x _ w' cnt' hlk hl hrg hlt hgr hsz hen
end
/-- Whose there are paths, in order. -/
def rwM : Kv (List UInt8) → Kv Unit → Kv Unit
  | [], U => U
  | kv :: r, U => rwM r (putL kv.2 () U)
def rown (A : Kv (List UInt8)) : List (List UInt8) := (rwM A []).map (·.1)
theorem rwM_srt : ∀ (r : Kv (List UInt8)) {U : Kv Unit}, Srt U → Srt (rwM r U)
  | [], _, h => h
  | _ :: r, _, h => rwM_srt r (h.put _ _)
theorem rwM_lk (n : List UInt8) : ∀ (r : Kv (List UInt8)) {U : Kv Unit}, Srt U → (lkL n (rwM r U) = some () ↔ lkL n U = some () ∨ ∃ kv ∈ r, kv.2 = n)
  | [], U, _ => by simp [rwM]
  | kv :: r, U, h => by
    unfold rwM
    rw [rwM_lk n r (h.put _ _)]
    by_cases en : n = kv.2
    · subst en
      rw [lk_put_same h]
      simp
    · rw [lk_put_other h en]
      constructor
      · rintro (h1 | ⟨x, h1, h2⟩)
        · exact .inl h1
        · exact .inr ⟨x, List.mem_cons_of_mem _ h1, h2⟩
      · rintro (h1 | ⟨x, h1, h2⟩)
        · exact .inl h1
        · rcases List.mem_cons.1 h1 with rfl | h1
          · exact absurd h2.symm en
          · exact .inr ⟨x, h1, h2⟩
theorem mem_rown {A : Kv (List UInt8)} (h : Srt A) {n : List UInt8} : n ∈ rown A ↔ ∃ p, lkL p A = some n := by
  unfold rown
  have hU := rwM_srt A (U := []) Srt.nil
  have h1 := rwM_lk n A (U := []) Srt.nil
  rw [lk_iff hU] at h1
  constructor
  · intro hn
    obtain ⟨⟨k, u⟩, h2, rfl⟩ := List.mem_map.1 hn
    rcases h1.1 h2 with h3 | ⟨⟨p, q⟩, h3, h4⟩
    · cases h3
    · exact ⟨p, (lk_iff h).2 (by rw [← h4]; exact h3)⟩
  · rintro ⟨p, hp⟩
    exact List.mem_map.2 ⟨(n, ()), h1.2 (.inr ⟨(p, n), (lk_iff h).1 hp, rfl⟩), rfl⟩
theorem rown_srt (A : Kv (List UInt8)) : (rown A).Pairwise fun x y => bytesBefore x y = true := List.pairwise_map.2 (rwM_srt A (U := []) Srt.nil)
/-- Who was met so far. -/
structure Cw (A : Kv (List UInt8)) (left : Lit → Bool) (cnt : Nat) (M : Kv Value) : Prop where
  s : Srt M
  n : M.length + cnt ≤ A.length
  k : ∀ x, lkL x M ≠ none ↔ ∃ p, lkL p A = some x ∧ left (.string p) = false
  v : ∀ x, ∃ c : Nat, iat x M = .int .i64 c ∧ c + cnt ≤ A.length
theorem Cw.put {A : Kv (List UInt8)} {left : Lit → Bool} {cnt cnt' : Nat} {M : Kv Value} (h : Cw A left cnt M) {p n : List UInt8} (hp : lkL p A = some n) (hc : cnt' < cnt) (c : Nat) (hv : iat n M = .int .i64 c) : Cw A (fun z => left z && !z.sameKey (.string p)) cnt' (putL n (.int .i64 ((c : Int) + 1)) M) := by
  have hb : c + cnt ≤ A.length := by
    obtain ⟨c', h1, h2⟩ := h.v n
    rw [hv] at h1
    have : c = c' := by simp at h1; omega
    omega
  refine ⟨h.s.put _ _, Nat.le_trans (Nat.add_le_add_right (putL_len _ _ _) _) (by have := h.n; omega), fun x => ?_, fun x => ?_⟩
  · have hlf : ∀ q, (left (.string q) && !(Lit.string q).sameKey (.string p)) = false ↔ left (.string q) = false ∨ q = p := fun q => by
      rw [sameKey_str]
      cases left (.string q) <;> simp
    by_cases e : x = n
    · subst e
      rw [lk_put_same h.s]
      exact ⟨fun _ => ⟨p, hp, (hlf p).2 (.inr rfl)⟩, fun _ => by simp⟩
    · rw [lk_put_other h.s e, h.k]
      constructor
      · rintro ⟨q, h1, h2⟩; exact ⟨q, h1, (hlf q).2 (.inl h2)⟩
      · rintro ⟨q, h1, h2⟩
        rcases (hlf q).1 h2 with h3 | h3
        · exact ⟨q, h1, h3⟩
        · subst h3
          rw [hp] at h1
          exact absurd (Option.some.inj h1).symm e
  · by_cases e : x = n
    · subst e
      exact ⟨c + 1, by unfold iat; rw [lk_put_same h.s]; rfl, by omega⟩
    · obtain ⟨c', h1, h2⟩ := h.v x
      refine ⟨c', ?_, by omega⟩
      unfold iat at h1 ⊢
      rw [lk_put_other h.s e]
      exact h1
set_option maxHeartbeats 6400000 in
set_option maxRecDepth 100000 in
theorem rowners_any {W : World} {r mw md ms : Nat} {A D S : Kv (List UInt8)} (h : RX W r mw md ms A D S) (hA : A.length ≤ 1000000) (hAn : ∀ p n, lkL p A = some n → n.length ≤ 1000) : Calls Tryz.prog 39 #[.pointer (some ⟨r, 0, none⟩)] W fun x W2 => ∃ v, x = .returned v ∧ Tx W.heap.size W2 v (rown A) ∧ Below W.heap.size W W2 := by
  obtain ⟨i0, hi, hz0, hz1, hz2⟩ := infoQ info9
  have hmm := @run_makeMap Tryz.prog
  have bM := (Below.refl W.heap.size W).alloc (Nat.le_refl _) (.map #[] 0)
  have HM0 := Lib.hid (mv_made W)
  obtain ⟨mm, hmmE⟩ : ∃ mm, mm = W.heap.size := ⟨_, rfl⟩
  obtain ⟨V1, hV1⟩ : ∃ V1, V1 = W.alloc (.map #[] 0) := ⟨_, rfl⟩
  rw [← hmmE, ← hV1] at HM0
  rw [← hV1] at bM
  have hX1 := h.on bM
  have hown := hX1.a
  have hmw : mw < W.heap.size := mt_lt h.a
  have c0 : V1.cell? ⟨r, 0, none⟩ = some (.map (some mw)) := by simp [World.cell?, hX1.blk]
  have hrl : r < V1.heap.size := block_lt_of_cell c0
  have HSr := Lib.hid h.sa
  have HAn := Lib.hid hAn
  have hsz : Maps.size (toD sv A) = A.length := toD_size _ _
  have hmW : W.heap.size ≤ mm := by omega
  have hmm1 : mm < V1.heap.size := mv_lt HM0.out
  have HB1 := Lib.hid bM
  clear h hX1 bM hAn
  go_enter Tryz.func39, Tryz.ntmps39
  go_upto_region 2 with fail
  rw [← hV1, ← hmmE]
  clear hV1 hmmE hmm
  go_wp2_with (first | (at_range; refine wpList_range_own _ rfl _ 80 rfl 9 9 law9 Tryz.underlying80 Rv mw A.length _ rfl hown ?_; intro w1 hrg1 hg1 hs1))
  have hb1 := gr_below hg1
  have HR : Hid (w1.ranges Tryz.prog 9 Rv mw V1.heap.size A.length (toD sv A) (Maps.has (toD sv A)) (Maps.size (toD sv A)) ∧ MV w1 mm [] ∧ Below W.heap.size W w1) := ⟨hrg1, mv_on HM0.out (hb1.block mm hmm1), HB1.out.trans (hb1.mono HB1.out.size)⟩
  have hr1W : W.heap.size ≤ V1.heap.size := HB1.out.size
  have hr1m : V1.heap.size ≠ mm := by omega
  generalize V1.heap.size = r1 at HR hr1W hr1m ⊢
  clear hg1 hs1 hrg1 hb1 hown HM0 HB1 c0 hrl hmm1
  go_frame
  go_loopw [14] (fun _ Y => ∃ (left : Lit → Bool) (cnt : Nat) (M : Kv Value), Hid (Y.ranges Tryz.prog 9 Rv mw r1 A.length (toD sv A) left cnt ∧ MV Y mm M ∧ Below W.heap.size W Y) ∧ Hid (Cw A left cnt M)) (fun _ Y => Y.rangeLeft mw r1)
  case atStart => exact ⟨_, _, [], HR, ⟨Srt.nil, by simp [hsz], fun x => ⟨fun hx => absurd rfl hx, fun ⟨p, h1, h2⟩ => by rw [toD_has, h1] at h2; cases h2⟩, fun x => ⟨0, rfl, by simp [hsz]⟩⟩⟩
  case round =>
    clear HR
    obtain ⟨left, cnt, M, HQ, HC⟩ := hrel
    have hrg := HQ.out.1
    go_wp2_with (first | (at_next; refine next_texts _ rfl _ rfl mw r1 A.length _ _ _ rfl hrg ?_ ?_))
    · intro hl0
      have HKM : Hid (∀ x, lkL x M ≠ none ↔ x ∈ rown A) := fun x => by
        rw [HC.out.k, mem_rown HSr.out]
        exact ⟨fun ⟨p, h1, _⟩ => ⟨p, h1⟩, fun ⟨p, h1⟩ => ⟨p, h1, hl0 _⟩⟩
      have hMl : M.length ≤ 1000000 := by have := HC.out.n; omega
      have hown2 := HQ.out.2.1
      have hml := mv_lt hown2
      have HB := Lib.hid HQ.out.2.2
      have hsz2 : Maps.size (toD (fun v : Value => v) M) = M.length := toD_size _ _
      have hr2W : W.heap.size ≤ wr.heap.size := HQ.out.2.2.size
      clear hl0 hrg HC HQ
      go_wp2_with (first | (at_range; refine wpList_range_own _ rfl _ 107 rfl 9 3 law9 Tryz.underlying107 Rv mm M.length _ rfl hown2 ?_; intro w2 hrg2 hg2 hs2))
      have hb2 := gr_below hg2
      have HR2 : Hid (w2.ranges Tryz.prog 9 Rv mm wr.heap.size M.length (toD (fun v : Value => v) M) (Maps.has (toD (fun v : Value => v) M)) (Maps.size (toD (fun v : Value => v) M))) := hrg2
      have hB2 := HB.out.trans (hb2.mono HB.out.size)
      obtain ⟨V3, hV3⟩ : ∃ V3, V3 = wr := ⟨_, rfl⟩
      rw [← hV3] at HR2 hr2W hml ⊢
      clear hg2 hs2 hrg2 hb2 hown2 HB hV3
      go_frame
      go_loopw [6] (fun v Y => ∃ (left : Lit → Bool) (cnt : Nat) (ss : List (List UInt8)), Y.ranges Tryz.prog 9 Rv mm V3.heap.size M.length (toD (fun v : Value => v) M) left cnt ∧ ss.length + cnt ≤ M.length ∧ Y.ownsRow V3.heap.size 9 1 v ss.length (ss.map encStr) ∧ (v = .slice none 0 0 → ss = []) ∧ Hid (ss.Nodup ∧ ∀ x, x ∈ ss ↔ lkL x M ≠ none ∧ left (.string x) = false) ∧ Below W.heap.size W Y) (fun _ Y => Y.rangeLeft mm V3.heap.size)
      case atStart => exact ⟨_, _, [], HR2.out, by simp [hsz2], World.ownsRow_nil _ _ _ _, fun _ => rfl, ⟨List.nodup_nil, fun x => ⟨fun hx => (by cases hx), fun ⟨h1, h2⟩ => by
        rw [toD_has] at h2
        cases hl : lkL x M with
        | none => exact absurd hl h1
        | some e => rw [hl] at h2; cases h2⟩⟩, hB2⟩
      case round =>
        clear HR2
        obtain ⟨left, cnt, ss, hrg, hcs, hrow, hnn, HC, hnx⟩ := hrel
        have HRg := Lib.hid hrg
        go_wp2_with (first | (at_next; refine next_vals _ rfl _ rfl mm V3.heap.size M.length _ _ _ rfl hrg ?_ ?_))
        · intro hl0
          have e1 : (ss.mergeSort fun x y => decide (x ≤ y)) = rown A := bbs_sort (rown_srt A) HC.out.1 fun x => by
            rw [HC.out.2, HKM.out]
            exact ⟨fun h => h.1, fun h => ⟨h, hl0 _⟩⟩
          have e2 : ss.length = (rown A).length := by rw [← e1, List.length_mergeSort]
          rcases hrow.2 with ⟨hnil, hx0⟩ | ⟨g, cap, cur, rfl, hbase, hb, h1, h2, h3, h4⟩
          · have hss := hnn hnil
            subst hss hnil
            have cS := Tryz.sort_Strings_none none 0 wr
            have ht : Tx W.heap.size wr (.slice none 0 0) (rown A) := ⟨.inl ⟨List.length_eq_zero_iff.1 e2.symm, rfl⟩⟩
            clear hrow HC e1 e2 hl0 hrg
            go_wp2_with fail
            refine cS.mono ?_
            rintro x w' ⟨rfl, rfl⟩
            go_wp2
            go_ret
            exact ⟨_, rfl, ht, hnx⟩
          · have hH : Holds encStr wr g 0 ss.toArray := holds_of_block hb (by simpa using h4)
            have hgl : g < wr.heap.size := (Array.getElem?_eq_some_iff.1 hb).1
            have hc := Tryz.sort_Strings g 0 cap ss wr hH hgl (by omega)
            have HO : Hid (∀ nn os, (grow (putRow encStr (Sort.ahead wr nn) g 0 (ss.mergeSort fun x y => decide (x ≤ y)).toArray) os).ownsRow V3.heap.size 9 1 (.slice (some ⟨g, 0, none⟩) ss.length cap) ss.length ((ss.mergeSort (fun x y => decide (x ≤ y))).map encStr) ∧ Below W.heap.size W (grow (putRow encStr (Sort.ahead wr nn) g 0 (ss.mergeSort fun x y => decide (x ≤ y)).toArray) os)) := fun nn os => ⟨ownsRow_sorted (by simp) hbase hb h1 h2 h3, hnx.grown (grownBy_sorted _) hnx.size (fun j hj => by cases hj; exact Nat.le_trans hr2W hbase)⟩
            have HE1 := Lib.hid e1
            have HE2 := Lib.hid e2
            clear hrow HC e1 e2 hl0 hrg hH h1 h2 h3 h4 hb
            go_wp2_with fail
            refine hc.mono ?_
            rintro x w' ⟨rfl, nn, os, rfl⟩
            obtain ⟨h5, h6⟩ := HO.out nn os
            generalize grow (putRow encStr (Sort.ahead wr nn) g 0 (ss.mergeSort fun x y => decide (x ≤ y)).toArray) os = w9 at h5 h6 ⊢
            rw [HE1.out, HE2.out] at h5
            have ht0 : Tx V3.heap.size _ _ (rown A) := tx_own h5 fun hv => by cases hv
            have ht := ht0.low hr2W
            rw [← HE2.out] at ht
            clear h5 HO hc ht0
            go_wp2
            go_ret
            exact ⟨_, rfl, ht, h6⟩
        · intro x m w2 cnt2 hlx hlk hrg2 hlt hg2 hs2 hen
          have hrow2 := hrow.kept hg2 (Or.inr (row_ne_iter hrow hrg).symm)
          have hcs2 : ss.length + 1 + cnt2 ≤ M.length := by omega
          have hnx2 := hnx.grown hg2 hnx.size (fun j hj => by cases hj; exact hr2W)
          have hbw2 := hnx2.size
          have hV3 := (rg_lt hrg2).2
          have HC2 : Hid ((ss ++ [x]).Nodup ∧ ∀ y, y ∈ ss ++ [x] ↔ lkL y M ≠ none ∧ (left (.string y) && !(Lit.string y).sameKey (.string x)) = false) := by
            refine ⟨?_, fun y => ?_⟩
            · rw [List.nodup_append]
              refine ⟨HC.out.1, by simp, fun a ha b hb hab => ?_⟩
              have hbx : b = x := by simpa using hb
              have := ((HC.out.2 a).1 ha).2
              rw [hab, hbx, hlx] at this
              cases this
            · rw [List.mem_append, HC.out.2, sameKey_str]
              constructor
              · rintro (⟨h1, h2⟩ | h1)
                · exact ⟨h1, by rw [h2]; rfl⟩
                · have : y = x := by simpa using h1
                  subst this
                  exact ⟨by rw [hlk]; simp, by simp⟩
              · rintro ⟨h1, h2⟩
                by_cases e : y = x
                · exact .inr (by simp [e])
                · have he : (y == x) = false := beq_eq_false_iff_ne.2 e
                  rw [he] at h2
                  exact .inl ⟨h1, by simpa using h2⟩
          clear hs2 HC hlk hlx
          go_wp2_with (first
            | (at_builtin; refine wpList_append_own _ rfl _ _ 40 rfl V3.heap.size 9 i0 (.string ⟨#[]⟩) 1 16 Tryz.underlying40 hi hz0 hz1 hz2 rfl (by decide) _ _ _ rfl (hrow2.alloc _) ⟨w2.heap.size, 0, none⟩ 1 1 [encStr x] rfl rfl (cell_one_new _ _ _) (by simp [Value.oneCell', encStr]) (by unfold maxLen; omega) (by omega) (by simp; omega) ?_; intro v' w3 hown' hg3 hnil3; go_frame))
          have hrg3 := (hrg2.alloc _).kept hg3 (row_ne_low hrow2 hml) (row_ne_iter hrow2 hrg2)
          have hnx3 := (hnx2.alloc hbw2 _).grown hg3 (by simp; omega) (fun j hj => Nat.le_trans hr2W (hrow2.lt j hj).1)
          exact ⟨⟨_, cnt2, ss ++ [x], hrg3, by simp; omega, by simpa using hown', fun hv' => by have := (hnil3.1 hv').2; omega, HC2, hnx3⟩, by rw [hrg3.left_eq, HRg.out.left_eq]; exact hlt⟩
    · intro p n w2 cnt2 hlx hlk hrg2 hlt hg2 hs2 hen
      have hnl := HAn.out p n hlk
      have hlr := rg_lt hrg
      have hmlt := mv_lt HQ.out.2.1
      have hM2 : MV w2 mm M := mv_on HQ.out.2.1 (hg2.block mm hmlt (fun e => hr1m (by cases e; rfl)))
      have hB2 : Below W.heap.size W w2 := HQ.out.2.2.grown hg2 HQ.out.2.2.size (fun j hj => by cases hj; exact hr1W)
      obtain ⟨c, hci, hcb⟩ := HC.out.v n
      have hlook := milook hM2 n (by omega)
      rw [hci] at hlook
      obtain ⟨w7, hrun, hown7, hturn⟩ := hM2.store law9 Tryz.underlying107 (by unfold maxLen; have := HC.out.n; omega) (key9 n (by omega)) (val := .int .i64 ((c : Int) + 1)) (d := .held (.int .i64 ((c : Int) + 1))) (ps := []) rfl
      have h7 : MV w7 mm (putL n (.int .i64 ((c : Int) + 1)) M) := by
        have e1 := toD_put (fun v : Value => v) n (.int .i64 ((c : Int) + 1)) M
        rw [e1] at hown7
        exact own_tight hown7
      have hlr2 := rg_lt hrg2
      have hrg7 := rg_kp hrg2 (hturn.grown.block mw hlr2.1 (fun e => by cases e; omega)) (hturn.grown.block r1 hlr2.2 (fun e => hr1m (by cases e; rfl)))
      have hle := hrg.left_eq
      have hle7 := hrg7.left_eq
      have HF7 : Hid ((w7.ranges Tryz.prog 9 Rv mw r1 A.length (toD sv A) (fun z => left z && !z.sameKey (.string p)) cnt2 ∧ MV w7 mm (putL n (.int .i64 ((c : Int) + 1)) M) ∧ Below W.heap.size W w7) ∧ w7.rangeLeft mw r1 < wr.rangeLeft mw r1) := ⟨⟨hrg7, h7, hB2.grown hturn.grown hB2.size (fun j hj => by cases hj; exact hmW)⟩, by rw [hle, hle7]; exact hlt⟩
      have HC7 := Lib.hid (HC.out.put hlk hlt c hci)
      have hcl : c ≤ 1000000 := by omega
      clear hrg hrg2 hM2 hB2 h7 hown7 hturn hrg7 hle hle7 hlx hlk HQ HC hci hlr hlr2 hmlt hg2 hs2
      go_wp2_with fail
      exact ⟨⟨_, cnt2, _, HF7.out.1, HC7⟩, HF7.out.2⟩
end Go.Proofs.YtlldfmnoidndmaaGreatDoor.Dsk
namespace Go.Proofs.YtlldfmnoidndmaaGreatDoor.Dsk
open Go.RowKit Go.Sort Go.Maps

/-- Its maps. -/
def RM (mw md ms k : Nat) : Prop := k = mw ∨ k = md ∨ k = ms
theorem mtlook2 {w : World} {m : Nat} {O : Kv (List UInt8)} (h : MT w m O) (k : List UInt8) (hk : k.length ≤ 1000000) :
    (Instr.lookup 80 (.map (some m)) (.string ⟨k.toArray⟩) true).run Tryz.prog w = .ok (.tuple #[.string ⟨(tat k O).toArray⟩, .bool (lkL k O).isSome]) w := by
  have hat : ∀ v ps, Rv v = some ((toD sv O).atKey (.string k) (.held (.string ⟨#[]⟩)), ps) → v = .string ⟨(tat k O).toArray⟩ := fun v ps hv => by
    rw [toD_at] at hv
    unfold tat
    cases hl : lkL k O with
    | none => rw [hl] at hv; simpa [Rv] using congrArg (fun o => o.map Prod.fst) hv
    | some a => rw [hl] at hv; simpa [Rv, sv] using congrArg (fun o => o.map Prod.fst) hv
  obtain ⟨v, ps, h1, h2⟩ := h.look_ok law9 Tryz.underlying80 (zero9 w) (zd := .held (.string ⟨#[]⟩)) (zp := []) rfl (key9 k hk)
  rw [h1, hat v ps h2, toD_has]
theorem mt_put {w : World} {m : Nat} {O : Kv (List UInt8)} (h : MT w m O) (k v : List UInt8) (hk : k.length ≤ 1000000) (hO : O.length ≤ 100000000) : ∃ w', (Instr.mapUpdate 80 (.map (some m)) (.string ⟨k.toArray⟩) (.string ⟨v.toArray⟩)).run Tryz.prog w = .ok () w' ∧ MT w' m (putL k v O) ∧ w.grownBy w' (some m) := by
  obtain ⟨w7, hrun, hown7, hturn⟩ := h.store law9 Tryz.underlying80 (by unfold maxLen; omega) (key9 k hk) (val := .string ⟨v.toArray⟩) (d := .held (.string ⟨v.toArray⟩)) (ps := []) rfl
  refine ⟨w7, hrun, ?_, hturn.grown⟩
  have e1 := toD_put sv k v O
  rw [show DataW.held (sv v) = DataW.held (Value.string ⟨v.toArray⟩) from rfl] at e1
  rw [e1] at hown7
  exact own_tight hown7
theorem mt_del {w : World} {m : Nat} {O : Kv (List UInt8)} (h : MT w m O) (k : List UInt8) (hk : k.length ≤ 1000000) : ∃ w', (Builtin.delete_ #[80, 9] 0 #[.map (some m), .string ⟨k.toArray⟩]).run Tryz.prog w = .ok (.tuple #[]) w' ∧ MT w' m (delL k O) ∧ w.grownBy w' (some m) := by
  obtain ⟨w7, hrun, hown7, hturn⟩ := h.drop law9 Tryz.underlying80 (key9 k hk) 0
  refine ⟨w7, hrun, ?_, hturn.grown⟩
  rw [toD_del] at hown7
  exact own_tight hown7
section
variable {W W2 : World} {r mw md ms : Nat} {A D S A' D' S' : Kv (List UInt8)}
theorem mt_ne {m b : Nat} {O : Kv (List UInt8)} {c : Array Value} {t : TypeId} {x : Nat × Nat} (h : MT W m O) (hb : W.heap[b]? = some (.cells c t x)) : b ≠ m := fun e => by
  obtain ⟨es, cl, h1, _⟩ := h
  rw [← e, hb] at h1
  cases h1
theorem RX.lt (h : RX W r mw md ms A D S) : r < W.heap.size ∧ mw < W.heap.size ∧ md < W.heap.size ∧ ms < W.heap.size := ⟨(Array.getElem?_eq_some_iff.1 h.blk).1, mt_lt h.a, mt_lt h.d, mt_lt h.s⟩
theorem RX.setA (h : RX W r mw md ms A D S) (hg : W.grownBy W2 (some mw)) (hm : MT W2 mw A') (hs : Srt A') : RX W2 r mw md ms A' D S :=
  ⟨(hg.block r h.lt.1 (fun e => mt_ne h.a h.blk (by cases e; rfl))).trans h.blk, hm, mt_on h.d (hg.block md h.lt.2.2.1 (fun e => h.n1 (by cases e; rfl))), mt_on h.s (hg.block ms h.lt.2.2.2 (fun e => h.n2 (by cases e; rfl))), hs, h.sd, h.ss, h.n1, h.n2, h.n3⟩
theorem RX.setD (h : RX W r mw md ms A D S) (hg : W.grownBy W2 (some md)) (hm : MT W2 md D') (hs : Srt D') : RX W2 r mw md ms A D' S :=
  ⟨(hg.block r h.lt.1 (fun e => mt_ne h.d h.blk (by cases e; rfl))).trans h.blk, mt_on h.a (hg.block mw h.lt.2.1 (fun e => h.n1 (by cases e; rfl))), hm, mt_on h.s (hg.block ms h.lt.2.2.2 (fun e => h.n3 (by cases e; rfl))), h.sa, hs, h.ss, h.n1, h.n2, h.n3⟩
theorem RX.setS (h : RX W r mw md ms A D S) (hg : W.grownBy W2 (some ms)) (hm : MT W2 ms S') (hs : Srt S') : RX W2 r mw md ms A D S' :=
  ⟨(hg.block r h.lt.1 (fun e => mt_ne h.s h.blk (by cases e; rfl))).trans h.blk, mt_on h.a (hg.block mw h.lt.2.1 (fun e => h.n2 (by cases e; rfl))), mt_on h.d (hg.block md h.lt.2.2.1 (fun e => h.n3 (by cases e; rfl))), hm, h.sa, h.sd, hs, h.n1, h.n2, h.n3⟩
/-- What is done to it: it runs, and leaves all else. -/
theorem RX.putD (h : RX W r mw md ms A D S) (k v : List UInt8) (hk : k.length ≤ 1000000) (hO : D.length ≤ 100000000) : ∃ W2, (Instr.mapUpdate 80 (.map (some md)) (.string ⟨k.toArray⟩) (.string ⟨v.toArray⟩)).run Tryz.prog W = .ok () W2 ∧ RX W2 r mw md ms A (putL k v D) S ∧ Kp (RM mw md ms) W W2 := by
  obtain ⟨w', h1, h2, h3⟩ := mt_put h.d k v hk hO
  exact ⟨w', h1, h.setD h3 h2 (h.sd.put _ _), Kp.grown h3 fun j hj => by cases hj; exact .inr (.inl rfl)⟩
theorem RX.putS (h : RX W r mw md ms A D S) (k v : List UInt8) (hk : k.length ≤ 1000000) (hO : S.length ≤ 100000000) : ∃ W2, (Instr.mapUpdate 80 (.map (some ms)) (.string ⟨k.toArray⟩) (.string ⟨v.toArray⟩)).run Tryz.prog W = .ok () W2 ∧ RX W2 r mw md ms A D (putL k v S) ∧ Kp (RM mw md ms) W W2 := by
  obtain ⟨w', h1, h2, h3⟩ := mt_put h.s k v hk hO
  exact ⟨w', h1, h.setS h3 h2 (h.ss.put _ _), Kp.grown h3 fun j hj => by cases hj; exact .inr (.inr rfl)⟩
theorem RX.putA (h : RX W r mw md ms A D S) (k v : List UInt8) (hk : k.length ≤ 1000000) (hO : A.length ≤ 100000000) : ∃ W2, (Instr.mapUpdate 80 (.map (some mw)) (.string ⟨k.toArray⟩) (.string ⟨v.toArray⟩)).run Tryz.prog W = .ok () W2 ∧ RX W2 r mw md ms (putL k v A) D S ∧ Kp (RM mw md ms) W W2 := by
  obtain ⟨w', h1, h2, h3⟩ := mt_put h.a k v hk hO
  exact ⟨w', h1, h.setA h3 h2 (h.sa.put _ _), Kp.grown h3 fun j hj => by cases hj; exact .inl rfl⟩
theorem RX.delD (h : RX W r mw md ms A D S) (k : List UInt8) (hk : k.length ≤ 1000000) : ∃ W2, (Builtin.delete_ #[80, 9] 0 #[.map (some md), .string ⟨k.toArray⟩]).run Tryz.prog W = .ok (.tuple #[]) W2 ∧ RX W2 r mw md ms A (delL k D) S ∧ Kp (RM mw md ms) W W2 := by
  obtain ⟨w', h1, h2, h3⟩ := mt_del h.d k hk
  exact ⟨w', h1, h.setD h3 h2 (h.sd.del _), Kp.grown h3 fun j hj => by cases hj; exact .inr (.inl rfl)⟩
theorem RX.delS (h : RX W r mw md ms A D S) (k : List UInt8) (hk : k.length ≤ 1000000) : ∃ W2, (Builtin.delete_ #[80, 9] 0 #[.map (some ms), .string ⟨k.toArray⟩]).run Tryz.prog W = .ok (.tuple #[]) W2 ∧ RX W2 r mw md ms A D (delL k S) ∧ Kp (RM mw md ms) W W2 := by
  obtain ⟨w', h1, h2, h3⟩ := mt_del h.s k hk
  exact ⟨w', h1, h.setS h3 h2 (h.ss.del _), Kp.grown h3 fun j hj => by cases hj; exact .inr (.inr rfl)⟩
theorem RX.delA (h : RX W r mw md ms A D S) (k : List UInt8) (hk : k.length ≤ 1000000) : ∃ W2, (Builtin.delete_ #[80, 9] 0 #[.map (some mw), .string ⟨k.toArray⟩]).run Tryz.prog W = .ok (.tuple #[]) W2 ∧ RX W2 r mw md ms (delL k A) D S ∧ Kp (RM mw md ms) W W2 := by
  obtain ⟨w', h1, h2, h3⟩ := mt_del h.a k hk
  exact ⟨w', h1, h.setA h3 h2 (h.sa.del _), Kp.grown h3 fun j hj => by cases hj; exact .inl rfl⟩
theorem RX.cl (h : RX W r mw md ms A D S) : W.cell? ⟨r, 0, none⟩ = some (.map (some mw)) ∧ W.cell? ⟨r, 1, none⟩ = some (.map (some md)) ∧ W.cell? ⟨r, 2, none⟩ = some (.map (some ms)) := ⟨by simp [World.cell?, h.blk], by simp [World.cell?, h.blk], by simp [World.cell?, h.blk]⟩
theorem Kp.kt {X : Nat → Prop} {a b c : World} (h : Kp X a b) (k : Kp X b c) : Kp X a c := h.trans k fun _ _ x => x

set_option maxRecDepth 100000 in
/-- A new one. -/
theorem rnew_any (W : World) : Calls Tryz.prog 8 #[] W fun x W2 => ∃ r mw md ms, x = .returned (.pointer (some ⟨r, 0, none⟩)) ∧ W.heap.size ≤ r ∧ W.heap.size ≤ mw ∧ W.heap.size ≤ md ∧ W.heap.size ≤ ms ∧ RX W2 r mw md ms [] [] [] ∧ Below W.heap.size W W2 := by
  have hmm := @run_makeMap Tryz.prog
  have b1 := (Below.refl W.heap.size W).alloc (Nat.le_refl _) (.map #[] 0)
  have b2 := b1.alloc b1.size (.map #[] 0)
  have b3 := b2.alloc b2.size (.map #[] 0)
  have b4 := b3.alloc b3.size (.cells #[.map (some W.heap.size), .map (some (W.heap.size + 1)), .map (some (W.heap.size + 2))] 82)
  have m1 := mt_made W
  have m2 := mt_made (W.alloc (.map #[] 0))
  have m3 := mt_made ((W.alloc (.map #[] 0)).alloc (.map #[] 0))
  go_enter Tryz.func8, Tryz.ntmps8
  go_wp2
  go_ret
  have n4 := nb0 (((W.alloc (.map #[] 0)).alloc (.map #[] 0)).alloc (.map #[] 0)) (.cells #[.map (some W.heap.size), .map (some (W.heap.size + 1)), .map (some (W.heap.size + 2))] 82)
  have e1 : (W.alloc (.map #[] 0)).heap.size = W.heap.size + 1 := by simp
  have e2 : ((W.alloc (.map #[] 0)).alloc (.map #[] 0)).heap.size = W.heap.size + 1 + 1 := by simp
  have e3 : (((W.alloc (.map #[] 0)).alloc (.map #[] 0)).alloc (.map #[] 0)).heap.size = W.heap.size + 1 + 1 + 1 := by simp
  rw [e1] at m2
  rw [e2] at m3
  rw [e3] at n4
  exact ⟨W.heap.size + 1 + 1 + 1, W.heap.size, W.heap.size + 1, W.heap.size + 1 + 1, rfl, by omega, by omega, by omega, by omega, ⟨n4, ((m1.alloc _).alloc _).alloc _, (m2.alloc _).alloc _, m3.alloc _, Srt.nil, Srt.nil, Srt.nil, by omega, by omega, by omega⟩, b4⟩
/-- What Edit answers, and leaves. -/
def rE (A D : Kv (List UInt8)) (p t : List UInt8) (y : Bool) : Int × Kv (List UInt8) := if tat p A = [] then (7, D) else if y = false then (0, putL p t D) else if (lkL p D).isSome = true then (0, delL p D) else (7, D)
set_option maxRecDepth 100000 in
theorem redit_any (h : RX W r mw md ms A D S) (p t : List UInt8) (y : Bool) (hp : p.length ≤ 1000) (hD : D.length ≤ 1000000) : Calls Tryz.prog 19 #[.pointer (some ⟨r, 0, none⟩), .string ⟨p.toArray⟩, .string ⟨t.toArray⟩, .bool y] W fun x W2 => x = .returned (.int .i64 (rE A D p t y).1) ∧ RX W2 r mw md ms A (rE A D p t y).2 S ∧ Kp (RM mw md ms) W W2 := by
  obtain ⟨c0, c1, _⟩ := h.cl
  have hl := mtlook h.a p (by omega)
  have hl2 := mtlook2 h.d p (by omega)
  obtain ⟨w1, r1, x1, k1⟩ := h.putD p t (by omega) (by omega)
  obtain ⟨w2, r2, x2, k2⟩ := h.delD p (by omega)
  have hrl := h.lt.1
  have HX := Lib.hid h
  have H1 := Lib.hid (And.intro x1 k1)
  have H2 := Lib.hid (And.intro x2 k2)
  clear h x1 k1 x2 k2
  unfold rE
  by_cases e : tat p A = []
  · rw [if_pos e]
    rw [e, show (([] : List UInt8).toArray) = #[] from rfl] at hl
    clear e hl2 r1 r2
    go_enter Tryz.func19, Tryz.ntmps19
    go_wp2
    go_ret
    exact ⟨rfl, HX.out, Kp.refl _ _⟩
  · rw [if_neg e]
    generalize tat p A = n at e hl
    have he : (n == []) = false := beq_eq_false_iff_ne.2 e
    clear e
    cases y
    · rw [if_pos rfl]
      go_enter Tryz.func19, Tryz.ntmps19
      go_wp2
      go_ret
      exact ⟨rfl, H1.out.1, H1.out.2⟩
    · rw [if_neg (by simp)]
      cases hs : (lkL p D).isSome
      · rw [if_neg (by simp)]
        rw [hs] at hl2
        go_enter Tryz.func19, Tryz.ntmps19
        go_wp2
        go_ret
        exact ⟨rfl, HX.out, Kp.refl _ _⟩
      · rw [if_pos rfl]
        rw [hs] at hl2
        go_enter Tryz.func19, Tryz.ntmps19
        go_wp2
        go_ret
        exact ⟨rfl, H2.out.1, H2.out.2⟩
/-- A package's settings. -/
def rset (A S : Kv (List UInt8)) (n : List UInt8) : List (List UInt8) := (rpt A n).filter fun q => (lkL q S).isSome
set_option maxRecDepth 100000 in
set_option maxHeartbeats 3200000 in
theorem rset_any (h : RX W r mw md ms A D S) (n : List UInt8) (hA : A.length ≤ 1000000) (hq : ∀ p m, lkL p A = some m → p.length ≤ 1000) : Calls Tryz.prog 66 #[.pointer (some ⟨r, 0, none⟩), .string ⟨n.toArray⟩] W fun x W2 => ∃ v, x = .returned v ∧ Tx W.heap.size W2 v (rset A S n) ∧ Below W.heap.size W W2 := by
  obtain ⟨i0, hi, hz0, hz1, hz2⟩ := infoQ info9
  have cP := rpaths_any h n hA
  have HPL : Hid (∀ x ∈ rpt A n, x.length ≤ 1000) := fun x hx => hq x n ((mem_rpt h.sa).1 hx)
  have hpl : (rpt A n).length ≤ 1000000 := by
    unfold rpt
    rw [List.length_map]
    exact Nat.le_trans (List.length_filter_le _ _) hA
  have HX := Lib.hid h
  have HRS : Hid (∀ k (hk : k < (rpt A n).length), ((rpt A n).take (k + 1)).filter (fun q => (lkL q S).isSome) = ((rpt A n).take k).filter (fun q => (lkL q S).isSome) ++ (if (lkL (rpt A n)[k] S).isSome = true then [(rpt A n)[k]] else [])) := fun k hk => take_filter hk
  have HRE : Hid (rset A S n = (rpt A n).filter fun q => (lkL q S).isSome) := rfl
  generalize rset A S n = rs at HRE ⊢
  generalize rpt A n = ps at cP HPL hpl HRS HRE
  clear h hq
  go_enter Tryz.func66, Tryz.ntmps66
  go_wp2_with fail
  refine cP.mono ?_
  rintro x V1 ⟨v, rfl, hTx, b1⟩
  obtain ⟨P, c, rfl, hTr⟩ := tr_tx hTx
  have HTr := Lib.hid hTr
  have HX1 := Lib.hid (HX.out.on b1)
  have HB1 := Lib.hid b1
  have h01 := b1.size
  clear cP hTx hTr b1 HX
  go_wp2_with fail
  go_loopw [5, 14] (fun v iv Y => ∃ k : Nat, k ≤ ps.length ∧ iv = .int .i64 k ∧ Hid (Y.ownsRow V1.heap.size 9 1 v ((ps.take k).filter (fun q => (lkL q S).isSome)).length (((ps.take k).filter (fun q => (lkL q S).isSome)).map encStr) ∧ (v = .slice none 0 0 → (ps.take k).filter (fun q => (lkL q S).isSome) = []) ∧ Below V1.heap.size V1 Y)) (fun _ iv _ => ps.length - (intOf iv).toNat)
  case atStart => exact ⟨0, Nat.zero_le _, rfl, World.ownsRow_nil _ _ _ _, fun _ => rfl, Below.refl _ _⟩
  case round =>
    obtain ⟨k, hk, rfl, HY⟩ := hrel
    by_cases hlt : k < ps.length
    · obtain ⟨g, rfl, hg1, hg2, hgc0⟩ := HTr.out.c k hlt
      have hgc := (World.cell?_of_block (a := ⟨g, k, none⟩) (HY.out.2.2.block g hg2)).trans hgc0
      have hgr : g < wr.heap.size := Nat.lt_of_lt_of_le hg2 HY.out.2.2.size
      have hX := HX1.out.on HY.out.2.2
      obtain ⟨_, _, c2⟩ := hX.cl
      have hrl := hX.lt.1
      have hp := HPL.out _ (List.getElem_mem hlt)
      have hl2 := mtlook2 hX.s ps[k] (by omega)
      have HE := Lib.hid (HRS.out k hlt)
      have hfl : ((ps.take k).filter (fun q => (lkL q S).isSome)).length ≤ 1000000 := Nat.le_trans (List.length_filter_le _ _) (Nat.le_trans (by rw [List.length_take]; omega) hpl)
      have hrow := HY.out.1
      have hnn := HY.out.2.1
      have hnx := HY.out.2.2
      have hbw := hnx.size
      generalize (ps.take k).filter (fun q => (lkL q S).isSome) = ss at HE hfl hrow hnn
      obtain ⟨s2, hs2⟩ : ∃ s2, s2 = (ps.take (k + 1)).filter (fun q => (lkL q S).isSome) := ⟨_, rfl⟩
      rw [← hs2] at HE
      have HS2 := Lib.hid hs2
      clear hs2
      generalize ps[k] = p at hgc hp hl2 HE hgc0
      generalize tat p S = tp at hl2
      clear hX HY hgc0
      cases hs : (lkL p S).isSome
      · rw [hs] at HE hl2
        have e := HE.out
        rw [if_neg (by simp), List.append_nil] at e
        have HQ : Hid (wr.ownsRow V1.heap.size 9 1 u5 s2.length (s2.map encStr) ∧ (u5 = Value.slice none 0 0 → s2 = []) ∧ Below V1.heap.size V1 wr) := by rw [e]; exact ⟨hrow, hnn, hnx⟩
        clear hrow hnn hnx e HE hs
        go_wp2_with fail
        exact ⟨⟨k + 1, hlt, by go_num, by rw [← HS2.out]; exact HQ⟩, by simp [intOf]; omega⟩
      · rw [hs] at HE hl2
        have e := HE.out
        rw [if_pos rfl] at e
        have HSE := Lib.hid e
        clear e HE hs
        go_wp2_with (first
          | (at_builtin; refine wpList_append_own _ rfl _ _ 40 rfl V1.heap.size 9 i0 (.string ⟨#[]⟩) 1 16 Tryz.underlying40 hi hz0 hz1 hz2 rfl (by decide) _ _ _ rfl (hrow.alloc _) ⟨wr.heap.size, 0, none⟩ 1 1 [encStr p] rfl rfl (cell_one_new _ _ _) (by simp [Value.oneCell', encStr]) (by unfold maxLen; omega) (by omega) (by simp; omega) ?_; intro v' w3 hown' hg3 hnil3; go_frame))
        have hnx3 := (hnx.alloc hnx.size _).grown hg3 (by simp; omega) (fun j hj => (hrow.lt j hj).1)
        exact ⟨⟨k + 1, hlt, by go_num, by rw [← HS2.out, HSE.out]; exact ⟨by simpa using hown', fun hv' => by have := (hnil3.1 hv').2; omega, hnx3⟩⟩, by simp [intOf]; omega⟩
    · have hke : k = ps.length := by omega
      have hrow := HY.out.1
      have hnn := HY.out.2.1
      rw [hke, List.take_length, ← HRE.out] at hrow hnn
      have HT : Hid (Tx W.heap.size wr _ rs) := (tx_own hrow hnn).low h01
      have HB := Lib.hid (HB1.out.trans (HY.out.2.2.mono h01))
      clear hrow hnn HY hke
      go_wp2_with fail
      go_ret
      exact ⟨_, rfl, HT.out, HB.out⟩
/-- All three. -/
structure T3 where
  a : Kv (List UInt8)
  d : Kv (List UInt8)
  s : Kv (List UInt8)
def rds (all : Bool) (t : T3) (q : List UInt8) : T3 := if ((lkL q t.s).isSome && !all) = true then t else ⟨delL q t.a, delL q t.d, delL q t.s⟩
def rdr (t : T3) (n : List UInt8) (all : Bool) : T3 := (rpt t.a n).foldl (rds all) t
set_option maxRecDepth 100000 in
set_option maxHeartbeats 3200000 in
theorem rdrop_any (h : RX W r mw md ms A D S) (n : List UInt8) (all : Bool) (hA : A.length ≤ 1000000) (hq : ∀ p m, lkL p A = some m → p.length ≤ 1000) : Calls Tryz.prog 17 #[.pointer (some ⟨r, 0, none⟩), .string ⟨n.toArray⟩, .bool all] W fun x W2 => x = .returned (.tuple #[]) ∧ RX W2 r mw md ms (rdr ⟨A, D, S⟩ n all).a (rdr ⟨A, D, S⟩ n all).d (rdr ⟨A, D, S⟩ n all).s ∧ Kp (RM mw md ms) W W2 := by
  have cP := rpaths_any h n hA
  have HPL : Hid (∀ x ∈ rpt A n, x.length ≤ 1000) := fun x hx => hq x n ((mem_rpt h.sa).1 hx)
  have hpl : (rpt A n).length ≤ 1000000 := by
    unfold rpt
    rw [List.length_map]
    exact Nat.le_trans (List.length_filter_le _ _) hA
  have HX := Lib.hid h
  have HLT := Lib.hid h.lt
  obtain ⟨T0, hT0⟩ : ∃ T0 : T3, T0 = ⟨A, D, S⟩ := ⟨_, rfl⟩
  have HRS : Hid (∀ k (hk : k < (rpt A n).length), ((rpt A n).take (k + 1)).foldl (rds all) T0 = rds all (((rpt A n).take k).foldl (rds all) T0) (rpt A n)[k]) := fun k hk => fold_take _ _ _ k hk
  have HRE : Hid (rdr ⟨A, D, S⟩ n all = (rpt A n).foldl (rds all) T0) := by rw [hT0]; rfl
  have H0 : Hid (T0 = ⟨A, D, S⟩) := hT0
  generalize rdr ⟨A, D, S⟩ n all = TE at HRE ⊢
  generalize rpt A n = ps at cP HPL hpl HRS HRE
  clear h hq hT0
  go_enter Tryz.func17, Tryz.ntmps17
  go_wp2_with fail
  refine cP.mono ?_
  rintro x V1 ⟨v, rfl, hTx, b1⟩
  obtain ⟨P, c, rfl, hTr⟩ := tr_tx hTx
  have HTr := Lib.hid hTr
  have HX1 := Lib.hid (HX.out.on b1)
  have HB1 := Lib.hid b1
  have h01 := b1.size
  clear cP hTx hTr b1 HX
  go_wp2_with fail
  go_loopw [14] (fun iv Y => ∃ k : Nat, k ≤ ps.length ∧ iv = .int .i64 k ∧ Hid (RX Y r mw md ms ((ps.take k).foldl (rds all) T0).a ((ps.take k).foldl (rds all) T0).d ((ps.take k).foldl (rds all) T0).s ∧ Kp (RM mw md ms) V1 Y)) (fun iv _ => ps.length - (intOf iv).toNat)
  case atStart => exact ⟨0, Nat.zero_le _, rfl, by show RX _ _ _ _ _ _ _ _ ∧ _; rw [H0.out]; exact ⟨HX1.out, Kp.refl _ _⟩⟩
  case round =>
    obtain ⟨k, hk, rfl, HY⟩ := hrel
    by_cases hlt : k < ps.length
    · obtain ⟨g, rfl, hg1, hg2, hgc0⟩ := HTr.out.c k hlt
      have hgc := (World.cell?_of_block (a := ⟨g, k, none⟩) (HY.out.2.block g hg2 (fun h => by have := HLT.out; rcases h with h | h | h <;> omega))).trans hgc0
      have hgr : g < wr.heap.size := Nat.lt_of_lt_of_le hg2 HY.out.2.size
      have hX := HY.out.1
      have hKp := Lib.hid HY.out.2
      have hp := HPL.out _ (List.getElem_mem hlt)
      have HE := Lib.hid (HRS.out k hlt)
      generalize (ps.take k).foldl (rds all) T0 = t1 at HE hX
      obtain ⟨t2, ht2⟩ : ∃ t2, t2 = (ps.take (k + 1)).foldl (rds all) T0 := ⟨_, rfl⟩
      rw [← ht2] at HE
      have HS2 := Lib.hid ht2
      clear ht2
      generalize ps[k] = p at hgc hp HE hgc0
      obtain ⟨A1, D1, S1⟩ := t1
      dsimp only at hX
      obtain ⟨c0, c1, c2⟩ := hX.cl
      have hrl := hX.lt.1
      have hl2 := mtlook2 hX.s p (by omega)
      obtain ⟨w1, r1, x1, k1⟩ := hX.delD p (by omega)
      obtain ⟨w2, r2, x2, k2⟩ := x1.delS p (by omega)
      obtain ⟨w3, r3, x3, k3⟩ := x2.delA p (by omega)
      have c21 := x1.cl.2.2
      have c02 := x2.cl.1
      have hr1 := x1.lt.1
      have hr2 := x2.lt.1
      generalize tat p S1 = tp at hl2
      have HS : Hid (RX wr r mw md ms A1 D1 S1) := hX
      have H3 : Hid (RX w3 r mw md ms (delL p A1) (delL p D1) (delL p S1) ∧ Kp (RM mw md ms) V1 w3) := ⟨x3, ((hKp.out.kt k1).kt k2).kt k3⟩
      have HU : Hid (t2 = if ((lkL p S1).isSome && !all) = true then ⟨A1, D1, S1⟩ else ⟨delL p A1, delL p D1, delL p S1⟩) := HE.out
      clear hX HY hgc0 x1 x2 x3 k1 k2 k3 HE
      cases hs : (lkL p S1).isSome
      · rw [hs] at hl2 HU
        have e := HU.out
        rw [if_neg (by simp)] at e
        have HF : Hid (RX w3 r mw md ms t2.a t2.d t2.s ∧ Kp (RM mw md ms) V1 w3) := by rw [e]; exact H3.out
        clear e HU hs H3 HS hKp
        go_wp2_with fail
        exact ⟨⟨k + 1, hlt, by go_num, by rw [← HS2.out]; exact HF⟩, by simp [intOf]; omega⟩
      · rw [hs] at hl2 HU
        cases all
        · have e := HU.out
          rw [if_pos (by simp)] at e
          have HF : Hid (RX wr r mw md ms t2.a t2.d t2.s ∧ Kp (RM mw md ms) V1 wr) := by rw [e]; exact ⟨HS.out, hKp.out⟩
          clear e HU hs H3 HS hKp
          go_wp2_with fail
          exact ⟨⟨k + 1, hlt, by go_num, by rw [← HS2.out]; exact HF⟩, by simp [intOf]; omega⟩
        · have e := HU.out
          rw [if_neg (by simp)] at e
          have HF : Hid (RX w3 r mw md ms t2.a t2.d t2.s ∧ Kp (RM mw md ms) V1 w3) := by rw [e]; exact H3.out
          clear e HU hs H3 HS hKp
          go_wp2_with fail
          exact ⟨⟨k + 1, hlt, by go_num, by rw [← HS2.out]; exact HF⟩, by simp [intOf]; omega⟩
    · have hke : k = ps.length := by omega
      have HF := HY.out
      rw [hke, List.take_length, ← HRE.out] at HF
      have HG : Hid (RX wr r mw md ms TE.a TE.d TE.s ∧ Kp (RM mw md ms) W wr) := ⟨HF.1, (Kp.of HB1.out).kt HF.2⟩
      clear HF HY hke
      go_wp2_with fail
      exact bodyPost_end (results_none rfl _ _ _) rfl ⟨rfl, HG.out.1, HG.out.2⟩
end
end Go.Proofs.YtlldfmnoidndmaaGreatDoor.Dsk
