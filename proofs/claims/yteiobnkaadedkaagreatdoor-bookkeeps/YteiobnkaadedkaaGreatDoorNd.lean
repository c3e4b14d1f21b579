/- The walk of the reference's Names. -/
import Derived.Test.YteiobnkaadedkaaGreatDoorNc
import Derived.Sort.OwnSorted
namespace Go.Proofs.YteiobnkaadedkaaGreatDoor
open Go.RowKit Go.Sort Go.Maps

theorem info9 : (Tryz.prog.info? 9).map (fun i => (i.zero, i.size, i.bytes)) = some (some (.string ⟨#[]⟩), 1, 16) := by kernel_rfl
theorem infoQ {t : TypeId} {z : Value} {s b : Nat} (h : (Tryz.prog.info? t).map (fun i => (i.zero, i.size, i.bytes)) = some (some z, s, b)) : ∃ i, Tryz.prog.info? t = some i ∧ i.zero = some z ∧ i.size = s ∧ i.bytes = b := by
  obtain ⟨i, hi, h2⟩ := Option.map_eq_some_iff.1 h
  simp only [Prod.mk.injEq] at h2
  exact ⟨i, hi, h2.1, h2.2.1, h2.2.2⟩

set_option maxHeartbeats 3200000 in
set_option maxRecDepth 100000 in
theorem names_any (b m : Nat) (K : Kv Rx) (L : Kv Ent) (lf bt : Int) (w : World) (h : RD w b m K L lf bt) (hn : L.length ≤ 1000000) : Calls Tryz.prog 17 #[.pointer (some ⟨b, 0, none⟩)] w fun x w' => ∃ v, x = .returned v ∧ Tx w.heap.size w' v (nms L) ∧ Below w.heap.size w w' := by
  obtain ⟨i0, hi, hz0, hz1, hz2⟩ := infoQ info9
  have hown := h.map
  have hbl := hown.lt
  have c0 := (rc_of h.blk).c0
  have hKL : K.length ≤ 1000000 := by have := h.len; omega
  have HKeys := Lib.hid h.keys
  have HSr := Lib.hid h.srt
  have hsz : Maps.size (toD rvv K) = K.length := toD_size _ _
  clear h
  go_enter Tryz.func17, Tryz.ntmps17
  go_wp2_with (first | (at_range; refine wpList_range_own _ rfl _ 48 rfl 9 47 law9 Tryz.underlying48 Rv m K.length _ rfl hown ?_; intro w1 hrg1 hg1 hs1))
  have hb1 : Below w.heap.size w w1 := ⟨hg1.os, hg1.tape, hg1.output, hg1.size, fun i hi => hg1.block i hi (by simp)⟩
  have HR := Lib.hid hrg1
  clear hg1 hs1 hrg1
  go_frame
  go_loopw [3] (fun v wr => ∃ (left : Lit → Bool) (cnt : Nat) (ss : List (List UInt8)), wr.ranges Tryz.prog 9 Rv m w.heap.size K.length (toD rvv K) left cnt ∧ ss.length + cnt ≤ K.length ∧ wr.ownsRow w.heap.size 9 1 v ss.length (ss.map encStr) ∧ (v = .slice none 0 0 → ss = []) ∧ Collected (toD rvv K) left ss ∧ Below w.heap.size w wr) (fun _ wr => wr.rangeLeft m w.heap.size)
  case atStart => exact ⟨_, _, [], HR.out, by simp [hsz], World.ownsRow_nil _ _ _ _, fun _ => rfl, Collected.start _, hb1⟩
  case round =>
    obtain ⟨left, cnt, ss, hrg, hcs, hrow, hnn, hC, hnx⟩ := hrel
    have HRg := Lib.hid hrg
    go_wp2_with (first | (at_next; refine wpList_next_kv HSr.out rvv_inj _ rfl _ rfl m w.heap.size K.length _ _ rfl hrg ?_ ?_))
    · intro hc0 hl0
      have hp := hC.perm hown law9 Tryz.underlying9 hl0
      rw [toD_keys, HKeys.out] at hp
      have e1 : (ss.mergeSort fun x y => decide (x ≤ y)) = nms L := mergeSort_of_perm hp
      have e2 : ss.length = (nms L).length := by rw [← e1, List.length_mergeSort]
      rcases hrow.2 with ⟨hnil, hx0⟩ | ⟨g, cap, cur, rfl, hbase, hb, h1, h2, h3, h4⟩
      · have hss := hnn hnil
        subst hss hnil
        have cS := Tryz.sort_Strings_none none 0 wr
        have ht : Tx w.heap.size wr (.slice none 0 0) (nms L) := ⟨.inl ⟨List.length_eq_zero_iff.1 e2.symm, rfl⟩⟩
        clear hrow hC hp e1 e2 hl0 hc0 hrg
        go_wp2_with fail
        refine cS.mono ?_
        rintro x w' ⟨rfl, rfl⟩
        go_wp2
        go_ret
        exact ⟨_, rfl, ht, hnx⟩
      · have hH : Holds encStr wr g 0 ss.toArray := holds_of_block hb (by simpa using h4)
        have hgl : g < wr.heap.size := (Array.getElem?_eq_some_iff.1 hb).1
        have hc := Tryz.sort_Strings g 0 cap ss wr hH hgl (by omega)
        have HO : Hid (∀ nn os, (grow (putRow encStr (Sort.ahead wr nn) g 0 (ss.mergeSort fun x y => decide (x ≤ y)).toArray) os).ownsRow w.heap.size 9 1 (.slice (some ⟨g, 0, none⟩) ss.length cap) ss.length ((ss.mergeSort (fun x y => decide (x ≤ y))).map encStr) ∧ Below w.heap.size w (grow (putRow encStr (Sort.ahead wr nn) g 0 (ss.mergeSort fun x y => decide (x ≤ y)).toArray) os)) := fun nn os => ⟨ownsRow_sorted (by simp) hbase hb h1 h2 h3, hnx.grown (grownBy_sorted _) hnx.size (fun j hj => by cases hj; exact hbase)⟩
        have HE1 := Lib.hid e1
        have HE2 := Lib.hid e2
        clear hrow hC hp e1 e2 hl0 hc0 hrg hH h1 h2 h3 h4 hb
        go_wp2_with fail
        refine hc.mono ?_
        rintro x w' ⟨rfl, nn, os, rfl⟩
        obtain ⟨h5, h6⟩ := HO.out nn os
        generalize grow (putRow encStr (Sort.ahead wr nn) g 0 (ss.mergeSort fun x y => decide (x ≤ y)).toArray) os = w9 at h5 h6 ⊢
        rw [HE1.out, HE2.out] at h5
        have ht : Tx w.heap.size _ _ (nms L) := tx_own h5 fun hv => by cases hv
        rw [← HE2.out] at ht
        clear h5 HO hc
        go_wp2
        go_ret
        exact ⟨_, rfl, ht, h6⟩
    · intro x c w2 cnt2 hlx hlk hrg2 hlt hg2 hs2 hen
      have hrow2 := hrow.kept hg2 (Or.inr (row_ne_iter hrow hrg).symm)
      have hat : ∀ zd, (toD rvv K).atKey (.string x) zd = .held (rvv c) := fun zd => by rw [toD_at, hlx]
      have HC2 := Lib.hid (hC.step hlk hat)
      have hcs2 : ss.length + 1 + cnt2 ≤ K.length := by omega
      have hnx2 := hnx.grown hg2 hnx.size (fun j hj => by cases hj; exact Nat.le_refl _)
      have hbw2 := hnx2.size
      unfold rvv at hen
      clear hs2 hat hC hlk hlx
      go_wp2_with (first
        | (at_builtin; refine wpList_append_own _ rfl _ _ 52 rfl w.heap.size 9 i0 (.string ⟨#[]⟩) 1 16 Tryz.underlying52 hi hz0 hz1 hz2 rfl (by decide) _ _ _ rfl (hrow2.alloc _) ⟨w2.heap.size, 0, none⟩ 1 1 [encStr x] rfl rfl (cell_one_new _ _ _) (by simp [Value.oneCell', encStr]) (by unfold maxLen; omega) (by omega) (by simp; omega) ?_; intro v' w3 hown' hg3 hnil3; go_frame))
      have hrg3 := (hrg2.alloc _).kept hg3 (row_ne_low hrow2 hbl) (row_ne_iter hrow2 hrg2)
      have hnx3 := (hnx2.alloc hbw2 _).grown hg3 (by simp; omega) (fun j hj => (hrow2.lt j hj).1)
      exact ⟨⟨_, cnt2, ss ++ [x], hrg3, by simp; omega, by simpa using hown', fun hv' => by have := (hnil3.1 hv').2; omega, HC2.out, hnx3⟩, by rw [hrg3.left_eq, HRg.out.left_eq]; exact hlt⟩
end Go.Proofs.YteiobnkaadedkaaGreatDoor
