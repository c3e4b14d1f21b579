/- depend.List and record.parsePaths once more: what they hand back is new. -/
import Derived.Test.YtmlmdncepgcimaaGreatDoorXb
import Derived.Test.YtmlmdncepgcimaaGreatDoorBa
namespace Go.Proofs.YtmlmdncepgcimaaGreatDoor
open Go.RowKit Go.Shelf

/-- Texts in a row that is new. -/
structure SsF (B : Nat) (W : World) (v : Value) (l : List (List UInt8)) : Prop where
  is : (l = [] ∧ ∃ A c, v = .slice A 0 c) ∨ ∃ b o c, B ≤ b ∧ v = .slice (some ⟨b, o, none⟩) l.length c ∧ l.length ≤ c ∧ Sr W b o l
theorem SsF.ss {B : Nat} {W : World} {v : Value} {l : List (List UInt8)} (h : SsF B W v l) : Ss W v l := by
  rcases h.is with h | ⟨b, o, c, _, h1, h2, h3⟩
  · exact ⟨.inl h⟩
  · exact ⟨.inr ⟨b, o, c, h1, h2, h3⟩⟩
theorem SsF.on {B : Nat} {W W' : World} {v : Value} {l : List (List UInt8)} (h : SsF B W v l) (k : Below W.heap.size W W') : SsF B W' v l := by
  rcases h.is with h | ⟨b, o, c, h0, h1, h2, h3⟩
  · exact ⟨.inl h⟩
  · exact ⟨.inr ⟨b, o, c, h0, h1, h2, ⟨Nat.lt_of_lt_of_le h3.lt k.size, fun i hi => by rw [k.cell (p := ⟨b, _, none⟩) h3.lt]; exact h3.c i hi⟩⟩⟩
theorem SsF.set {B : Nat} {W : World} {v : Value} {l : List (List UInt8)} (h : SsF B W v l) {a : Addr} (ha : a.block < B) (u : Value) : SsF B (W.setCell a u) v l := by
  rcases h.is with h | ⟨b, o, c, h0, h1, h2, h3⟩
  · exact ⟨.inl h⟩
  · exact ⟨.inr ⟨b, o, c, h0, h1, h2, ⟨by simpa using h3.lt, fun i hi => (World.cell?_of_block (w := W) (a := ⟨b, o + i, none⟩) (heap_setCell_other W a b u (by omega))).trans (h3.c i hi)⟩⟩⟩
set_option maxHeartbeats 2000000 in
set_option maxRecDepth 100000 in
theorem list_fresh (s : List UInt8) (G : List Tm) (w : World) (hs : s.length ≤ 100000) (hr : rdA s = .ok (sing G)) (hG : Sg w) (hT : Tab w) (hn : G.length ≤ 30) :
    Calls Tryz.prog 81 #[.string ⟨s.toArray⟩] w fun e w' => ∃ v B, w.heap.size ≤ B ∧ e = .returned (.tuple #[v, .nilIface]) ∧ w'.ownsRow B 83 5 v G.length (c5 G) ∧ Below w.heap.size w w' := by
  have cT := rterms_any s w hs hG hT
  rw [hr] at cT
  clear hr hG hT
  go_enter Tryz.func81, Tryz.ntmps81
  go_wp2_with fail
  refine cT.mono ?_
  rintro x w1 ⟨⟨v, rfl, hA⟩, hb1⟩
  obtain ⟨A, c, rfl⟩ := as_len hA
  have hl : (sing G).length = G.length := by simp [sing]
  rw [hl]
  have HA := Lib.hid hA
  have HB := Lib.hid hb1
  clear cT hA hb1 hl
  obtain ⟨i0, hi, hz0, hz1, hz2⟩ := tmInfo
  go_wp2_with fail
  go_loopw [6, 19] (fun ov iv W => ∃ k : Nat, k ≤ G.length ∧ iv = .int .i64 k ∧ W.ownsRow w1.heap.size 83 5 ov k (c5 (G.take k)) ∧ Below w1.heap.size w1 W) (fun _ iv _ => G.length - (intOf iv).toNat)
  case atStart => exact ⟨0, Nat.zero_le _, rfl, World.ownsRow_nil _ _ _ _, Below.refl _ _⟩
  case round =>
    obtain ⟨k, hk, rfl, hO, hW⟩ := hrel
    by_cases hlt : k < G.length
    · obtain ⟨b, o, u, rfl, hu, ht⟩ := as_one (HA.out.on hW) rfl k hlt
      obtain ⟨b2, o2, c2, rfl, hcs⟩ := ts_one ht
      have HTK : Hid (c5 (G.take (k + 1)) = c5 (G.take k) ++ G[k].vs) := by
        show _ = _
        rw [List.take_succ_eq_append_getElem hlt, c5_snoc]
      have hvl : G[k].vs.length = 1 * 5 := rfl
      have hv1 : ∀ x ∈ G[k].vs, x.oneCell' = true := fun x hx => by
        simp [Tm.vs] at hx
        rcases hx with rfl | rfl | rfl | rfl | rfl <;> rfl
      generalize G[k] = t at hcs HTK hvl hv1 ht
      have HO := Lib.hid hO
      have HW := Lib.hid hW
      have HCS := Lib.hid hcs
      clear ht hO hW hcs
      go_wp2_with (at_builtin; refine wpList_append_own _ rfl _ _ 25 rfl w1.heap.size 83 i0 _ 5 64 Tryz.underlying25 hi hz0 hz1 hz2 rfl (by decide) _ _ _ rfl HO.out ⟨b2, o2, none⟩ 1 c2 t.vs rfl hvl HCS.out hv1 (by unfold maxLen; omega) (by omega) HW.out.size ?_; intro S' w3 hown hgrow _)
      have hb3 := HW.out.trans (below_own HO.out hgrow HW.out.size)
      exact ⟨⟨k + 1, hlt, by go_num, by rw [HTK.out]; exact hown, hb3⟩, by simp [intOf]; omega⟩
    · obtain rfl : k = G.length := by omega
      rw [List.take_length] at hO
      have hbw := HB.out.trans (hW.mono HB.out.size)
      go_wp2
      go_ret2
      exact ⟨_, _, HB.out.size, rfl, hO, hbw⟩
set_option maxHeartbeats 1600000 in
set_option maxRecDepth 100000 in
theorem ppaths_fresh (l : List (List UInt8)) (w : World) (h0 : l ≠ []) (h20 : l.length ≤ 20) (hno : ∀ s ∈ l, (10 : UInt8) ∉ s) (hlen : (lns l).length ≤ 100000) (hM : MaxN w) :
    Calls Tryz.prog 83 #[.string ⟨(lns l).toArray⟩] w fun e w' => ∃ v, e = .returned (.tuple #[v, .nilIface]) ∧ SsF w.heap.size w' v l ∧ Below w.heap.size w w' := by
  obtain ⟨mm, hm⟩ := hM.out
  obtain ⟨p1, p2⟩ := lns_pre l h0
  have cX := pfx_any (lns l) [10] w
  rw [p1, if_pos rfl, show ([10] : List UInt8).length = 1 from rfl, p2] at cX
  have hj := join_len l h0
  have hjl : (joinL l).length ≤ 100000 := by rw [← p2]; simp; omega
  have hz : (ByteArray.mk (joinL l).toArray).size = (joinL l).length := rfl
  have cS := Tryz.strings_SplitN ⟨(joinL l).toArray⟩ ⟨#[10]⟩ 21 mm w (by omega) hm (Nat.le_refl 1) (by omega) (by omega)
  rw [hz, join_split l (min 21 ((joinL l).length + 1) - 1) h0 hno (by omega)] at cS
  have hN : l.length ≤ min 21 ((joinL l).length + 1) := by omega
  generalize min 21 ((joinL l).length + 1) = N at cS hN
  clear p1 p2 hz hj hlen h20
  generalize lns l = s at cX
  generalize joinL l = t at cX cS hjl
  go_enter Tryz.func83, Tryz.ntmps83
  go_wp2_with fail
  refine cX.mono ?_
  rintro x w1 ⟨rfl, rfl⟩
  go_wp2_with fail
  refine cS.mono ?_
  rintro x w2 ⟨rfl, rfl⟩
  have hS : SsF w1.heap.size (w1.alloc (.cells (Lib.cellsOf (l.map fun s : List UInt8 => (ByteArray.mk s.toArray)) N) 9)) (.slice (some ⟨w1.heap.size, 0, none⟩) l.length N) l := by
    refine ⟨.inr ⟨w1.heap.size, 0, N, Nat.le_refl _, rfl, hN, by simp, fun i hi => ?_⟩⟩
    unfold World.cell?
    rw [World.alloc_heap_new]
    show (Lib.cellsOf _ N)[0 + i]? = _
    unfold Lib.cellsOf
    rw [Nat.zero_add, List.getElem?_toArray, List.getElem?_append_left (by simpa using hi), List.getElem?_map, List.getElem?_map, List.getElem?_eq_getElem hi]
    rfl
  have hbw : Below w1.heap.size w1 (w1.alloc (.cells (Lib.cellsOf (l.map fun s : List UInt8 => (ByteArray.mk s.toArray)) N) 9)) := (Below.refl _ _).alloc (Nat.le_refl _) _
  clear cS cX
  go_wp2
  go_ret2
  exact ⟨_, rfl, hS, hbw⟩
end Go.Proofs.YtmlmdncepgcimaaGreatDoor
