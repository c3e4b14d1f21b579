/- record.parsePaths, where lines are written. -/
import Derived.Test.YtfoangkkagijcaaGreatDoorBc
namespace Go.Proofs.YtfoangkkagijcaaGreatDoor
open Go.RowKit Go.Shelf

theorem join_len : ∀ l : List (List UInt8), l ≠ [] → l.length ≤ (joinL l).length + 1
  | [], h => absurd rfl h
  | [s], _ => by simp
  | s :: t :: l, _ => by
    have := join_len (t :: l) (by simp)
    rw [joinL, lns_cons]
    simp only [List.length_cons, List.length_append] at this ⊢
    omega
theorem lns_pre (l : List (List UInt8)) (h : l ≠ []) : [10].isPrefixOf (lns l) = true ∧ (lns l).drop 1 = joinL l := by
  match l with
  | [] => exact absurd rfl h
  | s :: l => rw [lns_cons]; exact ⟨by simp [List.isPrefixOf], rfl⟩
set_option maxHeartbeats 1600000 in
set_option maxRecDepth 100000 in
theorem ppaths_good (l : List (List UInt8)) (w : World) (h0 : l ≠ []) (h20 : l.length ≤ 20) (hno : ∀ s ∈ l, (10 : UInt8) ∉ s) (hlen : (lns l).length ≤ 100000) (hM : MaxN w) :
    Calls Tryz.prog 83 #[.string ⟨(lns l).toArray⟩] w fun e w' => ∃ v, e = .returned (.tuple #[v, .nilIface]) ∧ Ss w' v l ∧ Below w.heap.size w w' := by
  obtain ⟨mm, hm⟩ := hM.out
  obtain ⟨p1, p2⟩ := lns_pre l h0
  have cX := pfx_any (lns l) [10] w
  rw [p1, if_pos rfl, show ([10] : List UInt8).length = 1 from rfl, p2] at cX
  have hj := join_len l h0
  have hjl : (joinL l).length ≤ 100000 := by rw [← p2]; simp; omega
  have hz : (ByteArray.mk (joinL l).toArray).size = (joinL l).length := rfl
  have cS := Tryz.strings_SplitN ⟨(joinL l).toArray⟩ ⟨#[10]⟩ 21 mm w (by omega) hm (Nat.le_refl 1) (by omega) (by omega)
  rw [hz, join_split l (min 21 ((joinL l).length + 1) - 1) h0 hno (by omega)] at cS
  have hN : l.length ≤ min 21 ((joinL l).length + 1) := by omega
  generalize min 21 ((joinL l).length + 1) = N at cS hN
  clear p1 p2 hz hj hlen h20
  generalize lns l = s at cX
  generalize joinL l = t at cX cS hjl
  go_enter Tryz.func83, Tryz.ntmps83
  go_wp2_with fail
  refine cX.mono ?_
  rintro x w1 ⟨rfl, rfl⟩
  go_wp2_with fail
  refine cS.mono ?_
  rintro x w2 ⟨rfl, rfl⟩
  have hS : Ss (w1.alloc (.cells (Lib.cellsOf (l.map fun s : List UInt8 => (ByteArray.mk s.toArray)) N) 9)) (.slice (some ⟨w1.heap.size, 0, none⟩) l.length N) l := by
    refine ⟨.inr ⟨w1.heap.size, 0, N, rfl, hN, by simp, fun i hi => ?_⟩⟩
    unfold World.cell?
    rw [World.alloc_heap_new]
    show (Lib.cellsOf _ N)[0 + i]? = _
    unfold Lib.cellsOf
    rw [Nat.zero_add, List.getElem?_toArray, List.getElem?_append_left (by simpa using hi), List.getElem?_map, List.getElem?_map, List.getElem?_eq_getElem hi]
    rfl
  have hbw : Below w1.heap.size w1 (w1.alloc (.cells (Lib.cellsOf (l.map fun s : List UInt8 => (ByteArray.mk s.toArray)) N) 9)) := (Below.refl _ _).alloc (Nat.le_refl _) _
  clear cS cX
  go_wp2
  go_ret2
  exact ⟨_, rfl, hS, hbw⟩
end Go.Proofs.YtfoangkkagijcaaGreatDoor
