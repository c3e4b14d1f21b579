/- Numbers of one's own that are sorted where they lie. -/
import Derived.Test.YthijccmiemlilaaGreatDoorXt
import Derived.Test.YthijccmiemlilaaGreatDoorB6
import Derived.Test.YthijccmiemlilaaGreatDoorA8
namespace Go.Proofs.YthijccmiemlilaaGreatDoor
open Go.RowKit Go.Sort

def SortsF (F : Nat) : Prop := ∀ (blk off cap : Nat) (zs : List Int) (w : World), Holds (Value.int .i64) w blk off zs.toArray → blk < w.heap.size → zs.length < 4611686018427387904 → Calls Tryz.prog F #[.slice (some ⟨blk, off, none⟩) zs.length cap] w fun e w' => e = .returned (.tuple #[]) ∧ ∃ n os, w' = grow (putRow (Value.int .i64) (Sort.ahead w n) blk off (zs.mergeSort fun x y => decide (x ≤ y)).toArray) os
theorem sorts51 : SortsF 51 := fun blk off cap zs w h1 h2 h3 => Tryz.slices_Sort_int blk off cap zs w h1 h2 h3
theorem sorts52 : SortsF 52 := fun blk off cap zs w h1 h2 h3 => Tryz.sort_Ints blk off cap zs w h1 h2 h3
theorem sortT {F : Nat} (hF : SortsF F) (g off cap : Nat) (cur : Array Value) (T : List Nat) (w : World) (B : Nat) (hb : w.heap[g]? = some (.cells cur 3 (0, 0))) (hT : ∀ j (h : j < T.length), w.cell? ⟨g, off + j, none⟩ = some (.int .i64 (T[j] : Nat))) (hl : T.length ≤ 100000) (hc : T.length ≤ cap) (hN : T.Nodup) (hB : B ≤ g) :
    Calls Tryz.prog F #[.slice (some ⟨g, off, none⟩) T.length cap] w fun e w' => e = .returned (.tuple #[]) ∧ ∃ R : List Nat, R.Pairwise (· < ·) ∧ (∀ i, i ∈ R ↔ i ∈ T) ∧ R.length = T.length ∧ Ord.Is w' (.slice (some ⟨g, off, none⟩) T.length cap) R ∧ Below B w w' := by
  have hlt : g < w.heap.size := (Array.getElem?_eq_some_iff.1 hb).1
  have hH : Holds (Value.int .i64) w g off (T.map Int.ofNat).toArray := fun j hj => by
    have hj' : j < T.length := by simpa using hj
    refine ⟨?_, by simp [World.frozen?, hb]⟩
    rw [hT j hj', getElem!_pos _ j hj]
    simp
  have cD := hF g off cap (T.map Int.ofNat) w hH hlt (by rw [List.length_map]; omega)
  rw [List.length_map] at cD
  obtain ⟨R, hR1, hR2, hR3, hR4⟩ := Nds.srt T hN
  rw [hR1] at cD
  refine cD.mono ?_
  rintro e w' ⟨rfl, n, os, rfl⟩
  refine ⟨rfl, R, hR2, hR3, hR4, ⟨.inr ⟨g, off, cap, by rw [hR4], by rw [hR4]; exact hc, ?_, fun j hj => ?_⟩⟩, ?_⟩
  · simp [grow, putRow, mapBlock, Sort.ahead]; omega
  · rw [cell?_grow _ _ _ (by simp [putRow, mapBlock, Sort.ahead]; exact hlt)]
    have h1 := holds_putRow (Value.int .i64) (Sort.ahead w n) g off (T.map Int.ofNat).toArray (R.map Int.ofNat).toArray hH (by simp [hR4])
    have h2 := (h1 j (by simp; exact hj)).1
    rw [h2, getElem!_pos _ j (by simp; exact hj)]
    simp
  · refine ⟨rfl, rfl, rfl, by simp [grow, putRow, mapBlock, Sort.ahead], fun k hk => ?_⟩
    rw [heap_grow_old _ _ (by simp [putRow, mapBlock, Sort.ahead]; omega)]
    have : g ≠ k := by omega
    simp [putRow, mapBlock, Sort.ahead, Array.getElem?_modify, this]
end Go.Proofs.YthijccmiemlilaaGreatDoor
