/- The reference's statuses: rises, Stands. -/
import Derived.Test.YtoojbpldhhbkbaaGreatDoorHf
import Derived.Test.YtoojbpldhhbkbaaGreatDoorXa
namespace Go.Proofs.YtoojbpldhhbkbaaGreatDoor
open Go.RowKit Go.Shelf Go.Sort

theorem xris_nil (A : Option Addr) (c : Nat) (w : World) : Calls Tryz.prog 32 #[.slice A 0 c] w fun e w' => e = .returned (.bool true) ∧ Below w.heap.size w w' := by
  go_enter Tryz.func32, Tryz.ntmps32
  go_wp2
  refine wp_loop_rounds 1 ?_
  rw [rounds_succ]
  go_wp2
  go_ret
  exact ⟨rfl, Below.refl _ _⟩
set_option maxHeartbeats 1600000 in
theorem xris_row (b o c : Nat) (L : List (List UInt8)) (w : World) (h : Sr w b o L) (h0 : 0 < L.length) (hn : L.length ≤ 1000) : Calls Tryz.prog 32 #[.slice (some ⟨b, o, none⟩) L.length c] w fun e w' => e = .returned (.bool (ris L)) ∧ Below w.heap.size w w' := by
  obtain ⟨r, hr⟩ : ∃ r, r = ris L := ⟨_, rfl⟩
  have HY : Hid ((∀ j (hj : j + 1 < L.length), Op.bytesLess L[j] L[j + 1] = true) → r = true) := fun h => by rw [hr]; exact ris_t h
  have HN : Hid (∀ k (hk : k + 1 < L.length), Op.bytesLess L[k] L[k + 1] = false → r = false) := fun k hk h' => by rw [hr]; exact ris_f k hk h'
  rw [← hr]
  clear hr
  have HF := Lib.hid h
  clear h
  go_enter Tryz.func32, Tryz.ntmps32
  go_wp2
  go_loopw [3] (fun i W => ∃ k : Nat, 1 ≤ k ∧ k ≤ L.length ∧ i = .int .i64 k ∧ Below w.heap.size w W ∧ Hid (∀ j (hj : j + 1 < L.length), j + 1 < k → Op.bytesLess L[j] L[j + 1] = true)) (fun i _ => L.length - (intOf i).toNat)
  case atStart => exact ⟨1, by omega, by omega, rfl, Below.refl _ _, fun j _ h => by omega⟩
  case round =>
    obtain ⟨k, hk1, hk, rfl, hB, HP⟩ := hrel
    by_cases hlt : k < L.length
    · obtain ⟨j, rfl⟩ : ∃ j, k = j + 1 := ⟨k - 1, by omega⟩
      have HS := HF.out.on hB
      have c0 := HS.c j (by omega)
      have c1 := HS.c (j + 1) hlt
      obtain ⟨y, hy⟩ : ∃ y, y = L[j] := ⟨_, rfl⟩
      obtain ⟨x, hx⟩ : ∃ x, x = L[j + 1] := ⟨_, rfl⟩
      have HN' : Hid (Op.bytesLess y x = false → r = false) := fun h => HN.out j hlt (by rw [← hy, ← hx]; exact h)
      have HK : Hid (Op.bytesLess y x = true → ∀ i (hi : i + 1 < L.length), i + 1 < j + 1 + 1 → Op.bytesLess L[i] L[i + 1] = true) := fun hc i hi h => by
        by_cases e : i = j
        · subst e; rw [← hy, ← hx]; exact hc
        · exact HP.out i hi (by omega)
      rw [← hy] at c0
      rw [← hx] at c1
      clear hx hy HN HS hk1
      cases hz : Op.bytesLess y x with
      | true =>
        have hm := Lib.hid (HK.out hz)
        clear HK HN'
        have d0 : wr.drew.cell? ⟨b, o + j, none⟩ = some (.string ⟨y.toArray⟩) := c0
        have d1 : wr.drew.cell? ⟨b, o + (j + 1), none⟩ = some (.string ⟨x.toArray⟩) := c1
        go_wp2
        go_region
        go_wp2
        exact ⟨⟨j + 1 + 1, by omega, hlt, by go_num, hB.drew, hm.out⟩, by simp [intOf]; omega⟩
      | false =>
        have hr := HN'.out hz
        subst hr
        have d0 : wr.drew.cell? ⟨b, o + j, none⟩ = some (.string ⟨y.toArray⟩) := c0
        have d1 : wr.drew.cell? ⟨b, o + (j + 1), none⟩ = some (.string ⟨x.toArray⟩) := c1
        clear HK HN'
        go_wp2
        go_region
        go_wp2
        go_ret
        exact ⟨rfl, hB.drew⟩
    · go_wp2
      go_ret
      exact ⟨ret_bool (HY.out (fun j hj => HP.out j hj (by omega))).symm, hB⟩
theorem xris_any (v : Value) (L : List (List UInt8)) (w : World) (h : Ss w v L) (hn : L.length ≤ 1000) : Calls Tryz.prog 32 #[v] w fun e w' => e = .returned (.bool (ris L)) ∧ Below w.heap.size w w' := by
  by_cases h0 : L = []
  · subst h0
    obtain ⟨A, c, rfl⟩ := h.sl
    exact xris_nil A c w
  · rcases h.is with ⟨h1, _⟩ | ⟨b, o, c, rfl, _, hs⟩
    · exact absurd h1 h0
    · exact xris_row b o c L w hs (List.length_pos_iff.2 h0) hn
end Go.Proofs.YtoojbpldhhbkbaaGreatDoor
