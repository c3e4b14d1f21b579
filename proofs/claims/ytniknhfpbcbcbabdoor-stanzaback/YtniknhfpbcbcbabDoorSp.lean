/- The walks of stanza's Right and Print. -/
import Derived.Test.YtniknhfpbcbcbabDoorSg
import Derived.Test.YtniknhfpbcbcbabDoorSw
import Derived.Test.YtniknhfpbcbcbabDoorSx
namespace Go.Proofs.YtniknhfpbcbcbabDoor
open Go.RowKit Go.Shelf Go.Sort

theorem rf_any (v : Value) (l : List Sm.F) (w : World) (h : Sl w v l) (hz : Sz l) : Calls Tryd.prog 72 #[v] w fun e w' => e = .returned (.bool (rf l)) ∧ Below w.heap.size w w' := by
  rcases h.is with ⟨rfl, A, c, rfl⟩ | ⟨b, o, c, rfl, hc, hf⟩
  · exact (rf_nil A c w).mono fun _ _ ⟨he, hw⟩ => ⟨he, by rw [hw]; exact Below.refl _ _⟩
  · by_cases h1 : 1 ≤ l.length
    · by_cases h40 : l.length ≤ 40
      · rw [show rf l = Sm.foks l from by simp [rf, h1, h40]]
        exact rf_row b o c l w hf hz hc h1 h40
      · rw [show rf l = false from by simp [rf, h40]]
        exact (rf_long _ _ c w (by omega) hz.n).mono fun _ _ ⟨he, hw⟩ => ⟨he, by rw [hw]; exact Below.refl _ _⟩
    · obtain rfl : l = [] := List.length_eq_zero_iff.1 (by omega)
      exact (rf_nil _ c w).mono fun _ _ ⟨he, hw⟩ => ⟨he, by rw [hw]; exact Below.refl _ _⟩

theorem txt_small {l : List Sm.F} (hz : Sz l) : (Sm.txt l).length ≤ 1000000 := by
  have := Sm.txt_le l 60 hz.s hz.n
  omega
theorem rgt_eq (l : List Sm.F) : Sm.rgt l = (rf l && decide ((Sm.txt l).length ≤ 4000)) := rfl

set_option maxHeartbeats 800000 in
theorem right_any (v : Value) (l : List Sm.F) (w : World) (h : Sl w v l) (hz : Sz l) : Calls Tryd.prog 34 #[v] w fun e w' => e = .returned (.bool (Sm.rgt l)) ∧ Below w.heap.size w w' := by
  rw [rgt_eq]
  have hts := txt_small hz
  obtain ⟨t, ht⟩ : ∃ t, t = Sm.txt l := ⟨_, rfl⟩
  have cT := fun W hW => wt_any v l W hW hz hts
  rw [← ht] at cT hts ⊢
  have cR := fun W hW => rf_any v l W hW hz
  have HS := Lib.hid h
  have HT := Lib.hid cT
  cases hr : rf l with
  | false =>
    rw [hr] at cR
    have HR := Lib.hid cR
    clear cR cT h hr hz ht
    go_enter Tryd.func34, Tryd.ntmps34
    go_wp2_with fail
    refine (HR.out _ HS.out).mono ?_
    rintro e w1 ⟨rfl, b1⟩
    go_wp2
    go_ret
    exact ⟨rfl, b1⟩
  | true =>
    rw [hr] at cR
    have HR := Lib.hid cR
    clear cR cT h hr hz ht
    go_enter Tryd.func34, Tryd.ntmps34
    go_wp2_with fail
    refine (HR.out _ HS.out).mono ?_
    rintro e w1 ⟨rfl, b1⟩
    go_wp2_with fail
    refine (HT.out _ (HS.out.on b1)).mono ?_
    rintro e w2 ⟨rfl, b2⟩
    go_wp2
    go_ret
    exact ⟨ret_bool (by rw [Bool.eq_iff_iff]; simp; omega), onn b1 b2⟩

def prVal (l : List Sm.F) (er : Value) (ok : Value) : Value := if Sm.rgt l = true then .tuple #[.string ⟨(Sm.txt l).toArray⟩, ok] else .tuple #[.string ⟨#[]⟩, er]

set_option maxHeartbeats 800000 in
theorem print_any (v : Value) (l : List Sm.F) (w : World) (h : Sl w v l) (hz : Sz l) : Calls Tryd.prog 9 #[v] w fun e w' => e = .returned (prVal l (.iface 43 (.int .i64 1)) .nilIface) ∧ Below w.heap.size w w' := by
  have hts := txt_small hz
  have cT := fun W hW => wt_any v l W hW hz hts
  have cR := fun W hW => right_any v l W hW hz
  have HS := Lib.hid h
  unfold prVal
  cases hr : Sm.rgt l with
  | false =>
    rw [hr] at cR
    have HR := Lib.hid cR
    clear cR cT h hr hz hts
    go_enter Tryd.func9, Tryd.ntmps9
    go_wp2_with fail
    refine (HR.out _ HS.out).mono ?_
    rintro e w1 ⟨rfl, b1⟩
    go_wp2
    go_ret2
    exact ⟨rfl, b1⟩
  | true =>
    rw [hr] at cR
    obtain ⟨t, ht⟩ : ∃ t, t = Sm.txt l := ⟨_, rfl⟩
    rw [← ht] at cT hts ⊢
    have HR := Lib.hid cR
    have HT := Lib.hid cT
    clear cR cT h hr hz ht
    go_enter Tryd.func9, Tryd.ntmps9
    go_wp2_with fail
    refine (HR.out _ HS.out).mono ?_
    rintro e w1 ⟨rfl, b1⟩
    go_wp2_with fail
    refine (HT.out _ (HS.out.on b1)).mono ?_
    rintro e w2 ⟨rfl, b2⟩
    go_wp2
    go_ret2
    exact ⟨rfl, onn b1 b2⟩

end Go.Proofs.YtniknhfpbcbcbabDoor
