/- A book of the program, in memory; the walks of its small functions. -/
import Derived.Test.YteiobnkaadedkaaGreatDoorBa
import Derived.Test.YteiobnkaadedkaaGreatDoorMk
import Derived.Test.YteiobnkaadedkaaGreatDoorSk
import Derived.MapKept
import Derived.Laws.Externs
namespace Go.Proofs.YteiobnkaadedkaaGreatDoor
open Go.RowKit Go.Sort Go.Maps

theorem ret_int {k : IntKind} {a b : Int} (h : a = b) : Ending.returned (.int k a) = .returned (.int k b) := by rw [h]
/-- A line. -/
def lv (s : List UInt8) : Value := .agg #[.string ⟨s.toArray⟩]
/-- Lines in memory. -/
abbrev Lm (w : World) (m : Nat) (M : Bk) : Prop := w.ownsMap Tryz.prog 9 Rv m M.length (toD lv M)
def ncs (ns : Nat → Option Nat) : List Value := (List.range 37).map fun i => .map (ns i)
def bkc (d p : Option Nat) (ns : Nat → Option Nat) (dn : Bool) : List Value := .pointer (d.map fun a => ⟨a, 0, none⟩) :: .map p :: (ncs ns ++ [.bool dn])
abbrev bko (d p : Option Nat) (ns : Nat → Option Nat) (dn : Bool) : Obj := .cells (bkc d p ns dn).toArray 68 (0, 0)
theorem ncs_len (ns : Nat → Option Nat) : (ncs ns).length = 37 := by simp [ncs]
theorem bkc_len (d p : Option Nat) (ns : Nat → Option Nat) (dn : Bool) : (bkc d p ns dn).length = 40 := by simp [bkc, ncs_len]
theorem bkc_n (d p : Option Nat) (ns : Nat → Option Nat) (dn : Bool) {i : Nat} (hi : i < 37) : (bkc d p ns dn)[2 + i]? = some (.map (ns i)) := by
  unfold bkc
  rw [show 2 + i = i + 1 + 1 by omega, List.getElem?_cons_succ, List.getElem?_cons_succ, List.getElem?_append_left (by rw [ncs_len]; exact hi)]
  simp [ncs, hi]
theorem bkc_d (d p : Option Nat) (ns : Nat → Option Nat) (dn : Bool) : (bkc d p ns dn)[39]? = some (.bool dn) := by
  unfold bkc
  rw [List.getElem?_cons_succ, List.getElem?_cons_succ, List.getElem?_append_right (by rw [ncs_len]; omega), ncs_len]
  rfl
structure Bc (w : World) (b : Nat) (d p : Option Nat) (ns : Nat → Option Nat) (dn : Bool) : Prop where
  lt : b < w.heap.size
  c0 : w.cell? ⟨b, 0, none⟩ = some (.pointer (d.map fun a => ⟨a, 0, none⟩))
  c1 : w.cell? ⟨b, 1, none⟩ = some (.map p)
  cn : ∀ i, i < 37 → w.cell? ⟨b, 2 + i, none⟩ = some (.map (ns i))
  cd : w.cell? ⟨b, 39, none⟩ = some (.bool dn)
  f : ∀ j, w.frozen? ⟨b, j, none⟩ = false
theorem cell_list {w : World} {b j : Nat} {l : List Value} {t : TypeId} {v : Value} (h : w.heap[b]? = some (.cells l.toArray t (0, 0))) (hj : l[j]? = some v) : w.cell? ⟨b, j, none⟩ = some v := by
  unfold World.cell?
  rw [h]
  simpa using hj
theorem frozen_list {w : World} {b : Nat} {l : List Value} {t : TypeId} (h : w.heap[b]? = some (.cells l.toArray t (0, 0))) (j : Nat) : w.frozen? ⟨b, j, none⟩ = false := by
  unfold World.frozen?
  rw [h]
  simp
theorem bc_of {w : World} {b : Nat} {d p : Option Nat} {ns : Nat → Option Nat} {dn : Bool} (h : w.heap[b]? = some (bko d p ns dn)) : Bc w b d p ns dn :=
  ⟨(Array.getElem?_eq_some_iff.1 h).1, cell_list h rfl, cell_list h rfl, fun _ hi => cell_list h (bkc_n _ _ _ _ hi), cell_list h (bkc_d _ _ _ _), frozen_list h⟩
def updO (ns : Nat → Option Nat) (i : Nat) (v : Option Nat) : Nat → Option Nat := fun j => if j = i then v else ns j
theorem set_n {w : World} {b : Nat} {d p : Option Nat} {ns : Nat → Option Nat} {dn : Bool} (h : w.heap[b]? = some (bko d p ns dn)) {i : Nat} (hi : i < 37) (v : Option Nat) : (w.setCell ⟨b, 2 + i, none⟩ (.map v)).heap[b]? = some (bko d p (updO ns i v) dn) := by
  rw [heap_setCell_same w b (2 + i) _ 68 _ h]
  unfold bko
  congr 1
  rw [List.setIfInBounds_toArray]
  congr 1
  congr 1
  apply List.ext_getElem?
  intro j
  rw [List.getElem?_set]
  by_cases hj : 2 + i = j
  · subst hj
    rw [if_pos rfl, if_pos (by rw [bkc_len]; omega), bkc_n _ _ _ _ hi]
    simp [updO]
  · rw [if_neg hj]
    unfold bkc
    match j with
    | 0 => rfl
    | 1 => rfl
    | j + 2 =>
      rw [List.getElem?_cons_succ, List.getElem?_cons_succ, List.getElem?_cons_succ, List.getElem?_cons_succ]
      rcases Nat.lt_or_ge j 37 with hl | hl
      · rw [List.getElem?_append_left (by rw [ncs_len]; exact hl), List.getElem?_append_left (by rw [ncs_len]; exact hl)]
        simp only [ncs, List.getElem?_map, List.getElem?_range hl, Option.map_some, updO]
        rw [if_neg (by omega)]
      · rw [List.getElem?_append_right (by rw [ncs_len]; exact hl), List.getElem?_append_right (by rw [ncs_len]; exact hl), ncs_len, ncs_len]
theorem set_p {w : World} {b : Nat} {d p : Option Nat} {ns : Nat → Option Nat} {dn : Bool} (h : w.heap[b]? = some (bko d p ns dn)) (v : Option Nat) : (w.setCell ⟨b, 1, none⟩ (.map v)).heap[b]? = some (bko d v ns dn) := by
  rw [heap_setCell_same w b 1 _ 68 _ h, List.setIfInBounds_toArray]
  rfl
theorem set_d {w : World} {b : Nat} {d p : Option Nat} {ns : Nat → Option Nat} {dn : Bool} (h : w.heap[b]? = some (bko d p ns dn)) (v : Bool) : (w.setCell ⟨b, 39, none⟩ (.bool v)).heap[b]? = some (bko d p ns v) := by
  rw [heap_setCell_same w b 39 _ 68 _ h, List.setIfInBounds_toArray]
  show some (Obj.cells _ 68 _) = some (Obj.cells _ 68 _)
  congr 3

theorem down_any (b : Nat) (d p : Option Nat) (ns : Nat → Option Nat) (dn : Bool) (w : World) (h : w.heap[b]? = some (bko d p ns dn)) : Calls Tryz.prog 13 #[.pointer (some ⟨b, 0, none⟩)] w fun x w' => x = .returned (.bool dn) ∧ w' = w := by
  obtain ⟨hlt, c0, c1, cn, cd, f⟩ := bc_of h
  clear h
  go_enter Tryz.func13, Tryz.ntmps13
  go_wp2
  go_ret
  exact ⟨rfl, rfl⟩
theorem fall_any (b : Nat) (d p : Option Nat) (ns : Nat → Option Nat) (dn : Bool) (v : Value) (w : World) (h : w.heap[b]? = some (bko d p ns dn)) : Calls Tryz.prog 37 #[.pointer (some ⟨b, 0, none⟩), v] w fun x w' => x = .returned v ∧ w'.heap[b]? = some (bko d p ns true) ∧ Kp (fun k => k = b) w w' := by
  obtain ⟨hlt, c0, c1, cn, cd, f⟩ := bc_of h
  have f39 := f 39
  have H := Lib.hid h
  clear h
  go_enter Tryz.func37, Tryz.ntmps37
  go_wp2
  go_ret
  exact ⟨rfl, set_d H.out true, kp1⟩
/-- The files. -/
def pgF : List UInt8 := [98, 111, 111, 107, 47, 112, 97, 103, 101]
def frF : List UInt8 := [98, 111, 111, 107, 47, 102, 114, 101, 115, 104]
def shF (i : Nat) : List UInt8 := [98, 111, 111, 107, 47] ++ Lib.decDigits i
theorem dd_len {i : Nat} (hi : i < 37) : 1 ≤ (Lib.decDigits i).length ∧ (Lib.decDigits i).length ≤ 2 := by
  by_cases h : i < 10
  · rw [Lib.decDigits_one h]; simp
  · rw [Lib.decDigits_two h (by omega)]; simp
theorem dd_inj {i j : Nat} (hi : i < 37) (hj : j < 37) (h : Lib.decDigits i = Lib.decDigits j) : i = j := by
  have of : ∀ {a b : Nat}, a < 100 → b < 100 → UInt8.ofNat (48 + a) = UInt8.ofNat (48 + b) → a = b := fun {a b} ha hb e => by
    have := congrArg UInt8.toNat e
    simp at this
    omega
  by_cases h1 : i < 10
  · by_cases h2 : j < 10
    · rw [Lib.decDigits_one h1, Lib.decDigits_one h2] at h
      exact of (by omega) (by omega) (List.cons.inj h).1
    · rw [Lib.decDigits_one h1, Lib.decDigits_two h2 (by omega)] at h
      have := congrArg List.length h
      simp at this
  · by_cases h2 : j < 10
    · rw [Lib.decDigits_one h2, Lib.decDigits_two h1 (by omega)] at h
      have := congrArg List.length h
      simp at this
    · rw [Lib.decDigits_two h1 (by omega), Lib.decDigits_two h2 (by omega)] at h
      have e1 := of (by omega) (by omega) (List.cons.inj h).1
      have e2 := of (by omega) (by omega) (List.cons.inj (List.cons.inj h).2).1
      omega
theorem shF_len {i : Nat} (hi : i < 37) : 6 ≤ (shF i).length ∧ (shF i).length ≤ 7 := by
  have := dd_len hi
  unfold shF
  rw [List.length_append]
  simp
  omega
theorem shF_inj {i j : Nat} (hi : i < 37) (hj : j < 37) (h : shF i = shF j) : i = j := dd_inj hi hj (List.append_cancel_left h)
theorem shF_pg {i : Nat} (hi : i < 37) : shF i ≠ pgF := fun e => by have := shF_len hi; rw [e] at this; simp [pgF] at this
theorem shF_fr {i : Nat} (hi : i < 37) : shF i ≠ frF := fun e => by have := shF_len hi; rw [e] at this; simp [frF] at this
theorem pg_fr : pgF ≠ frF := by decide
theorem file_any (i : Nat) (hi : i < 37) (w : World) : Calls Tryz.prog 25 #[.int .i64 i] w fun x w' => x = .returned (.string ⟨(shF i).toArray⟩) ∧ w' = w := by
  have cI := Tryz.strconv_Itoa_small i (by omega) w
  have hl := dd_len hi
  go_enter Tryz.func25, Tryz.ntmps25
  go_wp2_with fail
  refine cI.mono ?_
  rintro x w1 ⟨rfl, rfl⟩
  go_wp2
  go_ret
  refine ⟨?_, rfl⟩
  show Ending.returned (.string (ByteArray.mk #[98, 111, 111, 107, 47] ++ ByteArray.mk (Lib.decDigits i).toArray)) = _
  rw [show ByteArray.mk #[98, 111, 111, 107, 47] = ⟨([98, 111, 111, 107, 47] : List UInt8).toArray⟩ from rfl, ba_app]
  rfl
end Go.Proofs.YteiobnkaadedkaaGreatDoor
