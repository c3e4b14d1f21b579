/- The walks of depend's cutSign, parseVersion, parseTerm. -/
import Derived.Test.YtglfdipepofcjabDoorTb
import Derived.Test.YtglfdipepofcjabDoorPf
namespace Go.Proofs.YtglfdipepofcjabDoor
open Go.RowKit Go.Shelf Go.Sort

theorem cutS_hit {s : List UInt8} : ∀ {k : Nat}, 1 ≤ k → k < 6 → (∀ j, 1 ≤ j → j < k → (sgt j).isPrefixOf s = false) → (sgt k).isPrefixOf s = true → cutS s = (k, s.drop (sgt k).length)
  | 1, _, _, _, h => by unfold cutS; rw [if_pos h]; rfl
  | 2, _, _, f, h => by unfold cutS; rw [if_neg (by rw [f 1 (by omega) (by omega)]; simp), if_pos h]; rfl
  | 3, _, _, f, h => by unfold cutS; rw [if_neg (by rw [f 1 (by omega) (by omega)]; simp), if_neg (by rw [f 2 (by omega) (by omega)]; simp), if_pos h]; rfl
  | 4, _, _, f, h => by unfold cutS; rw [if_neg (by rw [f 1 (by omega) (by omega)]; simp), if_neg (by rw [f 2 (by omega) (by omega)]; simp), if_neg (by rw [f 3 (by omega) (by omega)]; simp), if_pos h]; rfl
  | 5, _, _, f, h => by unfold cutS; rw [if_neg (by rw [f 1 (by omega) (by omega)]; simp), if_neg (by rw [f 2 (by omega) (by omega)]; simp), if_neg (by rw [f 3 (by omega) (by omega)]; simp), if_neg (by rw [f 4 (by omega) (by omega)]; simp), if_pos h]; rfl
theorem cutS_no {s : List UInt8} (f : ∀ j, 1 ≤ j → j < 6 → (sgt j).isPrefixOf s = false) : cutS s = (0, s) := by
  unfold cutS
  rw [if_neg (by rw [f 1 (by omega) (by omega)]; simp), if_neg (by rw [f 2 (by omega) (by omega)]; simp), if_neg (by rw [f 3 (by omega) (by omega)]; simp), if_neg (by rw [f 4 (by omega) (by omega)]; simp), if_neg (by rw [f 5 (by omega) (by omega)]; simp)]

/-- The table of the signs, as it lies in memory. -/
structure Sg (W : World) : Prop where
  lt : 0 < W.heap.size
  c : ∀ i, i < 6 → W.cell? ⟨0, i, none⟩ = some (.string ⟨(sgt i).toArray⟩)
theorem Sg.on {W w' : World} (h : Sg W) (k : Below W.heap.size W w') : Sg w' :=
  ⟨Nat.lt_of_lt_of_le h.lt k.size, fun i hi => by rw [k.cell (p := ⟨0, i, none⟩) h.lt]; exact h.c i hi⟩

theorem pfx_any (s : List UInt8) (p : List UInt8) (w : World) : Calls Tryd.prog 167 #[.string ⟨s.toArray⟩, .string ⟨p.toArray⟩] w fun e w' => e = .returned (.tuple #[.string ⟨(if p.isPrefixOf s then s.drop p.length else s).toArray⟩, .bool (p.isPrefixOf s)]) ∧ w' = w :=
  Tryd.strings_CutPrefix ⟨s.toArray⟩ ⟨p.toArray⟩ w
theorem ret_op {a b : Nat} {x y : List UInt8} (h : (a, x) = (b, y)) : Ending.returned (.tuple #[.int .i64 (a : Int), .string ⟨x.toArray⟩]) = .returned (.tuple #[.int .i64 (b : Int), .string ⟨y.toArray⟩]) := by cases h; rfl

set_option maxHeartbeats 800000 in
set_option maxRecDepth 100000 in
theorem cutsign_any (s : List UInt8) (w : World) (hG : Sg w) : Calls Tryd.prog 141 #[.string ⟨s.toArray⟩] w fun e w' => e = .returned (.tuple #[.int .i64 ((cutS s).1 : Int), .string ⟨(cutS s).2.toArray⟩]) ∧ Below w.heap.size w w' := by
  obtain ⟨a, b, hab⟩ : ∃ a b, cutS s = (a, b) := ⟨_, _, rfl⟩
  have HA := Lib.hid hab
  rw [hab]
  clear hab
  have HG := Lib.hid hG
  clear hG
  go_enter Tryd.func141, Tryd.ntmps141
  go_wp2
  go_loopw [4] (fun i W => ∃ k : Nat, 1 ≤ k ∧ k ≤ 6 ∧ i = .int .i64 k ∧ W = w ∧ Hid (∀ j, 1 ≤ j → j < k → (sgt j).isPrefixOf s = false)) (fun i _ => 6 - (intOf i).toNat)
  case atStart => exact ⟨1, by omega, by omega, rfl, rfl, fun j _ _ => by omega⟩
  case round =>
    obtain ⟨k, h1, h6, rfl, rfl, HP⟩ := hrel
    by_cases hlt : k < 6
    · have hc := HG.out.c k hlt
      have cP := fun W => pfx_any s (sgt k) W
      have hk : (k : Int) < 6 := by omega
      cases hp : (sgt k).isPrefixOf s with
      | true =>
        have HR := Lib.hid ((cutS_hit h1 hlt HP.out hp).symm.trans HA.out)
        rw [hp] at cP
        simp only [if_true] at cP
        clear hp
        go_wp2_with (go_at_call 167; refine (cP _).mono ?_; rintro e w' ⟨rfl, rfl⟩)
        go_ret2
        exact ⟨ret_op HR.out, Below.refl _ _⟩
      | false =>
        have HM : Hid (∀ j, 1 ≤ j → j < k + 1 → (sgt j).isPrefixOf s = false) := fun j h h' => by
          by_cases e : j = k
          · subst e; exact hp
          · exact HP.out j h (by omega)
        rw [hp] at cP
        clear hp
        go_wp2_with (go_at_call 167; refine (cP _).mono ?_; rintro e w' ⟨rfl, rfl⟩)
        exact ⟨⟨k + 1, by omega, by omega, by go_num, trivial, HM⟩, by simp [intOf]; omega⟩
    · obtain rfl : k = 6 := by omega
      have HR := Lib.hid ((cutS_no HP.out).symm.trans HA.out)
      go_wp2
      go_ret2
      exact ⟨ret_op HR.out, Below.refl _ _⟩

end Go.Proofs.YtglfdipepofcjabDoor
