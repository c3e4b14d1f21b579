/- The walks of the reference's in, signOf, PackName. -/
import Derived.Test.YtoojbpldhhbkbaaGreatDoorRb
import Derived.Test.YtoojbpldhhbkbaaGreatDoorTb
namespace Go.Proofs.YtoojbpldhhbkbaaGreatDoor
open Go.RowKit Go.Shelf Go.Sort

theorem xin3_any (n lo hi : Int) (w : World) : Calls Tryz.prog 31 #[.int .i64 n, .int .i64 lo, .int .i64 hi] w fun x w' => x = .returned (.bool (decide (lo ≤ n) && decide (n ≤ hi))) ∧ w' = w := by
  go_enter Tryz.func31, Tryz.ntmps31
  go_wp2
  all_goals go_ret
  all_goals exact ⟨ret_bool (by rw [Bool.eq_iff_iff]; simp; omega), rfl⟩

set_option maxRecDepth 100000 in
/-- A package's name, as the reference has it. -/
theorem xname_any (l : List UInt8) (w : World) (hl : l.length ≤ 1000) : Calls Tryz.prog 33 #[.string ⟨l.toArray⟩] w fun x w' => x = .returned (.bool (nmo l)) ∧ w' = w := by
  obtain ⟨r, hr⟩ : ∃ r, r = nmo l := ⟨_, rfl⟩
  have HY : Hid ((∀ j (hj : j < l.length), (if j = 0 then pby l[j] else nby l[j]) = true) → (decide ((2 : Int) ≤ l.length) && decide ((l.length : Int) ≤ 24)) = r) := fun h' => by
    rw [hr]
    unfold nmo
    cases l with
    | nil => rfl
    | cons c t =>
      have h0 := h' 0 (by simp)
      simp at h0
      have ha : (c :: t).all nby = true := by
        rw [List.all_eq_true]
        intro x hx
        obtain ⟨j, hj, rfl⟩ := List.getElem_of_mem hx
        have := h' j hj
        by_cases e : j = 0
        · subst e; simp; exact nby_p h0
        · rw [if_neg e] at this; exact this
      rw [ha, Bool.eq_iff_iff]
      simp [h0]
      omega
  have HN : Hid (∀ k (hk : k < l.length), (if k = 0 then pby l[k] else nby l[k]) = false → r = false) := fun k hk h' => by
    rw [hr]
    unfold nmo
    cases l with
    | nil => simp at hk
    | cons c t =>
      by_cases e : k = 0
      · subst e; simp at h'; simp [h']
      · rw [if_neg e] at h'
        have : (c :: t).all nby = false := by
          rw [List.all_eq_false]
          exact ⟨_, List.getElem_mem hk, by rw [h']; simp⟩
        rw [this]; simp
  rw [← hr]
  clear hr
  go_enter Tryz.func33, Tryz.ntmps33
  go_wp2
  go_loop [7] (fun i => ∃ k : Nat, k ≤ l.length ∧ i = .int .i64 k ∧ Hid (∀ j (hj : j < l.length), j < k → (if j = 0 then pby l[j] else nby l[j]) = true)) (fun i => l.length - (intOf i).toNat)
  case atStart => exact ⟨0, Nat.zero_le _, rfl, fun j _ h => absurd h (Nat.not_lt_zero _)⟩
  case round =>
    obtain ⟨k, hk, rfl, HP⟩ := hrel
    by_cases hlt : k < l.length
    · have HM : Hid ((if k = 0 then pby l[k] else nby l[k]) = true → ∀ j (hj : j < l.length), j < k + 1 → (if j = 0 then pby l[j] else nby l[j]) = true) := fun hc j hj h => by
        by_cases e : j = k
        · subst e; exact hc
        · exact HP.out j hj (by omega)
      have HN' := Lib.hid (HN.out k hlt)
      clear HN HY HP
      obtain ⟨x, hx⟩ : ∃ x, x = l[k] := ⟨_, rfl⟩
      have hbx : ∀ (h : k < (ByteArray.mk l.toArray).size), (ByteArray.mk l.toArray)[k]'h = x := fun h => hx.symm
      rw [← hx] at HM HN'
      clear hx
      go_wp2_with (go_at_call 51; refine (xdigit_any _ _).mono ?_; rintro e w' ⟨rfl, rfl⟩)
      all_goals first
        | (go_ret
           refine ⟨ret_bool (HN'.out ?_).symm, rfl⟩
           clear HM HN' hbx
           try simp only [Vm.dg_iff, beq_iff_eq, bne_iff_ne, Bool.not_eq_eq_eq_not, Bool.not_true, decide_eq_false_iff_not, ne_eq] at *
           split <;> simp [pby, nby] <;> omega)
        | (refine ⟨⟨k + 1, hlt, by go_num, HM.out ?_⟩, by simp [intOf]; omega⟩
           clear HM HN' hbx
           try simp only [Vm.dg_iff, beq_eq_false_iff_ne, bne_eq_false_iff_eq, Bool.not_eq_eq_eq_not, Bool.not_false, decide_eq_true_eq, ne_eq] at *
           split <;> simp [pby, nby] <;> omega)
    · go_wp2_with (go_at_call 31; refine (xin3_any _ _ _ _).mono ?_; rintro e w' ⟨rfl, rfl⟩)
      go_ret
      exact ⟨ret_bool (HY.out (fun j hj => HP.out j hj (by omega))), rfl⟩
end Go.Proofs.YtoojbpldhhbkbaaGreatDoor
