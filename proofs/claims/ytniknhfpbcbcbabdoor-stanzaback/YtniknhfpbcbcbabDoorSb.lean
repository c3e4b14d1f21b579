/- The walks of names and lines, either side. -/
import Derived.Test.YtniknhfpbcbcbabDoorSa
import Derived.Test.YtniknhfpbcbcbabDoorSh
namespace Go.Proofs.YtniknhfpbcbcbabDoor
open Go.RowKit Go.Shelf

theorem all_to {p : UInt8 → Bool} {l : List UInt8} (h : ∀ j (hj : j < l.length), p l[j] = true) : l.all p = true := by
  rw [List.all_eq_true]
  intro x hx
  obtain ⟨j, hj, rfl⟩ := List.getElem_of_mem hx
  exact h j hj
theorem all_no {p : UInt8 → Bool} {l : List UInt8} (k : Nat) (hk : k < l.length) (h : p l[k] = false) : l.all p = false := by
  rw [List.all_eq_false]
  exact ⟨l[k], List.getElem_mem hk, by simp [h]⟩
theorem beq_of {c d : UInt8} : (((c.toNat : Int) == (d.toNat : Int))) = (c == d) := by
  rw [Bool.eq_iff_iff, beq_iff_eq, beq_iff_eq]
  constructor
  · intro h; exact UInt8.toNat_inj.1 (by omega)
  · rintro rfl; rfl
theorem eq35 (c : UInt8) : ((c.toNat : Int) == 35) = (c == 35) := beq_of (d := 35)
theorem eq45 (c : UInt8) : ((c.toNat : Int) == 45) = (c == 45) := beq_of (d := 45)
theorem eq58 (c : UInt8) : ((c.toNat : Int) == 58) = (c == 58) := beq_of (d := 58)
theorem eq127 (c : UInt8) : ((c.toNat : Int) == 127) = (c == 127) := beq_of (d := 127)
theorem eq9 (c : UInt8) : ((c.toNat : Int) == 9) = (c == 9) := beq_of (d := 9)
theorem eq32 (c : UInt8) : ((c.toNat : Int) == 32) = (c == 32) := beq_of (d := 32)
theorem eq46 (c : UInt8) : ((c.toNat : Int) == 46) = (c == 46) := beq_of (d := 46)

theorem ba_head (c : UInt8) (l : List UInt8) (h : 0 < (ByteArray.mk (c :: l).toArray).size) : (ByteArray.mk (c :: l).toArray)[0]'h = c := rfl

theorem nok_nil : Sm.nok [] = false := rfl
theorem nok_long {l : List UInt8} (h : 24 < l.length) : Sm.nok l = false := by
  unfold Sm.nok; rw [show decide (l.length ≤ 24) = false from by simp; omega]; simp
theorem nok_head {l : List UInt8} (h : Sm.hok l = false) : Sm.nok l = false := by unfold Sm.nok; rw [h]; rfl
theorem nok_all {l : List UInt8} (h1 : Sm.hok l = true) (h2 : l.length ≤ 24) (b : Bool) (h3 : l.all Sm.nb = b) : b = Sm.nok l := by unfold Sm.nok; rw [h1, h3]; simp [h2]

theorem rn_nil (w : World) : Calls Tryd.prog 108 #[.string ⟨([] : List UInt8).toArray⟩] w fun e w' => e = .returned (.bool (Sm.nok [])) ∧ w' = w := by
  go_enter Tryd.func108, Tryd.ntmps108
  go_wp2
  go_ret
  exact ⟨rfl, rfl⟩

theorem nb_no1 {c : UInt8} (h : (c.toNat : Int) < 33) : Sm.nb c = false := by unfold Sm.nb; rw [show decide (33 ≤ c.toNat) = false from by simp; omega]; rfl
theorem nb_no2 {c : UInt8} (h : 126 < (c.toNat : Int)) : Sm.nb c = false := by unfold Sm.nb; rw [show decide (c.toNat ≤ 126) = false from by simp; omega]; simp
theorem nb_no3 {c : UInt8} (h : (c == 58) = true) : Sm.nb c = false := by unfold Sm.nb; rw [h]; simp
theorem nb_yes {c : UInt8} (h1 : 33 ≤ (c.toNat : Int)) (h2 : (c.toNat : Int) ≤ 126) (h3 : (c == 58) = false) : Sm.nb c = true := by unfold Sm.nb; rw [h3]; simp; omega

attribute [local go_sem] ba_head in
set_option maxHeartbeats 1600000 in
theorem rn_cons (c : UInt8) (t : List UInt8) (w : World) (hl : (c :: t).length ≤ 1000000) : Calls Tryd.prog 108 #[.string ⟨(c :: t).toArray⟩] w fun e w' => e = .returned (.bool (Sm.nok (c :: t))) ∧ w' = w := by
  obtain ⟨b, hb⟩ : ∃ b, b = Sm.nok (c :: t) := ⟨_, rfl⟩
  have HB := Lib.hid hb
  rw [← hb]
  clear hb
  have e35 := eq35 c
  have e45 := eq45 c
  by_cases h24 : (c :: t).length ≤ 24
  · cases h35 : (c == 35) with
    | true =>
      have hn : b = false := by rw [HB.out]; exact nok_head (by simp [Sm.hok, h35])
      simp only [List.length_cons] at h24 hl
      go_enter Tryd.func108, Tryd.ntmps108
      go_wp2
      go_ret
      first | exact ⟨rfl, rfl⟩ | exact ⟨ret_bool hn.symm, rfl⟩
    | false =>
      cases h45 : (c == 45) with
      | true =>
        have hn : b = false := by rw [HB.out]; exact nok_head (by simp [Sm.hok, h45])
        simp only [List.length_cons] at h24 hl
        go_enter Tryd.func108, Tryd.ntmps108
        go_wp2
        go_ret
        first | exact ⟨rfl, rfl⟩ | exact ⟨ret_bool hn.symm, rfl⟩
      | false =>
        have hd : Sm.hok (c :: t) = true := by simp [Sm.hok, h35, h45]
        have HY := Lib.hid (fun b' h => nok_all hd h24 b' h)
        obtain ⟨l, hle⟩ : ∃ l, l = c :: t := ⟨_, rfl⟩
        have h0 : 0 < (ByteArray.mk l.toArray).size := by rw [hle]; simp [ByteArray.size]
        have g0 : (ByteArray.mk l.toArray)[0]'h0 = c := by subst hle; rfl
        have ge : l.isEmpty = false := by rw [hle]; rfl
        rw [← hle] at HB HY h24 hl ⊢
        clear hle
        go_enter Tryd.func108, Tryd.ntmps108
        go_wp2
        go_loop [24] (fun i => ∃ k : Nat, k ≤ l.length ∧ i = .int .i64 k ∧ Hid (∀ j (hj : j < l.length), j < k → Sm.nb l[j] = true)) (fun i => l.length - (intOf i).toNat)
        case atStart => exact ⟨0, Nat.zero_le _, rfl, fun j _ h => absurd h (Nat.not_lt_zero _)⟩
        case round =>
          obtain ⟨k, hk, rfl, HP⟩ := hrel
          by_cases hlt : k < l.length
          · have more : Sm.nb l[k] = true → ∀ j (hj : j < l.length), j < k + 1 → Sm.nb l[j] = true := fun hc j hj h => by
              by_cases e : j = k
              · subst e; exact hc
              · exact HP.out j hj (by omega)
            have HM := Lib.hid more
            clear more
            have eg : (ByteArray.mk l.toArray)[k]'hlt = l[k] := rfl
            have e58 := eq58 l[k]
            by_cases a1 : l[k].toNat < 33
            · go_wp2
              go_ret
              exact ⟨ret_bool (by rw [HB.out]; exact HY.out false (all_no k hlt (nb_no1 (by omega)))), rfl⟩
            · by_cases a2 : 126 < l[k].toNat
              · go_wp2
                go_ret
                exact ⟨ret_bool (by rw [HB.out]; exact HY.out false (all_no k hlt (nb_no2 (by omega)))), rfl⟩
              · cases a3 : (l[k] == 58) with
                | true =>
                  rw [a3] at e58
                  go_wp2
                  go_ret
                  exact ⟨ret_bool (by rw [HB.out]; exact HY.out false (all_no k hlt (nb_no3 a3))), rfl⟩
                | false =>
                  rw [a3] at e58
                  go_wp2
                  exact ⟨⟨k + 1, hlt, by go_num, HM.out (nb_yes (by omega) (by omega) a3)⟩, by simp [intOf]; omega⟩
          · go_wp2
            go_ret
            exact ⟨ret_bool (by rw [HB.out]; exact HY.out true (all_to (fun j hj => HP.out j hj (by omega)))), rfl⟩
  · have hn : b = false := by rw [HB.out]; exact nok_long (by omega)
    simp only [List.length_cons] at h24 hl
    go_enter Tryd.func108, Tryd.ntmps108
    go_wp2
    go_ret
    first | exact ⟨rfl, rfl⟩ | exact ⟨ret_bool hn.symm, rfl⟩
theorem rn_any (l : List UInt8) (w : World) (hl : l.length ≤ 1000000) : Calls Tryd.prog 108 #[.string ⟨l.toArray⟩] w fun e w' => e = .returned (.bool (Sm.nok l)) ∧ w' = w := by
  cases l with
  | nil => exact rn_nil w
  | cons c t => exact rn_cons c t w hl

theorem xin_any (e a b : Int) (w : World) : Calls Tryd.prog 58 #[.int .i64 e, .int .i64 a, .int .i64 b] w fun x w' => x = .returned (.bool (decide (a ≤ e) && decide (e ≤ b))) ∧ w' = w := by
  go_enter Tryd.func58, Tryd.ntmps58
  go_wp2
  all_goals go_ret
  all_goals exact ⟨ret_bool (by rw [Bool.eq_iff_iff]; simp; omega), rfl⟩

theorem hok_cons (c : UInt8) (t : List UInt8) (h1 : (c == 35) = false) (h2 : (c == 45) = false) : Sm.hok (c :: t) = true := by simp [Sm.hok, h1, h2]

end Go.Proofs.YtniknhfpbcbcbabDoor
