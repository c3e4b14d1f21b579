/- The law's line and sameTexts walked. -/
import Derived.Test.YteiobnkaadedkaaGreatDoorBp
import Derived.Test.YteiobnkaadedkaaGreatDoorMi
namespace Go.Proofs.YteiobnkaadedkaaGreatDoor
open Go.RowKit Go.Sort Go.Maps

theorem prts_cons (c : UInt8) (s : List UInt8) : prts (c :: s) = ((c == 9 || c == 10) || prts s) := rfl
theorem prts_at {s : List UInt8} {k : Nat} (h : k < s.length) (hp : s[k] = 9 ∨ s[k] = 10) : prts s = true := by
  unfold prts
  rw [List.any_eq_true]
  exact ⟨s[k], List.getElem_mem h, by rcases hp with e | e <;> rw [e] <;> rfl⟩
theorem prts_take {s : List UInt8} {k : Nat} (h : k < s.length) (h1 : s[k] ≠ 9) (h2 : s[k] ≠ 10) (hp : prts (s.take k) = false) : prts (s.take (k + 1)) = false := by
  rw [prts_whole] at hp ⊢
  rw [List.take_succ_eq_append_getElem h]
  refine ⟨fun hm => ?_, fun hm => ?_⟩
  · rcases List.mem_append.1 hm with hm | hm
    · exact hp.1 hm
    · simp at hm; exact h1 hm.symm
  · rcases List.mem_append.1 hm with hm | hm
    · exact hp.2 hm
    · simp at hm; exact h2 hm.symm
theorem u8_9 {x : UInt8} (h : x ≠ 9) : ((x.toNat : Int) == 9) = false := by
  rw [beq_eq_false_iff_ne]
  intro e
  apply h
  have : x.toNat = 9 := by omega
  rw [← UInt8.toNat_inj, this]
  rfl
theorem u8_10 {x : UInt8} (h : x ≠ 10) : ((x.toNat : Int) == 10) = false := by
  rw [beq_eq_false_iff_ne]
  intro e
  apply h
  have : x.toNat = 10 := by omega
  rw [← UInt8.toNat_inj, this]
  rfl
set_option maxRecDepth 100000 in
set_option maxHeartbeats 2000000 in
theorem line_any (k s : List UInt8) (w : World) (hk : k.length ≤ 1000) (hs : s.length ≤ 1000) : Calls Tryz.prog 8 #[.string ⟨k.toArray⟩, .string ⟨s.toArray⟩] w fun x w' => x = .returned (.bool (rgt k s)) ∧ w' = w := by
  obtain ⟨z, hz⟩ : ∃ z, z = rgt k s := ⟨_, rfl⟩
  rw [← hz]
  unfold rgt at hz
  by_cases h1 : 1 ≤ k.length
  · by_cases h2 : k.length ≤ 24
    · by_cases h3 : s.length ≤ 300
      · rw [decide_eq_true h1, decide_eq_true h2, decide_eq_true h3] at hz
        simp only [Bool.true_and, Bool.and_true] at hz
        have HZ := Lib.hid hz
        have g1 : ¬ (k.length : Int) < 1 := by omega
        have g2 : ¬ (24 : Int) < (k.length : Int) := by omega
        have g3 : ¬ (300 : Int) < (s.length : Int) := by omega
        clear hz h1 h2 h3
        go_enter Tryz.func8, Tryz.ntmps8
        go_wp2
        go_loop [5] (fun iv => ∃ i : Nat, i ≤ k.length ∧ iv = .int .i64 i ∧ Hid (prts (k.take i) = false)) (fun iv => k.length - (intOf iv).toNat)
        case atStart => exact ⟨0, Nat.zero_le _, rfl, rfl⟩
        case round =>
          obtain ⟨i, hi, rfl, HP⟩ := hrel
          by_cases hlt : i < k.length
          · have hgi : (ByteArray.mk k.toArray)[i]'(by simpa [ByteArray.size] using hlt) = k[i] := rfl
            by_cases h9 : k[i] = 9 ∨ k[i] = 10
            · have HF : Hid (z = false) := by show _ = _; rw [HZ.out, prts_at hlt h9]; rfl
              generalize k[i] = x at hgi h9
              rcases h9 with rfl | rfl
              all_goals
                go_wp2
                go_ret
                exact ⟨by rw [HF.out]; rfl, rfl⟩
            · have HN := Lib.hid (prts_take hlt (fun e => h9 (.inl e)) (fun e => h9 (.inr e)) HP.out)
              have e9 := u8_9 (x := k[i]) (fun e => h9 (.inl e))
              have e10 := u8_10 (x := k[i]) (fun e => h9 (.inr e))
              generalize k[i] = x at hgi e9 e10
              clear h9
              go_wp2
              exact ⟨⟨i + 1, hlt, by go_num, HN⟩, by simp [intOf]; omega⟩
          · obtain rfl : i = k.length := by omega
            have hpk := HP.out
            rw [List.take_length] at hpk
            have HZ2 : Hid (z = !prts s) := by show _ = _; rw [HZ.out, hpk]; rfl
            clear hpk HP HZ
            go_wp2
            go_loop [6] (fun iv => ∃ i : Nat, i ≤ s.length ∧ iv = .int .i64 i ∧ Hid (prts (s.take i) = false)) (fun iv => s.length - (intOf iv).toNat)
            case atStart => exact ⟨0, Nat.zero_le _, rfl, rfl⟩
            case round =>
              obtain ⟨i, hi, rfl, HP⟩ := hrel
              by_cases hlt : i < s.length
              · have hgi : (ByteArray.mk s.toArray)[i]'(by simpa [ByteArray.size] using hlt) = s[i] := rfl
                by_cases h9 : s[i] = 9 ∨ s[i] = 10
                · have HF : Hid (z = false) := by show _ = _; rw [HZ2.out, prts_at hlt h9]; rfl
                  generalize s[i] = x at hgi h9
                  rcases h9 with rfl | rfl
                  all_goals
                    go_wp2
                    go_ret
                    exact ⟨by rw [HF.out]; rfl, rfl⟩
                · have HN := Lib.hid (prts_take hlt (fun e => h9 (.inl e)) (fun e => h9 (.inr e)) HP.out)
                  have e9 := u8_9 (x := s[i]) (fun e => h9 (.inl e))
                  have e10 := u8_10 (x := s[i]) (fun e => h9 (.inr e))
                  generalize s[i] = x at hgi e9 e10
                  clear h9
                  go_wp2
                  exact ⟨⟨i + 1, hlt, by go_num, HN⟩, by simp [intOf]; omega⟩
              · obtain rfl : i = s.length := by omega
                have hps := HP.out
                rw [List.take_length] at hps
                have HF : Hid (z = true) := by show _ = _; rw [HZ2.out, hps]; rfl
                clear hps HP
                go_wp2
                go_ret
                exact ⟨by rw [HF.out]; rfl, rfl⟩
      · rw [decide_eq_false h3] at hz
        simp only [Bool.and_false, Bool.false_and] at hz
        subst hz
        have g1 : ¬ (k.length : Int) < 1 := by omega
        have g2 : ¬ (24 : Int) < (k.length : Int) := by omega
        have g3 : (300 : Int) < (s.length : Int) := by omega
        clear h1 h2 h3
        go_enter Tryz.func8, Tryz.ntmps8
        go_wp2
        go_ret
        exact ⟨rfl, rfl⟩
    · rw [decide_eq_false h2] at hz
      simp only [Bool.and_false, Bool.false_and] at hz
      subst hz
      have g1 : ¬ (k.length : Int) < 1 := by omega
      have g2 : (24 : Int) < (k.length : Int) := by omega
      clear h1 h2
      go_enter Tryz.func8, Tryz.ntmps8
      go_wp2
      go_ret
      exact ⟨rfl, rfl⟩
  · rw [decide_eq_false h1] at hz
    simp only [Bool.false_and] at hz
    subst hz
    have g1 : (k.length : Int) < 1 := by omega
    clear h1
    go_enter Tryz.func8, Tryz.ntmps8
    go_wp2
    go_ret
    exact ⟨rfl, rfl⟩
theorem below_drewN' {B : Nat} {w : World} (n : Nat) : Below B w (w.drewN n) := by
  induction n with
  | zero => exact Below.refl _ _
  | succ n ih => exact ih.drew
theorem same_nil (A A' : Option Addr) (c c' : Nat) (w : World) : Calls Tryz.prog 15 #[.slice A 0 c, .slice A' 0 c'] w fun x w' => x = .returned (.bool true) ∧ w' = w := by
  go_enter Tryz.func15, Tryz.ntmps15
  go_wp2
  refine wp_loop_rounds 1 ?_
  rw [rounds_succ]
  go_wp2
  go_ret
  exact ⟨rfl, rfl⟩
set_option maxHeartbeats 1600000 in
set_option maxRecDepth 100000 in
theorem same_row (b c b' c' : Nat) (l : List (List UInt8)) (w : World) (hn : l.length ≤ 1000) (h : ∀ i (hi : i < l.length), w.cell? ⟨b, i, none⟩ = some (.string ⟨l[i].toArray⟩)) (h' : ∀ i (hi : i < l.length), w.cell? ⟨b', i, none⟩ = some (.string ⟨l[i].toArray⟩)) : Calls Tryz.prog 15 #[.slice (some ⟨b, 0, none⟩) l.length c, .slice (some ⟨b', 0, none⟩) l.length c'] w fun x w' => x = .returned (.bool true) ∧ Below w.heap.size w w' := by
  have H := Lib.hid h
  have H' := Lib.hid h'
  clear h h'
  go_enter Tryz.func15, Tryz.ntmps15
  go_wp2
  go_loopw [5] (fun i W => ∃ k : Nat, k ≤ l.length ∧ i = .int .i64 k ∧ Below w.heap.size w W) (fun i _ => l.length - (intOf i).toNat)
  case atStart => exact ⟨0, Nat.zero_le _, rfl, Below.refl _ _⟩
  case round =>
    obtain ⟨k, hk, rfl, hW⟩ := hrel
    by_cases hlt : k < l.length
    · have c0 := (hW.cell (block_lt_of_cell (H.out k hlt))).trans (H.out k hlt)
      have c1 := (hW.cell (block_lt_of_cell (H'.out k hlt))).trans (H'.out k hlt)
      go_wp2
      go_quiet (fail)
      go_wp2
      exact ⟨⟨k + 1, hlt, by go_num, hW.trans (below_drewN' _)⟩, by simp [intOf]; omega⟩
    · go_wp2
      go_ret
      exact ⟨rfl, hW⟩
theorem same_any (B B' : Nat) (v v' : Value) (l : List (List UInt8)) (w : World) (h : Tx B w v l) (h' : Tx B' w v' l) (hn : l.length ≤ 1000) : Calls Tryz.prog 15 #[v, v'] w fun x w' => x = .returned (.bool true) ∧ Below w.heap.size w w' := by
  rcases h.is with ⟨h1, rfl⟩ | ⟨b, c, rfl, h0, h2, h3⟩
  · subst h1
    rcases h'.is with ⟨_, rfl⟩ | ⟨b', c', rfl, _, _, _⟩
    · exact (same_nil _ _ _ _ w).mono fun x w' ⟨h1, h2⟩ => ⟨h1, by rw [h2]; exact Below.refl _ _⟩
    · exact (same_nil _ _ _ _ w).mono fun x w' ⟨h1, h2⟩ => ⟨h1, by rw [h2]; exact Below.refl _ _⟩
  · rcases h'.is with ⟨h4, rfl⟩ | ⟨b', c', rfl, _, _, h6⟩
    · subst h4
      exact (same_nil _ _ _ _ w).mono fun x w' ⟨h1, h2⟩ => ⟨h1, by rw [h2]; exact Below.refl _ _⟩
    · exact same_row b c b' c' l w hn h3 h6

end Go.Proofs.YteiobnkaadedkaaGreatDoor
