/- The walks of keep's short, flat, terms; offers that come in, opened. -/
import Derived.Test.YtkaeiofolknoeabGreatDoorDg
namespace Go.Proofs.YtkaeiofolknoeabGreatDoor
open Go.RowKit Go.Sort

theorem kshort_any (e : Int) (u r : List UInt8) (w : World) : Calls Tryz.prog 57 #[.agg #[.int .i64 e, .string ⟨u.toArray⟩, .string ⟨r.toArray⟩]] w fun x w' =>
    x = .returned (.bool (decide (u.length ≤ 100) && decide (r.length ≤ 100))) ∧ w' = w.alloc (.cells #[.int .i64 e, .string ⟨u.toArray⟩, .string ⟨r.toArray⟩] 48) := by
  by_cases h1 : u.length ≤ 100
  all_goals by_cases h2 : r.length ≤ 100
  all_goals
    go_enter Tryz.func57, Tryz.ntmps57
    go_wp2
    go_ret
    exact ⟨ret_bool (by apply Bool.eq_iff_iff.2; constructor <;> intro hh <;> simp at hh ⊢ <;> omega), rfl⟩
theorem kshort_b (e : Int) (u r : List UInt8) (w : World) : Calls Tryz.prog 57 #[vv e u r] w fun x w' => x = .returned (.bool (decide (u.length ≤ 100) && decide (r.length ≤ 100))) ∧ Below w.heap.size w w' := by
  refine (kshort_any e u r w).mono ?_
  rintro x w' ⟨rfl, rfl⟩
  exact ⟨rfl, b1c _ _⟩

theorem kflat_long (A : Option Addr) (n c : Nat) (w : World) (h : 40 < n) : Calls Tryz.prog 29 #[.slice A n c] w fun e w' => e = .returned (.bool false) ∧ w' = w := by
  go_enter Tryz.func29, Tryz.ntmps29
  go_wp2
  go_ret
  exact ⟨rfl, rfl⟩
theorem kflat_nil (A : Option Addr) (c : Nat) (w : World) : Calls Tryz.prog 29 #[.slice A 0 c] w fun e w' => e = .returned (.bool true) ∧ w' = w := by
  go_enter Tryz.func29, Tryz.ntmps29
  go_wp2
  refine wp_loop_rounds 1 ?_
  rw [rounds_succ]
  go_wp2
  go_ret
  exact ⟨rfl, rfl⟩

set_option maxHeartbeats 1600000 in
set_option maxRecDepth 100000 in
theorem kflat_row (b o c : Nat) (l : List Tm) (w : World) (h : Tl w b o l) (hn : l.length ≤ 40) : Calls Tryz.prog 29 #[.slice (some ⟨b, o, none⟩) l.length c] w fun e w' => e = .returned (.bool (l.all t1)) ∧ Below w.heap.size w w' := by
  obtain ⟨r, hr⟩ : ∃ r, r = l.all t1 := ⟨_, rfl⟩
  have HR := Lib.hid hr
  rw [← hr]
  clear hr
  have HF := Lib.hid h
  clear h
  go_enter Tryz.func29, Tryz.ntmps29
  go_wp2
  go_loopw [3] (fun i W => ∃ k : Nat, k ≤ l.length ∧ i = .int .i64 k ∧ Below w.heap.size w W ∧ Hid (∀ j (hj : j < l.length), j < k → t1 l[j] = true)) (fun i _ => l.length - (intOf i).toNat)
  case atStart => exact ⟨0, Nat.zero_le _, rfl, Below.refl _ _, fun j _ h => absurd h (Nat.not_lt_zero _)⟩
  case round =>
    obtain ⟨k, hk, rfl, hW, HP⟩ := hrel
    by_cases hlt : k < l.length
    · have hT := HF.out.on hW
      have c0 := hT.c0 k hlt
      have c2 := hT.c2 k hlt
      have c3 := hT.c3 k hlt
      have c4 := hT.c4 k hlt
      have HN : Hid (t1 l[k] = false → r = false) := fun e => by
        rw [HR.out, List.all_eq_false]
        exact ⟨l[k], List.getElem_mem hlt, by simp [e]⟩
      have HM : Hid (t1 l[k] = true → ∀ j (hj : j < l.length), j < k + 1 → t1 l[j] = true) := fun e j hj h => by
        by_cases e2 : j = k
        · subst e2; exact e
        · exact HP.out j hj (by omega)
      have cS := fun W => kshort_b l[k].e l[k].u l[k].r W
      clear hT
      by_cases h1 : l[k].n.length ≤ 60
      · cases hs : (decide (l[k].u.length ≤ 100) && decide (l[k].r.length ≤ 100)) with
        | true =>
          have HG := Lib.hid (HM.out (by unfold t1; rw [hs]; simp [h1]))
          rw [hs] at cS
          clear HN HM hs
          go_wp2_with (go_at_call 57; refine (cS _).mono ?_; rintro x w1 ⟨rfl, bw1⟩)
          exact ⟨⟨k + 1, hlt, by go_num, bon hW bw1, HG⟩, by simp [intOf]; omega⟩
        | false =>
          have HG := Lib.hid (HN.out (by unfold t1; rw [hs]; simp))
          rw [hs] at cS
          clear HN HM hs
          go_wp2_with (go_at_call 57; refine (cS _).mono ?_; rintro x w1 ⟨rfl, bw1⟩)
          go_ret
          exact ⟨retb HG.out.symm, bon hW bw1⟩
      · have HG := Lib.hid (HN.out (by unfold t1; simp [h1]))
        clear HN HM
        go_wp2_with (go_at_call 57; refine (cS _).mono ?_; rintro x w1 ⟨rfl, bw1⟩)
        go_ret
        exact ⟨retb HG.out.symm, hW⟩
    · have hall : l.all t1 = true := by
        rw [List.all_eq_true]
        intro f hf
        obtain ⟨j, hj, rfl⟩ := List.getElem_of_mem hf
        exact HP.out j hj (by omega)
      have HG := Lib.hid (HR.out.trans hall)
      go_wp2
      go_ret
      exact ⟨retb HG.out.symm, hW⟩
theorem kflat_any (v : Value) (l : List Tm) (w : World) (h : Ts w v l) : Calls Tryz.prog 29 #[v] w fun e w' => e = .returned (.bool (fla l)) ∧ Below w.heap.size w w' := by
  rcases h.is with ⟨rfl, A, c, rfl⟩ | ⟨b, o, c, rfl, hc, hf⟩
  · exact (kflat_nil A c w).mono fun x w' ⟨h1, h2⟩ => ⟨h1, by rw [h2]; exact Below.refl _ _⟩
  · by_cases hn : l.length ≤ 40
    · rw [show fla l = l.all t1 from by simp [fla, hn]]
      exact kflat_row b o c l w hf hn
    · rw [show fla l = false from by simp [fla, hn]]
      exact (kflat_long _ _ c w (by omega)).mono fun x w' ⟨h1, h2⟩ => ⟨h1, by rw [h2]; exact Below.refl _ _⟩
theorem kterms_long (A : Option Addr) (n c : Nat) (w : World) (h : 40 < n) : Calls Tryz.prog 14 #[.slice A n c] w fun e w' => e = .returned (.bool false) ∧ w' = w := by
  go_enter Tryz.func14, Tryz.ntmps14
  go_wp2
  go_ret
  exact ⟨rfl, rfl⟩
theorem kterms_nil (A : Option Addr) (c : Nat) (w : World) : Calls Tryz.prog 14 #[.slice A 0 c] w fun e w' => e = .returned (.bool true) ∧ w' = w := by
  go_enter Tryz.func14, Tryz.ntmps14
  go_wp2
  refine wp_loop_rounds 1 ?_
  rw [rounds_succ]
  go_wp2
  go_ret
  exact ⟨rfl, rfl⟩
set_option maxHeartbeats 1600000 in
set_option maxRecDepth 100000 in
theorem kterms_row (b o c : Nat) (l : List (List Tm)) (w : World) (h : Al w b o l) (hn : l.length ≤ 40) : Calls Tryz.prog 14 #[.slice (some ⟨b, o, none⟩) l.length c] w fun e w' => e = .returned (.bool (l.all fla)) ∧ Below w.heap.size w w' := by
  obtain ⟨r, hr⟩ : ∃ r, r = l.all fla := ⟨_, rfl⟩
  have HR := Lib.hid hr
  rw [← hr]
  clear hr
  have HF := Lib.hid h
  clear h
  go_enter Tryz.func14, Tryz.ntmps14
  go_wp2
  go_loopw [3] (fun i W => ∃ k : Nat, k ≤ l.length ∧ i = .int .i64 k ∧ Below w.heap.size w W ∧ Hid (∀ j (hj : j < l.length), j < k → fla l[j] = true)) (fun i _ => l.length - (intOf i).toNat)
  case atStart => exact ⟨0, Nat.zero_le _, rfl, Below.refl _ _, fun j _ h => absurd h (Nat.not_lt_zero _)⟩
  case round =>
    obtain ⟨k, hk, rfl, hW, HP⟩ := hrel
    by_cases hlt : k < l.length
    · obtain ⟨v, c0, hv⟩ := (HF.out.on hW).c k hlt
      have HN : Hid (fla l[k] = false → r = false) := fun e => by
        rw [HR.out, List.all_eq_false]
        exact ⟨l[k], List.getElem_mem hlt, by simp [e]⟩
      have HM : Hid (fla l[k] = true → ∀ j (hj : j < l.length), j < k + 1 → fla l[j] = true) := fun e j hj h => by
        by_cases e2 : j = k
        · subst e2; exact e
        · exact HP.out j hj (by omega)
      have cS := kflat_any v l[k] wr hv
      clear hv
      cases hs : fla l[k] with
      | true =>
        have HG := Lib.hid (HM.out hs)
        rw [hs] at cS
        clear HN HM hs
        go_wp2_with (go_at_call 29; refine cS.mono ?_; rintro x w1 ⟨rfl, bw1⟩)
        exact ⟨⟨k + 1, hlt, by go_num, bon hW bw1, HG⟩, by simp [intOf]; omega⟩
      | false =>
        have HG := Lib.hid (HN.out hs)
        rw [hs] at cS
        clear HN HM hs
        go_wp2_with (go_at_call 29; refine cS.mono ?_; rintro x w1 ⟨rfl, bw1⟩)
        go_ret
        exact ⟨retb HG.out.symm, bon hW bw1⟩
    · have hall : l.all fla = true := by
        rw [List.all_eq_true]
        intro f hf
        obtain ⟨j, hj, rfl⟩ := List.getElem_of_mem hf
        exact HP.out j hj (by omega)
      have HG := Lib.hid (HR.out.trans hall)
      go_wp2
      go_ret
      exact ⟨retb HG.out.symm, hW⟩
theorem kterms_any (v : Value) (l : List (List Tm)) (w : World) (h : As w v l) : Calls Tryz.prog 14 #[v] w fun e w' => e = .returned (.bool (tla l)) ∧ Below w.heap.size w w' := by
  rcases h.is with ⟨rfl, A, c, rfl⟩ | ⟨b, o, c, rfl, hc, hf⟩
  · exact (kterms_nil A c w).mono fun x w' ⟨h1, h2⟩ => ⟨h1, by rw [h2]; exact Below.refl _ _⟩
  · by_cases hn : l.length ≤ 40
    · rw [show tla l = l.all fla from by simp [tla, hn]]
      exact kterms_row b o c l w hf hn
    · rw [show tla l = false from by simp [tla, hn]]
      exact (kterms_long _ _ c w (by omega)).mono fun x w' ⟨h1, h2⟩ => ⟨h1, by rw [h2]; exact Below.refl _ _⟩
end Go.Proofs.YtkaeiofolknoeabGreatDoor
