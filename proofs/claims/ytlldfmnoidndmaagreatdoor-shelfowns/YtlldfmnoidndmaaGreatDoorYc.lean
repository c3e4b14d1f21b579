/- The walks of rightPaths, paths. -/
import Derived.Test.YtlldfmnoidndmaaGreatDoorYa
import Derived.Test.YtlldfmnoidndmaaGreatDoorYb
namespace Go.Proofs.YtlldfmnoidndmaaGreatDoor
open Go.RowKit Go.Shelf Go.Sort

/-- The i-th is a path that stands first there. -/
def pki (l : List (List UInt8)) (i : Nat) : Bool := pth (l.getD i []) && !((l.take i).contains (l.getD i []))
def pths (l : List (List UInt8)) : Bool := decide (l.length ≤ 20) && (List.range l.length).all (pki l)
theorem pki_at {l : List (List UInt8)} {i : Nat} (h : i < l.length) : pki l i = (pth l[i] && !((l.take i).contains l[i])) := by
  unfold pki; rw [show l.getD i [] = l[i] from by simp [List.getD, h]]
theorem pths_no {l : List (List UInt8)} {i : Nat} (h : i < l.length) (hn : pki l i = false) : pths l = false := by
  unfold pths
  rw [show (List.range l.length).all (pki l) = false from List.all_eq_false.2 ⟨i, List.mem_range.2 h, by rw [hn]; simp⟩]; simp
theorem pths_yes {l : List (List UInt8)} (h : ∀ i, i < l.length → pki l i = true) : pths l = decide (l.length ≤ 20) := by
  unfold pths
  rw [show (List.range l.length).all (pki l) = true from List.all_eq_true.2 (fun i hi => h i (List.mem_range.1 hi))]; simp
theorem ss_sl {W : World} {v : Value} {l : List (List UInt8)} (h : Ss W v l) : ∃ A c, v = .slice A l.length c := by
  rcases h.is with ⟨rfl, A, c, rfl⟩ | ⟨b, o, c, rfl, _⟩
  · exact ⟨A, c, rfl⟩
  · exact ⟨_, c, rfl⟩
theorem con_eq (l : List (List UInt8)) (i : Nat) (s : List UInt8) : Lib.containsS ((l.map fun x => ByteArray.mk x.toArray).take i) ⟨s.toArray⟩ = (l.take i).contains s := by
  rw [Bool.eq_iff_iff, Lib.containsS_iff, List.contains_iff_mem, ← List.map_take, List.mem_map]
  constructor
  · rintro ⟨x, hx, e⟩
    have : x.toArray = s.toArray := by simpa using congrArg ByteArray.data e
    have h2 : x = s := by simpa using congrArg Array.toList this
    rw [← h2]; exact hx
  · intro h; exact ⟨s, h, rfl⟩

set_option maxHeartbeats 1600000 in
set_option maxRecDepth 100000 in
theorem rpaths_row (b o c : Nat) (l : List (List UInt8)) (w : World) (h : Sr w b o l) (hc : l.length ≤ c) (hn : l.length ≤ 20) (hM : MaxN w) : Calls Tryz.prog 131 #[.slice (some ⟨b, o, none⟩) l.length c] w fun e w' => e = .returned (.bool (pths l)) ∧ w' = w := by
  obtain ⟨r, hr⟩ : ∃ r, r = pths l := ⟨_, rfl⟩
  rw [← hr]
  have HR := Lib.hid hr
  have HF := Lib.hid h
  have cP := fun s => path_any s w hM
  have cC := fun i (hi : i ≤ l.length) (s : List UInt8) => Tryz.slices_Contains_string b o i c (l.map fun x => ByteArray.mk x.toArray) ⟨s.toArray⟩ w (by simpa using hi) (by omega) (fun j hj => by
    have hj' : j < l.length := by simpa using hj
    rw [h.c j hj', show ((l.map fun x => ByteArray.mk x.toArray).getD j ByteArray.empty) = ByteArray.mk l[j].toArray from by simp [List.getD, hj']])
  clear h hr hM
  go_enter Tryz.func131, Tryz.ntmps131
  go_wp2_with fail
  go_loop [10] (fun i => ∃ k : Nat, k ≤ l.length ∧ i = .int .i64 k ∧ Hid (∀ j, j < l.length → j < k → pki l j = true)) (fun i => l.length - (intOf i).toNat)
  case atStart => exact ⟨0, Nat.zero_le _, rfl, fun j _ h => absurd h (Nat.not_lt_zero _)⟩
  case round =>
    obtain ⟨k, hk, rfl, HP⟩ := hrel
    by_cases hlt : k < l.length
    · have c0 := HF.out.c k hlt
      have hpk := pki_at hlt
      have cC' := cC k hk l[k]
      rw [con_eq] at cC'
      have cP' := cP l[k]
      have HM : Hid (pki l k = true → ∀ j, j < l.length → j < k + 1 → pki l j = true) := fun hc j hj h => by
        by_cases e : j = k
        · subst e; exact hc
        · exact HP.out j hj (by omega)
      have HN : Hid (pki l k = false → r = false) := fun h => by rw [HR.out]; exact pths_no hlt h
      have HPK := Lib.hid hpk
      clear cC cP HP hpk
      generalize l[k] = s at c0 cC' cP' HPK
      cases hy : pth s with
      | false =>
        have hr := HN.out (by rw [HPK.out, hy]; rfl)
        subst hr
        rw [hy] at cP'
        go_wp2_with (go_at_call 30; refine cP'.mono ?_; rintro e w' ⟨rfl, rfl⟩)
        go_ret
        exact ⟨rfl, rfl⟩
      | true =>
        rw [hy] at cP' HPK
        generalize (l.take k).contains s = y at cC' HPK
        cases y with
        | false =>
          have HG := Lib.hid (HM.out HPK.out)
          go_wp2_with (first | (go_at_call 30; refine cP'.mono ?_; rintro e w' ⟨rfl, rfl⟩) | (go_at_call 94; refine cC'.mono ?_; rintro e w' ⟨rfl, rfl⟩))
          exact ⟨⟨k + 1, hlt, by go_num, HG⟩, by simp [intOf]; omega⟩
        | true =>
          have hr := HN.out HPK.out
          subst hr
          go_wp2_with (first | (go_at_call 30; refine cP'.mono ?_; rintro e w' ⟨rfl, rfl⟩) | (go_at_call 94; refine cC'.mono ?_; rintro e w' ⟨rfl, rfl⟩))
          go_ret
          exact ⟨rfl, rfl⟩
    · have hr : r = true := by rw [HR.out, pths_yes (fun i hi => HP.out i hi (by omega)), decide_eq_true hn]
      subst hr
      go_wp2_with fail
      go_ret
      exact ⟨rfl, rfl⟩
theorem rpaths_nil (A : Option Addr) (c : Nat) (w : World) : Calls Tryz.prog 131 #[.slice A 0 c] w fun e w' => e = .returned (.bool true) ∧ w' = w := by
  go_enter Tryz.func131, Tryz.ntmps131
  go_wp2
  refine wp_loop_rounds 1 ?_
  rw [rounds_succ]
  go_wp2
  go_ret
  exact ⟨rfl, rfl⟩
theorem rpaths_long (A : Option Addr) (n c : Nat) (w : World) (h : 20 < n) : Calls Tryz.prog 131 #[.slice A n c] w fun e w' => e = .returned (.bool false) ∧ w' = w := by
  go_enter Tryz.func131, Tryz.ntmps131
  go_wp2
  go_ret
  exact ⟨rfl, rfl⟩
theorem rpaths_any (v : Value) (l : List (List UInt8)) (w : World) (h : Ss w v l) (hM : MaxN w) : Calls Tryz.prog 131 #[v] w fun e w' => e = .returned (.bool (pths l)) ∧ w' = w := by
  rcases h.is with ⟨rfl, A, c, rfl⟩ | ⟨b, o, c, rfl, hc, hf⟩
  · exact rpaths_nil A c w
  · by_cases hn : l.length ≤ 20
    · exact rpaths_row b o c l w hf hc hn hM
    · rw [show pths l = false from by unfold pths; rw [decide_eq_false hn]; rfl]
      exact rpaths_long _ _ c w (by omega)

end Go.Proofs.YtlldfmnoidndmaaGreatDoor
