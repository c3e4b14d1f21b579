/- The walks of sameFields, the law's and keep's. -/
import Derived.Test.YtmlmdncepgcimaaGreatDoorZaw
import Derived.ChangeSame
namespace Go.Proofs.YtmlmdncepgcimaaGreatDoor.Stz
open Go.RowKit Go.Sort

theorem sameL_nil (A A' : Option Addr) (c c' : Nat) (w : World) : Calls Tryz.prog 13 #[.slice A 0 c, .slice A' 0 c'] w fun x w' => x = .returned (.bool true) ∧ w' = w := by
  go_enter Tryz.func13, Tryz.ntmps13
  go_wp2
  refine wp_loop_rounds 1 ?_
  rw [rounds_succ]
  go_wp2
  go_ret
  exact ⟨rfl, rfl⟩

set_option maxHeartbeats 1600000 in
set_option maxRecDepth 100000 in
theorem sameL_row (b o c b' o' c' : Nat) (l : List Sm.F) (w : World) (h : Fl w b o l) (h' : Fl w b' o' l) (hn : l.length ≤ 1000000) : Calls Tryz.prog 13 #[.slice (some ⟨b, o, none⟩) l.length c, .slice (some ⟨b', o', none⟩) l.length c'] w fun x w' => x = .returned (.bool true) ∧ Below w.heap.size w w' := by
  have HF := Lib.hid h
  have HG := Lib.hid h'
  clear h h'
  go_enter Tryz.func13, Tryz.ntmps13
  go_wp2
  go_loopw [5] (fun i W => ∃ k : Nat, k ≤ l.length ∧ i = .int .i64 k ∧ Below w.heap.size w W) (fun i _ => l.length - (intOf i).toNat)
  case atStart => exact ⟨0, Nat.zero_le _, rfl, Below.refl _ _⟩
  case round =>
    obtain ⟨k, hk, rfl, hW⟩ := hrel
    by_cases hlt : k < l.length
    · have hD := hW.drew
      have c0 := (HF.out.on hD).c0 k hlt
      have c1 := (HF.out.on hD).c1 k hlt
      have d0 := (HG.out.on hD).c0 k hlt
      have d1 := (HG.out.on hD).c1 k hlt
      go_wp2
      go_region
      all_goals go_wp2
      all_goals exact ⟨⟨k + 1, hlt, by go_num, hD⟩, by simp [intOf]; omega⟩
    · go_wp2
      go_ret
      exact ⟨rfl, hW⟩
theorem sameL_any (v v' : Value) (l : List Sm.F) (w : World) (h : Sl w v l) (h' : Sl w v' l) (hn : l.length ≤ 1000000) : Calls Tryz.prog 13 #[v, v'] w fun x w' => x = .returned (.bool true) ∧ Below w.heap.size w w' := by
  have nil := fun A A' c c' => (sameL_nil A A' c c' w).mono fun x w' ⟨h1, h2⟩ => show x = Ending.returned (.bool true) ∧ Below w.heap.size w w' from ⟨h1, by rw [h2]; exact Below.refl _ _⟩
  rcases h.is with ⟨rfl, A, c, rfl⟩ | ⟨b, o, c, rfl, _, hf⟩
  · rcases h'.is with ⟨_, A', c', rfl⟩ | ⟨b', o', c', rfl, _, _⟩
    · exact nil A A' c c'
    · exact nil A _ c c'
  · rcases h'.is with ⟨rfl, A', c', rfl⟩ | ⟨b', o', c', rfl, _, hf'⟩
    · exact nil _ A' c c'
    · exact sameL_row b o c b' o' c' l w hf hf' hn

theorem sameK_nil (A A' : Option Addr) (c c' : Nat) (w : World) : Calls Tryz.prog 25 #[.slice A 0 c, .slice A' 0 c'] w fun x w' => x = .returned (.bool true) ∧ w' = w := by
  go_enter Tryz.func25, Tryz.ntmps25
  go_wp2
  refine wp_loop_rounds 1 ?_
  rw [rounds_succ]
  go_wp2
  go_ret
  exact ⟨rfl, rfl⟩

set_option maxHeartbeats 1600000 in
set_option maxRecDepth 100000 in
theorem sameK_row (b o c b' o' c' : Nat) (l : List Sm.F) (w : World) (h : Fl w b o l) (h' : Fl w b' o' l) (hn : l.length ≤ 1000000) : Calls Tryz.prog 25 #[.slice (some ⟨b, o, none⟩) l.length c, .slice (some ⟨b', o', none⟩) l.length c'] w fun x w' => x = .returned (.bool true) ∧ Below w.heap.size w w' := by
  have HF := Lib.hid h
  have HG := Lib.hid h'
  clear h h'
  go_enter Tryz.func25, Tryz.ntmps25
  go_wp2
  go_loopw [5] (fun i W => ∃ k : Nat, k ≤ l.length ∧ i = .int .i64 k ∧ Below w.heap.size w W) (fun i _ => l.length - (intOf i).toNat)
  case atStart => exact ⟨0, Nat.zero_le _, rfl, Below.refl _ _⟩
  case round =>
    obtain ⟨k, hk, rfl, hW⟩ := hrel
    by_cases hlt : k < l.length
    · have hD := hW.drew
      have c0 := (HF.out.on hD).c0 k hlt
      have c1 := (HF.out.on hD).c1 k hlt
      have d0 := (HG.out.on hD).c0 k hlt
      have d1 := (HG.out.on hD).c1 k hlt
      go_wp2
      go_region
      all_goals go_wp2
      all_goals exact ⟨⟨k + 1, hlt, by go_num, hD⟩, by simp [intOf]; omega⟩
    · go_wp2
      go_ret
      exact ⟨rfl, hW⟩
theorem sameK_any (v v' : Value) (l : List Sm.F) (w : World) (h : Sl w v l) (h' : Sl w v' l) (hn : l.length ≤ 1000000) : Calls Tryz.prog 25 #[v, v'] w fun x w' => x = .returned (.bool true) ∧ Below w.heap.size w w' := by
  have nil := fun A A' c c' => (sameK_nil A A' c c' w).mono fun x w' ⟨h1, h2⟩ => show x = Ending.returned (.bool true) ∧ Below w.heap.size w w' from ⟨h1, by rw [h2]; exact Below.refl _ _⟩
  rcases h.is with ⟨rfl, A, c, rfl⟩ | ⟨b, o, c, rfl, _, hf⟩
  · rcases h'.is with ⟨_, A', c', rfl⟩ | ⟨b', o', c', rfl, _, _⟩
    · exact nil A A' c c'
    · exact nil A _ c c'
  · rcases h'.is with ⟨rfl, A', c', rfl⟩ | ⟨b', o', c', rfl, _, hf'⟩
    · exact nil _ A' c c'
    · exact sameK_row b o c b' o' c' l w hf hf' hn
end Go.Proofs.YtmlmdncepgcimaaGreatDoor.Stz
