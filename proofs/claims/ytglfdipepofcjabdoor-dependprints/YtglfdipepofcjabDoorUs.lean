/- The walks of the law's sameTerms, sameAsked at lists that are the same. -/
import Derived.Test.YtglfdipepofcjabDoorUe
namespace Go.Proofs.YtglfdipepofcjabDoor
open Go.RowKit Go.Shelf Go.Sort

set_option maxHeartbeats 800000 in
set_option maxRecDepth 100000 in
theorem lst_nil (A A' : Option Addr) (c c' : Nat) (w : World) : Calls Tryd.prog 60 #[.slice A 0 c, .slice A' 0 c'] w fun e w' => e = .returned (.bool true) ∧ w' = w := by
  go_enter Tryd.func60, Tryd.ntmps60
  go_wp2
  refine wp_loop_rounds 1 ?_
  rw [rounds_succ]
  go_wp2
  go_ret
  exact ⟨rfl, rfl⟩

set_option maxHeartbeats 1600000 in
set_option maxRecDepth 100000 in
theorem lst_row (b o c b' o' c' : Nat) (x : List Tm) (w : World) (h : Tl w b o x) (h' : Tl w b' o' x) (hn : x.length ≤ 1000) : Calls Tryd.prog 60 #[.slice (some ⟨b, o, none⟩) x.length c, .slice (some ⟨b', o', none⟩) x.length c'] w fun e w' => e = .returned (.bool true) ∧ Below w.heap.size w w' := by
  have HF := Lib.hid h
  have HF' := Lib.hid h'
  clear h h'
  go_enter Tryd.func60, Tryd.ntmps60
  go_wp2
  go_loopw [5] (fun v W => ∃ j : Nat, j ≤ x.length ∧ v = .int .i64 j ∧ Below w.heap.size w W) (fun v _ => x.length - (intOf v).toNat)
  case atStart => exact ⟨0, Nat.zero_le _, rfl, Below.refl _ _⟩
  case round =>
    obtain ⟨j, hj, rfl, hb⟩ := hrel
    by_cases hlt2 : j < x.length
    · have hTl := HF.out
      have hTl' := HF'.out
      have e0 := cell_regrown ((hb.cell (p := ⟨b, o + j * 5, none⟩) hTl.lt).trans (hTl.c0 j hlt2))
      have e1 := cell_regrown ((hb.cell (p := ⟨b, o + j * 5 + 1, none⟩) hTl.lt).trans (hTl.c1 j hlt2))
      have e2 := cell_regrown ((hb.cell (p := ⟨b, o + j * 5 + 2, none⟩) hTl.lt).trans (hTl.c2 j hlt2))
      have e3 := cell_regrown ((hb.cell (p := ⟨b, o + j * 5 + 3, none⟩) hTl.lt).trans (hTl.c3 j hlt2))
      have e4 := cell_regrown ((hb.cell (p := ⟨b, o + j * 5 + 4, none⟩) hTl.lt).trans (hTl.c4 j hlt2))
      have f0 := cell_regrown ((hb.cell (p := ⟨b', o' + j * 5, none⟩) hTl'.lt).trans (hTl'.c0 j hlt2))
      have f1 := cell_regrown ((hb.cell (p := ⟨b', o' + j * 5 + 1, none⟩) hTl'.lt).trans (hTl'.c1 j hlt2))
      have f2 := cell_regrown ((hb.cell (p := ⟨b', o' + j * 5 + 2, none⟩) hTl'.lt).trans (hTl'.c2 j hlt2))
      have f3 := cell_regrown ((hb.cell (p := ⟨b', o' + j * 5 + 3, none⟩) hTl'.lt).trans (hTl'.c3 j hlt2))
      have f4 := cell_regrown ((hb.cell (p := ⟨b', o' + j * 5 + 4, none⟩) hTl'.lt).trans (hTl'.c4 j hlt2))
      clear hTl hTl'
      go_wp2_with fail
      refine wp_region_quiet_below (by kernel_rfl) (by kernel_rfl) ?_
      repeat (any_goals (first | go_big_quiet_step (fail) | quiet_step (fail)))
      refine wpQuiet_nil ?_
      intro _ hw'
      obtain ⟨⟨dq, osq⟩, hw''⟩ := hw'
      subst hw''
      have hb2 := rg hb ⟨⟨dq, osq⟩, rfl⟩
      go_wp2_with fail
      exact ⟨⟨j + 1, hlt2, by go_num, hb2⟩, by simp [intOf]; omega⟩
    · go_wp2
      go_ret
      exact ⟨rfl, hb⟩

/-- Terms that are the same are found so. -/
theorem lst_any (v v' : Value) (x : List Tm) (w : World) (h : Ts w v x) (h' : Ts w v' x) (hn : x.length ≤ 1000) : Calls Tryd.prog 60 #[v, v'] w fun e w' => e = .returned (.bool true) ∧ Below w.heap.size w w' := by
  by_cases h0 : x = []
  · subst h0
    obtain ⟨A, c, rfl⟩ := ts_sl h
    obtain ⟨A', c', rfl⟩ := ts_sl h'
    exact (lst_nil A A' c c' w).mono fun e w' ⟨he, hw⟩ => ⟨he, by rw [hw]; exact Below.refl _ _⟩
  · rcases h.is with ⟨e, _⟩ | ⟨b, o, c, rfl, _, hA⟩
    · exact absurd e h0
    · rcases h'.is with ⟨e, _⟩ | ⟨b', o', c', rfl, _, hA'⟩
      · exact absurd e h0
      · exact lst_row b o c b' o' c' x w hA hA' hn

set_option maxHeartbeats 800000 in
set_option maxRecDepth 100000 in
theorem lsa_nil (A A' : Option Addr) (c c' : Nat) (w : World) : Calls Tryd.prog 21 #[.slice A 0 c, .slice A' 0 c'] w fun e w' => e = .returned (.bool true) ∧ w' = w := by
  go_enter Tryd.func21, Tryd.ntmps21
  go_wp2
  refine wp_loop_rounds 1 ?_
  rw [rounds_succ]
  go_wp2
  go_ret
  exact ⟨rfl, rfl⟩

set_option maxHeartbeats 1600000 in
set_option maxRecDepth 100000 in
theorem lsa_row (b o c b' o' c' : Nat) (l : List (List Tm)) (w : World) (h : Al w b o l) (h' : Al w b' o' l) (hn : l.length ≤ 1000) (hx : ∀ x ∈ l, x.length ≤ 1000) : Calls Tryd.prog 21 #[.slice (some ⟨b, o, none⟩) l.length c, .slice (some ⟨b', o', none⟩) l.length c'] w fun e w' => e = .returned (.bool true) ∧ Below w.heap.size w w' := by
  have HF := Lib.hid h
  have HF' := Lib.hid h'
  have HX := Lib.hid hx
  clear h h' hx
  go_enter Tryd.func21, Tryd.ntmps21
  go_wp2
  go_loopw [5] (fun v W => ∃ k : Nat, k ≤ l.length ∧ v = .int .i64 k ∧ Below w.heap.size w W) (fun v _ => l.length - (intOf v).toNat)
  case atStart => exact ⟨0, Nat.zero_le _, rfl, Below.refl _ _⟩
  case round =>
    obtain ⟨k, hk, rfl, hb⟩ := hrel
    by_cases hlt : k < l.length
    · obtain ⟨v, c0, hT⟩ := HF.out.c k hlt
      obtain ⟨v', c0', hT'⟩ := HF'.out.c k hlt
      have hxl := HX.out l[k] (List.getElem_mem hlt)
      have q0 := (hb.cell (p := ⟨b, o + k, none⟩) HF.out.lt).trans c0
      have q0' := (hb.cell (p := ⟨b', o' + k, none⟩) HF'.out.lt).trans c0'
      obtain ⟨x, hx⟩ : ∃ x, x = l[k] := ⟨_, rfl⟩
      rw [← hx] at hT hT' hxl
      obtain ⟨A, d, rfl⟩ := ts_sl hT
      obtain ⟨A', d', rfl⟩ := ts_sl hT'
      have g0 := cell_regrown q0
      have g0' := cell_regrown q0'
      have d1 : ∀ d0 os, Calls Tryd.prog 60 #[.slice A x.length d, .slice A' x.length d'] (grow (redrawn wr d0) os) fun z w'' => z = .returned (.bool true) ∧ ∃ p : Regrown, w'' = grow (redrawn wr p.d) p.os := fun d0 os => Calls.regrown_of (lst_any _ _ x _ (hT.on (bt2 hb (below_regrown wr d0 os))) (hT'.on (bt2 hb (below_regrown wr d0 os))) hxl)
      clear hx hT hT' c0 c0'
      go_wp2_with fail
      refine wp_region_quiet_below (by kernel_rfl) (by kernel_rfl) ?_
      repeat (any_goals (first | go_big_quiet_step (with_reducible exact d1 _ _) | quiet_step (with_reducible exact d1 _ _)))
      refine wpQuiet_nil ?_
      intro _ hw'
      obtain ⟨⟨dq, osq⟩, hw''⟩ := hw'
      subst hw''
      have hb2 := rg hb ⟨⟨dq, osq⟩, rfl⟩
      go_wp2_with fail
      exact ⟨⟨k + 1, hlt, by go_num, hb2⟩, by simp [intOf]; omega⟩
    · go_wp2
      go_ret
      exact ⟨rfl, hb⟩

/-- Lists that are the same are found so. -/
theorem lsa_any (v v' : Value) (l : List (List Tm)) (w : World) (h : As w v l) (h' : As w v' l) (hn : l.length ≤ 1000) (hx : ∀ x ∈ l, x.length ≤ 1000) : Calls Tryd.prog 21 #[v, v'] w fun e w' => e = .returned (.bool true) ∧ Below w.heap.size w w' := by
  by_cases h0 : l = []
  · subst h0
    obtain ⟨A, c, rfl⟩ := as_sl h
    obtain ⟨A', c', rfl⟩ := as_sl h'
    exact (lsa_nil A A' c c' w).mono fun e w' ⟨he, hw⟩ => ⟨he, by rw [hw]; exact Below.refl _ _⟩
  · rcases h.is with ⟨e, _⟩ | ⟨b, o, c, rfl, _, hA⟩
    · exact absurd e h0
    · rcases h'.is with ⟨e, _⟩ | ⟨b', o', c', rfl, _, hA'⟩
      · exact absurd e h0
      · exact lsa_row b o c b' o' c' l w hA hA' hn hx

end Go.Proofs.YtglfdipepofcjabDoor
