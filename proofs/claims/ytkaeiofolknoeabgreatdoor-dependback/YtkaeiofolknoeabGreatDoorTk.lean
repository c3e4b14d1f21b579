/- The walks of keep's read and asked: a fact. -/
import Derived.Test.YtkaeiofolknoeabGreatDoorTg
import Derived.Test.YtkaeiofolknoeabGreatDoorDg
namespace Go.Proofs.YtkaeiofolknoeabGreatDoor
open Go.RowKit Go.Shelf Go.Sort

theorem pv_1 : Vm.pv [49] = some (0, [49], []) := by rfl
set_option maxHeartbeats 800000 in
set_option maxRecDepth 100000 in
theorem kread_1 (w : World) (hT : Tab w) : Calls Tryz.prog 30 #[.string ⟨#[49]⟩] w fun x w' => x = .returned (.agg #[.int .i64 0, .string ⟨#[49]⟩, .string ⟨#[]⟩]) ∧ Below w.heap.size w w' := by
  have cP := fun W (hW : Below w.heap.size w W) => parse_any [49] W (tab_on hT hW)
  rw [pv_1] at cP
  unfold pvVal at cP
  clear hT
  go_enter Tryz.func30, Tryz.ntmps30
  go_wp2_with fail
  refine (cP _ (bA1 _ _)).mono ?_
  rintro e w1 ⟨rfl, hb1⟩
  obtain ⟨k0, k1, k2, kf, kg⟩ := kept3 (g := w.heap.size) (x0 := .int .i64 0) (x1 := .string ⟨#[]⟩) (x2 := .string ⟨#[]⟩) (by simp) (by simp) (by simp) (by simp) (by simp) hb1
  have hW1 : Below w.heap.size w w1 := (bA1 _ _).trans (hb1.mono (by simp))
  go_wp2
  exact bodyPost_ret (v := .agg #[.int .i64 0, .string ⟨#[49]⟩, .string ⟨#[]⟩]) (by obtain ⟨q0, q1, q2⟩ := res3 (.int .i64 0) (.string ⟨#[49]⟩) (.string ⟨#[]⟩) (.cells #[.int .i64 0, .string ⟨#[49]⟩, .string ⟨#[]⟩] 48) k0 k1 k2; simp [results, Tryz.results30, go_sem, q0, q1, q2]) rfl ⟨rfl, (((hW1.setCell (Nat.le_refl _) _).setCell (Nat.le_refl _) _).setCell (Nat.le_refl _) _).alloc (by simpa using hW1.size) _⟩

def tcc : Tm := ⟨[99, 99], 0, 0, [], []⟩
def obb : Ofr := ⟨[98, 98], 0, [49], [], [tcc]⟩
def lfact : List (List Tm) := [[⟨[97, 97], 4, 0, [49, 46, 48], []⟩, ⟨[98, 98], 0, 0, [], []⟩], [⟨[99, 99], 0, 0, [], []⟩]]
theorem met_fact : met [obb] lfact = (0, true) := by decide +kernel
theorem mt_fact : mt [98, 98] 0 [49] [] [tcc] ⟨[99, 99], 3, 0, [49], []⟩ = false := by decide +kernel
theorem oh_bb : ∀ o ∈ [obb], Oh o := by
  intro o ho
  obtain rfl : o = obb := by simpa using ho
  refine ⟨fun p hp => ?_, by decide, by decide, by decide⟩
  obtain rfl : p = tcc := by simpa [obb] using hp
  exact ⟨by decide, by decide⟩
theorem sh_fact : ∀ x ∈ lfact, x.length ≤ 40 ∧ ∀ t ∈ x, Sh t := by
  intro x hx
  simp only [lfact, List.mem_cons, List.not_mem_nil, or_false] at hx
  rcases hx with rfl | rfl
  · refine ⟨by decide, fun t ht => ?_⟩
    simp only [List.mem_cons, List.not_mem_nil, or_false] at ht
    rcases ht with rfl | rfl <;> exact ⟨by decide, by decide⟩
  · refine ⟨by decide, fun t ht => ?_⟩
    simp only [List.mem_cons, List.not_mem_nil, or_false] at ht
    subst ht
    exact ⟨by decide, by decide⟩
theorem ts_cc (w : World) : Ts (w.alloc (.cells #[.string ⟨#[99, 99]⟩, .int .i64 0, .int .i64 0, .string ⟨#[]⟩, .string ⟨#[]⟩] 50)) (.slice (some ⟨w.heap.size, 0, none⟩) 1 1) [tcc] := by
  refine ⟨.inr ⟨w.heap.size, 0, 1, rfl, Nat.le_refl _, by simp, ?_, ?_, ?_, ?_, ?_⟩⟩
  all_goals
    intro i hi
    obtain rfl : i = 0 := by simp at hi; omega
    simp [tcc]
theorem os_bb (W w : World) (h : Ts W (.slice (some ⟨w.heap.size, 0, none⟩) 1 1) [tcc]) : Os' (W.alloc (.cells #[.string ⟨#[98, 98]⟩, .int .i64 0, .string ⟨#[49]⟩, .string ⟨#[]⟩, .slice (some ⟨w.heap.size, 0, none⟩) 1 1] 66)) (.slice (some ⟨W.heap.size, 0, none⟩) 1 1) [obb] := by
  refine ⟨.inr ⟨W.heap.size, 0, 1, rfl, by simp, ?_⟩⟩
  intro i hi
  obtain rfl : i = 0 := by simp at hi; omega
  exact ⟨.slice (some ⟨w.heap.size, 0, none⟩) 1 1, by simp [obb], by simp [obb], by simp [obb], by simp [obb], by simp, h.on (bA1 _ _)⟩

set_option maxHeartbeats 1600000 in
set_option maxRecDepth 100000 in
theorem asked_any (w : World) (hG : Sg w) (hT : Tab w) : Calls Tryz.prog 15 #[] w fun x w' => x = .returned (.bool true) ∧ Below w.heap.size w w' := by
  have cT := rterms_any [97, 97, 32, 40, 62, 61, 32, 49, 46, 48, 41, 32, 124, 32, 98, 98, 44, 32, 99, 99] w (by decide) hG hT
  rw [rdA_fact] at cT
  have cR := fun W (hW : Below w.heap.size w W) => kread_1 W (tab_on hT hW)
  clear hG hT
  go_enter Tryz.func15, Tryz.ntmps15
  go_wp2_with fail
  refine cT.mono ?_
  rintro e w1 ⟨⟨v, rfl, hA⟩, b1⟩
  have HA := Lib.hid hA
  rcases hA.is with ⟨h, _⟩ | ⟨b, o, c, rfl, _, hAl⟩
  · cases h
  obtain ⟨v0, q0, T0⟩ := hAl.c 0 (by decide)
  rcases T0.is with ⟨h, _⟩ | ⟨b0, o0, c0, hv0, _, hTl⟩
  · cases h
  have q1 := hTl.c1 0 (by decide)
  simp only [List.length_cons, List.length_nil, Nat.zero_add, Nat.reduceAdd, List.getElem_cons_zero] at hv0
  rw [hv0] at q0
  simp only [Nat.zero_mul, Nat.add_zero, List.getElem_cons_zero] at q0 q1
  simp only [List.length_cons, List.length_nil, Nat.zero_add, Nat.reduceAdd]
  clear cT hA hAl T0 hTl hv0
  go_wp2_with fail
  refine (cR _ b1).mono ?_
  rintro x w2 ⟨rfl, b2⟩
  have HA2 := Lib.hid (HA.out.on b2)
  have hb2 := bt2 b1 b2
  clear q0 q1 HA b2
  have bA := bt2 (bt2 (bA1 w2 (.cells #[.string ⟨#[99, 99]⟩, .int .i64 0, .int .i64 0, .string ⟨#[]⟩, .string ⟨#[]⟩] 50)) (bA1 _ (.cells #[.string ⟨#[98, 98]⟩, .int .i64 0, .string ⟨#[49]⟩, .string ⟨#[]⟩, .slice (some ⟨w2.heap.size, 0, none⟩) 1 1] 66))) (bA1 _ (.cells #[.string ⟨#[98, 98]⟩, .int .i64 0, .string ⟨#[49]⟩, .string ⟨#[]⟩, .slice (some ⟨w2.heap.size, 0, none⟩) 1 1] 66))
  have tB := (ts_cc w2).on (bA1 _ (.cells #[.string ⟨#[98, 98]⟩, .int .i64 0, .string ⟨#[49]⟩, .string ⟨#[]⟩, .slice (some ⟨w2.heap.size, 0, none⟩) 1 1] 66))
  have oB := os_bb _ w2 tB
  have tC := tB.on (bA1 _ (.cells #[.string ⟨#[98, 98]⟩, .int .i64 0, .string ⟨#[49]⟩, .string ⟨#[]⟩, .slice (some ⟨w2.heap.size, 0, none⟩) 1 1] 66))
  have aB := HA2.out.on bA
  have hbB := bt2 hb2 bA
  simp only [World.size_alloc] at oB
  have cM := met_any _ _ lfact [obb] _ aB (by decide) oB oh_bb (by decide) sh_fact
  rw [met_fact] at cM
  go_wp2_with fail
  refine cM.mono ?_
  rintro x w3 ⟨rfl, b3⟩
  have tK := ((K5.new (w2.alloc (.cells #[.string ⟨#[99, 99]⟩, .int .i64 0, .int .i64 0, .string ⟨#[]⟩, .string ⟨#[]⟩] 50)) (.string ⟨#[98, 98]⟩) (.int .i64 0) (.string ⟨#[49]⟩) (.string ⟨#[]⟩) (.slice (some ⟨w2.heap.size, 0, none⟩) 1 1) 66).on (bA1 _ (.cells #[.string ⟨#[98, 98]⟩, .int .i64 0, .string ⟨#[49]⟩, .string ⟨#[]⟩, .slice (some ⟨w2.heap.size, 0, none⟩) 1 1] 66))).on b3
  rw [World.size_alloc] at tK
  have hb3 := bt2 hbB b3
  have tD := tC.on b3
  obtain ⟨k0, k1, k2, k3, k4, kf, kl⟩ := tK
  clear cM b3 hbB aB tC oB tB bA HA2
  go_wp2_with fail
  have g0 := cell_regrown k0
  have g1 := cell_regrown k1
  have g2 := cell_regrown k2
  have g3 := cell_regrown k3
  have g4 := cell_regrown k4
  have cR2 : ∀ d os, Calls Tryz.prog 30 #[.string ⟨#[49]⟩] (grow (redrawn w3 d) os) fun x w'' => x = .returned (.agg #[.int .i64 0, .string ⟨#[49]⟩, .string ⟨#[]⟩]) ∧ ∃ p : Regrown, w'' = grow (redrawn w3 p.d) p.os := fun d os => Calls.regrown_of (cR _ (rg hb3 ⟨⟨d, os⟩, rfl⟩))
  have cM2 : ∀ d os, Calls Tryz.prog 32 #[.agg #[.string ⟨#[98, 98]⟩, .int .i64 0, .string ⟨#[49]⟩, .string ⟨#[]⟩, .slice (some ⟨w2.heap.size, 0, none⟩) 1 1], .agg #[.string ⟨#[99, 99]⟩, .int .i64 3, .int .i64 0, .string ⟨#[49]⟩, .string ⟨#[]⟩]] (grow (redrawn w3 d) os) fun x w'' => x = .returned (.bool false) ∧ ∃ p : Regrown, w'' = grow (redrawn w3 p.d) p.os := fun d os => by
    have := meets_any [98, 98] 0 [49] [] (.slice (some ⟨w2.heap.size, 0, none⟩) 1 1) [tcc] ⟨[99, 99], 3, 0, [49], []⟩ (grow (redrawn w3 d) os) (tD.on (rg (Below.refl _ _) ⟨⟨d, os⟩, rfl⟩)) (fun p hp => (oh_bb obb (by simp)).hP p hp) (by decide) ⟨by decide, by decide⟩ (by decide) (by decide)
    rw [mt_fact] at this
    exact Calls.regrown_of this
  refine wp_region_quiet_below (by kernel_rfl) (by kernel_rfl) ?_
  repeat (any_goals (first | go_big_quiet_step ((first | with_reducible exact cR2 _ _ | with_reducible exact cM2 _ _)) | quiet_step ((first | with_reducible exact cR2 _ _ | with_reducible exact cM2 _ _))))
  refine wpQuiet_nil ?_
  intro _ hw'
  obtain ⟨⟨dq, osq⟩, hw''⟩ := hw'
  subst hw''
  go_wp2
  go_ret
  exact ⟨rfl, rg hb3 ⟨⟨dq, osq⟩, rfl⟩⟩

end Go.Proofs.YtkaeiofolknoeabGreatDoor
