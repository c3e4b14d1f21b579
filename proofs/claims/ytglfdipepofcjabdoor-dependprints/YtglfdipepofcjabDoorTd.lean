/- The walks of depend's parseVersion, parseTerm. -/
import Derived.Test.YtglfdipepofcjabDoorTc
namespace Go.Proofs.YtglfdipepofcjabDoor
open Go.RowKit Go.Shelf Go.Sort

/-- What parseVersion answers. -/
def pvB : Option (Int × List UInt8 × List UInt8) → Value
  | some (e, u, r) => .tuple #[.agg #[.int .i64 e, .string ⟨u.toArray⟩, .string ⟨r.toArray⟩], .bool true]
  | none => .tuple #[.agg #[.int .i64 0, .string ⟨#[]⟩, .string ⟨#[]⟩], .bool false]
theorem rdV_none {s : List UInt8} (h : Vm.pv s = none) : rdV s = none := by unfold rdV; rw [h]
theorem rdV_yes {s : List UInt8} {e : Int} {u r : List UInt8} (h : Vm.pv s = some (e, u, r)) (h2 : Vm.pt e u r = s) : rdV s = some (e, u, r) := by unfold rdV; rw [h]; simp [h2]
theorem rdV_no {s : List UInt8} {e : Int} {u r : List UInt8} (h : Vm.pv s = some (e, u, r)) (h2 : ¬ Vm.pt e u r = s) : rdV s = none := by unfold rdV; rw [h]; simp [h2]
theorem pv_rt {s : List UInt8} {e : Int} {u r : List UInt8} (h : Vm.pv s = some (e, u, r)) : Vm.rt e u r = true := by
  unfold Vm.pv at h
  split at h
  · cases h
  · split at h
    · cases h
    · split at h
      · split at h
        · cases h; assumption
        · cases h
      · split at h
        · cases h
        · split at h
          · cases h; assumption
          · cases h
theorem retv {o p : Option (Int × List UInt8 × List UInt8)} (h : o = p) : Ending.returned (pvB o) = .returned (pvB p) := by rw [h]
theorem bt2 {w w1 w2 : World} (h : Below w.heap.size w w1) (k : Below w1.heap.size w1 w2) : Below w.heap.size w w2 := h.trans (k.mono h.size)
abbrev Tab (w : World) : Prop := Lib.TabIs Tryd.prog w "internal/strconv.uint64pow10" .u64 Lib.pow10Tab
theorem tab_on {w w' : World} (h : Tab w) (k : Below w.heap.size w w') : Tab w' := Lib.tabBelow_of_tabIs h w' k

theorem bA1 (w : World) (A : Obj) : Below w.heap.size w (w.alloc A) := (Below.refl _ _).alloc (Nat.le_refl _) _
theorem res3 {W : World} {g : Nat} {x0 x1 x2 : Value} (y0 y1 y2 : Value) (o : Obj) (k0 : W.cell? ⟨g, 0, none⟩ = some x0) (k1 : W.cell? ⟨g, 1, none⟩ = some x1) (k2 : W.cell? ⟨g, 2, none⟩ = some x2) :
    ((((W.setCell ⟨g, 0, none⟩ y0).setCell ⟨g, 1, none⟩ y1).setCell ⟨g, 2, none⟩ y2).alloc o).cell? ⟨g, 0, none⟩ = some y0 ∧ ((((W.setCell ⟨g, 0, none⟩ y0).setCell ⟨g, 1, none⟩ y1).setCell ⟨g, 2, none⟩ y2).alloc o).cell? ⟨g, 1, none⟩ = some y1 ∧ ((((W.setCell ⟨g, 0, none⟩ y0).setCell ⟨g, 1, none⟩ y1).setCell ⟨g, 2, none⟩ y2).alloc o).cell? ⟨g, 2, none⟩ = some y2 :=
  ⟨((bA1 _ o).cell (p := ⟨g, 0, none⟩) (by simpa using block_lt_of_cell k0)).trans (by simp [go_sem, k0]), ((bA1 _ o).cell (p := ⟨g, 1, none⟩) (by simpa using block_lt_of_cell k0)).trans (by simp [go_sem, k1]), ((bA1 _ o).cell (p := ⟨g, 2, none⟩) (by simpa using block_lt_of_cell k0)).trans (by simp [go_sem, k2])⟩
set_option maxHeartbeats 800000 in
set_option maxRecDepth 100000 in
theorem pver_none (s : List UInt8) (w : World) (h : Vm.pv s = none) (htab : Tab w) : Calls Tryd.prog 142 #[.string ⟨s.toArray⟩] w fun x w' => x = .returned (pvB (rdV s)) ∧ Below w.heap.size w w' := by
  have cP := fun W (hW : Below w.heap.size w W) => parse_any s W (tab_on htab hW)
  rw [h] at cP
  rw [rdV_none h]
  unfold pvVal at cP
  unfold pvB
  clear htab h
  go_enter Tryd.func142, Tryd.ntmps142
  go_wp2_with fail
  refine (cP _ (bA1 _ _)).mono ?_
  rintro e w1 ⟨rfl, hb1⟩
  obtain ⟨k0, k1, k2, kf, kg⟩ := kept3 (g := w.heap.size) (x0 := .int .i64 0) (x1 := .string ⟨#[]⟩) (x2 := .string ⟨#[]⟩) (by simp) (by simp) (by simp) (by simp) (by simp) hb1
  have hW1 : Below w.heap.size w w1 := (bA1 _ _).trans (hb1.mono (by simp))
  go_wp2
  exact bodyPost_ret (v := .tuple #[.agg #[.int .i64 0, .string ⟨#[]⟩, .string ⟨#[]⟩], .bool false]) (by obtain ⟨q0, q1, q2⟩ := res3 (.int .i64 0) (.string ⟨#[]⟩) (.string ⟨#[]⟩) (.cells #[.int .i64 0, .string ⟨#[]⟩, .string ⟨#[]⟩] 54) k0 k1 k2; simp [results, Tryd.results142, go_sem, q0, q1, q2]) rfl ⟨rfl, (((hW1.setCell (Nat.le_refl _) _).setCell (Nat.le_refl _) _).setCell (Nat.le_refl _) _).alloc (by simpa using hW1.size) _⟩

set_option maxHeartbeats 800000 in
set_option maxRecDepth 100000 in
theorem pver_some (s : List UInt8) (e : Int) (u r : List UInt8) (w : World) (h : Vm.pv s = some (e, u, r)) (htab : Tab w) : Calls Tryd.prog 142 #[.string ⟨s.toArray⟩] w fun x w' => x = .returned (pvB (rdV s)) ∧ Below w.heap.size w w' := by
  have cP := fun W (hW : Below w.heap.size w W) => parse_any s W (tab_on htab hW)
  rw [h] at cP
  unfold pvVal at cP
  obtain ⟨b0, b1, b2, b3, b4⟩ := Vm.rt_parts (pv_rt h)
  obtain ⟨t, ht⟩ : ∃ t, t = Vm.pt e u r := ⟨_, rfl⟩
  have cQ : ∀ W, Below w.heap.size w W → Calls Tryd.prog 93 #[.agg #[.int .i64 e, .string ⟨u.toArray⟩, .string ⟨r.toArray⟩]] W fun x w' => x = .returned (.string ⟨t.toArray⟩) ∧ Below W.heap.size W w' := fun W hW => by rw [ht]; exact print_any e u r W (by omega) (by omega) (by omega) (by omega) (tab_on htab hW)
  clear htab b0 b1 b2 b3 b4
  have HE : Hid (if t = s then rdV s = some (e, u, r) else rdV s = none) := by
    show (if t = s then rdV s = some (e, u, r) else rdV s = none)
    by_cases h2 : t = s
    · rw [if_pos h2]; exact rdV_yes h (by rw [← ht]; exact h2)
    · rw [if_neg h2]; exact rdV_no h (by rw [← ht]; exact h2)
  obtain ⟨p, hp⟩ : ∃ p, p = rdV s := ⟨_, rfl⟩
  rw [← hp]
  have HP := Lib.hid hp
  clear ht h hp
  go_enter Tryd.func142, Tryd.ntmps142
  go_wp2_with fail
  refine (cP _ (bA1 _ _)).mono ?_
  rintro x w1 ⟨rfl, hb1⟩
  obtain ⟨k0, k1, k2, kf, kg⟩ := kept3 (g := w.heap.size) (x0 := .int .i64 0) (x1 := .string ⟨#[]⟩) (x2 := .string ⟨#[]⟩) (by simp) (by simp) (by simp) (by simp) (by simp) hb1
  have hW1 : Below w.heap.size w w1 := (bA1 _ _).trans (hb1.mono (by simp))
  go_wp2_with fail
  refine (cQ _ (hW1.alloc hW1.size _)).mono ?_
  rintro x w2 ⟨rfl, hb2⟩
  have hX : Below w1.heap.size w1 w2 := (bA1 _ _).trans (hb2.mono (by simp))
  obtain ⟨r0, r1, r2, rf, rg⟩ := kept3 k0 k1 k2 kf kg hX
  obtain ⟨v0, v1, v2, vf, vg⟩ := kept3 (g := w1.heap.size) (x0 := .int .i64 e) (x1 := .string ⟨u.toArray⟩) (x2 := .string ⟨r.toArray⟩) (by simp) (by simp) (by simp) (by simp) (by simp) hb2
  have hW2 := bt2 hW1 hX
  clear k0 k1 k2 kf kg hb1 hb2 cP cQ hX
  by_cases h2 : t = s
  · have HR : Hid (p = some (e, u, r)) := HP.out.trans (by have := HE.out; rw [if_pos h2] at this; exact this)
    subst h2
    clear HE HP
    go_wp2
    exact bodyPost_ret (v := .tuple #[.agg #[.int .i64 e, .string ⟨u.toArray⟩, .string ⟨r.toArray⟩], .bool true]) (by simp [results, Tryd.results142, go_sem, r0, r1, r2]) rfl ⟨by rw [HR.out]; rfl, ((hW2.setCell (Nat.le_refl _) _).setCell (Nat.le_refl _) _).setCell (Nat.le_refl _) _⟩
  · have HR : Hid (p = none) := HP.out.trans (by have := HE.out; rw [if_neg h2] at this; exact this)
    clear HE HP
    have h3 : (!t == s) = true := by simp [h2]
    go_wp2
    exact bodyPost_ret (v := .tuple #[.agg #[.int .i64 0, .string ⟨#[]⟩, .string ⟨#[]⟩], .bool false]) (by simp [results, Tryd.results142, go_sem, r0, r1, r2]) rfl ⟨by rw [HR.out]; rfl, ((hW2.setCell (Nat.le_refl _) _).setCell (Nat.le_refl _) _).setCell (Nat.le_refl _) _⟩

theorem pver_any (s : List UInt8) (w : World) (htab : Tab w) : Calls Tryd.prog 142 #[.string ⟨s.toArray⟩] w fun x w' => x = .returned (pvB (rdV s)) ∧ Below w.heap.size w w' := by
  cases h : Vm.pv s with
  | none => exact pver_none s w h htab
  | some p => obtain ⟨e, u, r⟩ := p; exact pver_some s e u r w h htab

end Go.Proofs.YtglfdipepofcjabDoor
