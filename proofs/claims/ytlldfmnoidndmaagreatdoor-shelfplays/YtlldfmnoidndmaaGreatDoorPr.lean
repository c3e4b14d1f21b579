/- The walk of version.Parse. -/
import Derived.Test.YtlldfmnoidndmaaGreatDoorPx
import Derived.RegionTactic
import Derived.BigRegion
import Derived.Outline
import Derived.Test.YtlldfmnoidndmaaGreatDoorVx
namespace Go.Proofs.YtlldfmnoidndmaaGreatDoor
open Go.RowKit Go.Shelf Go.Sort

theorem parse_long (s : List UInt8) (w : World) (hs : 40 < s.length) :
    Calls Tryz.prog 77 #[.string ⟨s.toArray⟩] w fun x w' => x = .returned (.tuple #[.agg #[.int .i64 0, .string ⟨#[]⟩, .string ⟨#[]⟩], .iface 33 (.int .i64 3)]) ∧ Below w.heap.size w w' := by
  go_enter Tryz.func77, Tryz.ntmps77
  go_wp2
  exact bodyPost_ret (v := .tuple #[.agg #[.int .i64 0, .string ⟨#[]⟩, .string ⟨#[]⟩], .iface 33 (.int .i64 3)]) (by simp [results, Tryz.results77, go_sem]) rfl ⟨rfl, (Below.refl _ _).alloc (Nat.le_refl _) _⟩

theorem lidx_any (l : List UInt8) (w : World) (hl : l.length ≤ 200) : Calls Tryz.prog 119 #[.string ⟨l.toArray⟩, .int .u8 45] w fun e w' => e = .returned (.int .i64 (Lib.lastIndexByte ⟨l.toArray⟩ 45)) ∧ w' = w :=
  Tryz.strings_LastIndexByte ⟨l.toArray⟩ 45 (by have := size_le hl; omega) w

theorem via_alloc {w1 w3 : World} {o : Obj} {n : Nat} (h : Below ((w1.alloc o).drewN n).heap.size ((w1.alloc o).drewN n) w3) : Below w1.heap.size w1 w3 :=
  (below_drewN ((Below.refl w1.heap.size w1).alloc (Nat.le_refl _) o) n).trans (h.mono (by simp))
theorem via_set {w1 w3 : World} {o : Obj} {n : Nat} {v1 v2 : Value} (h : Below ((((w1.alloc o).drewN n).setCell ⟨w1.heap.size, 1, none⟩ v1).setCell ⟨w1.heap.size, 2, none⟩ v2).heap.size ((((w1.alloc o).drewN n).setCell ⟨w1.heap.size, 1, none⟩ v1).setCell ⟨w1.heap.size, 2, none⟩ v2) w3) : Below w1.heap.size w1 w3 :=
  (((below_drewN ((Below.refl w1.heap.size w1).alloc (Nat.le_refl _) o) n).setCell (p := ⟨w1.heap.size, 1, none⟩) (Nat.le_refl _) v1).setCell (p := ⟨w1.heap.size, 2, none⟩) (Nat.le_refl _) v2).trans (h.mono (by simp))
def Ep (n : Nat) : Prop := n < 1000000000
structure RtIs (n : Nat) (u r : List UInt8) (b : Bool) : Prop where
  out : Vm.rt (n : Int) u r = b
structure Rt0Is (u r : List UInt8) (b : Bool) : Prop where
  out : Vm.rt 0 u r = b
def J0 (y : List UInt8) : Prop := Lib.lastIndexByte ⟨y.toArray⟩ 45 = -1
def J1 (y : List UInt8) (j : Nat) : Prop := Lib.lastIndexByte ⟨y.toArray⟩ 45 = j
theorem ep_le {n : Nat} (h : Ep n) : (n : Int) ≤ 9223372036854775807 := by unfold Ep at h; omega
theorem set2 (w1 : World) (a b c v1 v2 : Value) (n : Nat) : (((w1.alloc (.cells #[a, b, c] 37)).drewN n).setCell ⟨w1.heap.size, 1, none⟩ v1).setCell ⟨w1.heap.size, 2, none⟩ v2 = (w1.alloc (.cells #[a, v1, v2] 37)).drewN n := by
  have e : ∀ (W : World) (p : Addr) (v : Value), (W.drewN n).setCell p v = (W.setCell p v).drewN n := fun _ _ _ => rfl
  rw [e, e, World.setCell_alloc_at _ _ _ _ _ rfl, World.setCell_alloc_at _ _ _ _ _ rfl]
  rfl
theorem set01 (w1 : World) (a b c v0 v1 : Value) (n : Nat) : (((w1.alloc (.cells #[a, b, c] 37)).drewN n).setCell ⟨w1.heap.size, 0, none⟩ v0).setCell ⟨w1.heap.size, 1, none⟩ v1 = (w1.alloc (.cells #[v0, v1, c] 37)).drewN n := by
  have e : ∀ (W : World) (p : Addr) (v : Value), (W.drewN n).setCell p v = (W.setCell p v).drewN n := fun _ _ _ => rfl
  rw [e, e, World.setCell_alloc_at _ _ _ _ _ rfl, World.setCell_alloc_at _ _ _ _ _ rfl]
  rfl
theorem cut_xy (s x y : List UInt8) (k : Nat) (w : World) (hl : s.length ≤ 200) (hk : k < s.length) (hi : Lib.indexByte s 58 = k) (hx : s.take k = x) (hy : s.drop (k + 1) = y) : Calls Tryz.prog 117 #[.string ⟨s.toArray⟩, .string ⟨#[58]⟩] w fun e w' =>
    e = .returned (.tuple #[.string ⟨x.toArray⟩, .string ⟨y.toArray⟩, .bool true]) ∧ ∃ n, w' = w.drewN n := by
  subst hx hy; exact cut_some s k w hl hk hi
theorem epoch_some (l : List UInt8) (n : Nat) (h : Vm.pep l = some n) (w : World) : Calls Tryz.prog 118 #[.string ⟨l.toArray⟩] w fun e w' => e = .returned (.tuple #[.int .i64 n, .bool true]) ∧ w' = w := by
  have := epoch_any l w; rw [h] at this; exact this
theorem epoch_no (l : List UInt8) (h : Vm.pep l = none) (w : World) : Calls Tryz.prog 118 #[.string ⟨l.toArray⟩] w fun e w' => e = .returned (.tuple #[.int .i64 0, .bool false]) ∧ w' = w := by
  have := epoch_any l w; rw [h] at this; exact this

/-- What is kept of the result's block, and of the version's, behind what was called. -/
theorem kept3 {w1 w3 : World} {g : Nat} {x0 x1 x2 : Value} (h0 : w1.cell? ⟨g, 0, none⟩ = some x0) (h1 : w1.cell? ⟨g, 1, none⟩ = some x1) (h2 : w1.cell? ⟨g, 2, none⟩ = some x2) (hf : ∀ j, w1.frozen? ⟨g, j, none⟩ = false) (hg : g < w1.heap.size) (hb : Below w1.heap.size w1 w3) :
    w3.cell? ⟨g, 0, none⟩ = some x0 ∧ w3.cell? ⟨g, 1, none⟩ = some x1 ∧ w3.cell? ⟨g, 2, none⟩ = some x2 ∧ (∀ j, w3.frozen? ⟨g, j, none⟩ = false) ∧ g < w3.heap.size :=
  ⟨by rw [hb.cell hg, h0], by rw [hb.cell hg, h1], by rw [hb.cell hg, h2], fun j => by rw [hb.frozen hg, hf j], Nat.lt_of_lt_of_le hg hb.size⟩

set_option maxHeartbeats 1600000 in
set_option maxRecDepth 100000 in
theorem parse_n0t (s : List UInt8) (w : World) (hs : s.length ≤ 40) (hi : Lib.indexByte s 58 = -1) (hj : J0 s) (hb : Rt0Is s [] true) (htab : Lib.TabIs Tryz.prog w "internal/strconv.uint64pow10" .u64 Lib.pow10Tab) :
    Calls Tryz.prog 77 #[.string ⟨s.toArray⟩] w fun x w' => x = .returned (.tuple #[.agg #[.int .i64 0, .string ⟨s.toArray⟩, .string ⟨#[]⟩], .nilIface]) ∧ Below w.heap.size w w' := by
  have HI := Lib.hid hi
  clear hi
  have hT := Lib.tabBelow_of_tabIs htab
  clear htab
  have hR : Below w.heap.size w (w.alloc (.cells #[.int .i64 0, .string ⟨#[]⟩, .string ⟨#[]⟩] 37)) := (Below.refl _ _).alloc (Nat.le_refl _) _
  go_enter Tryz.func77, Tryz.ntmps77
  go_wp2_with fail
  refine (clone_any s _ (by omega)).mono ?_
  rintro x w1 ⟨rfl, hb1⟩
  have hz1 : w.heap.size + 1 ≤ w1.heap.size := by have := hb1.size; simp at this; omega
  obtain ⟨k0, k1, k2, kf, kg⟩ := kept3 (g := w.heap.size) (x0 := .int .i64 0) (x1 := .string ⟨#[]⟩) (x2 := .string ⟨#[]⟩) (by simp) (by simp) (by simp) (by simp) (by simp) hb1
  have hW1 : Below w.heap.size w w1 := hR.trans (hb1.mono (by simp))
  go_wp2_with fail
  refine (cut_none s _ HI.out).mono ?_
  rintro x w2 ⟨rfl, n2, rfl⟩
  go_wp2_with fail
  refine (lidx_any s _ (by omega)).mono ?_
  rintro x w2 ⟨rfl, rfl⟩
  rw [show Lib.lastIndexByte _ _ = _ from hj]
  go_wp2_with fail
  refine (right_any 0 s [] _ (by decide) (by decide) (by omega) (by decide) (hT _ ?tab)).mono ?_
  case tab => exact below_drewN (hW1.alloc hW1.size _) _
  rintro x w3 ⟨rfl, hb3⟩
  rw [hb.out]
  have hX := via_alloc hb3
  obtain ⟨r0, r1, r2, rf, rg⟩ := kept3 k0 k1 k2 kf kg hX
  obtain ⟨v0, v1, v2, vf, vg⟩ := kept3 (g := w1.heap.size) (x0 := .int .i64 0) (x1 := .string ⟨s.toArray⟩) (x2 := .string ⟨#[]⟩) (by simp) (by simp) (by simp) (by simp) (by simp) hb3
  clear k0 k1 k2 kf hb3
  go_wp2
  exact bodyPost_ret (v := .tuple #[.agg #[.int .i64 0, .string ⟨s.toArray⟩, .string ⟨#[]⟩], .nilIface]) (by simp [results, Tryz.results77, go_sem, r0, r1, r2]) rfl ⟨rfl, (((hW1.trans (hX.mono hW1.size)).setCell (Nat.le_refl _) _).setCell (Nat.le_refl _) _).setCell (Nat.le_refl _) _⟩

set_option maxHeartbeats 1600000 in
set_option maxRecDepth 100000 in
theorem parse_n0f (s : List UInt8) (w : World) (hs : s.length ≤ 40) (hi : Lib.indexByte s 58 = -1) (hj : J0 s) (hb : Rt0Is s [] false) (htab : Lib.TabIs Tryz.prog w "internal/strconv.uint64pow10" .u64 Lib.pow10Tab) :
    Calls Tryz.prog 77 #[.string ⟨s.toArray⟩] w fun x w' => x = .returned (.tuple #[.agg #[.int .i64 0, .string ⟨#[]⟩, .string ⟨#[]⟩], .iface 33 (.int .i64 3)]) ∧ Below w.heap.size w w' := by
  have HI := Lib.hid hi
  clear hi
  have hT := Lib.tabBelow_of_tabIs htab
  clear htab
  have hR : Below w.heap.size w (w.alloc (.cells #[.int .i64 0, .string ⟨#[]⟩, .string ⟨#[]⟩] 37)) := (Below.refl _ _).alloc (Nat.le_refl _) _
  go_enter Tryz.func77, Tryz.ntmps77
  go_wp2_with fail
  refine (clone_any s _ (by omega)).mono ?_
  rintro x w1 ⟨rfl, hb1⟩
  have hz1 : w.heap.size + 1 ≤ w1.heap.size := by have := hb1.size; simp at this; omega
  obtain ⟨k0, k1, k2, kf, kg⟩ := kept3 (g := w.heap.size) (x0 := .int .i64 0) (x1 := .string ⟨#[]⟩) (x2 := .string ⟨#[]⟩) (by simp) (by simp) (by simp) (by simp) (by simp) hb1
  have hW1 : Below w.heap.size w w1 := hR.trans (hb1.mono (by simp))
  go_wp2_with fail
  refine (cut_none s _ HI.out).mono ?_
  rintro x w2 ⟨rfl, n2, rfl⟩
  go_wp2_with fail
  refine (lidx_any s _ (by omega)).mono ?_
  rintro x w2 ⟨rfl, rfl⟩
  rw [show Lib.lastIndexByte _ _ = _ from hj]
  go_wp2_with fail
  refine (right_any 0 s [] _ (by decide) (by decide) (by omega) (by decide) (hT _ ?tab)).mono ?_
  case tab => exact below_drewN (hW1.alloc hW1.size _) _
  rintro x w3 ⟨rfl, hb3⟩
  rw [hb.out]
  have hX := via_alloc hb3
  obtain ⟨r0, r1, r2, rf, rg⟩ := kept3 k0 k1 k2 kf kg hX
  obtain ⟨v0, v1, v2, vf, vg⟩ := kept3 (g := w1.heap.size) (x0 := .int .i64 0) (x1 := .string ⟨s.toArray⟩) (x2 := .string ⟨#[]⟩) (by simp) (by simp) (by simp) (by simp) (by simp) hb3
  clear k0 k1 k2 kf hb3
  go_wp2
  exact bodyPost_ret (v := .tuple #[.agg #[.int .i64 0, .string ⟨#[]⟩, .string ⟨#[]⟩], .iface 33 (.int .i64 3)]) (by simp [results, Tryz.results77, go_sem, r0, r1, r2]) rfl ⟨rfl, (((hW1.trans (hX.mono hW1.size)).setCell (Nat.le_refl _) _).setCell (Nat.le_refl _) _).setCell (Nat.le_refl _) _⟩

set_option maxHeartbeats 1600000 in
set_option maxRecDepth 100000 in
theorem parse_n1 (s : List UInt8) (w : World) (hs : s.length ≤ 40) (hi : Lib.indexByte s 58 = -1) (j : Nat) (hjl : j < s.length) (hj : J1 s j) (u : List UInt8) (hu : s.take j = u) (hr : s.drop (j + 1) = []) (htab : Lib.TabIs Tryz.prog w "internal/strconv.uint64pow10" .u64 Lib.pow10Tab) :
    Calls Tryz.prog 77 #[.string ⟨s.toArray⟩] w fun x w' => x = .returned (.tuple #[.agg #[.int .i64 0, .string ⟨#[]⟩, .string ⟨#[]⟩], .iface 33 (.int .i64 3)]) ∧ Below w.heap.size w w' := by
  have HI := Lib.hid hi
  clear hi
  have HU := Lib.hid hu
  have HR := Lib.hid hr
  clear hu hr
  have hT := Lib.tabBelow_of_tabIs htab
  clear htab
  have hR : Below w.heap.size w (w.alloc (.cells #[.int .i64 0, .string ⟨#[]⟩, .string ⟨#[]⟩] 37)) := (Below.refl _ _).alloc (Nat.le_refl _) _
  go_enter Tryz.func77, Tryz.ntmps77
  go_wp2_with fail
  refine (clone_any s _ (by omega)).mono ?_
  rintro x w1 ⟨rfl, hb1⟩
  have hz1 : w.heap.size + 1 ≤ w1.heap.size := by have := hb1.size; simp at this; omega
  obtain ⟨k0, k1, k2, kf, kg⟩ := kept3 (g := w.heap.size) (x0 := .int .i64 0) (x1 := .string ⟨#[]⟩) (x2 := .string ⟨#[]⟩) (by simp) (by simp) (by simp) (by simp) (by simp) hb1
  have hW1 : Below w.heap.size w w1 := hR.trans (hb1.mono (by simp))
  go_wp2_with fail
  refine (cut_none s _ HI.out).mono ?_
  rintro x w2 ⟨rfl, n2, rfl⟩
  go_wp2_with fail
  refine (lidx_any s _ (by omega)).mono ?_
  rintro x w2 ⟨rfl, rfl⟩
  rw [show Lib.lastIndexByte _ _ = _ from hj]
  have q1 : (j : Int) ≤ (s.length : Int) := by omega
  have q2 : (j : Int) + 1 ≤ (s.length : Int) := by omega
  go_wp2_with fail
  go_region
  rw [show (ByteArray.mk s.toArray).extract 0 j = ⟨u.toArray⟩ from by rw [ba_take, HU.out], show (ByteArray.mk s.toArray).extract (j + 1) s.length = ⟨([] : List UInt8).toArray⟩ from by rw [ba_drop, HR.out], set2]
  go_wp2_with fail
  have hX := below_drewN (hW1.alloc hW1.size (.cells #[.int .i64 0, .string ⟨u.toArray⟩, .string ⟨#[]⟩] 37)) (n2 + 1)
  exact bodyPost_ret (v := .tuple #[.agg #[.int .i64 0, .string ⟨#[]⟩, .string ⟨#[]⟩], .iface 33 (.int .i64 3)]) (by simp [results, Tryz.results77, go_sem, k0, k1, k2, kg]) rfl ⟨rfl, ((hX.setCell (Nat.le_refl _) _).setCell (Nat.le_refl _) _).setCell (Nat.le_refl _) _⟩

set_option maxHeartbeats 1600000 in
set_option maxRecDepth 100000 in
theorem parse_n2t (s : List UInt8) (w : World) (hs : s.length ≤ 40) (hi : Lib.indexByte s 58 = -1) (j : Nat) (hjl : j < s.length) (hj : J1 s j) (u r : List UInt8) (hu : s.take j = u) (hr : s.drop (j + 1) = r) (hre : r.isEmpty = false) (hul : u.length ≤ 40) (hrl : r.length ≤ 40) (hb : Rt0Is u r true) (htab : Lib.TabIs Tryz.prog w "internal/strconv.uint64pow10" .u64 Lib.pow10Tab) :
    Calls Tryz.prog 77 #[.string ⟨s.toArray⟩] w fun x w' => x = .returned (.tuple #[.agg #[.int .i64 0, .string ⟨u.toArray⟩, .string ⟨r.toArray⟩], .nilIface]) ∧ Below w.heap.size w w' := by
  have HI := Lib.hid hi
  clear hi
  have HU := Lib.hid hu
  have HR := Lib.hid hr
  clear hu hr
  have hT := Lib.tabBelow_of_tabIs htab
  clear htab
  have hR : Below w.heap.size w (w.alloc (.cells #[.int .i64 0, .string ⟨#[]⟩, .string ⟨#[]⟩] 37)) := (Below.refl _ _).alloc (Nat.le_refl _) _
  go_enter Tryz.func77, Tryz.ntmps77
  go_wp2_with fail
  refine (clone_any s _ (by omega)).mono ?_
  rintro x w1 ⟨rfl, hb1⟩
  have hz1 : w.heap.size + 1 ≤ w1.heap.size := by have := hb1.size; simp at this; omega
  obtain ⟨k0, k1, k2, kf, kg⟩ := kept3 (g := w.heap.size) (x0 := .int .i64 0) (x1 := .string ⟨#[]⟩) (x2 := .string ⟨#[]⟩) (by simp) (by simp) (by simp) (by simp) (by simp) hb1
  have hW1 : Below w.heap.size w w1 := hR.trans (hb1.mono (by simp))
  go_wp2_with fail
  refine (cut_none s _ HI.out).mono ?_
  rintro x w2 ⟨rfl, n2, rfl⟩
  go_wp2_with fail
  refine (lidx_any s _ (by omega)).mono ?_
  rintro x w2 ⟨rfl, rfl⟩
  rw [show Lib.lastIndexByte _ _ = _ from hj]
  have q1 : (j : Int) ≤ (s.length : Int) := by omega
  have q2 : (j : Int) + 1 ≤ (s.length : Int) := by omega
  go_wp2_with fail
  go_region
  rw [show (ByteArray.mk s.toArray).extract 0 j = ⟨u.toArray⟩ from by rw [ba_take, HU.out], show (ByteArray.mk s.toArray).extract (j + 1) s.length = ⟨r.toArray⟩ from by rw [ba_drop, HR.out], set2]
  go_wp2_with fail
  refine (right_any 0 u r _ (by decide) (by decide) (by omega) (by omega) (hT _ ?tab)).mono ?_
  case tab => exact below_drewN (hW1.alloc hW1.size _) _
  rintro x w3 ⟨rfl, hb3⟩
  rw [hb.out]
  have hX := via_alloc hb3
  obtain ⟨r0, r1, r2, rf, rg⟩ := kept3 k0 k1 k2 kf kg hX
  obtain ⟨v0, v1, v2, vf, vg⟩ := kept3 (g := w1.heap.size) (x0 := .int .i64 0) (x1 := .string ⟨u.toArray⟩) (x2 := .string ⟨r.toArray⟩) (by simp) (by simp) (by simp) (by simp) (by simp) hb3
  clear k0 k1 k2 kf hb3
  go_wp2
  exact bodyPost_ret (v := .tuple #[.agg #[.int .i64 0, .string ⟨u.toArray⟩, .string ⟨r.toArray⟩], .nilIface]) (by simp [results, Tryz.results77, go_sem, r0, r1, r2]) rfl ⟨rfl, (((hW1.trans (hX.mono hW1.size)).setCell (Nat.le_refl _) _).setCell (Nat.le_refl _) _).setCell (Nat.le_refl _) _⟩

set_option maxHeartbeats 1600000 in
set_option maxRecDepth 100000 in
theorem parse_n2f (s : List UInt8) (w : World) (hs : s.length ≤ 40) (hi : Lib.indexByte s 58 = -1) (j : Nat) (hjl : j < s.length) (hj : J1 s j) (u r : List UInt8) (hu : s.take j = u) (hr : s.drop (j + 1) = r) (hre : r.isEmpty = false) (hul : u.length ≤ 40) (hrl : r.length ≤ 40) (hb : Rt0Is u r false) (htab : Lib.TabIs Tryz.prog w "internal/strconv.uint64pow10" .u64 Lib.pow10Tab) :
    Calls Tryz.prog 77 #[.string ⟨s.toArray⟩] w fun x w' => x = .returned (.tuple #[.agg #[.int .i64 0, .string ⟨#[]⟩, .string ⟨#[]⟩], .iface 33 (.int .i64 3)]) ∧ Below w.heap.size w w' := by
  have HI := Lib.hid hi
  clear hi
  have HU := Lib.hid hu
  have HR := Lib.hid hr
  clear hu hr
  have hT := Lib.tabBelow_of_tabIs htab
  clear htab
  have hR : Below w.heap.size w (w.alloc (.cells #[.int .i64 0, .string ⟨#[]⟩, .string ⟨#[]⟩] 37)) := (Below.refl _ _).alloc (Nat.le_refl _) _
  go_enter Tryz.func77, Tryz.ntmps77
  go_wp2_with fail
  refine (clone_any s _ (by omega)).mono ?_
  rintro x w1 ⟨rfl, hb1⟩
  have hz1 : w.heap.size + 1 ≤ w1.heap.size := by have := hb1.size; simp at this; omega
  obtain ⟨k0, k1, k2, kf, kg⟩ := kept3 (g := w.heap.size) (x0 := .int .i64 0) (x1 := .string ⟨#[]⟩) (x2 := .string ⟨#[]⟩) (by simp) (by simp) (by simp) (by simp) (by simp) hb1
  have hW1 : Below w.heap.size w w1 := hR.trans (hb1.mono (by simp))
  go_wp2_with fail
  refine (cut_none s _ HI.out).mono ?_
  rintro x w2 ⟨rfl, n2, rfl⟩
  go_wp2_with fail
  refine (lidx_any s _ (by omega)).mono ?_
  rintro x w2 ⟨rfl, rfl⟩
  rw [show Lib.lastIndexByte _ _ = _ from hj]
  have q1 : (j : Int) ≤ (s.length : Int) := by omega
  have q2 : (j : Int) + 1 ≤ (s.length : Int) := by omega
  go_wp2_with fail
  go_region
  rw [show (ByteArray.mk s.toArray).extract 0 j = ⟨u.toArray⟩ from by rw [ba_take, HU.out], show (ByteArray.mk s.toArray).extract (j + 1) s.length = ⟨r.toArray⟩ from by rw [ba_drop, HR.out], set2]
  go_wp2_with fail
  refine (right_any 0 u r _ (by decide) (by decide) (by omega) (by omega) (hT _ ?tab)).mono ?_
  case tab => exact below_drewN (hW1.alloc hW1.size _) _
  rintro x w3 ⟨rfl, hb3⟩
  rw [hb.out]
  have hX := via_alloc hb3
  obtain ⟨r0, r1, r2, rf, rg⟩ := kept3 k0 k1 k2 kf kg hX
  obtain ⟨v0, v1, v2, vf, vg⟩ := kept3 (g := w1.heap.size) (x0 := .int .i64 0) (x1 := .string ⟨u.toArray⟩) (x2 := .string ⟨r.toArray⟩) (by simp) (by simp) (by simp) (by simp) (by simp) hb3
  clear k0 k1 k2 kf hb3
  go_wp2
  exact bodyPost_ret (v := .tuple #[.agg #[.int .i64 0, .string ⟨#[]⟩, .string ⟨#[]⟩], .iface 33 (.int .i64 3)]) (by simp [results, Tryz.results77, go_sem, r0, r1, r2]) rfl ⟨rfl, (((hW1.trans (hX.mono hW1.size)).setCell (Nat.le_refl _) _).setCell (Nat.le_refl _) _).setCell (Nat.le_refl _) _⟩

set_option maxHeartbeats 1600000 in
set_option maxRecDepth 100000 in
theorem parse_s0t (s : List UInt8) (w : World) (hs : s.length ≤ 40) (k : Nat) (hk : k < s.length) (hi : Lib.indexByte s 58 = k) (x y : List UInt8) (hx : s.take k = x) (hy : s.drop (k + 1) = y) (hyl : y.length ≤ 40) (n : Nat) (hn : Ep n) (hp : Vm.pep x = some n) (hj : J0 y) (hb : RtIs n y [] true) (htab : Lib.TabIs Tryz.prog w "internal/strconv.uint64pow10" .u64 Lib.pow10Tab) :
    Calls Tryz.prog 77 #[.string ⟨s.toArray⟩] w fun x w' => x = .returned (.tuple #[.agg #[.int .i64 n, .string ⟨y.toArray⟩, .string ⟨#[]⟩], .nilIface]) ∧ Below w.heap.size w w' := by
  have HI := Lib.hid hi
  clear hi
  have HX := Lib.hid hx
  have HY := Lib.hid hy
  have HP := Lib.hid hp
  clear hx hy hp
  have HN := Lib.hid hn
  clear hn
  have hT := Lib.tabBelow_of_tabIs htab
  clear htab
  have hR : Below w.heap.size w (w.alloc (.cells #[.int .i64 0, .string ⟨#[]⟩, .string ⟨#[]⟩] 37)) := (Below.refl _ _).alloc (Nat.le_refl _) _
  go_enter Tryz.func77, Tryz.ntmps77
  go_wp2_with fail
  refine (clone_any s _ (by omega)).mono ?_
  rintro x w1 ⟨rfl, hb1⟩
  have hz1 : w.heap.size + 1 ≤ w1.heap.size := by have := hb1.size; simp at this; omega
  obtain ⟨k0, k1, k2, kf, kg⟩ := kept3 (g := w.heap.size) (x0 := .int .i64 0) (x1 := .string ⟨#[]⟩) (x2 := .string ⟨#[]⟩) (by simp) (by simp) (by simp) (by simp) (by simp) hb1
  have hW1 : Below w.heap.size w w1 := hR.trans (hb1.mono (by simp))
  go_wp2_with fail
  refine (cut_xy s x y k _ (by omega) hk HI.out HX.out HY.out).mono ?_
  rintro x w2 ⟨rfl, n2, rfl⟩
  go_wp2_with fail
  refine (epoch_some _ n HP.out _).mono ?_
  rintro x w2 ⟨rfl, rfl⟩
  go_wp2_with fail
  rw [set01]
  refine (lidx_any y _ (by omega)).mono ?_
  rintro x w2 ⟨rfl, rfl⟩
  rw [show Lib.lastIndexByte _ _ = _ from hj]
  go_wp2_with fail
  refine (right_any n y [] _ (by omega) (ep_le HN.out) (by omega) (by decide) (hT _ ?tab)).mono ?_
  case tab => exact below_drewN (hW1.alloc hW1.size _) _
  rintro x w3 ⟨rfl, hb3⟩
  rw [hb.out]
  have hX := via_alloc hb3
  obtain ⟨r0, r1, r2, rf, rg⟩ := kept3 k0 k1 k2 kf kg hX
  obtain ⟨v0, v1, v2, vf, vg⟩ := kept3 (g := w1.heap.size) (x0 := .int .i64 n) (x1 := .string ⟨y.toArray⟩) (x2 := .string ⟨#[]⟩) (by simp) (by simp) (by simp) (by simp) (by simp) hb3
  clear k0 k1 k2 kf hb3
  go_wp2
  exact bodyPost_ret (v := .tuple #[.agg #[.int .i64 n, .string ⟨y.toArray⟩, .string ⟨#[]⟩], .nilIface]) (by simp [results, Tryz.results77, go_sem, r0, r1, r2]) rfl ⟨rfl, (((hW1.trans (hX.mono hW1.size)).setCell (Nat.le_refl _) _).setCell (Nat.le_refl _) _).setCell (Nat.le_refl _) _⟩

set_option maxHeartbeats 1600000 in
set_option maxRecDepth 100000 in
theorem parse_s0f (s : List UInt8) (w : World) (hs : s.length ≤ 40) (k : Nat) (hk : k < s.length) (hi : Lib.indexByte s 58 = k) (x y : List UInt8) (hx : s.take k = x) (hy : s.drop (k + 1) = y) (hyl : y.length ≤ 40) (n : Nat) (hn : Ep n) (hp : Vm.pep x = some n) (hj : J0 y) (hb : RtIs n y [] false) (htab : Lib.TabIs Tryz.prog w "internal/strconv.uint64pow10" .u64 Lib.pow10Tab) :
    Calls Tryz.prog 77 #[.string ⟨s.toArray⟩] w fun x w' => x = .returned (.tuple #[.agg #[.int .i64 0, .string ⟨#[]⟩, .string ⟨#[]⟩], .iface 33 (.int .i64 3)]) ∧ Below w.heap.size w w' := by
  have HI := Lib.hid hi
  clear hi
  have HX := Lib.hid hx
  have HY := Lib.hid hy
  have HP := Lib.hid hp
  clear hx hy hp
  have HN := Lib.hid hn
  clear hn
  have hT := Lib.tabBelow_of_tabIs htab
  clear htab
  have hR : Below w.heap.size w (w.alloc (.cells #[.int .i64 0, .string ⟨#[]⟩, .string ⟨#[]⟩] 37)) := (Below.refl _ _).alloc (Nat.le_refl _) _
  go_enter Tryz.func77, Tryz.ntmps77
  go_wp2_with fail
  refine (clone_any s _ (by omega)).mono ?_
  rintro x w1 ⟨rfl, hb1⟩
  have hz1 : w.heap.size + 1 ≤ w1.heap.size := by have := hb1.size; simp at this; omega
  obtain ⟨k0, k1, k2, kf, kg⟩ := kept3 (g := w.heap.size) (x0 := .int .i64 0) (x1 := .string ⟨#[]⟩) (x2 := .string ⟨#[]⟩) (by simp) (by simp) (by simp) (by simp) (by simp) hb1
  have hW1 : Below w.heap.size w w1 := hR.trans (hb1.mono (by simp))
  go_wp2_with fail
  refine (cut_xy s x y k _ (by omega) hk HI.out HX.out HY.out).mono ?_
  rintro x w2 ⟨rfl, n2, rfl⟩
  go_wp2_with fail
  refine (epoch_some _ n HP.out _).mono ?_
  rintro x w2 ⟨rfl, rfl⟩
  go_wp2_with fail
  rw [set01]
  refine (lidx_any y _ (by omega)).mono ?_
  rintro x w2 ⟨rfl, rfl⟩
  rw [show Lib.lastIndexByte _ _ = _ from hj]
  go_wp2_with fail
  refine (right_any n y [] _ (by omega) (ep_le HN.out) (by omega) (by decide) (hT _ ?tab)).mono ?_
  case tab => exact below_drewN (hW1.alloc hW1.size _) _
  rintro x w3 ⟨rfl, hb3⟩
  rw [hb.out]
  have hX := via_alloc hb3
  obtain ⟨r0, r1, r2, rf, rg⟩ := kept3 k0 k1 k2 kf kg hX
  obtain ⟨v0, v1, v2, vf, vg⟩ := kept3 (g := w1.heap.size) (x0 := .int .i64 n) (x1 := .string ⟨y.toArray⟩) (x2 := .string ⟨#[]⟩) (by simp) (by simp) (by simp) (by simp) (by simp) hb3
  clear k0 k1 k2 kf hb3
  go_wp2
  exact bodyPost_ret (v := .tuple #[.agg #[.int .i64 0, .string ⟨#[]⟩, .string ⟨#[]⟩], .iface 33 (.int .i64 3)]) (by simp [results, Tryz.results77, go_sem, r0, r1, r2]) rfl ⟨rfl, (((hW1.trans (hX.mono hW1.size)).setCell (Nat.le_refl _) _).setCell (Nat.le_refl _) _).setCell (Nat.le_refl _) _⟩

set_option maxHeartbeats 1600000 in
set_option maxRecDepth 100000 in
theorem parse_s1 (s : List UInt8) (w : World) (hs : s.length ≤ 40) (k : Nat) (hk : k < s.length) (hi : Lib.indexByte s 58 = k) (x y : List UInt8) (hx : s.take k = x) (hy : s.drop (k + 1) = y) (hyl : y.length ≤ 40) (n : Nat) (hn : Ep n) (hp : Vm.pep x = some n) (j : Nat) (hjl : j < y.length) (hj : J1 y j) (u : List UInt8) (hu : y.take j = u) (hr : y.drop (j + 1) = []) (htab : Lib.TabIs Tryz.prog w "internal/strconv.uint64pow10" .u64 Lib.pow10Tab) :
    Calls Tryz.prog 77 #[.string ⟨s.toArray⟩] w fun x w' => x = .returned (.tuple #[.agg #[.int .i64 0, .string ⟨#[]⟩, .string ⟨#[]⟩], .iface 33 (.int .i64 3)]) ∧ Below w.heap.size w w' := by
  have HI := Lib.hid hi
  clear hi
  have HX := Lib.hid hx
  have HY := Lib.hid hy
  have HP := Lib.hid hp
  clear hx hy hp
  have HN := Lib.hid hn
  clear hn
  have HU := Lib.hid hu
  have HR := Lib.hid hr
  clear hu hr
  have hT := Lib.tabBelow_of_tabIs htab
  clear htab
  have hR : Below w.heap.size w (w.alloc (.cells #[.int .i64 0, .string ⟨#[]⟩, .string ⟨#[]⟩] 37)) := (Below.refl _ _).alloc (Nat.le_refl _) _
  go_enter Tryz.func77, Tryz.ntmps77
  go_wp2_with fail
  refine (clone_any s _ (by omega)).mono ?_
  rintro x w1 ⟨rfl, hb1⟩
  have hz1 : w.heap.size + 1 ≤ w1.heap.size := by have := hb1.size; simp at this; omega
  obtain ⟨k0, k1, k2, kf, kg⟩ := kept3 (g := w.heap.size) (x0 := .int .i64 0) (x1 := .string ⟨#[]⟩) (x2 := .string ⟨#[]⟩) (by simp) (by simp) (by simp) (by simp) (by simp) hb1
  have hW1 : Below w.heap.size w w1 := hR.trans (hb1.mono (by simp))
  go_wp2_with fail
  refine (cut_xy s x y k _ (by omega) hk HI.out HX.out HY.out).mono ?_
  rintro x w2 ⟨rfl, n2, rfl⟩
  go_wp2_with fail
  refine (epoch_some _ n HP.out _).mono ?_
  rintro x w2 ⟨rfl, rfl⟩
  go_wp2_with fail
  rw [set01]
  refine (lidx_any y _ (by omega)).mono ?_
  rintro x w2 ⟨rfl, rfl⟩
  rw [show Lib.lastIndexByte _ _ = _ from hj]
  have q1 : (j : Int) ≤ (y.length : Int) := by omega
  have q2 : (j : Int) + 1 ≤ (y.length : Int) := by omega
  go_wp2_with fail
  go_region
  rw [show (ByteArray.mk y.toArray).extract 0 j = ⟨u.toArray⟩ from by rw [ba_take, HU.out], show (ByteArray.mk y.toArray).extract (j + 1) y.length = ⟨([] : List UInt8).toArray⟩ from by rw [ba_drop, HR.out], set2]
  go_wp2_with fail
  have hX := below_drewN (hW1.alloc hW1.size (.cells #[.int .i64 n, .string ⟨u.toArray⟩, .string ⟨#[]⟩] 37)) (n2 + 1)
  exact bodyPost_ret (v := .tuple #[.agg #[.int .i64 0, .string ⟨#[]⟩, .string ⟨#[]⟩], .iface 33 (.int .i64 3)]) (by simp [results, Tryz.results77, go_sem, k0, k1, k2, kg]) rfl ⟨rfl, ((hX.setCell (Nat.le_refl _) _).setCell (Nat.le_refl _) _).setCell (Nat.le_refl _) _⟩

set_option maxHeartbeats 1600000 in
set_option maxRecDepth 100000 in
theorem parse_s2t (s : List UInt8) (w : World) (hs : s.length ≤ 40) (k : Nat) (hk : k < s.length) (hi : Lib.indexByte s 58 = k) (x y : List UInt8) (hx : s.take k = x) (hy : s.drop (k + 1) = y) (hyl : y.length ≤ 40) (n : Nat) (hn : Ep n) (hp : Vm.pep x = some n) (j : Nat) (hjl : j < y.length) (hj : J1 y j) (u r : List UInt8) (hu : y.take j = u) (hr : y.drop (j + 1) = r) (hre : r.isEmpty = false) (hul : u.length ≤ 40) (hrl : r.length ≤ 40) (hb : RtIs n u r true) (htab : Lib.TabIs Tryz.prog w "internal/strconv.uint64pow10" .u64 Lib.pow10Tab) :
    Calls Tryz.prog 77 #[.string ⟨s.toArray⟩] w fun x w' => x = .returned (.tuple #[.agg #[.int .i64 n, .string ⟨u.toArray⟩, .string ⟨r.toArray⟩], .nilIface]) ∧ Below w.heap.size w w' := by
  have HI := Lib.hid hi
  clear hi
  have HX := Lib.hid hx
  have HY := Lib.hid hy
  have HP := Lib.hid hp
  clear hx hy hp
  have HN := Lib.hid hn
  clear hn
  have HU := Lib.hid hu
  have HR := Lib.hid hr
  clear hu hr
  have hT := Lib.tabBelow_of_tabIs htab
  clear htab
  have hR : Below w.heap.size w (w.alloc (.cells #[.int .i64 0, .string ⟨#[]⟩, .string ⟨#[]⟩] 37)) := (Below.refl _ _).alloc (Nat.le_refl _) _
  go_enter Tryz.func77, Tryz.ntmps77
  go_wp2_with fail
  refine (clone_any s _ (by omega)).mono ?_
  rintro x w1 ⟨rfl, hb1⟩
  have hz1 : w.heap.size + 1 ≤ w1.heap.size := by have := hb1.size; simp at this; omega
  obtain ⟨k0, k1, k2, kf, kg⟩ := kept3 (g := w.heap.size) (x0 := .int .i64 0) (x1 := .string ⟨#[]⟩) (x2 := .string ⟨#[]⟩) (by simp) (by simp) (by simp) (by simp) (by simp) hb1
  have hW1 : Below w.heap.size w w1 := hR.trans (hb1.mono (by simp))
  go_wp2_with fail
  refine (cut_xy s x y k _ (by omega) hk HI.out HX.out HY.out).mono ?_
  rintro x w2 ⟨rfl, n2, rfl⟩
  go_wp2_with fail
  refine (epoch_some _ n HP.out _).mono ?_
  rintro x w2 ⟨rfl, rfl⟩
  go_wp2_with fail
  rw [set01]
  refine (lidx_any y _ (by omega)).mono ?_
  rintro x w2 ⟨rfl, rfl⟩
  rw [show Lib.lastIndexByte _ _ = _ from hj]
  have q1 : (j : Int) ≤ (y.length : Int) := by omega
  have q2 : (j : Int) + 1 ≤ (y.length : Int) := by omega
  go_wp2_with fail
  go_region
  rw [show (ByteArray.mk y.toArray).extract 0 j = ⟨u.toArray⟩ from by rw [ba_take, HU.out], show (ByteArray.mk y.toArray).extract (j + 1) y.length = ⟨r.toArray⟩ from by rw [ba_drop, HR.out], set2]
  go_wp2_with fail
  refine (right_any n u r _ (by omega) (ep_le HN.out) (by omega) (by omega) (hT _ ?tab)).mono ?_
  case tab => exact below_drewN (hW1.alloc hW1.size _) _
  rintro x w3 ⟨rfl, hb3⟩
  rw [hb.out]
  have hX := via_alloc hb3
  obtain ⟨r0, r1, r2, rf, rg⟩ := kept3 k0 k1 k2 kf kg hX
  obtain ⟨v0, v1, v2, vf, vg⟩ := kept3 (g := w1.heap.size) (x0 := .int .i64 n) (x1 := .string ⟨u.toArray⟩) (x2 := .string ⟨r.toArray⟩) (by simp) (by simp) (by simp) (by simp) (by simp) hb3
  clear k0 k1 k2 kf hb3
  go_wp2
  exact bodyPost_ret (v := .tuple #[.agg #[.int .i64 n, .string ⟨u.toArray⟩, .string ⟨r.toArray⟩], .nilIface]) (by simp [results, Tryz.results77, go_sem, r0, r1, r2]) rfl ⟨rfl, (((hW1.trans (hX.mono hW1.size)).setCell (Nat.le_refl _) _).setCell (Nat.le_refl _) _).setCell (Nat.le_refl _) _⟩

set_option maxHeartbeats 1600000 in
set_option maxRecDepth 100000 in
theorem parse_s2f (s : List UInt8) (w : World) (hs : s.length ≤ 40) (k : Nat) (hk : k < s.length) (hi : Lib.indexByte s 58 = k) (x y : List UInt8) (hx : s.take k = x) (hy : s.drop (k + 1) = y) (hyl : y.length ≤ 40) (n : Nat) (hn : Ep n) (hp : Vm.pep x = some n) (j : Nat) (hjl : j < y.length) (hj : J1 y j) (u r : List UInt8) (hu : y.take j = u) (hr : y.drop (j + 1) = r) (hre : r.isEmpty = false) (hul : u.length ≤ 40) (hrl : r.length ≤ 40) (hb : RtIs n u r false) (htab : Lib.TabIs Tryz.prog w "internal/strconv.uint64pow10" .u64 Lib.pow10Tab) :
    Calls Tryz.prog 77 #[.string ⟨s.toArray⟩] w fun x w' => x = .returned (.tuple #[.agg #[.int .i64 0, .string ⟨#[]⟩, .string ⟨#[]⟩], .iface 33 (.int .i64 3)]) ∧ Below w.heap.size w w' := by
  have HI := Lib.hid hi
  clear hi
  have HX := Lib.hid hx
  have HY := Lib.hid hy
  have HP := Lib.hid hp
  clear hx hy hp
  have HN := Lib.hid hn
  clear hn
  have HU := Lib.hid hu
  have HR := Lib.hid hr
  clear hu hr
  have hT := Lib.tabBelow_of_tabIs htab
  clear htab
  have hR : Below w.heap.size w (w.alloc (.cells #[.int .i64 0, .string ⟨#[]⟩, .string ⟨#[]⟩] 37)) := (Below.refl _ _).alloc (Nat.le_refl _) _
  go_enter Tryz.func77, Tryz.ntmps77
  go_wp2_with fail
  refine (clone_any s _ (by omega)).mono ?_
  rintro x w1 ⟨rfl, hb1⟩
  have hz1 : w.heap.size + 1 ≤ w1.heap.size := by have := hb1.size; simp at this; omega
  obtain ⟨k0, k1, k2, kf, kg⟩ := kept3 (g := w.heap.size) (x0 := .int .i64 0) (x1 := .string ⟨#[]⟩) (x2 := .string ⟨#[]⟩) (by simp) (by simp) (by simp) (by simp) (by simp) hb1
  have hW1 : Below w.heap.size w w1 := hR.trans (hb1.mono (by simp))
  go_wp2_with fail
  refine (cut_xy s x y k _ (by omega) hk HI.out HX.out HY.out).mono ?_
  rintro x w2 ⟨rfl, n2, rfl⟩
  go_wp2_with fail
  refine (epoch_some _ n HP.out _).mono ?_
  rintro x w2 ⟨rfl, rfl⟩
  go_wp2_with fail
  rw [set01]
  refine (lidx_any y _ (by omega)).mono ?_
  rintro x w2 ⟨rfl, rfl⟩
  rw [show Lib.lastIndexByte _ _ = _ from hj]
  have q1 : (j : Int) ≤ (y.length : Int) := by omega
  have q2 : (j : Int) + 1 ≤ (y.length : Int) := by omega
  go_wp2_with fail
  go_region
  rw [show (ByteArray.mk y.toArray).extract 0 j = ⟨u.toArray⟩ from by rw [ba_take, HU.out], show (ByteArray.mk y.toArray).extract (j + 1) y.length = ⟨r.toArray⟩ from by rw [ba_drop, HR.out], set2]
  go_wp2_with fail
  refine (right_any n u r _ (by omega) (ep_le HN.out) (by omega) (by omega) (hT _ ?tab)).mono ?_
  case tab => exact below_drewN (hW1.alloc hW1.size _) _
  rintro x w3 ⟨rfl, hb3⟩
  rw [hb.out]
  have hX := via_alloc hb3
  obtain ⟨r0, r1, r2, rf, rg⟩ := kept3 k0 k1 k2 kf kg hX
  obtain ⟨v0, v1, v2, vf, vg⟩ := kept3 (g := w1.heap.size) (x0 := .int .i64 n) (x1 := .string ⟨u.toArray⟩) (x2 := .string ⟨r.toArray⟩) (by simp) (by simp) (by simp) (by simp) (by simp) hb3
  clear k0 k1 k2 kf hb3
  go_wp2
  exact bodyPost_ret (v := .tuple #[.agg #[.int .i64 0, .string ⟨#[]⟩, .string ⟨#[]⟩], .iface 33 (.int .i64 3)]) (by simp [results, Tryz.results77, go_sem, r0, r1, r2]) rfl ⟨rfl, (((hW1.trans (hX.mono hW1.size)).setCell (Nat.le_refl _) _).setCell (Nat.le_refl _) _).setCell (Nat.le_refl _) _⟩

set_option maxHeartbeats 1600000 in
set_option maxRecDepth 100000 in
theorem parse_f (s : List UInt8) (w : World) (hs : s.length ≤ 40) (k : Nat) (hk : k < s.length) (hi : Lib.indexByte s 58 = k) (x y : List UInt8) (hx : s.take k = x) (hy : s.drop (k + 1) = y) (hp : Vm.pep x = none) (htab : Lib.TabIs Tryz.prog w "internal/strconv.uint64pow10" .u64 Lib.pow10Tab) :
    Calls Tryz.prog 77 #[.string ⟨s.toArray⟩] w fun x w' => x = .returned (.tuple #[.agg #[.int .i64 0, .string ⟨#[]⟩, .string ⟨#[]⟩], .iface 33 (.int .i64 3)]) ∧ Below w.heap.size w w' := by
  have HI := Lib.hid hi
  clear hi
  have HX := Lib.hid hx
  have HY := Lib.hid hy
  have HP := Lib.hid hp
  clear hx hy hp
  have hT := Lib.tabBelow_of_tabIs htab
  clear htab
  have hR : Below w.heap.size w (w.alloc (.cells #[.int .i64 0, .string ⟨#[]⟩, .string ⟨#[]⟩] 37)) := (Below.refl _ _).alloc (Nat.le_refl _) _
  go_enter Tryz.func77, Tryz.ntmps77
  go_wp2_with fail
  refine (clone_any s _ (by omega)).mono ?_
  rintro x w1 ⟨rfl, hb1⟩
  have hz1 : w.heap.size + 1 ≤ w1.heap.size := by have := hb1.size; simp at this; omega
  obtain ⟨k0, k1, k2, kf, kg⟩ := kept3 (g := w.heap.size) (x0 := .int .i64 0) (x1 := .string ⟨#[]⟩) (x2 := .string ⟨#[]⟩) (by simp) (by simp) (by simp) (by simp) (by simp) hb1
  have hW1 : Below w.heap.size w w1 := hR.trans (hb1.mono (by simp))
  go_wp2_with fail
  refine (cut_xy s x y k _ (by omega) hk HI.out HX.out HY.out).mono ?_
  rintro x w2 ⟨rfl, n2, rfl⟩
  go_wp2_with fail
  refine (epoch_no _ HP.out _).mono ?_
  rintro x w2 ⟨rfl, rfl⟩
  go_wp2
  have hX : Below w.heap.size w ((w1.alloc (.cells #[.int .i64 0, .string ⟨s.toArray⟩, .string ⟨#[]⟩] 37)).drewN n2) := below_drewN (hW1.alloc hW1.size _) _
  exact bodyPost_ret (v := .tuple #[.agg #[.int .i64 0, .string ⟨#[]⟩, .string ⟨#[]⟩], .iface 33 (.int .i64 3)]) (by simp [results, Tryz.results77, go_sem, k0, k1, k2, kg]) rfl ⟨rfl, ((hX.setCell (Nat.le_refl _) _).setCell (Nat.le_refl _) _).setCell (Nat.le_refl _) _⟩

end Go.Proofs.YtlldfmnoidndmaaGreatDoor
namespace Go.Proofs.YtlldfmnoidndmaaGreatDoor
open Go.RowKit Go.Shelf Go.Sort

/-- What version.Parse hands back. -/
def pvVal : Option (Int × List UInt8 × List UInt8) → Value
  | none => .tuple #[.agg #[.int .i64 0, .string ⟨#[]⟩, .string ⟨#[]⟩], .iface 33 (.int .i64 3)]
  | some (e, u, r) => .tuple #[.agg #[.int .i64 e, .string ⟨u.toArray⟩, .string ⟨r.toArray⟩], .nilIface]

theorem lc_small {c : UInt8} {y u r : List UInt8} (h : Vm.lc c y = some (u, r)) : u.length ≤ y.length ∧ r.length ≤ y.length := by
  rcases Vm.lc_idx c y with ⟨_, h2⟩ | ⟨k, hk, _, h2⟩
  · rw [h2] at h; cases h
  · rw [h2] at h; cases h; simp; omega

theorem parse_any (s : List UInt8) (w : World) (htab : Lib.TabIs Tryz.prog w "internal/strconv.uint64pow10" .u64 Lib.pow10Tab) :
    Calls Tryz.prog 77 #[.string ⟨s.toArray⟩] w fun x w' => x = .returned (pvVal (Vm.pv s)) ∧ Below w.heap.size w w' := by
  by_cases hs : 40 < s.length
  · have : Vm.pv s = none := by unfold Vm.pv; rw [if_pos hs]
    rw [this]; exact parse_long s w hs
  · have hs' : s.length ≤ 40 := by omega
    rcases Vm.fc_idx 58 s with ⟨hi, hf⟩ | ⟨k, hk, hi, hf⟩
    · have hpv : Vm.pv s = match Vm.lc 45 s with
          | none => if Vm.rt 0 s [] = true then some (0, s, []) else none
          | some (u, r) => if r = [] then none else if Vm.rt 0 u r = true then some (0, u, r) else none := by
        unfold Vm.pv; rw [if_neg hs, hf]; rfl
      rw [hpv]
      rcases Vm.lc_idx 45 s with ⟨hj, hl⟩ | ⟨j, hjl, hj, hl⟩
      · rw [hl]
        cases hb : Vm.rt 0 s [] with
        | true => simpa [pvVal, hb] using parse_n0t s w hs' hi hj ⟨hb⟩ htab
        | false => simpa [pvVal, hb] using parse_n0f s w hs' hi hj ⟨hb⟩ htab
      · rw [hl]
        by_cases hr : s.drop (j + 1) = []
        · simpa [pvVal, hr] using parse_n1 s w hs' hi j hjl hj _ rfl hr htab
        · have hre : (s.drop (j + 1)).isEmpty = false := by
            cases hd : s.drop (j + 1) with
            | nil => exact absurd hd hr
            | cons c t => rfl
          have hsm := lc_small hl
          cases hb : Vm.rt 0 (s.take j) (s.drop (j + 1)) with
          | true =>
            have := parse_n2t s w hs' hi j hjl hj _ _ rfl rfl hre (by omega) (by omega) ⟨hb⟩ htab
            simp only [hr, if_false, hb, if_true]
            exact this
          | false =>
            have := parse_n2f s w hs' hi j hjl hj _ _ rfl rfl hre (by omega) (by omega) ⟨hb⟩ htab
            simp only [hr, if_false, hb, Bool.false_eq_true]
            exact this
    · cases hp : Vm.pep (s.take k) with
      | none =>
        have hpv : Vm.pv s = none := by unfold Vm.pv; rw [if_neg hs, hf]; simp only [hp]
        rw [hpv]; exact parse_f s w hs' k hk hi _ _ rfl rfl hp htab
      | some n =>
        have hpv : Vm.pv s = match Vm.lc 45 (s.drop (k + 1)) with
            | none => if Vm.rt n (s.drop (k + 1)) [] = true then some ((n : Int), s.drop (k + 1), []) else none
            | some (u, r) => if r = [] then none else if Vm.rt n u r = true then some ((n : Int), u, r) else none := by
          unfold Vm.pv; rw [if_neg hs, hf]; simp only [hp]; rfl
        rw [hpv]
        have hn : Ep n := Vm.pep_lt hp
        have hyl : (s.drop (k + 1)).length ≤ 40 := by simp; omega
        rcases Vm.lc_idx 45 (s.drop (k + 1)) with ⟨hj, hl⟩ | ⟨j, hjl, hj, hl⟩
        · rw [hl]
          cases hb : Vm.rt n (s.drop (k + 1)) [] with
          | true =>
            have := parse_s0t s w hs' k hk hi _ _ rfl rfl hyl n hn hp hj ⟨hb⟩ htab
            simp only [if_true]; exact this
          | false =>
            have := parse_s0f s w hs' k hk hi _ _ rfl rfl hyl n hn hp hj ⟨hb⟩ htab
            simp only [Bool.false_eq_true, if_false]; exact this
        · rw [hl]
          by_cases hr : (s.drop (k + 1)).drop (j + 1) = []
          · have := parse_s1 s w hs' k hk hi _ _ rfl rfl hyl n hn hp j hjl hj _ rfl hr htab
            simp only [hr, if_true]; exact this
          · have hre : ((s.drop (k + 1)).drop (j + 1)).isEmpty = false := by
              cases hd : (s.drop (k + 1)).drop (j + 1) with
              | nil => exact absurd hd hr
              | cons c t => rfl
            have hsm := lc_small hl
            cases hb : Vm.rt n ((s.drop (k + 1)).take j) ((s.drop (k + 1)).drop (j + 1)) with
            | true =>
              have := parse_s2t s w hs' k hk hi _ _ rfl rfl hyl n hn hp j hjl hj _ _ rfl rfl hre (by omega) (by omega) ⟨hb⟩ htab
              simp only [hr, if_false, hb, if_true]; exact this
            | false =>
              have := parse_s2f s w hs' k hk hi _ _ rfl rfl hyl n hn hp j hjl hj _ _ rfl rfl hre (by omega) (by omega) ⟨hb⟩ htab
              simp only [hr, if_false, hb, Bool.false_eq_true]; exact this

end Go.Proofs.YtlldfmnoidndmaaGreatDoor
