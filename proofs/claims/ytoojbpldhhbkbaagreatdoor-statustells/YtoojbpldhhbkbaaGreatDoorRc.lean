/- The walk of the reference's Parse. -/
import Derived.Test.YtoojbpldhhbkbaaGreatDoorRb
import Derived.Test.YtoojbpldhhbkbaaGreatDoorPf
namespace Go.Proofs.YtoojbpldhhbkbaaGreatDoor
open Go.RowKit Go.Shelf Go.Sort

/-- What the reference's Parse hands back. -/
def rpVal : Option (Int × List UInt8 × List UInt8) → Value
  | none => .tuple #[.agg #[.int .i64 0, .string ⟨#[]⟩, .string ⟨#[]⟩], .int .i64 3]
  | some (e, u, r) => .tuple #[.agg #[.int .i64 e, .string ⟨u.toArray⟩, .string ⟨r.toArray⟩], .int .i64 0]
/-- What comes of an epoch and the rest. -/
def tv (e : Int) (y : List UInt8) : Option (Int × List UInt8 × List UInt8) := match Vm.lc 45 y with
  | none => if Vm.rt e y [] = true then some (e, y, []) else none
  | some (u, r) => if r = [] then none else if Vm.rt e u r = true then some (e, u, r) else none

theorem bZ (w : World) (A B : Obj) : Below w.heap.size w ((w.alloc A).alloc B) := ((Below.refl _ _).alloc (Nat.le_refl _) _).alloc (by simp) _
theorem bZ.drew (w : World) (A B : Obj) : Below w.heap.size w ((w.alloc A).alloc B).drew := (bZ w A B).drew
theorem bZ.drew.drew (w : World) (A B : Obj) : Below w.heap.size w ((w.alloc A).alloc B).drew.drew := (bZ w A B).drew.drew
structure Rq (e : Int) (u r : List UInt8) (b : Bool) : Prop where
  out : Vm.rt e u r = b
theorem onn {w w1 w2 : World} (h : Below w.heap.size w w1) (k : Below w1.heap.size w1 w2) : Below w.heap.size w w2 := h.trans (k.mono h.size)
theorem is45 {l : List UInt8} {k : Nat} {hk : k < (ByteArray.mk l.toArray).size} (h : ((((ByteArray.mk l.toArray)[k]'hk).toNat : Int) == 45) = true) : l[k]'hk = 45 := by
  have h1 : (((l[k]'hk).toNat : Int) == 45) = true := h
  have h2 : ((l[k]'hk).toNat : Int) = 45 := by simpa using h1
  exact UInt8.toNat_inj.1 (by rw [show (45 : UInt8).toNat = 45 from rfl]; omega)
theorem to45 {l : List UInt8} {k : Nat} {hk : k < (ByteArray.mk l.toArray).size} (h : l[k]'hk = 45) : ((((ByteArray.mk l.toArray)[k]'hk).toNat : Int) == 45) = true := by
  show (((l[k]'hk).toNat : Int) == 45) = true
  rw [h]; rfl

set_option maxHeartbeats 1600000 in
set_option maxRecDepth 100000 in
theorem xp_long (s : List UInt8) (w : World) (hs : 40 < s.length) :
    Calls Tryz.prog 37 #[.string ⟨s.toArray⟩] w fun x w' => x = .returned (rpVal none) ∧ Below w.heap.size w w' := by
  go_enter Tryz.func37, Tryz.ntmps37
  go_wp2
  exact bodyPost_ret (v := rpVal none) (by simp [results, Tryz.results37, go_sem, rpVal]) rfl ⟨rfl, ((Below.refl _ _).alloc (Nat.le_refl _) _).alloc (by simp) _⟩

set_option maxHeartbeats 3200000 in
set_option maxRecDepth 100000 in
theorem xp_n (s : List UInt8) (w : World) (hs : s.length ≤ 40) (hi : Lib.indexByte s 58 = -1) (htab : Lib.TabIs Tryz.prog w "internal/strconv.uint64pow10" .u64 Lib.pow10Tab) :
    Calls Tryz.prog 37 #[.string ⟨s.toArray⟩] w fun x w' => x = .returned (rpVal (tv 0 s)) ∧ Below w.heap.size w w' := by
  have hT := Lib.tabBelow_of_tabIs htab
  clear htab
  have cI : ∀ W, Calls Tryz.prog 54 #[.string ⟨s.toArray⟩, .string ⟨#[58]⟩] W fun e w' => e = .returned (.int .i64 (-1)) ∧ w' = W := fun W => by
    have h := Tryz.strings_Index_one ⟨s.toArray⟩ 58 W
    rw [show (ByteArray.mk s.toArray).data.toList = s from by simp, hi] at h; exact h
  clear hi
  go_enter Tryz.func37, Tryz.ntmps37
  go_wp2_with (go_at_call 54; refine (cI _).mono ?_; rintro x w' ⟨rfl, rfl⟩)
  go_loop [9] (fun i => ∃ k : Nat, k ≤ s.length ∧ i = .int .i64 ((k : Int) - 1) ∧ Hid (∀ j (hj : j < s.length), k ≤ j → s[j] ≠ 45)) (fun i => (intOf i + 1).toNat)
  case atStart => exact ⟨s.length, Nat.le_refl _, by go_num, fun j hj h => absurd hj (by omega)⟩
  case round =>
    obtain ⟨k, hk, rfl, HP⟩ := hrel
    cases k with
    | zero =>
      have hl : Vm.lc 45 s = none := Vm.lc_none 45 s (fun x hx => by
        obtain ⟨j, hj, rfl⟩ := List.getElem_of_mem hx
        exact HP.out j hj (Nat.zero_le _))
      have hv : tv 0 s = if Vm.rt 0 s [] = true then some (0, s, []) else none := by unfold tv; rw [hl]
      clear hl HP
      cases hb : Vm.rt 0 s [] with
      | false =>
        have HR := Lib.hid hb
        have HV : Hid (tv 0 s = none) := by show tv 0 s = _; rw [hv, hb]; rfl
        clear hv hb
        go_wp2_with fail
        refine (xright_any 0 s [] _ (by decide) (by decide) (by omega) (by decide) (hT _ (bZ _ _ _))).mono ?_
        rintro x w1 ⟨rfl, b1⟩
        rw [HR.out]
        obtain ⟨z0, z1, z2, zf, zl⟩ := kept3 (g := w.heap.size) (x0 := .int .i64 0) (x1 := .string ⟨#[]⟩) (x2 := .string ⟨#[]⟩) (by simp [go_sem, World.cell?_alloc_past]) (by simp [go_sem, World.cell?_alloc_past]) (by simp [go_sem, World.cell?_alloc_past]) (by simp [go_sem]) (by simp; try omega) b1
        have bw := onn (bZ _ _ _) b1
        clear b1
        go_wp2_with fail
        rw [HV.out]
        exact bodyPost_ret (v := rpVal none) (by simp [results, Tryz.results37, go_sem, rpVal, z0, z1, z2]) rfl ⟨rfl, ((bw.setCell (Nat.le_refl _) _).setCell (Nat.le_refl _) _).setCell (Nat.le_refl _) _⟩
      | true =>
        have HR := Lib.hid hb
        have HV : Hid (tv 0 s = some (0, s, [])) := by show tv 0 s = _; rw [hv, hb]; rfl
        clear hv hb
        go_wp2_with fail
        refine (xright_any 0 s [] _ (by decide) (by decide) (by omega) (by decide) (hT _ (bZ _ _ _))).mono ?_
        rintro x w1 ⟨rfl, b1⟩
        rw [HR.out]
        obtain ⟨z0, z1, z2, zf, zl⟩ := kept3 (g := w.heap.size) (x0 := .int .i64 0) (x1 := .string ⟨#[]⟩) (x2 := .string ⟨#[]⟩) (by simp [go_sem, World.cell?_alloc_past]) (by simp [go_sem, World.cell?_alloc_past]) (by simp [go_sem, World.cell?_alloc_past]) (by simp [go_sem]) (by simp; try omega) b1
        obtain ⟨y0, y1, y2, yf, yl⟩ := kept3 (g := w.heap.size + 1) (x0 := .int .i64 0) (x1 := .string ⟨s.toArray⟩) (x2 := .string ⟨#[]⟩) (by simp [go_sem]) (by simp [go_sem]) (by simp [go_sem]) (by simp [go_sem]) (by simp) b1
        have bw := onn (bZ _ _ _) b1
        clear b1
        go_wp2_with fail
        rw [HV.out]
        exact bodyPost_ret (v := rpVal (some (0, s, []))) (by simp [results, Tryz.results37, go_sem, rpVal, z0, z1, z2]) rfl ⟨rfl, ((bw.setCell (Nat.le_refl _) _).setCell (Nat.le_refl _) _).setCell (Nat.le_refl _) _⟩
    | succ k =>
      by_cases hc : ((((ByteArray.mk s.toArray)[k]'hk).toNat : Int) == 45) = true
      · have hl : Vm.lc 45 s = some (s.take k, s.drop (k + 1)) := Vm.lc_at 45 s k hk (is45 hc) (fun j hj h => HP.out j hj (by omega))
        have hx : (ByteArray.mk s.toArray).extract 0 k = ⟨(s.take k).toArray⟩ := by apply ByteArray.ext; simp
        have hy : (ByteArray.mk s.toArray).extract (k + 1) s.length = ⟨(s.drop (k + 1)).toArray⟩ := by apply ByteArray.ext; simp; exact List.take_of_length_le (by simp)
        have hv : tv 0 s = if s.drop (k + 1) = [] then none else if Vm.rt 0 (s.take k) (s.drop (k + 1)) = true then some (0, s.take k, s.drop (k + 1)) else none := by unfold tv; rw [hl]
        have hul : (s.take k).length ≤ 40 := by simp; omega
        have hrl : (s.drop (k + 1)).length ≤ 40 := by simp; omega
        clear hl HP
        generalize s.take k = u at *
        generalize s.drop (k + 1) = r at *
        by_cases hr : r = []
        · subst hr
          have HV : Hid (tv 0 s = none) := by show tv 0 s = _; rw [hv, if_pos rfl]
          clear hv
          go_wp2_with fail
          go_region
          all_goals go_wp2_with fail
          all_goals rw [HV.out]
          all_goals exact bodyPost_ret (v := rpVal none) (by simp [results, Tryz.results37, go_sem, rpVal, World.cell?_alloc_past]) rfl ⟨rfl, bZ.drew _ _ _⟩
        · have hre : r.isEmpty = false := by cases r with
            | nil => exact absurd rfl hr
            | cons c r => rfl
          cases hb : Vm.rt 0 u r with
          | false =>
            have HR : Rq 0 u r _ := ⟨hb⟩
            have HV : Hid (tv 0 s = none) := by show tv 0 s = _; rw [hv, if_neg hr, hb]; rfl
            clear hv hb
            go_wp2_with fail
            go_region
            all_goals go_wp2_with fail
            all_goals refine (xright_any 0 u r _ (by decide) (by decide) (by omega) (by omega) (hT _ (bZ.drew _ _ _))).mono ?_
            all_goals rintro x w1 ⟨rfl, b1⟩
            all_goals rw [HR.out]
            all_goals
              obtain ⟨z0, z1, z2, zf, zl⟩ := kept3 (g := w.heap.size) (x0 := .int .i64 0) (x1 := .string ⟨#[]⟩) (x2 := .string ⟨#[]⟩) (by simp [go_sem, World.cell?_alloc_past]) (by simp [go_sem, World.cell?_alloc_past]) (by simp [go_sem, World.cell?_alloc_past]) (by simp [go_sem]) (by simp; try omega) b1
              have bw := onn (bZ.drew _ _ _) b1
              clear b1
              go_wp2_with fail
              rw [HV.out]
              exact bodyPost_ret (v := rpVal none) (by simp [results, Tryz.results37, go_sem, rpVal, z0, z1, z2]) rfl ⟨rfl, ((bw.setCell (Nat.le_refl _) _).setCell (Nat.le_refl _) _).setCell (Nat.le_refl _) _⟩
          | true =>
            have HR : Rq 0 u r _ := ⟨hb⟩
            have HV : Hid (tv 0 s = some (0, u, r)) := by show tv 0 s = _; rw [hv, if_neg hr, hb]; rfl
            clear hv hb
            go_wp2_with fail
            go_region
            all_goals go_wp2_with fail
            all_goals refine (xright_any 0 u r _ (by decide) (by decide) (by omega) (by omega) (hT _ (bZ.drew _ _ _))).mono ?_
            all_goals rintro x w1 ⟨rfl, b1⟩
            all_goals rw [HR.out]
            all_goals
              obtain ⟨z0, z1, z2, zf, zl⟩ := kept3 (g := w.heap.size) (x0 := .int .i64 0) (x1 := .string ⟨#[]⟩) (x2 := .string ⟨#[]⟩) (by simp [go_sem, World.cell?_alloc_past]) (by simp [go_sem, World.cell?_alloc_past]) (by simp [go_sem, World.cell?_alloc_past]) (by simp [go_sem]) (by simp; try omega) b1
              obtain ⟨y0, y1, y2, yf, yl⟩ := kept3 (g := w.heap.size + 1) (x0 := .int .i64 0) (x1 := .string ⟨u.toArray⟩) (x2 := .string ⟨r.toArray⟩) (by simp [go_sem]) (by simp [go_sem]) (by simp [go_sem]) (by simp [go_sem]) (by simp) b1
              have bw := onn (bZ.drew _ _ _) b1
              clear b1
              go_wp2_with fail
              rw [HV.out]
              exact bodyPost_ret (v := rpVal (some (0, u, r))) (by simp [results, Tryz.results37, go_sem, rpVal, z0, z1, z2]) rfl ⟨rfl, ((bw.setCell (Nat.le_refl _) _).setCell (Nat.le_refl _) _).setCell (Nat.le_refl _) _⟩
      · go_wp2_with fail
        exact ⟨⟨k, by omega, rfl, fun j hj h => by
          by_cases e : j = k
          · subst e; exact fun e => hc (to45 e)
          · exact HP.out j hj (by omega)⟩, by simp [intOf]⟩

theorem num_some (l : List UInt8) (n : Nat) (h : Vm.pep l = some n) (w : World) : Calls Tryz.prog 36 #[.string ⟨l.toArray⟩, .int .i64 9] w fun e w' => e = .returned (.tuple #[.int .i64 n, .bool true]) ∧ w' = w := by
  have := num_any l w; rw [h] at this; exact this
theorem num_no (l : List UInt8) (h : Vm.pep l = none) (w : World) : Calls Tryz.prog 36 #[.string ⟨l.toArray⟩, .int .i64 9] w fun e w' => e = .returned (.tuple #[.int .i64 0, .bool false]) ∧ w' = w := by
  have := num_any l w; rw [h] at this; exact this

set_option maxHeartbeats 1600000 in
set_option maxRecDepth 100000 in
theorem xp_f (s : List UInt8) (w : World) (hs : s.length ≤ 40) (k0 : Nat) (hk0 : k0 < s.length) (hi : Lib.indexByte s 58 = k0) (hp : Vm.pep (s.take k0) = none) :
    Calls Tryz.prog 37 #[.string ⟨s.toArray⟩] w fun x w' => x = .returned (rpVal none) ∧ Below w.heap.size w w' := by
  have cI : ∀ W, Calls Tryz.prog 54 #[.string ⟨s.toArray⟩, .string ⟨#[58]⟩] W fun e w' => e = .returned (.int .i64 k0) ∧ w' = W := fun W => by
    have h := Tryz.strings_Index_one ⟨s.toArray⟩ 58 W
    rw [show (ByteArray.mk s.toArray).data.toList = s from by simp, hi] at h; exact h
  have hx0 : (ByteArray.mk s.toArray).extract 0 k0 = ⟨(s.take k0).toArray⟩ := by apply ByteArray.ext; simp
  have cN := num_no _ hp
  clear hi hp
  generalize s.take k0 = x0 at *
  go_enter Tryz.func37, Tryz.ntmps37
  go_wp2_with (first | (go_at_call 54; refine (cI _).mono ?_; rintro x w' ⟨rfl, rfl⟩) | (go_at_call 36; refine (cN _).mono ?_; rintro x w' ⟨rfl, rfl⟩))
  exact bodyPost_ret (v := rpVal none) (by simp [results, Tryz.results37, go_sem, rpVal, World.cell?_alloc_past]) rfl ⟨rfl, bZ _ _ _⟩

set_option maxHeartbeats 3200000 in
set_option maxRecDepth 100000 in
theorem xp_c (s : List UInt8) (w : World) (hs : s.length ≤ 40) (k0 : Nat) (hk0 : k0 < s.length) (hi : Lib.indexByte s 58 = k0) (n : Nat) (hp : Vm.pep (s.take k0) = some n) (hn : Ep n) (htab : Lib.TabIs Tryz.prog w "internal/strconv.uint64pow10" .u64 Lib.pow10Tab) :
    Calls Tryz.prog 37 #[.string ⟨s.toArray⟩] w fun x w' => x = .returned (rpVal (tv n (s.drop (k0 + 1)))) ∧ Below w.heap.size w w' := by
  have hT := Lib.tabBelow_of_tabIs htab
  clear htab
  have cI : ∀ W, Calls Tryz.prog 54 #[.string ⟨s.toArray⟩, .string ⟨#[58]⟩] W fun e w' => e = .returned (.int .i64 k0) ∧ w' = W := fun W => by
    have h := Tryz.strings_Index_one ⟨s.toArray⟩ 58 W
    rw [show (ByteArray.mk s.toArray).data.toList = s from by simp, hi] at h; exact h
  have hx0 : (ByteArray.mk s.toArray).extract 0 k0 = ⟨(s.take k0).toArray⟩ := by apply ByteArray.ext; simp
  have hy0 : (ByteArray.mk s.toArray).extract (k0 + 1) s.length = ⟨(s.drop (k0 + 1)).toArray⟩ := by apply ByteArray.ext; simp; exact List.take_of_length_le (by simp)
  have hyl : (s.drop (k0 + 1)).length ≤ 40 := by simp; omega
  have cN := num_some _ n hp
  have ln : -9223372036854775808 ≤ (n : Int) := by omega
  have LN := Lib.hid ln
  have LE := Lib.hid (ep_le hn)
  clear hi hp ln hn
  generalize s.take k0 = x0 at *
  generalize s.drop (k0 + 1) = y at *
  go_enter Tryz.func37, Tryz.ntmps37
  go_wp2_with (first | (go_at_call 54; refine (cI _).mono ?_; rintro x w' ⟨rfl, rfl⟩) | (go_at_call 36; refine (cN _).mono ?_; rintro x w' ⟨rfl, rfl⟩))
  go_region
  go_wp2_with fail
  go_loop [9] (fun i => ∃ k : Nat, k ≤ y.length ∧ i = .int .i64 ((k : Int) - 1) ∧ Hid (∀ j (hj : j < y.length), k ≤ j → y[j] ≠ 45)) (fun i => (intOf i + 1).toNat)
  case atStart => exact ⟨y.length, Nat.le_refl _, by go_num, fun j hj h => absurd hj (by omega)⟩
  case round =>
    obtain ⟨k, hk, rfl, HP⟩ := hrel
    cases k with
    | zero =>
      have hl : Vm.lc 45 y = none := Vm.lc_none 45 y (fun x hx => by
        obtain ⟨j, hj, rfl⟩ := List.getElem_of_mem hx
        exact HP.out j hj (Nat.zero_le _))
      have hv : tv (n : Int) y = if Vm.rt (n : Int) y [] = true then some ((n : Int), y, []) else none := by unfold tv; rw [hl]
      clear hl HP
      cases hb : Vm.rt (n : Int) y [] with
      | false =>
        have HR := Lib.hid hb
        have HV : Hid (tv (n : Int) y = none) := by show tv (n : Int) y = _; rw [hv, hb]; rfl
        clear hv hb
        go_wp2_with fail
        refine (xright_any (n : Int) y [] _ LN.out LE.out (by omega) (by decide) (hT _ (bZ.drew _ _ _))).mono ?_
        rintro x w1 ⟨rfl, b1⟩
        rw [HR.out]
        obtain ⟨z0, z1, z2, zf, zl⟩ := kept3 (g := w.heap.size) (x0 := .int .i64 0) (x1 := .string ⟨#[]⟩) (x2 := .string ⟨#[]⟩) (by simp [go_sem, World.cell?_alloc_past]) (by simp [go_sem, World.cell?_alloc_past]) (by simp [go_sem, World.cell?_alloc_past]) (by simp [go_sem]) (by simp; try omega) b1
        have bw := onn (bZ.drew _ _ _) b1
        clear b1
        go_wp2_with fail
        rw [HV.out]
        exact bodyPost_ret (v := rpVal none) (by simp [results, Tryz.results37, go_sem, rpVal, z0, z1, z2]) rfl ⟨rfl, ((bw.setCell (Nat.le_refl _) _).setCell (Nat.le_refl _) _).setCell (Nat.le_refl _) _⟩
      | true =>
        have HR := Lib.hid hb
        have HV : Hid (tv (n : Int) y = some ((n : Int), y, [])) := by show tv (n : Int) y = _; rw [hv, hb]; rfl
        clear hv hb
        go_wp2_with fail
        refine (xright_any (n : Int) y [] _ LN.out LE.out (by omega) (by decide) (hT _ (bZ.drew _ _ _))).mono ?_
        rintro x w1 ⟨rfl, b1⟩
        rw [HR.out]
        obtain ⟨z0, z1, z2, zf, zl⟩ := kept3 (g := w.heap.size) (x0 := .int .i64 0) (x1 := .string ⟨#[]⟩) (x2 := .string ⟨#[]⟩) (by simp [go_sem, World.cell?_alloc_past]) (by simp [go_sem, World.cell?_alloc_past]) (by simp [go_sem, World.cell?_alloc_past]) (by simp [go_sem]) (by simp; try omega) b1
        obtain ⟨y0, y1, y2, yf, yl⟩ := kept3 (g := w.heap.size + 1) (x0 := .int .i64 (n : Int)) (x1 := .string ⟨y.toArray⟩) (x2 := .string ⟨#[]⟩) (by simp [go_sem]) (by simp [go_sem]) (by simp [go_sem]) (by simp [go_sem]) (by simp) b1
        have bw := onn (bZ.drew _ _ _) b1
        clear b1
        go_wp2_with fail
        rw [HV.out]
        exact bodyPost_ret (v := rpVal (some ((n : Int), y, []))) (by simp [results, Tryz.results37, go_sem, rpVal, z0, z1, z2]) rfl ⟨rfl, ((bw.setCell (Nat.le_refl _) _).setCell (Nat.le_refl _) _).setCell (Nat.le_refl _) _⟩
    | succ k =>
      by_cases hc : ((((ByteArray.mk y.toArray)[k]'hk).toNat : Int) == 45) = true
      · have hl : Vm.lc 45 y = some (y.take k, y.drop (k + 1)) := Vm.lc_at 45 y k hk (is45 hc) (fun j hj h => HP.out j hj (by omega))
        have hx : (ByteArray.mk y.toArray).extract 0 k = ⟨(y.take k).toArray⟩ := by apply ByteArray.ext; simp
        have hy : (ByteArray.mk y.toArray).extract (k + 1) y.length = ⟨(y.drop (k + 1)).toArray⟩ := by apply ByteArray.ext; simp; exact List.take_of_length_le (by simp)
        have hv : tv (n : Int) y = if y.drop (k + 1) = [] then none else if Vm.rt (n : Int) (y.take k) (y.drop (k + 1)) = true then some ((n : Int), y.take k, y.drop (k + 1)) else none := by unfold tv; rw [hl]
        have hul : (y.take k).length ≤ 40 := by simp; omega
        have hrl : (y.drop (k + 1)).length ≤ 40 := by simp; omega
        clear hl HP
        generalize y.take k = u at *
        generalize y.drop (k + 1) = r at *
        by_cases hr : r = []
        · subst hr
          have HV : Hid (tv (n : Int) y = none) := by show tv (n : Int) y = _; rw [hv, if_pos rfl]
          clear hv
          go_wp2_with fail
          go_region
          all_goals go_wp2_with fail
          all_goals rw [HV.out]
          all_goals exact bodyPost_ret (v := rpVal none) (by simp [results, Tryz.results37, go_sem, rpVal, World.cell?_alloc_past]) rfl ⟨rfl, bZ.drew.drew _ _ _⟩
        · have hre : r.isEmpty = false := by cases r with
            | nil => exact absurd rfl hr
            | cons c r => rfl
          cases hb : Vm.rt (n : Int) u r with
          | false =>
            have HR : Rq (n : Int) u r _ := ⟨hb⟩
            have HV : Hid (tv (n : Int) y = none) := by show tv (n : Int) y = _; rw [hv, if_neg hr, hb]; rfl
            clear hv hb
            go_wp2_with fail
            go_region
            all_goals go_wp2_with fail
            all_goals refine (xright_any (n : Int) u r _ LN.out LE.out (by omega) (by omega) (hT _ (bZ.drew.drew _ _ _))).mono ?_
            all_goals rintro x w1 ⟨rfl, b1⟩
            all_goals rw [HR.out]
            all_goals
              obtain ⟨z0, z1, z2, zf, zl⟩ := kept3 (g := w.heap.size) (x0 := .int .i64 0) (x1 := .string ⟨#[]⟩) (x2 := .string ⟨#[]⟩) (by simp [go_sem, World.cell?_alloc_past]) (by simp [go_sem, World.cell?_alloc_past]) (by simp [go_sem, World.cell?_alloc_past]) (by simp [go_sem]) (by simp; try omega) b1
              have bw := onn (bZ.drew.drew _ _ _) b1
              clear b1
              go_wp2_with fail
              rw [HV.out]
              exact bodyPost_ret (v := rpVal none) (by simp [results, Tryz.results37, go_sem, rpVal, z0, z1, z2]) rfl ⟨rfl, ((bw.setCell (Nat.le_refl _) _).setCell (Nat.le_refl _) _).setCell (Nat.le_refl _) _⟩
          | true =>
            have HR : Rq (n : Int) u r _ := ⟨hb⟩
            have HV : Hid (tv (n : Int) y = some ((n : Int), u, r)) := by show tv (n : Int) y = _; rw [hv, if_neg hr, hb]; rfl
            clear hv hb
            go_wp2_with fail
            go_region
            all_goals go_wp2_with fail
            all_goals refine (xright_any (n : Int) u r _ LN.out LE.out (by omega) (by omega) (hT _ (bZ.drew.drew _ _ _))).mono ?_
            all_goals rintro x w1 ⟨rfl, b1⟩
            all_goals rw [HR.out]
            all_goals
              obtain ⟨z0, z1, z2, zf, zl⟩ := kept3 (g := w.heap.size) (x0 := .int .i64 0) (x1 := .string ⟨#[]⟩) (x2 := .string ⟨#[]⟩) (by simp [go_sem, World.cell?_alloc_past]) (by simp [go_sem, World.cell?_alloc_past]) (by simp [go_sem, World.cell?_alloc_past]) (by simp [go_sem]) (by simp; try omega) b1
              obtain ⟨y0, y1, y2, yf, yl⟩ := kept3 (g := w.heap.size + 1) (x0 := .int .i64 (n : Int)) (x1 := .string ⟨u.toArray⟩) (x2 := .string ⟨r.toArray⟩) (by simp [go_sem]) (by simp [go_sem]) (by simp [go_sem]) (by simp [go_sem]) (by simp) b1
              have bw := onn (bZ.drew.drew _ _ _) b1
              clear b1
              go_wp2_with fail
              rw [HV.out]
              exact bodyPost_ret (v := rpVal (some ((n : Int), u, r))) (by simp [results, Tryz.results37, go_sem, rpVal, z0, z1, z2]) rfl ⟨rfl, ((bw.setCell (Nat.le_refl _) _).setCell (Nat.le_refl _) _).setCell (Nat.le_refl _) _⟩
      · go_wp2_with fail
        exact ⟨⟨k, by omega, rfl, fun j hj h => by
          by_cases e : j = k
          · subst e; exact fun e => hc (to45 e)
          · exact HP.out j hj (by omega)⟩, by simp [intOf]⟩

/-- The reference's Parse, whole. -/
theorem xparse_any (s : List UInt8) (w : World) (htab : Lib.TabIs Tryz.prog w "internal/strconv.uint64pow10" .u64 Lib.pow10Tab) :
    Calls Tryz.prog 37 #[.string ⟨s.toArray⟩] w fun x w' => x = .returned (rpVal (Vm.pv s)) ∧ Below w.heap.size w w' := by
  by_cases hs : 40 < s.length
  · have : Vm.pv s = none := by unfold Vm.pv; rw [if_pos hs]
    rw [this]; exact xp_long s w hs
  · have hs' : s.length ≤ 40 := by omega
    rcases Vm.fc_idx 58 s with ⟨hi, hf⟩ | ⟨k, hk, hi, hf⟩
    · have hpv : Vm.pv s = tv 0 s := by unfold Vm.pv tv; rw [if_neg hs, hf]; rfl
      rw [hpv]; exact xp_n s w hs' hi htab
    · cases hp : Vm.pep (s.take k) with
      | none =>
        have hpv : Vm.pv s = none := by unfold Vm.pv; rw [if_neg hs, hf]; simp only [hp]
        rw [hpv]; exact xp_f s w hs' k hk hi hp
      | some n =>
        have hpv : Vm.pv s = tv n (s.drop (k + 1)) := by unfold Vm.pv tv; rw [if_neg hs, hf]; simp only [hp]; rfl
        rw [hpv]; exact xp_c s w hs' k hk hi n hp (Vm.pep_lt hp) htab

end Go.Proofs.YtoojbpldhhbkbaaGreatDoor
