/- The walk of version.Print. -/
import Derived.Test.YtlldfmnoidndmaaGreatDoorCx
import Derived.Test.YtlldfmnoidndmaaGreatDoorVx
import Derived.Test.YtlldfmnoidndmaaGreatDoorSh
import Derived.Lib.AppendIntMem
import Derived.Lib.AppendStr
import Derived.Lib.ItoaLen
import Derived.Lib.Slices
import Derived.Lib.Hide
import Derived.Laws.IdiomStrings
import Derived.OwnWalk
import Derived.BigCall
import Derived.Laws.BytesArg
namespace Go.Proofs.YtlldfmnoidndmaaGreatDoor
open Go.RowKit Go.Shelf

theorem infoByte : (Tryz.prog.info? 5).map (fun i => (i.zero, i.size, i.bytes)) = some (some (.int .u8 0), 1, 1) := by kernel_rfl

theorem conv_owned {w : World} {B : Nat} {v : Value} {l : List UInt8} (h : w.ownsRow B 5 1 v l.length (Lib.byteCells l)) : (convert 145 9 v).run Tryz.prog w = .ok (.string ⟨l.toArray⟩) w := by
  rcases h.2 with ⟨rfl, h0⟩ | ⟨g, cap, cur, rfl, -, -, -, -, -, -⟩
  · have : l = [] := List.length_eq_zero_iff.1 h0
    subst this
    exact run_convert_bytes_nil w 145 5 Tryz.underlying145 Tryz.underlying5 0 0 9 Tryz.underlying9
  · exact run_convert_bytes_back (P := Tryz.prog) w 145 9 5 ⟨g, 0, none⟩ cap l Tryz.underlying145 Tryz.underlying5 Tryz.underlying9 (fun j hj => h.cells (g := g) rfl j _ (by simp [Lib.byteCells, hj]))

theorem step_below {B : Nat} {W wA w2 : World} {v : Value} {n : Nat} {xs : List Value} (hb : Below B W wA) (hown : wA.ownsRow B 5 1 v n xs) (hg : wA.grownBy w2 v.ownBlock) (hB : B ≤ wA.heap.size) : Below B W w2 :=
  hb.grown hg hB (fun k hk => (hown.lt k hk).1)

theorem own_str {w : World} {B : Nat} {v : Value} {l u : List UInt8} (h : w.ownsRow B 5 1 v (l.length + (ByteArray.mk u.toArray).size) (Lib.byteCells l ++ Lib.strCells ⟨u.toArray⟩)) : w.ownsRow B 5 1 v (l ++ u).length (Lib.byteCells (l ++ u)) := by
  have e1 : Lib.byteCells l ++ Lib.strCells ⟨u.toArray⟩ = Lib.byteCells (l ++ u) := by simp [Lib.byteCells, Lib.strCells]
  have e2 : l.length + (ByteArray.mk u.toArray).size = (l ++ u).length := by simp [ByteArray.size]
  rw [e1, e2] at h; exact h
theorem own_one {w : World} {B : Nat} {v : Value} {l : List UInt8} {c : UInt8} (h : w.ownsRow B 5 1 v (l.length + 1) (Lib.byteCells l ++ [Value.int .u8 c.toNat])) : w.ownsRow B 5 1 v (l ++ [c]).length (Lib.byteCells (l ++ [c])) := by
  have e1 : Lib.byteCells l ++ [Value.int .u8 c.toNat] = Lib.byteCells (l ++ [c]) := by simp [Lib.byteCells]
  have e2 : l.length + 1 = (l ++ [c]).length := by simp
  rw [e1, e2] at h; exact h
theorem size_le {l : List UInt8} {n : Nat} (h : l.length ≤ n) : (ByteArray.mk l.toArray).size ≤ n := h
theorem cell1 {w : World} (c : Int) : ∀ (j : Nat) (u' : Value), [Value.int .u8 c][j]? = some u' → (w.alloc (.cells #[.int .u8 c] 5)).cell? ((⟨w.heap.size, 0, none⟩ : Addr).add j) = some u' := by
  intro j u' hj
  match j, hj with
  | 0, hj => simp at hj; subst hj; simp [Addr.add]
theorem cell1_one (c : Int) : ∀ u' ∈ [Value.int .u8 c], u'.oneCell' = true := by
  intro u' hu'; simp at hu'; subst hu'; rfl

set_option maxHeartbeats 3200000 in
set_option maxRecDepth 100000 in
theorem print_any (e : Int) (u r : List UInt8) (w : World) (h0 : -9223372036854775808 ≤ e) (h1 : e ≤ 9223372036854775807) (hu : u.length ≤ 200) (hr : r.length ≤ 200) (htab : Lib.TabIs Tryz.prog w "internal/strconv.uint64pow10" .u64 Lib.pow10Tab) :
    Calls Tryz.prog 190 #[.agg #[.int .i64 e, .string ⟨u.toArray⟩, .string ⟨r.toArray⟩]] w fun x w' => x = .returned (.string ⟨(Vm.pt e u r).toArray⟩) ∧ Below w.heap.size w w' := by
  obtain ⟨i0, hi, hz0, hz1, hz2⟩ := info_parts infoByte
  have hT0 := Lib.tabBelow_of_tabIs htab
  have le := Lib.itoa_length_le e h0 h1
  obtain ⟨box, hbox⟩ : ∃ o : Obj, o = .cells #[.int .i64 e, .string ⟨u.toArray⟩, .string ⟨r.toArray⟩] 37 := ⟨_, rfl⟩
  have HB := Lib.hid hbox
  have hbA : Below w.heap.size w (w.alloc box) := (Below.refl _ _).alloc (Nat.le_refl _) _
  have hT : Lib.TabBelow Tryz.prog (w.heap.size + 1) (w.alloc box) "internal/strconv.uint64pow10" .u64 Lib.pow10Tab := fun w' hb => hT0 w' (hbA.trans (hb.mono (Nat.le_succ _)))
  rw [hbox] at hT hbA
  clear hbox HB box htab hT0
  by_cases he : e = 0
  · subst he
    obtain ⟨l0, hl0⟩ : ∃ l : List UInt8, l = Vm.pe 0 := ⟨_, rfl⟩
    have HL : Hid (l0 = Vm.pe 0) := hl0
    have hn : l0.length = 0 := by rw [hl0]; rfl
    have hln : l0.length ≤ 30 := by omega
    have hown2 : (w.alloc (.cells #[.int .i64 0, .string ⟨u.toArray⟩, .string ⟨r.toArray⟩] 37)).ownsRow (w.heap.size + 1) 5 1 (.slice none 0 0) l0.length (Lib.byteCells l0) := by
      rw [hl0]; exact World.ownsRow_nil _ _ _ _
    clear hl0 hn
    have hb2 : Below (w.heap.size + 1) (w.alloc (.cells #[.int .i64 0, .string ⟨u.toArray⟩, .string ⟨r.toArray⟩] 37)) (w.alloc (.cells #[.int .i64 0, .string ⟨u.toArray⟩, .string ⟨r.toArray⟩] 37)) := Below.refl _ _
    go_enter Tryz.func190, Tryz.ntmps190
    go_wp2_with (at_builtin; refine Lib.wpList_append_own_string _ rfl _ _ 145 9 rfl (w.heap.size + 1) 5 i0 Tryz.underlying145 Tryz.underlying9 hi hz0 hz1 hz2 _ _ _ rfl hown2 ⟨u.toArray⟩ rfl ?h1 ?h2 ?h3 ?_)
    case h1 => have := size_le hu; unfold maxLen; omega
    case h2 => have := size_le hu; omega
    case h3 => simp
    intro v3 w3 hown3 hgrow3 _
    have hb3 := step_below hb2 hown2 hgrow3 (by simp)
    have hown3' := own_str hown3
    clear hown3 hgrow3 hown2
    have hl3 : (l0 ++ u).length ≤ 230 := by simp; omega
    obtain ⟨l3, hl3'⟩ : ∃ l, l = l0 ++ u := ⟨_, rfl⟩
    rw [← hl3'] at hown3' hl3
    have HL3 : Hid (l3 = l0 ++ u) := hl3'
    clear hl3'
    have hz3 : w.heap.size + 1 ≤ w3.heap.size := by have := hb3.size; simp at this; omega
    have c2 : w3.cell? ⟨w.heap.size, 2, none⟩ = some (.string ⟨r.toArray⟩) := by rw [hb3.cell (by simp)]; simp
    by_cases hr0 : r = []
    · subst hr0
      have hcv := conv_owned hown3'
      go_wp2
      go_ret
      exact ⟨by rw [HL3.out, HL.out]; simp [Vm.pt, Vm.pr], hbA.trans (hb3.mono (Nat.le_succ _))⟩
    · have hre : r.isEmpty = false := by cases r with
        | nil => exact absurd rfl hr0
        | cons c r => rfl
      go_wp2_with (at_builtin; refine wpList_append_own _ rfl _ _ 145 rfl (w.heap.size + 1) 5 i0 (.int .u8 0) 1 1 Tryz.underlying145 hi hz0 hz1 hz2 rfl (by decide) _ _ _ rfl (hown3'.alloc _) ⟨w3.heap.size, 0, none⟩ 1 1 [Value.int .u8 45] rfl rfl (cell1 45) (cell1_one 45) ?g1 ?g2 ?g3 ?_)
      case g1 => unfold maxLen; omega
      case g2 => omega
      case g3 => simp; omega
      intro v4 w4 hown4 hgrow4 _
      have hb4 := step_below (hb3.alloc hz3 _) (hown3'.alloc _) hgrow4 (by simp; omega)
      have hown4' := own_one (c := 45) hown4
      have hl4 : (l3 ++ [45]).length ≤ 231 := by simp; omega
      obtain ⟨l4, hl4'⟩ : ∃ l, l = l3 ++ [45] := ⟨_, rfl⟩
      rw [← hl4'] at hown4' hl4
      have HL4 : Hid (l4 = l3 ++ [45]) := hl4'
      clear hl4' hown4 hgrow4 hown3'
      have hz4 : w.heap.size + 1 ≤ w4.heap.size := by have := hb4.size; simp at this; omega
      have c4 : w4.cell? ⟨w.heap.size, 2, none⟩ = some (.string ⟨r.toArray⟩) := by rw [hb4.cell (by simp)]; simp
      go_wp2_with (at_builtin; refine Lib.wpList_append_own_string _ rfl _ _ 145 9 rfl (w.heap.size + 1) 5 i0 Tryz.underlying145 Tryz.underlying9 hi hz0 hz1 hz2 _ _ _ rfl hown4' ⟨r.toArray⟩ rfl ?h1 ?h2 ?h3 ?_)
      case h1 => have := size_le hr; unfold maxLen; omega
      case h2 => have := size_le hr; omega
      case h3 => exact hz4
      intro v5 w5 hown5 hgrow5 _
      have hb5 := step_below hb4 hown4' hgrow5 hz4
      have hown5' := own_str hown5
      obtain ⟨l5, hl5'⟩ : ∃ l, l = l4 ++ r := ⟨_, rfl⟩
      rw [← hl5'] at hown5'
      have HL5 : Hid (l5 = l4 ++ r) := hl5'
      clear hl5' hown5 hgrow5 hown4'
      have hcv := conv_owned hown5'
      go_wp2
      go_ret
      exact ⟨by rw [HL5.out, HL4.out, HL3.out, HL.out]; simp [Vm.pt, Vm.pr, hr0], hbA.trans (hb5.mono (Nat.le_succ _))⟩
  · have hne : (e != 0) = true := by simpa using he
    obtain ⟨li, hli⟩ : ∃ l : List UInt8, l = Lib.itoa e := ⟨_, rfl⟩
    have HI : Hid (li = Lib.itoa e) := hli
    rw [← hli] at le
    have HLE : Hid ((Lib.itoa e).length = li.length) := by show _ = _; rw [hli]
    clear hli
    go_enter Tryz.func190, Tryz.ntmps190
    go_wp2_with (go_at_call 207; refine (Tryz.strconv_AppendInt_10 (w.heap.size + 1) 0 e h0 h1 (.slice none 0 0) [] _ (World.ownsRow_nil _ _ _ _) (by simp) (by omega) hT).mono ?_; rintro x w1 ⟨v1, rfl, hown1, hnx1, -⟩; refine Hid.out ?_)
    refine Lib.hid ?_
    rw [Nat.zero_add, List.nil_append, ← HI.out] at hown1
    have hz1' : w.heap.size + 1 ≤ w1.heap.size := by have := hnx1.size; simp at this; omega
    go_wp2_with (at_builtin; refine wpList_append_own _ rfl _ _ 145 rfl (w.heap.size + 1) 5 i0 (.int .u8 0) 1 1 Tryz.underlying145 hi hz0 hz1 hz2 rfl (by decide) _ _ _ rfl (hown1.alloc _) ⟨w1.heap.size, 0, none⟩ 1 1 [Value.int .u8 58] rfl rfl (cell1 58) (cell1_one 58) ?g1 ?g2 ?g3 ?_)
    case g1 => unfold maxLen; omega
    case g2 => omega
    case g3 => simp; omega
    intro v2 w2 hown2 hgrow2 _
    have hb2 := step_below (hnx1.alloc hz1' _) (hown1.alloc _) hgrow2 (by simp; omega)
    have hown2' := own_one (c := 58) hown2
    obtain ⟨l0, hl0⟩ : ∃ l, l = li ++ [58] := ⟨_, rfl⟩
    rw [← hl0] at hown2'
    have hln : l0.length ≤ 30 := by rw [hl0]; simp; omega
    have HL : Hid (l0 = Vm.pe e) := by show l0 = _; rw [hl0, HI.out]; simp [Vm.pe, he]
    clear hl0 hown2 hgrow2 hown1 HLE
    have hz2' : w.heap.size + 1 ≤ w2.heap.size := by have := hb2.size; simp at this; omega
    have c1 : w2.cell? ⟨w.heap.size, 1, none⟩ = some (.string ⟨u.toArray⟩) := by rw [hb2.cell (by simp)]; simp
    go_wp2_with (at_builtin; refine Lib.wpList_append_own_string _ rfl _ _ 145 9 rfl (w.heap.size + 1) 5 i0 Tryz.underlying145 Tryz.underlying9 hi hz0 hz1 hz2 _ _ _ rfl hown2' ⟨u.toArray⟩ rfl ?h1 ?h2 ?h3 ?_)
    case h1 => have := size_le hu; unfold maxLen; omega
    case h2 => have := size_le hu; omega
    case h3 => exact hz2'
    intro v3 w3 hown3 hgrow3 _
    have hb3 := step_below hb2 hown2' hgrow3 hz2'
    have hown3' := own_str hown3
    clear hown3 hgrow3 hown2'
    have hl3 : (l0 ++ u).length ≤ 230 := by simp; omega
    obtain ⟨l3, hl3'⟩ : ∃ l, l = l0 ++ u := ⟨_, rfl⟩
    rw [← hl3'] at hown3' hl3
    have HL3 : Hid (l3 = l0 ++ u) := hl3'
    clear hl3'
    have hz3 : w.heap.size + 1 ≤ w3.heap.size := by have := hb3.size; simp at this; omega
    have c2 : w3.cell? ⟨w.heap.size, 2, none⟩ = some (.string ⟨r.toArray⟩) := by rw [hb3.cell (by simp)]; simp
    by_cases hr0 : r = []
    · subst hr0
      have hcv := conv_owned hown3'
      go_wp2
      go_ret
      exact ⟨by rw [HL3.out, HL.out]; simp [Vm.pt, Vm.pr], hbA.trans (hb3.mono (Nat.le_succ _))⟩
    · have hre : r.isEmpty = false := by cases r with
        | nil => exact absurd rfl hr0
        | cons c r => rfl
      go_wp2_with (at_builtin; refine wpList_append_own _ rfl _ _ 145 rfl (w.heap.size + 1) 5 i0 (.int .u8 0) 1 1 Tryz.underlying145 hi hz0 hz1 hz2 rfl (by decide) _ _ _ rfl (hown3'.alloc _) ⟨w3.heap.size, 0, none⟩ 1 1 [Value.int .u8 45] rfl rfl (cell1 45) (cell1_one 45) ?g1 ?g2 ?g3 ?_)
      case g1 => unfold maxLen; omega
      case g2 => omega
      case g3 => simp; omega
      intro v4 w4 hown4 hgrow4 _
      have hb4 := step_below (hb3.alloc hz3 _) (hown3'.alloc _) hgrow4 (by simp; omega)
      have hown4' := own_one (c := 45) hown4
      have hl4 : (l3 ++ [45]).length ≤ 231 := by simp; omega
      obtain ⟨l4, hl4'⟩ : ∃ l, l = l3 ++ [45] := ⟨_, rfl⟩
      rw [← hl4'] at hown4' hl4
      have HL4 : Hid (l4 = l3 ++ [45]) := hl4'
      clear hl4' hown4 hgrow4 hown3'
      have hz4 : w.heap.size + 1 ≤ w4.heap.size := by have := hb4.size; simp at this; omega
      have c4 : w4.cell? ⟨w.heap.size, 2, none⟩ = some (.string ⟨r.toArray⟩) := by rw [hb4.cell (by simp)]; simp
      go_wp2_with (at_builtin; refine Lib.wpList_append_own_string _ rfl _ _ 145 9 rfl (w.heap.size + 1) 5 i0 Tryz.underlying145 Tryz.underlying9 hi hz0 hz1 hz2 _ _ _ rfl hown4' ⟨r.toArray⟩ rfl ?h1 ?h2 ?h3 ?_)
      case h1 => have := size_le hr; unfold maxLen; omega
      case h2 => have := size_le hr; omega
      case h3 => exact hz4
      intro v5 w5 hown5 hgrow5 _
      have hb5 := step_below hb4 hown4' hgrow5 hz4
      have hown5' := own_str hown5
      obtain ⟨l5, hl5'⟩ : ∃ l, l = l4 ++ r := ⟨_, rfl⟩
      rw [← hl5'] at hown5'
      have HL5 : Hid (l5 = l4 ++ r) := hl5'
      clear hl5' hown5 hgrow5 hown4'
      have hcv := conv_owned hown5'
      go_wp2
      go_ret
      exact ⟨by rw [HL5.out, HL4.out, HL3.out, HL.out]; simp [Vm.pt, Vm.pr, hr0], hbA.trans (hb5.mono (Nat.le_succ _))⟩

end Go.Proofs.YtlldfmnoidndmaaGreatDoor
