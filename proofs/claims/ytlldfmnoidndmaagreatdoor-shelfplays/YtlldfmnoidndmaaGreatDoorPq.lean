/- The walk of version.Print. -/
import Derived.Test.YtlldfmnoidndmaaGreatDoorCx
import Derived.Test.YtlldfmnoidndmaaGreatDoorVx
import Derived.Test.YtlldfmnoidndmaaGreatDoorSh
import Derived.Lib.AppendIntMem
import Derived.Lib.AppendStr
import Derived.Lib.ItoaLen
import Derived.Lib.Slices
import Derived.Lib.Hide
import Derived.Laws.IdiomStrings
import Derived.OwnWalk
import Derived.BigCall
import Derived.Laws.BytesArg
import Derived.Lib.QuietBelow
import Derived.BigQuiet
namespace Go.Proofs.YtlldfmnoidndmaaGreatDoor
open Go.RowKit Go.Shelf

theorem infoByte : (Tryz.prog.info? 5).map (fun i => (i.zero, i.size, i.bytes)) = some (some (.int .u8 0), 1, 1) := by kernel_rfl

theorem conv_owned {w : World} {B : Nat} {v : Value} {l : List UInt8} (h : w.ownsRow B 5 1 v l.length (Lib.byteCells l)) : (convert 145 9 v).run Tryz.prog w = .ok (.string ⟨l.toArray⟩) w := by
  rcases h.2 with ⟨rfl, h0⟩ | ⟨g, cap, cur, rfl, -, -, -, -, -, -⟩
  · have : l = [] := List.length_eq_zero_iff.1 h0
    subst this
    exact run_convert_bytes_nil w 145 5 Tryz.underlying145 Tryz.underlying5 0 0 9 Tryz.underlying9
  · exact run_convert_bytes_back (P := Tryz.prog) w 145 9 5 ⟨g, 0, none⟩ cap l Tryz.underlying145 Tryz.underlying5 Tryz.underlying9 (fun j hj => h.cells (g := g) rfl j _ (by simp [Lib.byteCells, hj]))

theorem step_below {B : Nat} {W wA w2 : World} {v : Value} {n : Nat} {xs : List Value} (hb : Below B W wA) (hown : wA.ownsRow B 5 1 v n xs) (hg : wA.grownBy w2 v.ownBlock) (hB : B ≤ wA.heap.size) : Below B W w2 :=
  hb.grown hg hB (fun k hk => (hown.lt k hk).1)

theorem own_str {w : World} {B : Nat} {v : Value} {l u : List UInt8} (h : w.ownsRow B 5 1 v (l.length + (ByteArray.mk u.toArray).size) (Lib.byteCells l ++ Lib.strCells ⟨u.toArray⟩)) : w.ownsRow B 5 1 v (l ++ u).length (Lib.byteCells (l ++ u)) := by
  have e1 : Lib.byteCells l ++ Lib.strCells ⟨u.toArray⟩ = Lib.byteCells (l ++ u) := by simp [Lib.byteCells, Lib.strCells]
  have e2 : l.length + (ByteArray.mk u.toArray).size = (l ++ u).length := by simp [ByteArray.size]
  rw [e1, e2] at h; exact h
theorem own_one {w : World} {B : Nat} {v : Value} {l : List UInt8} {c : UInt8} (h : w.ownsRow B 5 1 v (l.length + 1) (Lib.byteCells l ++ [Value.int .u8 c.toNat])) : w.ownsRow B 5 1 v (l ++ [c]).length (Lib.byteCells (l ++ [c])) := by
  have e1 : Lib.byteCells l ++ [Value.int .u8 c.toNat] = Lib.byteCells (l ++ [c]) := by simp [Lib.byteCells]
  have e2 : l.length + 1 = (l ++ [c]).length := by simp
  rw [e1, e2] at h; exact h
theorem size_le {l : List UInt8} {n : Nat} (h : l.length ≤ n) : (ByteArray.mk l.toArray).size ≤ n := h
theorem cell1 {w : World} (c : Int) : ∀ (j : Nat) (u' : Value), [Value.int .u8 c][j]? = some u' → (w.alloc (.cells #[.int .u8 c] 5)).cell? ((⟨w.heap.size, 0, none⟩ : Addr).add j) = some u' := by
  intro j u' hj
  match j, hj with
  | 0, hj => simp at hj; subst hj; simp [Addr.add]
theorem cell1_one (c : Int) : ∀ u' ∈ [Value.int .u8 c], u'.oneCell' = true := by
  intro u' hu'; simp at hu'; subst hu'; rfl

set_option maxHeartbeats 3200000 in
set_option maxRecDepth 100000 in
theorem print_any (e : Int) (u r : List UInt8) (w : World) (h0 : -9223372036854775808 ≤ e) (h1 : e ≤ 9223372036854775807) (hu : u.length ≤ 200) (hr : r.length ≤ 200) (htab : Lib.TabIs Tryz.prog w "internal/strconv.uint64pow10" .u64 Lib.pow10Tab) :
    Calls Tryz.prog 190 #[.agg #[.int .i64 e, .string ⟨u.toArray⟩, .string ⟨r.toArray⟩]] w fun x w' => x = .returned (.string ⟨(Vm.pt e u r).toArray⟩) ∧ Below w.heap.size w w' := by
  obtain ⟨i0, hi, hz0, hz1, hz2⟩ := info_parts infoByte
  have hT0 := Lib.tabBelow_of_tabIs htab
  have le := Lib.itoa_length_le e h0 h1
  obtain ⟨box, hbox⟩ : ∃ o : Obj, o = .cells #[.int .i64 e, .string ⟨u.toArray⟩, .string ⟨r.toArray⟩] 37 := ⟨_, rfl⟩
  have HB := Lib.hid hbox
  have hbA : Below w.heap.size w (w.alloc box) := (Below.refl _ _).alloc (Nat.le_refl _) _
  have hT : Lib.TabBelow Tryz.prog (w.heap.size + 1) (w.alloc box) "internal/strconv.uint64pow10" .u64 Lib.pow10Tab := fun w' hb => hT0 w' (hbA.trans (hb.mono (Nat.le_succ _)))
  rw [hbox] at hT hbA
  clear hbox HB box htab hT0
  by_cases he : e = 0
  · subst he
    obtain ⟨l0, hl0⟩ : ∃ l : List UInt8, l = Vm.pe 0 := ⟨_, rfl⟩
    have HL : Hid (l0 = Vm.pe 0) := hl0
    have hn : l0.length = 0 := by rw [hl0]; rfl
    have hln : l0.length ≤ 30 := by omega
    have hown2 : (w.alloc (.cells #[.int .i64 0, .string ⟨u.toArray⟩, .string ⟨r.toArray⟩] 37)).ownsRow (w.heap.size + 1) 5 1 (.slice none 0 0) l0.length (Lib.byteCells l0) := by
      rw [hl0]; exact World.ownsRow_nil _ _ _ _
    clear hl0 hn
    have hb2 : Below (w.heap.size + 1) (w.alloc (.cells #[.int .i64 0, .string ⟨u.toArray⟩, .string ⟨r.toArray⟩] 37)) (w.alloc (.cells #[.int .i64 0, .string ⟨u.toArray⟩, .string ⟨r.toArray⟩] 37)) := Below.refl _ _
    go_enter Tryz.func190, Tryz.ntmps190
    go_wp2_with (at_builtin; refine Lib.wpList_append_own_string _ rfl _ _ 145 9 rfl (w.heap.size + 1) 5 i0 Tryz.underlying145 Tryz.underlying9 hi hz0 hz1 hz2 _ _ _ rfl hown2 ⟨u.toArray⟩ rfl ?h1 ?h2 ?h3 ?_)
    case h1 => have := size_le hu; unfold maxLen; omega
    case h2 => have := size_le hu; omega
    case h3 => simp
    intro v3 w3 hown3 hgrow3 _
    have hb3 := step_below hb2 hown2 hgrow3 (by simp)
    have hown3' := own_str hown3
    clear hown3 hgrow3 hown2
    have hl3 : (l0 ++ u).length ≤ 230 := by simp; omega
    obtain ⟨l3, hl3'⟩ : ∃ l, l = l0 ++ u := ⟨_, rfl⟩
    rw [← hl3'] at hown3' hl3
    have HL3 : Hid (l3 = l0 ++ u) := hl3'
    clear hl3'
    have hz3 : w.heap.size + 1 ≤ w3.heap.size := by have := hb3.size; simp at this; omega
    have c2 : w3.cell? ⟨w.heap.size, 2, none⟩ = some (.string ⟨r.toArray⟩) := by rw [hb3.cell (by simp)]; simp
    by_cases hr0 : r = []
    · subst hr0
      have hcv := conv_owned hown3'
      go_wp2
      go_ret
      exact ⟨by rw [HL3.out, HL.out]; simp [Vm.pt, Vm.pr], hbA.trans (hb3.mono (Nat.le_succ _))⟩
    · have hre : r.isEmpty = false := by cases r with
        | nil => exact absurd rfl hr0
        | cons c r => rfl
      go_wp2_with (at_builtin; refine wpList_append_own _ rfl _ _ 145 rfl (w.heap.size + 1) 5 i0 (.int .u8 0) 1 1 Tryz.underlying145 hi hz0 hz1 hz2 rfl (by decide) _ _ _ rfl (hown3'.alloc _) ⟨w3.heap.size, 0, none⟩ 1 1 [Value.int .u8 45] rfl rfl (cell1 45) (cell1_one 45) ?g1 ?g2 ?g3 ?_)
      case g1 => unfold maxLen; omega
      case g2 => omega
      case g3 => simp; omega
      intro v4 w4 hown4 hgrow4 _
      have hb4 := step_below (hb3.alloc hz3 _) (hown3'.alloc _) hgrow4 (by simp; omega)
      have hown4' := own_one (c := 45) hown4
      have hl4 : (l3 ++ [45]).length ≤ 231 := by simp; omega
      obtain ⟨l4, hl4'⟩ : ∃ l, l = l3 ++ [45] := ⟨_, rfl⟩
      rw [← hl4'] at hown4' hl4
      have HL4 : Hid (l4 = l3 ++ [45]) := hl4'
      clear hl4' hown4 hgrow4 hown3'
      have hz4 : w.heap.size + 1 ≤ w4.heap.size := by have := hb4.size; simp at this; omega
      have c4 : w4.cell? ⟨w.heap.size, 2, none⟩ = some (.string ⟨r.toArray⟩) := by rw [hb4.cell (by simp)]; simp
      go_wp2_with (at_builtin; refine Lib.wpList_append_own_string _ rfl _ _ 145 9 rfl (w.heap.size + 1) 5 i0 Tryz.underlying145 Tryz.underlying9 hi hz0 hz1 hz2 _ _ _ rfl hown4' ⟨r.toArray⟩ rfl ?h1 ?h2 ?h3 ?_)
      case h1 => have := size_le hr; unfold maxLen; omega
      case h2 => have := size_le hr; omega
      case h3 => exact hz4
      intro v5 w5 hown5 hgrow5 _
      have hb5 := step_below hb4 hown4' hgrow5 hz4
      have hown5' := own_str hown5
      obtain ⟨l5, hl5'⟩ : ∃ l, l = l4 ++ r := ⟨_, rfl⟩
      rw [← hl5'] at hown5'
      have HL5 : Hid (l5 = l4 ++ r) := hl5'
      clear hl5' hown5 hgrow5 hown4'
      have hcv := conv_owned hown5'
      go_wp2
      go_ret
      exact ⟨by rw [HL5.out, HL4.out, HL3.out, HL.out]; simp [Vm.pt, Vm.pr, hr0], hbA.trans (hb5.mono (Nat.le_succ _))⟩
  · have hne : (e != 0) = true := by simpa using he
    obtain ⟨li, hli⟩ : ∃ l : List UInt8, l = Lib.itoa e := ⟨_, rfl⟩
    have HI : Hid (li = Lib.itoa e) := hli
    rw [← hli] at le
    have HLE : Hid ((Lib.itoa e).length = li.length) := by show _ = _; rw [hli]
    clear hli
    go_enter Tryz.func190, Tryz.ntmps190
    go_wp2_with (go_at_call 207; refine (Tryz.strconv_AppendInt_10 (w.heap.size + 1) 0 e h0 h1 (.slice none 0 0) [] _ (World.ownsRow_nil _ _ _ _) (by simp) (by omega) hT).mono ?_; rintro x w1 ⟨v1, rfl, hown1, hnx1, -⟩; refine Hid.out ?_)
    refine Lib.hid ?_
    rw [Nat.zero_add, List.nil_append, ← HI.out] at hown1
    have hz1' : w.heap.size + 1 ≤ w1.heap.size := by have := hnx1.size; simp at this; omega
    go_wp2_with (at_builtin; refine wpList_append_own _ rfl _ _ 145 rfl (w.heap.size + 1) 5 i0 (.int .u8 0) 1 1 Tryz.underlying145 hi hz0 hz1 hz2 rfl (by decide) _ _ _ rfl (hown1.alloc _) ⟨w1.heap.size, 0, none⟩ 1 1 [Value.int .u8 58] rfl rfl (cell1 58) (cell1_one 58) ?g1 ?g2 ?g3 ?_)
    case g1 => unfold maxLen; omega
    case g2 => omega
    case g3 => simp; omega
    intro v2 w2 hown2 hgrow2 _
    have hb2 := step_below (hnx1.alloc hz1' _) (hown1.alloc _) hgrow2 (by simp; omega)
    have hown2' := own_one (c := 58) hown2
    obtain ⟨l0, hl0⟩ : ∃ l, l = li ++ [58] := ⟨_, rfl⟩
    rw [← hl0] at hown2'
    have hln : l0.length ≤ 30 := by rw [hl0]; simp; omega
    have HL : Hid (l0 = Vm.pe e) := by show l0 = _; rw [hl0, HI.out]; simp [Vm.pe, he]
    clear hl0 hown2 hgrow2 hown1 HLE
    have hz2' : w.heap.size + 1 ≤ w2.heap.size := by have := hb2.size; simp at this; omega
    have c1 : w2.cell? ⟨w.heap.size, 1, none⟩ = some (.string ⟨u.toArray⟩) := by rw [hb2.cell (by simp)]; simp
    go_wp2_with (at_builtin; refine Lib.wpList_append_own_string _ rfl _ _ 145 9 rfl (w.heap.size + 1) 5 i0 Tryz.underlying145 Tryz.underlying9 hi hz0 hz1 hz2 _ _ _ rfl hown2' ⟨u.toArray⟩ rfl ?h1 ?h2 ?h3 ?_)
    case h1 => have := size_le hu; unfold maxLen; omega
    case h2 => have := size_le hu; omega
    case h3 => exact hz2'
    intro v3 w3 hown3 hgrow3 _
    have hb3 := step_below hb2 hown2' hgrow3 hz2'
    have hown3' := own_str hown3
    clear hown3 hgrow3 hown2'
    have hl3 : (l0 ++ u).length ≤ 230 := by simp; omega
    obtain ⟨l3, hl3'⟩ : ∃ l, l = l0 ++ u := ⟨_, rfl⟩
    rw [← hl3'] at hown3' hl3
    have HL3 : Hid (l3 = l0 ++ u) := hl3'
    clear hl3'
    have hz3 : w.heap.size + 1 ≤ w3.heap.size := by have := hb3.size; simp at this; omega
    have c2 : w3.cell? ⟨w.heap.size, 2, none⟩ = some (.string ⟨r.toArray⟩) := by rw [hb3.cell (by simp)]; simp
    by_cases hr0 : r = []
    · subst hr0
      have hcv := conv_owned hown3'
      go_wp2
      go_ret
      exact ⟨by rw [HL3.out, HL.out]; simp [Vm.pt, Vm.pr], hbA.trans (hb3.mono (Nat.le_succ _))⟩
    · have hre : r.isEmpty = false := by cases r with
        | nil => exact absurd rfl hr0
        | cons c r => rfl
      go_wp2_with (at_builtin; refine wpList_append_own _ rfl _ _ 145 rfl (w.heap.size + 1) 5 i0 (.int .u8 0) 1 1 Tryz.underlying145 hi hz0 hz1 hz2 rfl (by decide) _ _ _ rfl (hown3'.alloc _) ⟨w3.heap.size, 0, none⟩ 1 1 [Value.int .u8 45] rfl rfl (cell1 45) (cell1_one 45) ?g1 ?g2 ?g3 ?_)
      case g1 => unfold maxLen; omega
      case g2 => omega
      case g3 => simp; omega
      intro v4 w4 hown4 hgrow4 _
      have hb4 := step_below (hb3.alloc hz3 _) (hown3'.alloc _) hgrow4 (by simp; omega)
      have hown4' := own_one (c := 45) hown4
      have hl4 : (l3 ++ [45]).length ≤ 231 := by simp; omega
      obtain ⟨l4, hl4'⟩ : ∃ l, l = l3 ++ [45] := ⟨_, rfl⟩
      rw [← hl4'] at hown4' hl4
      have HL4 : Hid (l4 = l3 ++ [45]) := hl4'
      clear hl4' hown4 hgrow4 hown3'
      have hz4 : w.heap.size + 1 ≤ w4.heap.size := by have := hb4.size; simp at this; omega
      have c4 : w4.cell? ⟨w.heap.size, 2, none⟩ = some (.string ⟨r.toArray⟩) := by rw [hb4.cell (by simp)]; simp
      go_wp2_with (at_builtin; refine Lib.wpList_append_own_string _ rfl _ _ 145 9 rfl (w.heap.size + 1) 5 i0 Tryz.underlying145 Tryz.underlying9 hi hz0 hz1 hz2 _ _ _ rfl hown4' ⟨r.toArray⟩ rfl ?h1 ?h2 ?h3 ?_)
      case h1 => have := size_le hr; unfold maxLen; omega
      case h2 => have := size_le hr; omega
      case h3 => exact hz4
      intro v5 w5 hown5 hgrow5 _
      have hb5 := step_below hb4 hown4' hgrow5 hz4
      have hown5' := own_str hown5
      obtain ⟨l5, hl5'⟩ : ∃ l, l = l4 ++ r := ⟨_, rfl⟩
      rw [← hl5'] at hown5'
      have HL5 : Hid (l5 = l4 ++ r) := hl5'
      clear hl5' hown5 hgrow5 hown4'
      have hcv := conv_owned hown5'
      go_wp2
      go_ret
      exact ⟨by rw [HL5.out, HL4.out, HL3.out, HL.out]; simp [Vm.pt, Vm.pr, hr0], hbA.trans (hb5.mono (Nat.le_succ _))⟩

end Go.Proofs.YtlldfmnoidndmaaGreatDoor
namespace Go.Proofs.YtlldfmnoidndmaaGreatDoor
open Go.RowKit Go.Shelf Go.Sort

theorem idx_any (m : List UInt8) (c : UInt8) (w : World) : Calls Tryz.prog 192 #[.string ⟨m.toArray⟩, .int .u8 c.toNat] w fun e w' => e = .returned (.int .i64 (Lib.indexByte m c)) ∧ w' = w := by
  have h := Tryz.strings_IndexByte ⟨m.toArray⟩ c.toNat w
  have e1 : ((c.toNat : Int).toNat).toUInt8 = c := by simp
  rw [e1] at h; exact h

theorem ok_dig {m : List UInt8} {c : UInt8} (h : Vm.dg c = true) : Vm.ok1 m c = true := by simp [Vm.ok1, h]
theorem ok_let {m : List UInt8} {c : UInt8} (h : Vm.lr c = true) : Vm.ok1 m c = true := by simp [Vm.ok1, h]
theorem ok_in {m : List UInt8} {c : UInt8} (h : ¬ Lib.indexByte m c < 0) : Vm.ok1 m c = true := by
  have := Vm.idx_neg m c
  rw [decide_eq_false h] at this
  simp [Vm.ok1]; right; simpa using this
theorem ok_no {m : List UInt8} {c : UInt8} (h1 : Vm.dg c = false) (h2 : Vm.lr c = false) (h : Lib.indexByte m c < 0) : Vm.ok1 m c = false := by
  have := Vm.idx_neg m c
  rw [decide_eq_true h] at this
  simp [Vm.ok1, h1, h2]; simpa using this

theorem all_to {p : UInt8 → Bool} {l : List UInt8} (h : ∀ j (hj : j < l.length), p l[j] = true) : true = l.all p := by
  symm; rw [List.all_eq_true]
  intro x hx
  obtain ⟨j, hj, rfl⟩ := List.getElem_of_mem hx
  exact h j hj
theorem all_no {p : UInt8 → Bool} {l : List UInt8} (k : Nat) (hk : k < l.length) (h : p l[k] = false) : false = l.all p := by
  symm; rw [List.all_eq_false]
  exact ⟨l[k], List.getElem_mem hk, by simp [h]⟩

set_option maxHeartbeats 400000 in
theorem made_any (l m : List UInt8) (w : World) (hl : l.length ≤ 200) : Calls Tryz.prog 158 #[.string ⟨l.toArray⟩, .string ⟨m.toArray⟩] w fun e w' => e = .returned (.bool (l.all (Vm.ok1 m))) ∧ w' = w := by
  go_enter Tryz.func158, Tryz.ntmps158
  go_wp2
  go_loop [9] (fun i => ∃ k : Nat, k ≤ l.length ∧ i = .int .i64 k ∧ ∀ j (hj : j < l.length), j < k → Vm.ok1 m l[j] = true) (fun i => l.length - (intOf i).toNat)
  case atStart => exact ⟨0, Nat.zero_le _, rfl, fun j _ h => absurd h (Nat.not_lt_zero _)⟩
  case round =>
    obtain ⟨k, hk, rfl, hpre0⟩ := hrel
    have hpre : Hid (∀ j (hj : j < l.length), j < k → Vm.ok1 m l[j] = true) := hpre0
    clear hpre0
    by_cases hlt : k < l.length
    · have more : Vm.ok1 m l[k] = true → ∀ j (hj : j < l.length), j < k + 1 → Vm.ok1 m l[j] = true := fun hc j hj h => by
        by_cases e : j = k
        · subst e; exact hc
        · exact hpre.out j hj (by omega)
      have HM := Lib.hid more
      clear more
      go_wp2_with (first | (go_at_call 155; refine (digit_any _ _).mono ?_; rintro e w' ⟨rfl, rfl⟩) | (go_at_call 191; refine (letter_any _ _).mono ?_; rintro e w' ⟨rfl, rfl⟩) | (go_at_call 192; refine (idx_any _ _ _).mono ?_; rintro e w' ⟨rfl, rfl⟩))
      · exact ⟨⟨k + 1, hlt, by go_num, HM.out (ok_dig ‹_›)⟩, by simp [intOf]; omega⟩
      · exact ⟨⟨k + 1, hlt, by go_num, HM.out (ok_let ‹_›)⟩, by simp [intOf]; omega⟩
      · go_ret
        have h1 : ¬ Vm.dg l[k] = true := ‹_›
        have h2 : ¬ Vm.lr l[k] = true := ‹_›
        exact ⟨ret_bool (all_no k hlt (ok_no (by simpa using h1) (by simpa using h2) ‹_›)), rfl⟩
      · have h3 : 0 ≤ Lib.indexByte m l[k] := ‹_›
        exact ⟨⟨k + 1, hlt, by go_num, HM.out (ok_in (by omega))⟩, by simp [intOf]; omega⟩
    · go_wp2
      go_ret
      exact ⟨ret_bool (all_to (fun j hj => hpre.out j hj (by omega))), rfl⟩

theorem ret_str {a b : List UInt8} (h : a = b) : Ending.returned (.string ⟨a.toArray⟩) = .returned (.string ⟨b.toArray⟩) := by rw [h]
theorem ret_sv {a : ByteArray} {b : List UInt8} (h : a = ⟨b.toArray⟩) : Ending.returned (.string a) = .returned (.string ⟨b.toArray⟩) := by rw [h]

theorem us_any (e : Int) (u r : List UInt8) (w : World) : Calls Tryz.prog 159 #[.agg #[.int .i64 e, .string ⟨u.toArray⟩, .string ⟨r.toArray⟩]] w fun x w' => x = .returned (.string ⟨(Vm.us e r).toArray⟩) ∧ Below w.heap.size w w' := by
  have hb : ∀ o, Below w.heap.size w (w.alloc o) := fun o => (Below.refl _ _).alloc (Nat.le_refl _) _
  by_cases he : 0 < e
  all_goals
    by_cases hr : r = []
    · subst hr
      have HU := Lib.hid (show Vm.us e [] = _ from by simp only [Vm.us, he, Vm.sgn, if_true, if_false]; rfl)
      go_enter Tryz.func159, Tryz.ntmps159
      go_wp2
      go_ret
      exact ⟨ret_sv (by rw [HU.out]; rfl), hb _⟩
    · have hre : r.isEmpty = false := by cases r with
        | nil => exact absurd rfl hr
        | cons c r => rfl
      have HU := Lib.hid (show Vm.us e r = _ from by simp only [Vm.us, he, hr, Vm.sgn, if_true, if_false]; rfl)
      go_enter Tryz.func159, Tryz.ntmps159
      go_wp2
      go_ret
      exact ⟨ret_sv (by rw [HU.out]; rfl), hb _⟩

set_option maxHeartbeats 800000 in
theorem fits_any (e : Int) (u r : List UInt8) (w : World) (h0 : -9223372036854775808 ≤ e) (h1 : e ≤ 9223372036854775807) (htab : Lib.TabIs Tryz.prog w "internal/strconv.uint64pow10" .u64 Lib.pow10Tab) :
    Calls Tryz.prog 157 #[.agg #[.int .i64 e, .string ⟨u.toArray⟩, .string ⟨r.toArray⟩]] w fun x w' => x = .returned (.bool (Vm.ft e u r)) ∧ Below w.heap.size w w' := by
  have hb : ∀ o, Below w.heap.size w (w.alloc o) := fun o => (Below.refl _ _).alloc (Nat.le_refl _) _
  have htab' := fun o => (Lib.tabBelow_of_tabIs htab).on (hb o)
  clear htab
  by_cases hu : u.length ≤ 40
  · by_cases hr : r.length ≤ 40
    · have HF : Hid (Vm.ft e u r = decide ((Vm.pt e u r).length ≤ 40)) := by show Vm.ft e u r = _; simp [Vm.ft, hu, hr]
      go_enter Tryz.func157, Tryz.ntmps157
      go_wp2_with fail
      refine (print_any e u r _ h0 h1 (by omega) (by omega) (htab' _).here).mono ?_
      rintro x w1 ⟨rfl, hb1⟩
      go_wp2
      go_ret
      exact ⟨ret_bool (by rw [HF.out]; simp; try omega), (hb _).trans (hb1.mono (by simp))⟩
    · have HF : Hid (Vm.ft e u r = false) := by show Vm.ft e u r = _; simp [Vm.ft, hr]
      go_enter Tryz.func157, Tryz.ntmps157
      go_wp2
      go_ret
      exact ⟨ret_bool (by rw [HF.out]), hb _⟩
  · have HF : Hid (Vm.ft e u r = false) := by show Vm.ft e u r = _; simp [Vm.ft, hu]
    go_enter Tryz.func157, Tryz.ntmps157
    go_wp2
    go_ret
    exact ⟨ret_bool (by rw [HF.out]), hb _⟩

theorem rt_neg {e : Int} (u r : List UInt8) (h : ¬ 0 ≤ e) : Vm.rt e u r = false := by simp [Vm.rt, h]
theorem rt_big {e : Int} (u r : List UInt8) (h : ¬ e < 1000000000) : Vm.rt e u r = false := by simp [Vm.rt, h]
theorem rt_ft {e : Int} {u r : List UInt8} (h : Vm.ft e u r = false) : Vm.rt e u r = false := by simp [Vm.rt, h]
theorem rt_hd {e : Int} {u r : List UInt8} (h : Vm.hd u = false) : Vm.rt e u r = false := by simp [Vm.rt, h]
theorem rt_up {e : Int} {u r : List UInt8} (h : u.all (Vm.ok1 (Vm.us e r)) = false) : Vm.rt e u r = false := by
  unfold Vm.rt; rw [h]; simp
theorem rt_rev {e : Int} {u r : List UInt8} {b : Bool} (g0 : 0 ≤ e) (g1 : e < 1000000000) (g2 : Vm.ft e u r = true) (g3 : Vm.hd u = true) (g4 : u.all (Vm.ok1 (Vm.us e r)) = true) (h : r.all (Vm.ok1 Vm.sgn) = b) : Vm.rt e u r = b := by
  unfold Vm.rt; rw [g2, g3, g4, h]; simp [g0, g1]

theorem rg {w W w' : World} (h : Below w.heap.size w W) (h' : ∃ p : Regrown, w' = grow (redrawn W p.d) p.os) : Below w.heap.size w w' := by
  obtain ⟨p, rfl⟩ := h'
  exact h.trans ((below_regrown W p.d p.os).mono h.size)
theorem regrown_same {f : FuncId} {args : Array Value} {w : World} {v : Value} (h : ∀ W, Calls Tryz.prog f args W fun e w' => e = .returned v ∧ w' = W) (d : Nat) (os : Array Obj) :
    Calls Tryz.prog f args (grow (redrawn w d) os) fun e w'' => e = .returned v ∧ ∃ p : Regrown, w'' = grow (redrawn w p.d) p.os :=
  (h _).mono fun _ _ ⟨he, hw⟩ => ⟨he, ⟨d, os⟩, hw⟩
theorem tab_regrown {w W : World} (hT : Lib.TabBelow Tryz.prog w.heap.size W "internal/strconv.uint64pow10" .u64 Lib.pow10Tab) (hs : w.heap.size ≤ W.heap.size) (d : Nat) (os : Array Obj) : Lib.TabIs Tryz.prog (grow (redrawn W d) os) "internal/strconv.uint64pow10" .u64 Lib.pow10Tab :=
  hT _ ((below_regrown W d os).mono hs)
theorem pb_head (c : UInt8) (l : List UInt8) (h : 0 < (ByteArray.mk (c :: l).toArray).size) : (ByteArray.mk (c :: l).toArray)[0]'h = c := rfl
attribute [local go_sem] pb_head

set_option maxHeartbeats 1600000 in
set_option maxRecDepth 100000 in
theorem right_e (e : Int) (u r : List UInt8) (w : World) (g : ¬ (0 ≤ e ∧ e < 1000000000)) (_h0 : -9223372036854775808 ≤ e) (_h1 : e ≤ 9223372036854775807) (_hu : u.length ≤ 200) (_hr : r.length ≤ 200) (htab : Lib.TabIs Tryz.prog w "internal/strconv.uint64pow10" .u64 Lib.pow10Tab) :
    Calls Tryz.prog 120 #[.agg #[.int .i64 e, .string ⟨u.toArray⟩, .string ⟨r.toArray⟩]] w fun x w' => x = .returned (.bool (Vm.rt e u r)) ∧ Below w.heap.size w w' := by
  have hb : Below w.heap.size w (w.alloc (.cells #[.int .i64 e, .string ⟨u.toArray⟩, .string ⟨r.toArray⟩] 37)) := (Below.refl _ _).alloc (Nat.le_refl _) _
  have hT := (Lib.tabBelow_of_tabIs htab).on hb
  clear htab
  have c0 : (w.alloc (.cells #[.int .i64 e, .string ⟨u.toArray⟩, .string ⟨r.toArray⟩] 37)).cell? ⟨w.heap.size, 0, none⟩ = some (.int .i64 e) := by simp
  have c1 : (w.alloc (.cells #[.int .i64 e, .string ⟨u.toArray⟩, .string ⟨r.toArray⟩] 37)).cell? ⟨w.heap.size, 1, none⟩ = some (.string ⟨u.toArray⟩) := by simp
  have c2 : (w.alloc (.cells #[.int .i64 e, .string ⟨u.toArray⟩, .string ⟨r.toArray⟩] 37)).cell? ⟨w.heap.size, 2, none⟩ = some (.string ⟨r.toArray⟩) := by simp
  have k0 := cell_regrown c0
  have k1 := cell_regrown c1
  have k2 := cell_regrown c2
  clear c0 c1 c2
  by_cases g0 : 0 ≤ e
  · have g1 : ¬ e < 1000000000 := fun h => g ⟨g0, h⟩
    clear g
    have HZ := Lib.hid (rt_big u r g1)
    have d1 : decide (e < 1000000000) = false := by simpa using g1
    go_enter Tryz.func120, Tryz.ntmps120
    go_wp2
    refine wp_region_quiet_below (by kernel_rfl) (by kernel_rfl) ?_
    repeat (any_goals (first | go_big_quiet_step ((fail)) | quiet_step ((fail))))
    refine wpQuiet_nil ?_
    intro _ hw'
    obtain ⟨⟨dq, osq⟩, hw''⟩ := hw'
    subst hw''
    go_wp2
    go_ret
    exact ⟨ret_bool HZ.out.symm, rg hb ⟨⟨dq, osq⟩, rfl⟩⟩
  · clear g
    have HZ := Lib.hid (rt_neg u r g0)
    have d0 : decide (0 ≤ e) = false := by simpa using g0
    go_enter Tryz.func120, Tryz.ntmps120
    go_wp2
    refine wp_region_quiet_below (by kernel_rfl) (by kernel_rfl) ?_
    repeat (any_goals (first | go_big_quiet_step ((fail)) | quiet_step ((fail))))
    refine wpQuiet_nil ?_
    intro _ hw'
    obtain ⟨⟨dq, osq⟩, hw''⟩ := hw'
    subst hw''
    go_wp2
    go_ret
    exact ⟨ret_bool HZ.out.symm, rg hb ⟨⟨dq, osq⟩, rfl⟩⟩

set_option maxHeartbeats 1600000 in
set_option maxRecDepth 100000 in
theorem right_f (e : Int) (u r : List UInt8) (w : World) (g0 : 0 ≤ e) (g1 : e < 1000000000) (g2 : Vm.ft e u r = false) (h0 : -9223372036854775808 ≤ e) (h1 : e ≤ 9223372036854775807) (_hu : u.length ≤ 200) (_hr : r.length ≤ 200) (htab : Lib.TabIs Tryz.prog w "internal/strconv.uint64pow10" .u64 Lib.pow10Tab) :
    Calls Tryz.prog 120 #[.agg #[.int .i64 e, .string ⟨u.toArray⟩, .string ⟨r.toArray⟩]] w fun x w' => x = .returned (.bool (Vm.rt e u r)) ∧ Below w.heap.size w w' := by
  have hb : Below w.heap.size w (w.alloc (.cells #[.int .i64 e, .string ⟨u.toArray⟩, .string ⟨r.toArray⟩] 37)) := (Below.refl _ _).alloc (Nat.le_refl _) _
  have hT := (Lib.tabBelow_of_tabIs htab).on hb
  clear htab
  have c0 : (w.alloc (.cells #[.int .i64 e, .string ⟨u.toArray⟩, .string ⟨r.toArray⟩] 37)).cell? ⟨w.heap.size, 0, none⟩ = some (.int .i64 e) := by simp
  have c1 : (w.alloc (.cells #[.int .i64 e, .string ⟨u.toArray⟩, .string ⟨r.toArray⟩] 37)).cell? ⟨w.heap.size, 1, none⟩ = some (.string ⟨u.toArray⟩) := by simp
  have c2 : (w.alloc (.cells #[.int .i64 e, .string ⟨u.toArray⟩, .string ⟨r.toArray⟩] 37)).cell? ⟨w.heap.size, 2, none⟩ = some (.string ⟨r.toArray⟩) := by simp
  have k0 := cell_regrown c0
  have k1 := cell_regrown c1
  have k2 := cell_regrown c2
  clear c0 c1 c2
  have HZ := Lib.hid (rt_ft g2)
  have cF : ∀ d os, Calls Tryz.prog 157 #[.agg #[.int .i64 e, .string ⟨u.toArray⟩, .string ⟨r.toArray⟩]] (grow (redrawn (w.alloc (.cells #[.int .i64 e, .string ⟨u.toArray⟩, .string ⟨r.toArray⟩] 37)) d) os) fun x w'' => x = .returned (.bool false) ∧ ∃ p : Regrown, w'' = grow (redrawn (w.alloc (.cells #[.int .i64 e, .string ⟨u.toArray⟩, .string ⟨r.toArray⟩] 37)) p.d) p.os := fun d os => by rw [← g2]; exact Calls.regrown_of (fits_any e u r _ h0 h1 (tab_regrown hT hb.size d os))
  go_enter Tryz.func120, Tryz.ntmps120
  go_wp2
  refine wp_region_quiet_below (by kernel_rfl) (by kernel_rfl) ?_
  repeat (any_goals (first | go_big_quiet_step ((with_reducible exact cF _ _)) | quiet_step ((with_reducible exact cF _ _))))
  refine wpQuiet_nil ?_
  intro _ hw'
  obtain ⟨⟨dq, osq⟩, hw''⟩ := hw'
  subst hw''
  go_wp2
  go_ret
  exact ⟨ret_bool HZ.out.symm, rg hb ⟨⟨dq, osq⟩, rfl⟩⟩

set_option maxHeartbeats 1600000 in
set_option maxRecDepth 100000 in
theorem right_0 (e : Int) (r : List UInt8) (w : World) (g0 : 0 ≤ e) (g1 : e < 1000000000) (g2 : Vm.ft e [] r = true) (h0 : -9223372036854775808 ≤ e) (h1 : e ≤ 9223372036854775807) (_hr : r.length ≤ 200) (htab : Lib.TabIs Tryz.prog w "internal/strconv.uint64pow10" .u64 Lib.pow10Tab) :
    Calls Tryz.prog 120 #[.agg #[.int .i64 e, .string ⟨([] : List UInt8).toArray⟩, .string ⟨r.toArray⟩]] w fun x w' => x = .returned (.bool (Vm.rt e [] r)) ∧ Below w.heap.size w w' := by
  have hb : Below w.heap.size w (w.alloc (.cells #[.int .i64 e, .string ⟨([] : List UInt8).toArray⟩, .string ⟨r.toArray⟩] 37)) := (Below.refl _ _).alloc (Nat.le_refl _) _
  have hT := (Lib.tabBelow_of_tabIs htab).on hb
  clear htab
  have c0 : (w.alloc (.cells #[.int .i64 e, .string ⟨([] : List UInt8).toArray⟩, .string ⟨r.toArray⟩] 37)).cell? ⟨w.heap.size, 0, none⟩ = some (.int .i64 e) := by simp
  have c1 : (w.alloc (.cells #[.int .i64 e, .string ⟨([] : List UInt8).toArray⟩, .string ⟨r.toArray⟩] 37)).cell? ⟨w.heap.size, 1, none⟩ = some (.string ⟨([] : List UInt8).toArray⟩) := by simp
  have c2 : (w.alloc (.cells #[.int .i64 e, .string ⟨([] : List UInt8).toArray⟩, .string ⟨r.toArray⟩] 37)).cell? ⟨w.heap.size, 2, none⟩ = some (.string ⟨r.toArray⟩) := by simp
  have k0 := cell_regrown c0
  have k1 := cell_regrown c1
  have k2 := cell_regrown c2
  clear c0 c1 c2
  have HZ := Lib.hid (rt_hd (e := e) (u := []) (r := r) rfl)
  have cF : ∀ d os, Calls Tryz.prog 157 #[.agg #[.int .i64 e, .string ⟨([] : List UInt8).toArray⟩, .string ⟨r.toArray⟩]] (grow (redrawn (w.alloc (.cells #[.int .i64 e, .string ⟨([] : List UInt8).toArray⟩, .string ⟨r.toArray⟩] 37)) d) os) fun x w'' => x = .returned (.bool true) ∧ ∃ p : Regrown, w'' = grow (redrawn (w.alloc (.cells #[.int .i64 e, .string ⟨([] : List UInt8).toArray⟩, .string ⟨r.toArray⟩] 37)) p.d) p.os := fun d os => by rw [← g2]; exact Calls.regrown_of (fits_any e ([] : List UInt8) r _ h0 h1 (tab_regrown hT hb.size d os))
  go_enter Tryz.func120, Tryz.ntmps120
  go_wp2
  refine wp_region_quiet_below (by kernel_rfl) (by kernel_rfl) ?_
  repeat (any_goals (first | go_big_quiet_step ((with_reducible exact cF _ _)) | quiet_step ((with_reducible exact cF _ _))))
  refine wpQuiet_nil ?_
  intro _ hw'
  obtain ⟨⟨dq, osq⟩, hw''⟩ := hw'
  subst hw''
  go_wp2
  go_ret
  exact ⟨ret_bool HZ.out.symm, rg hb ⟨⟨dq, osq⟩, rfl⟩⟩

set_option maxHeartbeats 1600000 in
set_option maxRecDepth 100000 in
theorem right_d (e : Int) (c : UInt8) (t r : List UInt8) (w : World) (g0 : 0 ≤ e) (g1 : e < 1000000000) (g2 : Vm.ft e (c :: t) r = true) (g3 : Vm.dg c = false) (h0 : -9223372036854775808 ≤ e) (h1 : e ≤ 9223372036854775807) (_hu : (c :: t).length ≤ 200) (_hr : r.length ≤ 200) (htab : Lib.TabIs Tryz.prog w "internal/strconv.uint64pow10" .u64 Lib.pow10Tab) :
    Calls Tryz.prog 120 #[.agg #[.int .i64 e, .string ⟨(c :: t).toArray⟩, .string ⟨r.toArray⟩]] w fun x w' => x = .returned (.bool (Vm.rt e (c :: t) r)) ∧ Below w.heap.size w w' := by
  have hb : Below w.heap.size w (w.alloc (.cells #[.int .i64 e, .string ⟨(c :: t).toArray⟩, .string ⟨r.toArray⟩] 37)) := (Below.refl _ _).alloc (Nat.le_refl _) _
  have hT := (Lib.tabBelow_of_tabIs htab).on hb
  clear htab
  have c0 : (w.alloc (.cells #[.int .i64 e, .string ⟨(c :: t).toArray⟩, .string ⟨r.toArray⟩] 37)).cell? ⟨w.heap.size, 0, none⟩ = some (.int .i64 e) := by simp
  have c1 : (w.alloc (.cells #[.int .i64 e, .string ⟨(c :: t).toArray⟩, .string ⟨r.toArray⟩] 37)).cell? ⟨w.heap.size, 1, none⟩ = some (.string ⟨(c :: t).toArray⟩) := by simp
  have c2 : (w.alloc (.cells #[.int .i64 e, .string ⟨(c :: t).toArray⟩, .string ⟨r.toArray⟩] 37)).cell? ⟨w.heap.size, 2, none⟩ = some (.string ⟨r.toArray⟩) := by simp
  have k0 := cell_regrown c0
  have k1 := cell_regrown c1
  have k2 := cell_regrown c2
  clear c0 c1 c2
  have HZ := Lib.hid (rt_hd (e := e) (u := c :: t) (r := r) g3)
  have cF : ∀ d os, Calls Tryz.prog 157 #[.agg #[.int .i64 e, .string ⟨(c :: t).toArray⟩, .string ⟨r.toArray⟩]] (grow (redrawn (w.alloc (.cells #[.int .i64 e, .string ⟨(c :: t).toArray⟩, .string ⟨r.toArray⟩] 37)) d) os) fun x w'' => x = .returned (.bool true) ∧ ∃ p : Regrown, w'' = grow (redrawn (w.alloc (.cells #[.int .i64 e, .string ⟨(c :: t).toArray⟩, .string ⟨r.toArray⟩] 37)) p.d) p.os := fun d os => by rw [← g2]; exact Calls.regrown_of (fits_any e (c :: t) r _ h0 h1 (tab_regrown hT hb.size d os))
  have cD : ∀ d os, Calls Tryz.prog 155 #[.int .u8 c.toNat] (grow (redrawn (w.alloc (.cells #[.int .i64 e, .string ⟨(c :: t).toArray⟩, .string ⟨r.toArray⟩] 37)) d) os) fun x w'' => x = .returned (.bool false) ∧ ∃ p : Regrown, w'' = grow (redrawn (w.alloc (.cells #[.int .i64 e, .string ⟨(c :: t).toArray⟩, .string ⟨r.toArray⟩] 37)) p.d) p.os := by rw [← g3]; exact regrown_same (fun W => digit_any c W)
  go_enter Tryz.func120, Tryz.ntmps120
  go_wp2
  refine wp_region_quiet_below (by kernel_rfl) (by kernel_rfl) ?_
  repeat (any_goals (first | go_big_quiet_step ((first | with_reducible exact cF _ _ | with_reducible exact cD _ _)) | quiet_step ((first | with_reducible exact cF _ _ | with_reducible exact cD _ _))))
  refine wpQuiet_nil ?_
  intro _ hw'
  obtain ⟨⟨dq, osq⟩, hw''⟩ := hw'
  subst hw''
  go_wp2
  go_ret
  exact ⟨ret_bool HZ.out.symm, rg hb ⟨⟨dq, osq⟩, rfl⟩⟩

set_option maxHeartbeats 1600000 in
set_option maxRecDepth 100000 in
theorem right_u (e : Int) (c : UInt8) (t r : List UInt8) (w : World) (g0 : 0 ≤ e) (g1 : e < 1000000000) (g2 : Vm.ft e (c :: t) r = true) (g3 : Vm.dg c = true) (g4 : (c :: t).all (Vm.ok1 (Vm.us e r)) = false) (h0 : -9223372036854775808 ≤ e) (h1 : e ≤ 9223372036854775807) (hu : (c :: t).length ≤ 200) (_hr : r.length ≤ 200) (htab : Lib.TabIs Tryz.prog w "internal/strconv.uint64pow10" .u64 Lib.pow10Tab) :
    Calls Tryz.prog 120 #[.agg #[.int .i64 e, .string ⟨(c :: t).toArray⟩, .string ⟨r.toArray⟩]] w fun x w' => x = .returned (.bool (Vm.rt e (c :: t) r)) ∧ Below w.heap.size w w' := by
  have hb : Below w.heap.size w (w.alloc (.cells #[.int .i64 e, .string ⟨(c :: t).toArray⟩, .string ⟨r.toArray⟩] 37)) := (Below.refl _ _).alloc (Nat.le_refl _) _
  have hT := (Lib.tabBelow_of_tabIs htab).on hb
  clear htab
  have c0 : (w.alloc (.cells #[.int .i64 e, .string ⟨(c :: t).toArray⟩, .string ⟨r.toArray⟩] 37)).cell? ⟨w.heap.size, 0, none⟩ = some (.int .i64 e) := by simp
  have c1 : (w.alloc (.cells #[.int .i64 e, .string ⟨(c :: t).toArray⟩, .string ⟨r.toArray⟩] 37)).cell? ⟨w.heap.size, 1, none⟩ = some (.string ⟨(c :: t).toArray⟩) := by simp
  have c2 : (w.alloc (.cells #[.int .i64 e, .string ⟨(c :: t).toArray⟩, .string ⟨r.toArray⟩] 37)).cell? ⟨w.heap.size, 2, none⟩ = some (.string ⟨r.toArray⟩) := by simp
  have k0 := cell_regrown c0
  have k1 := cell_regrown c1
  have k2 := cell_regrown c2
  clear c0 c1 c2
  have HZ := Lib.hid (rt_up g4)
  have cF : ∀ d os, Calls Tryz.prog 157 #[.agg #[.int .i64 e, .string ⟨(c :: t).toArray⟩, .string ⟨r.toArray⟩]] (grow (redrawn (w.alloc (.cells #[.int .i64 e, .string ⟨(c :: t).toArray⟩, .string ⟨r.toArray⟩] 37)) d) os) fun x w'' => x = .returned (.bool true) ∧ ∃ p : Regrown, w'' = grow (redrawn (w.alloc (.cells #[.int .i64 e, .string ⟨(c :: t).toArray⟩, .string ⟨r.toArray⟩] 37)) p.d) p.os := fun d os => by rw [← g2]; exact Calls.regrown_of (fits_any e (c :: t) r _ h0 h1 (tab_regrown hT hb.size d os))
  have cD : ∀ d os, Calls Tryz.prog 155 #[.int .u8 c.toNat] (grow (redrawn (w.alloc (.cells #[.int .i64 e, .string ⟨(c :: t).toArray⟩, .string ⟨r.toArray⟩] 37)) d) os) fun x w'' => x = .returned (.bool true) ∧ ∃ p : Regrown, w'' = grow (redrawn (w.alloc (.cells #[.int .i64 e, .string ⟨(c :: t).toArray⟩, .string ⟨r.toArray⟩] 37)) p.d) p.os := by rw [← g3]; exact regrown_same (fun W => digit_any c W)
  have cU : ∀ d os, Calls Tryz.prog 159 #[.agg #[.int .i64 e, .string ⟨(c :: t).toArray⟩, .string ⟨r.toArray⟩]] (grow (redrawn (w.alloc (.cells #[.int .i64 e, .string ⟨(c :: t).toArray⟩, .string ⟨r.toArray⟩] 37)) d) os) fun x w'' => x = .returned (.string ⟨(Vm.us e r).toArray⟩) ∧ ∃ p : Regrown, w'' = grow (redrawn (w.alloc (.cells #[.int .i64 e, .string ⟨(c :: t).toArray⟩, .string ⟨r.toArray⟩] 37)) p.d) p.os := fun d os => Calls.regrown_of (us_any e (c :: t) r _)
  have cM : ∀ d os, Calls Tryz.prog 158 #[.string ⟨(c :: t).toArray⟩, .string ⟨(Vm.us e r).toArray⟩] (grow (redrawn (w.alloc (.cells #[.int .i64 e, .string ⟨(c :: t).toArray⟩, .string ⟨r.toArray⟩] 37)) d) os) fun x w'' => x = .returned (.bool false) ∧ ∃ p : Regrown, w'' = grow (redrawn (w.alloc (.cells #[.int .i64 e, .string ⟨(c :: t).toArray⟩, .string ⟨r.toArray⟩] 37)) p.d) p.os := by rw [← g4]; exact regrown_same (fun W => made_any _ _ W hu)
  clear g4
  go_enter Tryz.func120, Tryz.ntmps120
  go_wp2
  refine wp_region_quiet_below (by kernel_rfl) (by kernel_rfl) ?_
  repeat (any_goals (first | go_big_quiet_step ((first | with_reducible exact cF _ _ | with_reducible exact cD _ _ | with_reducible exact cU _ _ | with_reducible exact cM _ _)) | quiet_step ((first | with_reducible exact cF _ _ | with_reducible exact cD _ _ | with_reducible exact cU _ _ | with_reducible exact cM _ _))))
  refine wpQuiet_nil ?_
  intro _ hw'
  obtain ⟨⟨dq, osq⟩, hw''⟩ := hw'
  subst hw''
  go_wp2
  go_ret
  exact ⟨ret_bool HZ.out.symm, rg hb ⟨⟨dq, osq⟩, rfl⟩⟩

end Go.Proofs.YtlldfmnoidndmaaGreatDoor
