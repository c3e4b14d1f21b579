/- The walk of version.Print. -/
import Derived.Test.YthijccmiemlilaaGreatDoorCa
import Derived.Test.YthijccmiemlilaaGreatDoorV1
import Derived.Test.YthijccmiemlilaaGreatDoorSh
import Derived.Lib.AppendIntMem
import Derived.Lib.AppendStr
import Derived.Lib.ItoaLen
import Derived.Lib.Slices
import Derived.Lib.Hide
import Derived.Laws.IdiomStrings
import Derived.OwnWalk
import Derived.BigCall
import Derived.Laws.BytesArg
import Derived.Lib.QuietBelow
import Derived.BigQuiet
import Derived.RegionTactic
import Derived.BigRegion
import Derived.Outline
namespace Go.Proofs.YthijccmiemlilaaGreatDoor
open Go.RowKit Go.Shelf

theorem infoByte : (Tryz.prog.info? 5).map (fun i => (i.zero, i.size, i.bytes)) = some (some (.int .u8 0), 1, 1) := by kernel_rfl

theorem conv_owned {w : World} {B : Nat} {v : Value} {l : List UInt8} (h : w.ownsRow B 5 1 v l.length (Lib.byteCells l)) : (convert 222 9 v).run Tryz.prog w = .ok (.string ⟨l.toArray⟩) w := by
  rcases h.2 with ⟨rfl, h0⟩ | ⟨g, cap, cur, rfl, -, -, -, -, -, -⟩
  · have : l = [] := List.length_eq_zero_iff.1 h0
    subst this
    exact run_convert_bytes_nil w 222 5 Tryz.underlying222 Tryz.underlying5 0 0 9 Tryz.underlying9
  · exact run_convert_bytes_back (P := Tryz.prog) w 222 9 5 ⟨g, 0, none⟩ cap l Tryz.underlying222 Tryz.underlying5 Tryz.underlying9 (fun j hj => h.cells (g := g) rfl j _ (by simp [Lib.byteCells, hj]))

theorem step_below {B : Nat} {W wA w2 : World} {v : Value} {n : Nat} {xs : List Value} (hb : Below B W wA) (hown : wA.ownsRow B 5 1 v n xs) (hg : wA.grownBy w2 v.ownBlock) (hB : B ≤ wA.heap.size) : Below B W w2 :=
  hb.grown hg hB (fun k hk => (hown.lt k hk).1)

theorem own_str {w : World} {B : Nat} {v : Value} {l u : List UInt8} (h : w.ownsRow B 5 1 v (l.length + (ByteArray.mk u.toArray).size) (Lib.byteCells l ++ Lib.strCells ⟨u.toArray⟩)) : w.ownsRow B 5 1 v (l ++ u).length (Lib.byteCells (l ++ u)) := by
  have e1 : Lib.byteCells l ++ Lib.strCells ⟨u.toArray⟩ = Lib.byteCells (l ++ u) := by simp [Lib.byteCells, Lib.strCells]
  have e2 : l.length + (ByteArray.mk u.toArray).size = (l ++ u).length := by simp [ByteArray.size]
  rw [e1, e2] at h; exact h
theorem own_one {w : World} {B : Nat} {v : Value} {l : List UInt8} {c : UInt8} (h : w.ownsRow B 5 1 v (l.length + 1) (Lib.byteCells l ++ [Value.int .u8 c.toNat])) : w.ownsRow B 5 1 v (l ++ [c]).length (Lib.byteCells (l ++ [c])) := by
  have e1 : Lib.byteCells l ++ [Value.int .u8 c.toNat] = Lib.byteCells (l ++ [c]) := by simp [Lib.byteCells]
  have e2 : l.length + 1 = (l ++ [c]).length := by simp
  rw [e1, e2] at h; exact h
theorem size_le {l : List UInt8} {n : Nat} (h : l.length ≤ n) : (ByteArray.mk l.toArray).size ≤ n := h
theorem cell1 {w : World} (c : Int) : ∀ (j : Nat) (u' : Value), [Value.int .u8 c][j]? = some u' → (w.alloc (.cells #[.int .u8 c] 5)).cell? ((⟨w.heap.size, 0, none⟩ : Addr).add j) = some u' := by
  intro j u' hj
  match j, hj with
  | 0, hj => simp at hj; subst hj; simp [Addr.add]
theorem cell1_one (c : Int) : ∀ u' ∈ [Value.int .u8 c], u'.oneCell' = true := by
  intro u' hu'; simp at hu'; subst hu'; rfl

set_option maxHeartbeats 3200000 in
set_option maxRecDepth 100000 in
theorem print_any (e : Int) (u r : List UInt8) (w : World) (h0 : -9223372036854775808 ≤ e) (h1 : e ≤ 9223372036854775807) (hu : u.length ≤ 200) (hr : r.length ≤ 200) (htab : Lib.TabIs Tryz.prog w "internal/strconv.uint64pow10" .u64 Lib.pow10Tab) :
    Calls Tryz.prog 151 #[.agg #[.int .i64 e, .string ⟨u.toArray⟩, .string ⟨r.toArray⟩]] w fun x w' => x = .returned (.string ⟨(Vm.pt e u r).toArray⟩) ∧ Below w.heap.size w w' := by
  obtain ⟨i0, hi, hz0, hz1, hz2⟩ := info_parts infoByte
  have hT0 := Lib.tabBelow_of_tabIs htab
  have le := Lib.itoa_length_le e h0 h1
  obtain ⟨box, hbox⟩ : ∃ o : Obj, o = .cells #[.int .i64 e, .string ⟨u.toArray⟩, .string ⟨r.toArray⟩] 24 := ⟨_, rfl⟩
  have HB := Lib.hid hbox
  have hbA : Below w.heap.size w (w.alloc box) := (Below.refl _ _).alloc (Nat.le_refl _) _
  have hT : Lib.TabBelow Tryz.prog (w.heap.size + 1) (w.alloc box) "internal/strconv.uint64pow10" .u64 Lib.pow10Tab := fun w' hb => hT0 w' (hbA.trans (hb.mono (Nat.le_succ _)))
  rw [hbox] at hT hbA
  clear hbox HB box htab hT0
  by_cases he : e = 0
  · subst he
    obtain ⟨l0, hl0⟩ : ∃ l : List UInt8, l = Vm.pe 0 := ⟨_, rfl⟩
    have HL : Hid (l0 = Vm.pe 0) := hl0
    have hn : l0.length = 0 := by rw [hl0]; rfl
    have hln : l0.length ≤ 30 := by omega
    have hown2 : (w.alloc (.cells #[.int .i64 0, .string ⟨u.toArray⟩, .string ⟨r.toArray⟩] 24)).ownsRow (w.heap.size + 1) 5 1 (.slice none 0 0) l0.length (Lib.byteCells l0) := by
      rw [hl0]; exact World.ownsRow_nil _ _ _ _
    clear hl0 hn
    have hb2 : Below (w.heap.size + 1) (w.alloc (.cells #[.int .i64 0, .string ⟨u.toArray⟩, .string ⟨r.toArray⟩] 24)) (w.alloc (.cells #[.int .i64 0, .string ⟨u.toArray⟩, .string ⟨r.toArray⟩] 24)) := Below.refl _ _
    go_enter Tryz.func151, Tryz.ntmps151
    go_wp2_with (at_builtin; refine Lib.wpList_append_own_string _ rfl _ _ 222 9 rfl (w.heap.size + 1) 5 i0 Tryz.underlying222 Tryz.underlying9 hi hz0 hz1 hz2 _ _ _ rfl hown2 ⟨u.toArray⟩ rfl ?h1 ?h2 ?h3 ?_)
    case h1 => have := size_le hu; unfold maxLen; omega
    case h2 => have := size_le hu; omega
    case h3 => simp
    intro v3 w3 hown3 hgrow3 _
    have hb3 := step_below hb2 hown2 hgrow3 (by simp)
    have hown3' := own_str hown3
    clear hown3 hgrow3 hown2
    have hl3 : (l0 ++ u).length ≤ 230 := by simp; omega
    obtain ⟨l3, hl3'⟩ : ∃ l, l = l0 ++ u := ⟨_, rfl⟩
    rw [← hl3'] at hown3' hl3
    have HL3 : Hid (l3 = l0 ++ u) := hl3'
    clear hl3'
    have hz3 : w.heap.size + 1 ≤ w3.heap.size := by have := hb3.size; simp at this; omega
    have c2 : w3.cell? ⟨w.heap.size, 2, none⟩ = some (.string ⟨r.toArray⟩) := by rw [hb3.cell (by simp)]; simp
    by_cases hr0 : r = []
    · subst hr0
      have hcv := conv_owned hown3'
      go_wp2
      go_ret
      exact ⟨by rw [HL3.out, HL.out]; simp [Vm.pt, Vm.pr], hbA.trans (hb3.mono (Nat.le_succ _))⟩
    · have hre : r.isEmpty = false := by cases r with
        | nil => exact absurd rfl hr0
        | cons c r => rfl
      go_wp2_with (at_builtin; refine wpList_append_own _ rfl _ _ 222 rfl (w.heap.size + 1) 5 i0 (.int .u8 0) 1 1 Tryz.underlying222 hi hz0 hz1 hz2 rfl (by decide) _ _ _ rfl (hown3'.alloc _) ⟨w3.heap.size, 0, none⟩ 1 1 [Value.int .u8 45] rfl rfl (cell1 45) (cell1_one 45) ?g1 ?g2 ?g3 ?_)
      case g1 => unfold maxLen; omega
      case g2 => omega
      case g3 => simp; omega
      intro v4 w4 hown4 hgrow4 _
      have hb4 := step_below (hb3.alloc hz3 _) (hown3'.alloc _) hgrow4 (by simp; omega)
      have hown4' := own_one (c := 45) hown4
      have hl4 : (l3 ++ [45]).length ≤ 231 := by simp; omega
      obtain ⟨l4, hl4'⟩ : ∃ l, l = l3 ++ [45] := ⟨_, rfl⟩
      rw [← hl4'] at hown4' hl4
      have HL4 : Hid (l4 = l3 ++ [45]) := hl4'
      clear hl4' hown4 hgrow4 hown3'
      have hz4 : w.heap.size + 1 ≤ w4.heap.size := by have := hb4.size; simp at this; omega
      have c4 : w4.cell? ⟨w.heap.size, 2, none⟩ = some (.string ⟨r.toArray⟩) := by rw [hb4.cell (by simp)]; simp
      go_wp2_with (at_builtin; refine Lib.wpList_append_own_string _ rfl _ _ 222 9 rfl (w.heap.size + 1) 5 i0 Tryz.underlying222 Tryz.underlying9 hi hz0 hz1 hz2 _ _ _ rfl hown4' ⟨r.toArray⟩ rfl ?h1 ?h2 ?h3 ?_)
      case h1 => have := size_le hr; unfold maxLen; omega
      case h2 => have := size_le hr; omega
      case h3 => exact hz4
      intro v5 w5 hown5 hgrow5 _
      have hb5 := step_below hb4 hown4' hgrow5 hz4
      have hown5' := own_str hown5
      obtain ⟨l5, hl5'⟩ : ∃ l, l = l4 ++ r := ⟨_, rfl⟩
      rw [← hl5'] at hown5'
      have HL5 : Hid (l5 = l4 ++ r) := hl5'
      clear hl5' hown5 hgrow5 hown4'
      have hcv := conv_owned hown5'
      go_wp2
      go_ret
      exact ⟨by rw [HL5.out, HL4.out, HL3.out, HL.out]; simp [Vm.pt, Vm.pr, hr0], hbA.trans (hb5.mono (Nat.le_succ _))⟩
  · have hne : (e != 0) = true := by simpa using he
    obtain ⟨li, hli⟩ : ∃ l : List UInt8, l = Lib.itoa e := ⟨_, rfl⟩
    have HI : Hid (li = Lib.itoa e) := hli
    rw [← hli] at le
    have HLE : Hid ((Lib.itoa e).length = li.length) := by show _ = _; rw [hli]
    clear hli
    go_enter Tryz.func151, Tryz.ntmps151
    go_wp2_with (go_at_call 165; refine (Tryz.strconv_AppendInt_10 (w.heap.size + 1) 0 e h0 h1 (.slice none 0 0) [] _ (World.ownsRow_nil _ _ _ _) (by simp) (by omega) hT).mono ?_; rintro x w1 ⟨v1, rfl, hown1, hnx1, -⟩; refine Hid.out ?_)
    refine Lib.hid ?_
    rw [Nat.zero_add, List.nil_append, ← HI.out] at hown1
    have hz1' : w.heap.size + 1 ≤ w1.heap.size := by have := hnx1.size; simp at this; omega
    go_wp2_with (at_builtin; refine wpList_append_own _ rfl _ _ 222 rfl (w.heap.size + 1) 5 i0 (.int .u8 0) 1 1 Tryz.underlying222 hi hz0 hz1 hz2 rfl (by decide) _ _ _ rfl (hown1.alloc _) ⟨w1.heap.size, 0, none⟩ 1 1 [Value.int .u8 58] rfl rfl (cell1 58) (cell1_one 58) ?g1 ?g2 ?g3 ?_)
    case g1 => unfold maxLen; omega
    case g2 => omega
    case g3 => simp; omega
    intro v2 w2 hown2 hgrow2 _
    have hb2 := step_below (hnx1.alloc hz1' _) (hown1.alloc _) hgrow2 (by simp; omega)
    have hown2' := own_one (c := 58) hown2
    obtain ⟨l0, hl0⟩ : ∃ l, l = li ++ [58] := ⟨_, rfl⟩
    rw [← hl0] at hown2'
    have hln : l0.length ≤ 30 := by rw [hl0]; simp; omega
    have HL : Hid (l0 = Vm.pe e) := by show l0 = _; rw [hl0, HI.out]; simp [Vm.pe, he]
    clear hl0 hown2 hgrow2 hown1 HLE
    have hz2' : w.heap.size + 1 ≤ w2.heap.size := by have := hb2.size; simp at this; omega
    have c1 : w2.cell? ⟨w.heap.size, 1, none⟩ = some (.string ⟨u.toArray⟩) := by rw [hb2.cell (by simp)]; simp
    go_wp2_with (at_builtin; refine Lib.wpList_append_own_string _ rfl _ _ 222 9 rfl (w.heap.size + 1) 5 i0 Tryz.underlying222 Tryz.underlying9 hi hz0 hz1 hz2 _ _ _ rfl hown2' ⟨u.toArray⟩ rfl ?h1 ?h2 ?h3 ?_)
    case h1 => have := size_le hu; unfold maxLen; omega
    case h2 => have := size_le hu; omega
    case h3 => exact hz2'
    intro v3 w3 hown3 hgrow3 _
    have hb3 := step_below hb2 hown2' hgrow3 hz2'
    have hown3' := own_str hown3
    clear hown3 hgrow3 hown2'
    have hl3 : (l0 ++ u).length ≤ 230 := by simp; omega
    obtain ⟨l3, hl3'⟩ : ∃ l, l = l0 ++ u := ⟨_, rfl⟩
    rw [← hl3'] at hown3' hl3
    have HL3 : Hid (l3 = l0 ++ u) := hl3'
    clear hl3'
    have hz3 : w.heap.size + 1 ≤ w3.heap.size := by have := hb3.size; simp at this; omega
    have c2 : w3.cell? ⟨w.heap.size, 2, none⟩ = some (.string ⟨r.toArray⟩) := by rw [hb3.cell (by simp)]; simp
    by_cases hr0 : r = []
    · subst hr0
      have hcv := conv_owned hown3'
      go_wp2
      go_ret
      exact ⟨by rw [HL3.out, HL.out]; simp [Vm.pt, Vm.pr], hbA.trans (hb3.mono (Nat.le_succ _))⟩
    · have hre : r.isEmpty = false := by cases r with
        | nil => exact absurd rfl hr0
        | cons c r => rfl
      go_wp2_with (at_builtin; refine wpList_append_own _ rfl _ _ 222 rfl (w.heap.size + 1) 5 i0 (.int .u8 0) 1 1 Tryz.underlying222 hi hz0 hz1 hz2 rfl (by decide) _ _ _ rfl (hown3'.alloc _) ⟨w3.heap.size, 0, none⟩ 1 1 [Value.int .u8 45] rfl rfl (cell1 45) (cell1_one 45) ?g1 ?g2 ?g3 ?_)
      case g1 => unfold maxLen; omega
      case g2 => omega
      case g3 => simp; omega
      intro v4 w4 hown4 hgrow4 _
      have hb4 := step_below (hb3.alloc hz3 _) (hown3'.alloc _) hgrow4 (by simp; omega)
      have hown4' := own_one (c := 45) hown4
      have hl4 : (l3 ++ [45]).length ≤ 231 := by simp; omega
      obtain ⟨l4, hl4'⟩ : ∃ l, l = l3 ++ [45] := ⟨_, rfl⟩
      rw [← hl4'] at hown4' hl4
      have HL4 : Hid (l4 = l3 ++ [45]) := hl4'
      clear hl4' hown4 hgrow4 hown3'
      have hz4 : w.heap.size + 1 ≤ w4.heap.size := by have := hb4.size; simp at this; omega
      have c4 : w4.cell? ⟨w.heap.size, 2, none⟩ = some (.string ⟨r.toArray⟩) := by rw [hb4.cell (by simp)]; simp
      go_wp2_with (at_builtin; refine Lib.wpList_append_own_string _ rfl _ _ 222 9 rfl (w.heap.size + 1) 5 i0 Tryz.underlying222 Tryz.underlying9 hi hz0 hz1 hz2 _ _ _ rfl hown4' ⟨r.toArray⟩ rfl ?h1 ?h2 ?h3 ?_)
      case h1 => have := size_le hr; unfold maxLen; omega
      case h2 => have := size_le hr; omega
      case h3 => exact hz4
      intro v5 w5 hown5 hgrow5 _
      have hb5 := step_below hb4 hown4' hgrow5 hz4
      have hown5' := own_str hown5
      obtain ⟨l5, hl5'⟩ : ∃ l, l = l4 ++ r := ⟨_, rfl⟩
      rw [← hl5'] at hown5'
      have HL5 : Hid (l5 = l4 ++ r) := hl5'
      clear hl5' hown5 hgrow5 hown4'
      have hcv := conv_owned hown5'
      go_wp2
      go_ret
      exact ⟨by rw [HL5.out, HL4.out, HL3.out, HL.out]; simp [Vm.pt, Vm.pr, hr0], hbA.trans (hb5.mono (Nat.le_succ _))⟩

end Go.Proofs.YthijccmiemlilaaGreatDoor
namespace Go.Proofs.YthijccmiemlilaaGreatDoor
open Go.RowKit Go.Shelf Go.Sort

theorem idx_any (m : List UInt8) (c : UInt8) (w : World) : Calls Tryz.prog 153 #[.string ⟨m.toArray⟩, .int .u8 c.toNat] w fun e w' => e = .returned (.int .i64 (Lib.indexByte m c)) ∧ w' = w := by
  have h := Tryz.strings_IndexByte ⟨m.toArray⟩ c.toNat w
  have e1 : ((c.toNat : Int).toNat).toUInt8 = c := by simp
  rw [e1] at h; exact h

theorem ok_dig {m : List UInt8} {c : UInt8} (h : Vm.dg c = true) : Vm.ok1 m c = true := by simp [Vm.ok1, h]
theorem ok_let {m : List UInt8} {c : UInt8} (h : Vm.lr c = true) : Vm.ok1 m c = true := by simp [Vm.ok1, h]
theorem ok_in {m : List UInt8} {c : UInt8} (h : ¬ Lib.indexByte m c < 0) : Vm.ok1 m c = true := by
  have := Vm.idx_neg m c
  rw [decide_eq_false h] at this
  simp [Vm.ok1]; right; simpa using this
theorem ok_no {m : List UInt8} {c : UInt8} (h1 : Vm.dg c = false) (h2 : Vm.lr c = false) (h : Lib.indexByte m c < 0) : Vm.ok1 m c = false := by
  have := Vm.idx_neg m c
  rw [decide_eq_true h] at this
  simp [Vm.ok1, h1, h2]; simpa using this

theorem all_to {p : UInt8 → Bool} {l : List UInt8} (h : ∀ j (hj : j < l.length), p l[j] = true) : true = l.all p := by
  symm; rw [List.all_eq_true]
  intro x hx
  obtain ⟨j, hj, rfl⟩ := List.getElem_of_mem hx
  exact h j hj
theorem all_no {p : UInt8 → Bool} {l : List UInt8} (k : Nat) (hk : k < l.length) (h : p l[k] = false) : false = l.all p := by
  symm; rw [List.all_eq_false]
  exact ⟨l[k], List.getElem_mem hk, by simp [h]⟩

set_option maxHeartbeats 400000 in
theorem made_any (l m : List UInt8) (w : World) (hl : l.length ≤ 200) : Calls Tryz.prog 141 #[.string ⟨l.toArray⟩, .string ⟨m.toArray⟩] w fun e w' => e = .returned (.bool (l.all (Vm.ok1 m))) ∧ w' = w := by
  go_enter Tryz.func141, Tryz.ntmps141
  go_wp2
  go_loop [9] (fun i => ∃ k : Nat, k ≤ l.length ∧ i = .int .i64 k ∧ ∀ j (hj : j < l.length), j < k → Vm.ok1 m l[j] = true) (fun i => l.length - (intOf i).toNat)
  case atStart => exact ⟨0, Nat.zero_le _, rfl, fun j _ h => absurd h (Nat.not_lt_zero _)⟩
  case round =>
    obtain ⟨k, hk, rfl, hpre0⟩ := hrel
    have hpre : Hid (∀ j (hj : j < l.length), j < k → Vm.ok1 m l[j] = true) := hpre0
    clear hpre0
    by_cases hlt : k < l.length
    · have more : Vm.ok1 m l[k] = true → ∀ j (hj : j < l.length), j < k + 1 → Vm.ok1 m l[j] = true := fun hc j hj h => by
        by_cases e : j = k
        · subst e; exact hc
        · exact hpre.out j hj (by omega)
      have HM := Lib.hid more
      clear more
      go_wp2_with (first | (go_at_call 138; refine (digit_any _ _).mono ?_; rintro e w' ⟨rfl, rfl⟩) | (go_at_call 152; refine (letter_any _ _).mono ?_; rintro e w' ⟨rfl, rfl⟩) | (go_at_call 153; refine (idx_any _ _ _).mono ?_; rintro e w' ⟨rfl, rfl⟩))
      · exact ⟨⟨k + 1, hlt, by go_num, HM.out (ok_dig ‹_›)⟩, by simp [intOf]; omega⟩
      · exact ⟨⟨k + 1, hlt, by go_num, HM.out (ok_let ‹_›)⟩, by simp [intOf]; omega⟩
      · go_ret
        have h1 : ¬ Vm.dg l[k] = true := ‹_›
        have h2 : ¬ Vm.lr l[k] = true := ‹_›
        exact ⟨ret_bool (all_no k hlt (ok_no (by simpa using h1) (by simpa using h2) ‹_›)), rfl⟩
      · have h3 : 0 ≤ Lib.indexByte m l[k] := ‹_›
        exact ⟨⟨k + 1, hlt, by go_num, HM.out (ok_in (by omega))⟩, by simp [intOf]; omega⟩
    · go_wp2
      go_ret
      exact ⟨ret_bool (all_to (fun j hj => hpre.out j hj (by omega))), rfl⟩

theorem ret_str {a b : List UInt8} (h : a = b) : Ending.returned (.string ⟨a.toArray⟩) = .returned (.string ⟨b.toArray⟩) := by rw [h]
theorem ret_sv {a : ByteArray} {b : List UInt8} (h : a = ⟨b.toArray⟩) : Ending.returned (.string a) = .returned (.string ⟨b.toArray⟩) := by rw [h]

theorem us_any (e : Int) (u r : List UInt8) (w : World) : Calls Tryz.prog 142 #[.agg #[.int .i64 e, .string ⟨u.toArray⟩, .string ⟨r.toArray⟩]] w fun x w' => x = .returned (.string ⟨(Vm.us e r).toArray⟩) ∧ Below w.heap.size w w' := by
  have hb : ∀ o, Below w.heap.size w (w.alloc o) := fun o => (Below.refl _ _).alloc (Nat.le_refl _) _
  by_cases he : 0 < e
  all_goals
    by_cases hr : r = []
    · subst hr
      have HU := Lib.hid (show Vm.us e [] = _ from by simp only [Vm.us, he, Vm.sgn, if_true, if_false]; rfl)
      go_enter Tryz.func142, Tryz.ntmps142
      go_wp2
      go_ret
      exact ⟨ret_sv (by rw [HU.out]; rfl), hb _⟩
    · have hre : r.isEmpty = false := by cases r with
        | nil => exact absurd rfl hr
        | cons c r => rfl
      have HU := Lib.hid (show Vm.us e r = _ from by simp only [Vm.us, he, hr, Vm.sgn, if_true, if_false]; rfl)
      go_enter Tryz.func142, Tryz.ntmps142
      go_wp2
      go_ret
      exact ⟨ret_sv (by rw [HU.out]; rfl), hb _⟩

set_option maxHeartbeats 800000 in
theorem fits_any (e : Int) (u r : List UInt8) (w : World) (h0 : -9223372036854775808 ≤ e) (h1 : e ≤ 9223372036854775807) (htab : Lib.TabIs Tryz.prog w "internal/strconv.uint64pow10" .u64 Lib.pow10Tab) :
    Calls Tryz.prog 140 #[.agg #[.int .i64 e, .string ⟨u.toArray⟩, .string ⟨r.toArray⟩]] w fun x w' => x = .returned (.bool (Vm.ft e u r)) ∧ Below w.heap.size w w' := by
  have hb : ∀ o, Below w.heap.size w (w.alloc o) := fun o => (Below.refl _ _).alloc (Nat.le_refl _) _
  have htab' := fun o => (Lib.tabBelow_of_tabIs htab).on (hb o)
  clear htab
  by_cases hu : u.length ≤ 40
  · by_cases hr : r.length ≤ 40
    · have HF : Hid (Vm.ft e u r = decide ((Vm.pt e u r).length ≤ 40)) := by show Vm.ft e u r = _; simp [Vm.ft, hu, hr]
      go_enter Tryz.func140, Tryz.ntmps140
      go_wp2_with fail
      refine (print_any e u r _ h0 h1 (by omega) (by omega) (htab' _).here).mono ?_
      rintro x w1 ⟨rfl, hb1⟩
      go_wp2
      go_ret
      exact ⟨ret_bool (by rw [HF.out]; simp; try omega), (hb _).trans (hb1.mono (by simp))⟩
    · have HF : Hid (Vm.ft e u r = false) := by show Vm.ft e u r = _; simp [Vm.ft, hr]
      go_enter Tryz.func140, Tryz.ntmps140
      go_wp2
      go_ret
      exact ⟨ret_bool (by rw [HF.out]), hb _⟩
  · have HF : Hid (Vm.ft e u r = false) := by show Vm.ft e u r = _; simp [Vm.ft, hu]
    go_enter Tryz.func140, Tryz.ntmps140
    go_wp2
    go_ret
    exact ⟨ret_bool (by rw [HF.out]), hb _⟩

theorem rt_neg {e : Int} (u r : List UInt8) (h : ¬ 0 ≤ e) : Vm.rt e u r = false := by simp [Vm.rt, h]
theorem rt_big {e : Int} (u r : List UInt8) (h : ¬ e < 1000000000) : Vm.rt e u r = false := by simp [Vm.rt, h]
theorem rt_ft {e : Int} {u r : List UInt8} (h : Vm.ft e u r = false) : Vm.rt e u r = false := by simp [Vm.rt, h]
theorem rt_hd {e : Int} {u r : List UInt8} (h : Vm.hd u = false) : Vm.rt e u r = false := by simp [Vm.rt, h]
theorem rt_up {e : Int} {u r : List UInt8} (h : u.all (Vm.ok1 (Vm.us e r)) = false) : Vm.rt e u r = false := by
  unfold Vm.rt; rw [h]; simp
theorem rt_rev {e : Int} {u r : List UInt8} {b : Bool} (g0 : 0 ≤ e) (g1 : e < 1000000000) (g2 : Vm.ft e u r = true) (g3 : Vm.hd u = true) (g4 : u.all (Vm.ok1 (Vm.us e r)) = true) (h : r.all (Vm.ok1 Vm.sgn) = b) : Vm.rt e u r = b := by
  unfold Vm.rt; rw [g2, g3, g4, h]; simp [g0, g1]

theorem rg {w W w' : World} (h : Below w.heap.size w W) (h' : ∃ p : Regrown, w' = grow (redrawn W p.d) p.os) : Below w.heap.size w w' := by
  obtain ⟨p, rfl⟩ := h'
  exact h.trans ((below_regrown W p.d p.os).mono h.size)
theorem regrown_same {f : FuncId} {args : Array Value} {w : World} {v : Value} (h : ∀ W, Calls Tryz.prog f args W fun e w' => e = .returned v ∧ w' = W) (d : Nat) (os : Array Obj) :
    Calls Tryz.prog f args (grow (redrawn w d) os) fun e w'' => e = .returned v ∧ ∃ p : Regrown, w'' = grow (redrawn w p.d) p.os :=
  (h _).mono fun _ _ ⟨he, hw⟩ => ⟨he, ⟨d, os⟩, hw⟩
theorem tab_regrown {w W : World} (hT : Lib.TabBelow Tryz.prog w.heap.size W "internal/strconv.uint64pow10" .u64 Lib.pow10Tab) (hs : w.heap.size ≤ W.heap.size) (d : Nat) (os : Array Obj) : Lib.TabIs Tryz.prog (grow (redrawn W d) os) "internal/strconv.uint64pow10" .u64 Lib.pow10Tab :=
  hT _ ((below_regrown W d os).mono hs)
theorem pb_head (c : UInt8) (l : List UInt8) (h : 0 < (ByteArray.mk (c :: l).toArray).size) : (ByteArray.mk (c :: l).toArray)[0]'h = c := rfl
attribute [local go_sem] pb_head

set_option maxHeartbeats 1600000 in
set_option maxRecDepth 100000 in
theorem right_e (e : Int) (u r : List UInt8) (w : World) (g : ¬ (0 ≤ e ∧ e < 1000000000)) (_h0 : -9223372036854775808 ≤ e) (_h1 : e ≤ 9223372036854775807) (_hu : u.length ≤ 200) (_hr : r.length ≤ 200) (htab : Lib.TabIs Tryz.prog w "internal/strconv.uint64pow10" .u64 Lib.pow10Tab) :
    Calls Tryz.prog 123 #[.agg #[.int .i64 e, .string ⟨u.toArray⟩, .string ⟨r.toArray⟩]] w fun x w' => x = .returned (.bool (Vm.rt e u r)) ∧ Below w.heap.size w w' := by
  have hb : Below w.heap.size w (w.alloc (.cells #[.int .i64 e, .string ⟨u.toArray⟩, .string ⟨r.toArray⟩] 24)) := (Below.refl _ _).alloc (Nat.le_refl _) _
  have hT := (Lib.tabBelow_of_tabIs htab).on hb
  clear htab
  have c0 : (w.alloc (.cells #[.int .i64 e, .string ⟨u.toArray⟩, .string ⟨r.toArray⟩] 24)).cell? ⟨w.heap.size, 0, none⟩ = some (.int .i64 e) := by simp
  have c1 : (w.alloc (.cells #[.int .i64 e, .string ⟨u.toArray⟩, .string ⟨r.toArray⟩] 24)).cell? ⟨w.heap.size, 1, none⟩ = some (.string ⟨u.toArray⟩) := by simp
  have c2 : (w.alloc (.cells #[.int .i64 e, .string ⟨u.toArray⟩, .string ⟨r.toArray⟩] 24)).cell? ⟨w.heap.size, 2, none⟩ = some (.string ⟨r.toArray⟩) := by simp
  have k0 := cell_regrown c0
  have k1 := cell_regrown c1
  have k2 := cell_regrown c2
  clear c0 c1 c2
  by_cases g0 : 0 ≤ e
  · have g1 : ¬ e < 1000000000 := fun h => g ⟨g0, h⟩
    clear g
    have HZ := Lib.hid (rt_big u r g1)
    have d1 : decide (e < 1000000000) = false := by simpa using g1
    go_enter Tryz.func123, Tryz.ntmps123
    go_wp2
    refine wp_region_quiet_below (by kernel_rfl) (by kernel_rfl) ?_
    repeat (any_goals (first | go_big_quiet_step ((fail)) | quiet_step ((fail))))
    refine wpQuiet_nil ?_
    intro _ hw'
    obtain ⟨⟨dq, osq⟩, hw''⟩ := hw'
    subst hw''
    go_wp2
    go_ret
    exact ⟨ret_bool HZ.out.symm, rg hb ⟨⟨dq, osq⟩, rfl⟩⟩
  · clear g
    have HZ := Lib.hid (rt_neg u r g0)
    have d0 : decide (0 ≤ e) = false := by simpa using g0
    go_enter Tryz.func123, Tryz.ntmps123
    go_wp2
    refine wp_region_quiet_below (by kernel_rfl) (by kernel_rfl) ?_
    repeat (any_goals (first | go_big_quiet_step ((fail)) | quiet_step ((fail))))
    refine wpQuiet_nil ?_
    intro _ hw'
    obtain ⟨⟨dq, osq⟩, hw''⟩ := hw'
    subst hw''
    go_wp2
    go_ret
    exact ⟨ret_bool HZ.out.symm, rg hb ⟨⟨dq, osq⟩, rfl⟩⟩

set_option maxHeartbeats 1600000 in
set_option maxRecDepth 100000 in
theorem right_f (e : Int) (u r : List UInt8) (w : World) (g0 : 0 ≤ e) (g1 : e < 1000000000) (g2 : Vm.ft e u r = false) (h0 : -9223372036854775808 ≤ e) (h1 : e ≤ 9223372036854775807) (_hu : u.length ≤ 200) (_hr : r.length ≤ 200) (htab : Lib.TabIs Tryz.prog w "internal/strconv.uint64pow10" .u64 Lib.pow10Tab) :
    Calls Tryz.prog 123 #[.agg #[.int .i64 e, .string ⟨u.toArray⟩, .string ⟨r.toArray⟩]] w fun x w' => x = .returned (.bool (Vm.rt e u r)) ∧ Below w.heap.size w w' := by
  have hb : Below w.heap.size w (w.alloc (.cells #[.int .i64 e, .string ⟨u.toArray⟩, .string ⟨r.toArray⟩] 24)) := (Below.refl _ _).alloc (Nat.le_refl _) _
  have hT := (Lib.tabBelow_of_tabIs htab).on hb
  clear htab
  have c0 : (w.alloc (.cells #[.int .i64 e, .string ⟨u.toArray⟩, .string ⟨r.toArray⟩] 24)).cell? ⟨w.heap.size, 0, none⟩ = some (.int .i64 e) := by simp
  have c1 : (w.alloc (.cells #[.int .i64 e, .string ⟨u.toArray⟩, .string ⟨r.toArray⟩] 24)).cell? ⟨w.heap.size, 1, none⟩ = some (.string ⟨u.toArray⟩) := by simp
  have c2 : (w.alloc (.cells #[.int .i64 e, .string ⟨u.toArray⟩, .string ⟨r.toArray⟩] 24)).cell? ⟨w.heap.size, 2, none⟩ = some (.string ⟨r.toArray⟩) := by simp
  have k0 := cell_regrown c0
  have k1 := cell_regrown c1
  have k2 := cell_regrown c2
  clear c0 c1 c2
  have HZ := Lib.hid (rt_ft g2)
  have cF : ∀ d os, Calls Tryz.prog 140 #[.agg #[.int .i64 e, .string ⟨u.toArray⟩, .string ⟨r.toArray⟩]] (grow (redrawn (w.alloc (.cells #[.int .i64 e, .string ⟨u.toArray⟩, .string ⟨r.toArray⟩] 24)) d) os) fun x w'' => x = .returned (.bool false) ∧ ∃ p : Regrown, w'' = grow (redrawn (w.alloc (.cells #[.int .i64 e, .string ⟨u.toArray⟩, .string ⟨r.toArray⟩] 24)) p.d) p.os := fun d os => by rw [← g2]; exact Calls.regrown_of (fits_any e u r _ h0 h1 (tab_regrown hT hb.size d os))
  go_enter Tryz.func123, Tryz.ntmps123
  go_wp2
  refine wp_region_quiet_below (by kernel_rfl) (by kernel_rfl) ?_
  repeat (any_goals (first | go_big_quiet_step ((with_reducible exact cF _ _)) | quiet_step ((with_reducible exact cF _ _))))
  refine wpQuiet_nil ?_
  intro _ hw'
  obtain ⟨⟨dq, osq⟩, hw''⟩ := hw'
  subst hw''
  go_wp2
  go_ret
  exact ⟨ret_bool HZ.out.symm, rg hb ⟨⟨dq, osq⟩, rfl⟩⟩

set_option maxHeartbeats 1600000 in
set_option maxRecDepth 100000 in
theorem right_0 (e : Int) (r : List UInt8) (w : World) (g0 : 0 ≤ e) (g1 : e < 1000000000) (g2 : Vm.ft e [] r = true) (h0 : -9223372036854775808 ≤ e) (h1 : e ≤ 9223372036854775807) (_hr : r.length ≤ 200) (htab : Lib.TabIs Tryz.prog w "internal/strconv.uint64pow10" .u64 Lib.pow10Tab) :
    Calls Tryz.prog 123 #[.agg #[.int .i64 e, .string ⟨([] : List UInt8).toArray⟩, .string ⟨r.toArray⟩]] w fun x w' => x = .returned (.bool (Vm.rt e [] r)) ∧ Below w.heap.size w w' := by
  have hb : Below w.heap.size w (w.alloc (.cells #[.int .i64 e, .string ⟨([] : List UInt8).toArray⟩, .string ⟨r.toArray⟩] 24)) := (Below.refl _ _).alloc (Nat.le_refl _) _
  have hT := (Lib.tabBelow_of_tabIs htab).on hb
  clear htab
  have c0 : (w.alloc (.cells #[.int .i64 e, .string ⟨([] : List UInt8).toArray⟩, .string ⟨r.toArray⟩] 24)).cell? ⟨w.heap.size, 0, none⟩ = some (.int .i64 e) := by simp
  have c1 : (w.alloc (.cells #[.int .i64 e, .string ⟨([] : List UInt8).toArray⟩, .string ⟨r.toArray⟩] 24)).cell? ⟨w.heap.size, 1, none⟩ = some (.string ⟨([] : List UInt8).toArray⟩) := by simp
  have c2 : (w.alloc (.cells #[.int .i64 e, .string ⟨([] : List UInt8).toArray⟩, .string ⟨r.toArray⟩] 24)).cell? ⟨w.heap.size, 2, none⟩ = some (.string ⟨r.toArray⟩) := by simp
  have k0 := cell_regrown c0
  have k1 := cell_regrown c1
  have k2 := cell_regrown c2
  clear c0 c1 c2
  have HZ := Lib.hid (rt_hd (e := e) (u := []) (r := r) rfl)
  have cF : ∀ d os, Calls Tryz.prog 140 #[.agg #[.int .i64 e, .string ⟨([] : List UInt8).toArray⟩, .string ⟨r.toArray⟩]] (grow (redrawn (w.alloc (.cells #[.int .i64 e, .string ⟨([] : List UInt8).toArray⟩, .string ⟨r.toArray⟩] 24)) d) os) fun x w'' => x = .returned (.bool true) ∧ ∃ p : Regrown, w'' = grow (redrawn (w.alloc (.cells #[.int .i64 e, .string ⟨([] : List UInt8).toArray⟩, .string ⟨r.toArray⟩] 24)) p.d) p.os := fun d os => by rw [← g2]; exact Calls.regrown_of (fits_any e ([] : List UInt8) r _ h0 h1 (tab_regrown hT hb.size d os))
  go_enter Tryz.func123, Tryz.ntmps123
  go_wp2
  refine wp_region_quiet_below (by kernel_rfl) (by kernel_rfl) ?_
  repeat (any_goals (first | go_big_quiet_step ((with_reducible exact cF _ _)) | quiet_step ((with_reducible exact cF _ _))))
  refine wpQuiet_nil ?_
  intro _ hw'
  obtain ⟨⟨dq, osq⟩, hw''⟩ := hw'
  subst hw''
  go_wp2
  go_ret
  exact ⟨ret_bool HZ.out.symm, rg hb ⟨⟨dq, osq⟩, rfl⟩⟩

set_option maxHeartbeats 1600000 in
set_option maxRecDepth 100000 in
theorem right_d (e : Int) (c : UInt8) (t r : List UInt8) (w : World) (g0 : 0 ≤ e) (g1 : e < 1000000000) (g2 : Vm.ft e (c :: t) r = true) (g3 : Vm.dg c = false) (h0 : -9223372036854775808 ≤ e) (h1 : e ≤ 9223372036854775807) (_hu : (c :: t).length ≤ 200) (_hr : r.length ≤ 200) (htab : Lib.TabIs Tryz.prog w "internal/strconv.uint64pow10" .u64 Lib.pow10Tab) :
    Calls Tryz.prog 123 #[.agg #[.int .i64 e, .string ⟨(c :: t).toArray⟩, .string ⟨r.toArray⟩]] w fun x w' => x = .returned (.bool (Vm.rt e (c :: t) r)) ∧ Below w.heap.size w w' := by
  have hb : Below w.heap.size w (w.alloc (.cells #[.int .i64 e, .string ⟨(c :: t).toArray⟩, .string ⟨r.toArray⟩] 24)) := (Below.refl _ _).alloc (Nat.le_refl _) _
  have hT := (Lib.tabBelow_of_tabIs htab).on hb
  clear htab
  have c0 : (w.alloc (.cells #[.int .i64 e, .string ⟨(c :: t).toArray⟩, .string ⟨r.toArray⟩] 24)).cell? ⟨w.heap.size, 0, none⟩ = some (.int .i64 e) := by simp
  have c1 : (w.alloc (.cells #[.int .i64 e, .string ⟨(c :: t).toArray⟩, .string ⟨r.toArray⟩] 24)).cell? ⟨w.heap.size, 1, none⟩ = some (.string ⟨(c :: t).toArray⟩) := by simp
  have c2 : (w.alloc (.cells #[.int .i64 e, .string ⟨(c :: t).toArray⟩, .string ⟨r.toArray⟩] 24)).cell? ⟨w.heap.size, 2, none⟩ = some (.string ⟨r.toArray⟩) := by simp
  have k0 := cell_regrown c0
  have k1 := cell_regrown c1
  have k2 := cell_regrown c2
  clear c0 c1 c2
  have HZ := Lib.hid (rt_hd (e := e) (u := c :: t) (r := r) g3)
  have cF : ∀ d os, Calls Tryz.prog 140 #[.agg #[.int .i64 e, .string ⟨(c :: t).toArray⟩, .string ⟨r.toArray⟩]] (grow (redrawn (w.alloc (.cells #[.int .i64 e, .string ⟨(c :: t).toArray⟩, .string ⟨r.toArray⟩] 24)) d) os) fun x w'' => x = .returned (.bool true) ∧ ∃ p : Regrown, w'' = grow (redrawn (w.alloc (.cells #[.int .i64 e, .string ⟨(c :: t).toArray⟩, .string ⟨r.toArray⟩] 24)) p.d) p.os := fun d os => by rw [← g2]; exact Calls.regrown_of (fits_any e (c :: t) r _ h0 h1 (tab_regrown hT hb.size d os))
  have cD : ∀ d os, Calls Tryz.prog 138 #[.int .u8 c.toNat] (grow (redrawn (w.alloc (.cells #[.int .i64 e, .string ⟨(c :: t).toArray⟩, .string ⟨r.toArray⟩] 24)) d) os) fun x w'' => x = .returned (.bool false) ∧ ∃ p : Regrown, w'' = grow (redrawn (w.alloc (.cells #[.int .i64 e, .string ⟨(c :: t).toArray⟩, .string ⟨r.toArray⟩] 24)) p.d) p.os := by rw [← g3]; exact regrown_same (fun W => digit_any c W)
  go_enter Tryz.func123, Tryz.ntmps123
  go_wp2
  refine wp_region_quiet_below (by kernel_rfl) (by kernel_rfl) ?_
  repeat (any_goals (first | go_big_quiet_step ((first | with_reducible exact cF _ _ | with_reducible exact cD _ _)) | quiet_step ((first | with_reducible exact cF _ _ | with_reducible exact cD _ _))))
  refine wpQuiet_nil ?_
  intro _ hw'
  obtain ⟨⟨dq, osq⟩, hw''⟩ := hw'
  subst hw''
  go_wp2
  go_ret
  exact ⟨ret_bool HZ.out.symm, rg hb ⟨⟨dq, osq⟩, rfl⟩⟩

set_option maxHeartbeats 1600000 in
set_option maxRecDepth 100000 in
theorem right_u (e : Int) (c : UInt8) (t r : List UInt8) (w : World) (g0 : 0 ≤ e) (g1 : e < 1000000000) (g2 : Vm.ft e (c :: t) r = true) (g3 : Vm.dg c = true) (g4 : (c :: t).all (Vm.ok1 (Vm.us e r)) = false) (h0 : -9223372036854775808 ≤ e) (h1 : e ≤ 9223372036854775807) (hu : (c :: t).length ≤ 200) (_hr : r.length ≤ 200) (htab : Lib.TabIs Tryz.prog w "internal/strconv.uint64pow10" .u64 Lib.pow10Tab) :
    Calls Tryz.prog 123 #[.agg #[.int .i64 e, .string ⟨(c :: t).toArray⟩, .string ⟨r.toArray⟩]] w fun x w' => x = .returned (.bool (Vm.rt e (c :: t) r)) ∧ Below w.heap.size w w' := by
  have hb : Below w.heap.size w (w.alloc (.cells #[.int .i64 e, .string ⟨(c :: t).toArray⟩, .string ⟨r.toArray⟩] 24)) := (Below.refl _ _).alloc (Nat.le_refl _) _
  have hT := (Lib.tabBelow_of_tabIs htab).on hb
  clear htab
  have c0 : (w.alloc (.cells #[.int .i64 e, .string ⟨(c :: t).toArray⟩, .string ⟨r.toArray⟩] 24)).cell? ⟨w.heap.size, 0, none⟩ = some (.int .i64 e) := by simp
  have c1 : (w.alloc (.cells #[.int .i64 e, .string ⟨(c :: t).toArray⟩, .string ⟨r.toArray⟩] 24)).cell? ⟨w.heap.size, 1, none⟩ = some (.string ⟨(c :: t).toArray⟩) := by simp
  have c2 : (w.alloc (.cells #[.int .i64 e, .string ⟨(c :: t).toArray⟩, .string ⟨r.toArray⟩] 24)).cell? ⟨w.heap.size, 2, none⟩ = some (.string ⟨r.toArray⟩) := by simp
  have k0 := cell_regrown c0
  have k1 := cell_regrown c1
  have k2 := cell_regrown c2
  clear c0 c1 c2
  have HZ := Lib.hid (rt_up g4)
  have cF : ∀ d os, Calls Tryz.prog 140 #[.agg #[.int .i64 e, .string ⟨(c :: t).toArray⟩, .string ⟨r.toArray⟩]] (grow (redrawn (w.alloc (.cells #[.int .i64 e, .string ⟨(c :: t).toArray⟩, .string ⟨r.toArray⟩] 24)) d) os) fun x w'' => x = .returned (.bool true) ∧ ∃ p : Regrown, w'' = grow (redrawn (w.alloc (.cells #[.int .i64 e, .string ⟨(c :: t).toArray⟩, .string ⟨r.toArray⟩] 24)) p.d) p.os := fun d os => by rw [← g2]; exact Calls.regrown_of (fits_any e (c :: t) r _ h0 h1 (tab_regrown hT hb.size d os))
  have cD : ∀ d os, Calls Tryz.prog 138 #[.int .u8 c.toNat] (grow (redrawn (w.alloc (.cells #[.int .i64 e, .string ⟨(c :: t).toArray⟩, .string ⟨r.toArray⟩] 24)) d) os) fun x w'' => x = .returned (.bool true) ∧ ∃ p : Regrown, w'' = grow (redrawn (w.alloc (.cells #[.int .i64 e, .string ⟨(c :: t).toArray⟩, .string ⟨r.toArray⟩] 24)) p.d) p.os := by rw [← g3]; exact regrown_same (fun W => digit_any c W)
  have cU : ∀ d os, Calls Tryz.prog 142 #[.agg #[.int .i64 e, .string ⟨(c :: t).toArray⟩, .string ⟨r.toArray⟩]] (grow (redrawn (w.alloc (.cells #[.int .i64 e, .string ⟨(c :: t).toArray⟩, .string ⟨r.toArray⟩] 24)) d) os) fun x w'' => x = .returned (.string ⟨(Vm.us e r).toArray⟩) ∧ ∃ p : Regrown, w'' = grow (redrawn (w.alloc (.cells #[.int .i64 e, .string ⟨(c :: t).toArray⟩, .string ⟨r.toArray⟩] 24)) p.d) p.os := fun d os => Calls.regrown_of (us_any e (c :: t) r _)
  have cM : ∀ d os, Calls Tryz.prog 141 #[.string ⟨(c :: t).toArray⟩, .string ⟨(Vm.us e r).toArray⟩] (grow (redrawn (w.alloc (.cells #[.int .i64 e, .string ⟨(c :: t).toArray⟩, .string ⟨r.toArray⟩] 24)) d) os) fun x w'' => x = .returned (.bool false) ∧ ∃ p : Regrown, w'' = grow (redrawn (w.alloc (.cells #[.int .i64 e, .string ⟨(c :: t).toArray⟩, .string ⟨r.toArray⟩] 24)) p.d) p.os := by rw [← g4]; exact regrown_same (fun W => made_any _ _ W hu)
  clear g4
  go_enter Tryz.func123, Tryz.ntmps123
  go_wp2
  refine wp_region_quiet_below (by kernel_rfl) (by kernel_rfl) ?_
  repeat (any_goals (first | go_big_quiet_step ((first | with_reducible exact cF _ _ | with_reducible exact cD _ _ | with_reducible exact cU _ _ | with_reducible exact cM _ _)) | quiet_step ((first | with_reducible exact cF _ _ | with_reducible exact cD _ _ | with_reducible exact cU _ _ | with_reducible exact cM _ _))))
  refine wpQuiet_nil ?_
  intro _ hw'
  obtain ⟨⟨dq, osq⟩, hw''⟩ := hw'
  subst hw''
  go_wp2
  go_ret
  exact ⟨ret_bool HZ.out.symm, rg hb ⟨⟨dq, osq⟩, rfl⟩⟩

end Go.Proofs.YthijccmiemlilaaGreatDoor
namespace Go.Proofs.YthijccmiemlilaaGreatDoor
open Go.RowKit Go.Shelf Go.Sort
attribute [local go_sem] pb_head

set_option maxHeartbeats 1600000 in
set_option maxRecDepth 100000 in
theorem right_r (e : Int) (c : UInt8) (t r : List UInt8) (w : World) (g0 : 0 ≤ e) (g1 : e < 1000000000) (g2 : Vm.ft e (c :: t) r = true) (g3 : Vm.dg c = true) (g4 : (c :: t).all (Vm.ok1 (Vm.us e r)) = true) (b : Bool) (g5 : r.all (Vm.ok1 Vm.sgn) = b) (h0 : -9223372036854775808 ≤ e) (h1 : e ≤ 9223372036854775807) (hu : (c :: t).length ≤ 200) (hr : r.length ≤ 200) (htab : Lib.TabIs Tryz.prog w "internal/strconv.uint64pow10" .u64 Lib.pow10Tab) :
    Calls Tryz.prog 123 #[.agg #[.int .i64 e, .string ⟨(c :: t).toArray⟩, .string ⟨r.toArray⟩]] w fun x w' => x = .returned (.bool (Vm.rt e (c :: t) r)) ∧ Below w.heap.size w w' := by
  have hb : Below w.heap.size w (w.alloc (.cells #[.int .i64 e, .string ⟨(c :: t).toArray⟩, .string ⟨r.toArray⟩] 24)) := (Below.refl _ _).alloc (Nat.le_refl _) _
  have hT := (Lib.tabBelow_of_tabIs htab).on hb
  clear htab
  have c0 : (w.alloc (.cells #[.int .i64 e, .string ⟨(c :: t).toArray⟩, .string ⟨r.toArray⟩] 24)).cell? ⟨w.heap.size, 0, none⟩ = some (.int .i64 e) := by simp
  have c1 : (w.alloc (.cells #[.int .i64 e, .string ⟨(c :: t).toArray⟩, .string ⟨r.toArray⟩] 24)).cell? ⟨w.heap.size, 1, none⟩ = some (.string ⟨(c :: t).toArray⟩) := by simp
  have c2 : (w.alloc (.cells #[.int .i64 e, .string ⟨(c :: t).toArray⟩, .string ⟨r.toArray⟩] 24)).cell? ⟨w.heap.size, 2, none⟩ = some (.string ⟨r.toArray⟩) := by simp
  have k0 := cell_regrown c0
  have k1 := cell_regrown c1
  have k2 := cell_regrown c2
  clear c0 c1 c2
  have HZ := Lib.hid (rt_rev (u := c :: t) g0 g1 g2 g3 g4 g5)
  have cF : ∀ d os, Calls Tryz.prog 140 #[.agg #[.int .i64 e, .string ⟨(c :: t).toArray⟩, .string ⟨r.toArray⟩]] (grow (redrawn (w.alloc (.cells #[.int .i64 e, .string ⟨(c :: t).toArray⟩, .string ⟨r.toArray⟩] 24)) d) os) fun x w'' => x = .returned (.bool true) ∧ ∃ p : Regrown, w'' = grow (redrawn (w.alloc (.cells #[.int .i64 e, .string ⟨(c :: t).toArray⟩, .string ⟨r.toArray⟩] 24)) p.d) p.os := fun d os => by rw [← g2]; exact Calls.regrown_of (fits_any e (c :: t) r _ h0 h1 (tab_regrown hT hb.size d os))
  have cD : ∀ d os, Calls Tryz.prog 138 #[.int .u8 c.toNat] (grow (redrawn (w.alloc (.cells #[.int .i64 e, .string ⟨(c :: t).toArray⟩, .string ⟨r.toArray⟩] 24)) d) os) fun x w'' => x = .returned (.bool true) ∧ ∃ p : Regrown, w'' = grow (redrawn (w.alloc (.cells #[.int .i64 e, .string ⟨(c :: t).toArray⟩, .string ⟨r.toArray⟩] 24)) p.d) p.os := by rw [← g3]; exact regrown_same (fun W => digit_any c W)
  have cU : ∀ d os, Calls Tryz.prog 142 #[.agg #[.int .i64 e, .string ⟨(c :: t).toArray⟩, .string ⟨r.toArray⟩]] (grow (redrawn (w.alloc (.cells #[.int .i64 e, .string ⟨(c :: t).toArray⟩, .string ⟨r.toArray⟩] 24)) d) os) fun x w'' => x = .returned (.string ⟨(Vm.us e r).toArray⟩) ∧ ∃ p : Regrown, w'' = grow (redrawn (w.alloc (.cells #[.int .i64 e, .string ⟨(c :: t).toArray⟩, .string ⟨r.toArray⟩] 24)) p.d) p.os := fun d os => Calls.regrown_of (us_any e (c :: t) r _)
  have cM : ∀ d os, Calls Tryz.prog 141 #[.string ⟨(c :: t).toArray⟩, .string ⟨(Vm.us e r).toArray⟩] (grow (redrawn (w.alloc (.cells #[.int .i64 e, .string ⟨(c :: t).toArray⟩, .string ⟨r.toArray⟩] 24)) d) os) fun x w'' => x = .returned (.bool true) ∧ ∃ p : Regrown, w'' = grow (redrawn (w.alloc (.cells #[.int .i64 e, .string ⟨(c :: t).toArray⟩, .string ⟨r.toArray⟩] 24)) p.d) p.os := by rw [← g4]; exact regrown_same (fun W => made_any _ _ W hu)
  have cR : ∀ d os, Calls Tryz.prog 141 #[.string ⟨r.toArray⟩, .string ⟨#[46, 43, 126]⟩] (grow (redrawn (w.alloc (.cells #[.int .i64 e, .string ⟨(c :: t).toArray⟩, .string ⟨r.toArray⟩] 24)) d) os) fun x w'' => x = .returned (.bool b) ∧ ∃ p : Regrown, w'' = grow (redrawn (w.alloc (.cells #[.int .i64 e, .string ⟨(c :: t).toArray⟩, .string ⟨r.toArray⟩] 24)) p.d) p.os := by rw [← g5]; exact regrown_same (fun W => made_any r Vm.sgn W hr)
  clear g4 g5
  go_enter Tryz.func123, Tryz.ntmps123
  go_wp2
  refine wp_region_quiet_below (by kernel_rfl) (by kernel_rfl) ?_
  repeat (any_goals (first | go_big_quiet_step ((first | with_reducible exact cF _ _ | with_reducible exact cD _ _ | with_reducible exact cU _ _ | with_reducible exact cM _ _ | with_reducible exact cR _ _)) | quiet_step ((first | with_reducible exact cF _ _ | with_reducible exact cD _ _ | with_reducible exact cU _ _ | with_reducible exact cM _ _ | with_reducible exact cR _ _))))
  refine wpQuiet_nil ?_
  intro _ hw'
  obtain ⟨⟨dq, osq⟩, hw''⟩ := hw'
  subst hw''
  go_wp2
  go_ret
  exact ⟨ret_bool HZ.out.symm, rg hb ⟨⟨dq, osq⟩, rfl⟩⟩

theorem right_any (e : Int) (u r : List UInt8) (w : World) (h0 : -9223372036854775808 ≤ e) (h1 : e ≤ 9223372036854775807) (hu : u.length ≤ 200) (hr : r.length ≤ 200) (htab : Lib.TabIs Tryz.prog w "internal/strconv.uint64pow10" .u64 Lib.pow10Tab) :
    Calls Tryz.prog 123 #[.agg #[.int .i64 e, .string ⟨u.toArray⟩, .string ⟨r.toArray⟩]] w fun x w' => x = .returned (.bool (Vm.rt e u r)) ∧ Below w.heap.size w w' := by
  by_cases g : 0 ≤ e ∧ e < 1000000000
  · obtain ⟨g0, g1⟩ := g
    cases g2 : Vm.ft e u r with
    | false => exact right_f e u r w g0 g1 g2 h0 h1 hu hr htab
    | true =>
      cases u with
      | nil => exact right_0 e r w g0 g1 g2 h0 h1 hr htab
      | cons c t =>
        cases g3 : Vm.dg c with
        | false => exact right_d e c t r w g0 g1 g2 g3 h0 h1 hu hr htab
        | true =>
          cases g4 : (c :: t).all (Vm.ok1 (Vm.us e r)) with
          | false => exact right_u e c t r w g0 g1 g2 g3 g4 h0 h1 hu hr htab
          | true => exact right_r e c t r w g0 g1 g2 g3 g4 _ rfl h0 h1 hu hr htab
  · exact right_e e u r w g h0 h1 hu hr htab

end Go.Proofs.YthijccmiemlilaaGreatDoor
namespace Go.Proofs.YthijccmiemlilaaGreatDoor
open Go.RowKit Go.Shelf Go.Sort
attribute [local go_sem] pb_head

theorem clone_any (l : List UInt8) (w : World) (hl : l.length ≤ 200) : Calls Tryz.prog 119 #[.string ⟨l.toArray⟩] w fun e w' => e = .returned (.string ⟨l.toArray⟩) ∧ Below w.heap.size w w' := by
  go_enter Tryz.func119, Tryz.ntmps119
  go_wp2_with fail
  refine (Tryz.stringslite_Clone ⟨l.toArray⟩ _ (by have := size_le hl; omega)).mono ?_
  rintro e w' ⟨rfl, hb⟩
  go_wp2
  go_ret
  exact ⟨rfl, hb⟩

theorem ret_cut {a b c d : ByteArray} {x y : Bool} (h1 : a = b) (h2 : c = d) (h3 : x = y) : Ending.returned (.tuple #[.string a, .string c, .bool x]) = .returned (.tuple #[.string b, .string d, .bool y]) := by rw [h1, h2, h3]

theorem lcut_some (l : List UInt8) (k : Nat) (w : World) (hl : l.length ≤ 200) (hk : k < l.length) (hi : Lib.indexByte l 58 = k) : Calls Tryz.prog 137 #[.string ⟨l.toArray⟩, .string ⟨#[58]⟩] w fun e w' =>
    e = .returned (.tuple #[.string ⟨(l.take k).toArray⟩, .string ⟨(l.drop (k + 1)).toArray⟩, .bool true]) ∧ ∃ n, w' = w.drewN n := by
  have HI := Lib.hid hi
  clear hi
  go_enter Tryz.func137, Tryz.ntmps137
  go_wp2_with fail
  refine (Tryz.stringslite_Index_one ⟨l.toArray⟩ 58 _).mono ?_
  rintro e w' ⟨rfl, rfl⟩
  rw [show Lib.indexByte (ByteArray.mk l.toArray).data.toList 58 = (k : Int) from HI.out]
  have h1 : (k : Int) ≤ (l.length : Int) := by omega
  have h2 : (k : Int) + 1 ≤ (l.length : Int) := by omega
  go_wp2_with fail
  go_quiet (fail)
  go_wp2
  go_ret3
  exact ⟨ret_cut (ba_take l k) (ba_drop l (k + 1)) rfl, _, rfl⟩

theorem lcut_none (l : List UInt8) (w : World) (hi : Lib.indexByte l 58 = -1) : Calls Tryz.prog 137 #[.string ⟨l.toArray⟩, .string ⟨#[58]⟩] w fun e w' =>
    e = .returned (.tuple #[.string ⟨l.toArray⟩, .string ⟨#[]⟩, .bool false]) ∧ ∃ n, w' = w.drewN n := by
  have HI := Lib.hid hi
  clear hi
  go_enter Tryz.func137, Tryz.ntmps137
  go_wp2_with fail
  refine (Tryz.stringslite_Index_one ⟨l.toArray⟩ 58 _).mono ?_
  rintro e w' ⟨rfl, rfl⟩
  rw [show Lib.indexByte (ByteArray.mk l.toArray).data.toList 58 = -1 from HI.out]
  go_wp2
  go_ret3
  exact ⟨rfl, 0, rfl⟩

theorem cut_some (l : List UInt8) (k : Nat) (w : World) (hl : l.length ≤ 200) (hk : k < l.length) (hi : Lib.indexByte l 58 = k) : Calls Tryz.prog 120 #[.string ⟨l.toArray⟩, .string ⟨#[58]⟩] w fun e w' =>
    e = .returned (.tuple #[.string ⟨(l.take k).toArray⟩, .string ⟨(l.drop (k + 1)).toArray⟩, .bool true]) ∧ ∃ n, w' = w.drewN n := by
  have HI := Lib.hid hi
  clear hi
  go_enter Tryz.func120, Tryz.ntmps120
  go_wp2_with fail
  refine (lcut_some l k _ hl hk HI.out).mono ?_
  rintro e w' ⟨rfl, n, rfl⟩
  go_wp2
  go_ret3
  exact ⟨rfl, _, rfl⟩
theorem cut_none (l : List UInt8) (w : World) (hi : Lib.indexByte l 58 = -1) : Calls Tryz.prog 120 #[.string ⟨l.toArray⟩, .string ⟨#[58]⟩] w fun e w' =>
    e = .returned (.tuple #[.string ⟨l.toArray⟩, .string ⟨#[]⟩, .bool false]) ∧ ∃ n, w' = w.drewN n := by
  have HI := Lib.hid hi
  clear hi
  go_enter Tryz.func120, Tryz.ntmps120
  go_wp2_with fail
  refine (lcut_none l _ HI.out).mono ?_
  rintro e w' ⟨rfl, n, rfl⟩
  go_wp2
  go_ret3
  exact ⟨rfl, _, rfl⟩

theorem epoch_nil (w : World) : Calls Tryz.prog 121 #[.string ⟨([] : List UInt8).toArray⟩] w fun e w' => e = .returned (.tuple #[.int .i64 0, .bool false]) ∧ w' = w := by
  go_enter Tryz.func121, Tryz.ntmps121
  go_wp2
  go_ret2
  exact ⟨rfl, rfl⟩
theorem epoch_long (l : List UInt8) (w : World) (g : l.isEmpty = false) (hl : 9 < l.length) : Calls Tryz.prog 121 #[.string ⟨l.toArray⟩] w fun e w' => e = .returned (.tuple #[.int .i64 0, .bool false]) ∧ w' = w := by
  go_enter Tryz.func121, Tryz.ntmps121
  go_wp2
  go_ret2
  exact ⟨rfl, rfl⟩
theorem epoch_nought (c d : UInt8) (t : List UInt8) (w : World) (hl : (c :: d :: t).length ≤ 9) (hc : ((c.toNat : Int) == 48) = true) : Calls Tryz.prog 121 #[.string ⟨(c :: d :: t).toArray⟩] w fun e w' => e = .returned (.tuple #[.int .i64 0, .bool false]) ∧ w' = w := by
  simp only [List.length_cons] at hl
  go_enter Tryz.func121, Tryz.ntmps121
  go_wp2
  go_ret2
  exact ⟨rfl, rfl⟩

theorem ep_val {c : UInt8} {m : Nat} (h : Vm.dg c = true) : Value.int .i64 (10 * (m : Int) + ((c.toNat : Int) - 48) % 256) = .int .i64 ((10 * m + (c.toNat - 48) : Nat) : Int) := by
  have := (Vm.dg_iff c).1 h
  congr 1
  omega

set_option maxHeartbeats 800000 in
set_option maxRecDepth 100000 in
theorem epoch_loop (l : List UInt8) (w : World) (hl : l.length ≤ 9) (ge : l.isEmpty = false) (h0 : 0 < (ByteArray.mk l.toArray).size) (g0 : (((((ByteArray.mk l.toArray)[0]'h0).toNat : Int) == 48) = false) ∨ ((((((ByteArray.mk l.toArray)[0]'h0).toNat : Int) == 48) = true) ∧ (!l == [48]) = false)) : Calls Tryz.prog 121 #[.string ⟨l.toArray⟩] w fun e w' =>
    e = .returned (.tuple #[.int .i64 (if l.all Vm.dg = true then Vm.vl 0 l else 0), .bool (l.all Vm.dg)]) ∧ w' = w := by
  obtain ⟨A, hA⟩ : ∃ A, A = (if l.all Vm.dg = true then (Vm.vl 0 l : Int) else 0) := ⟨_, rfl⟩
  have HA : Hid (A = (if l.all Vm.dg = true then (Vm.vl 0 l : Int) else 0)) := hA
  rw [← hA]
  clear hA
  rcases g0 with g0 | ⟨g0, g1⟩
  all_goals
    go_enter Tryz.func121, Tryz.ntmps121
    go_wp2
    go_loop [4, 24] (fun n i => ∃ k m : Nat, k ≤ l.length ∧ i = .int .i64 k ∧ n = .int .i64 m ∧ m < 1000000000 ∧ Hid (m = Vm.vl 0 (l.take k)) ∧ Hid (∀ j (hj : j < l.length), j < k → Vm.dg l[j] = true)) (fun _ i => l.length - (intOf i).toNat)
    case atStart => exact ⟨0, 0, Nat.zero_le _, rfl, rfl, by decide, rfl, fun j _ h => absurd h (Nat.not_lt_zero _)⟩
    case round =>
      obtain ⟨k, m, hk, rfl, rfl, hm, HV, HP⟩ := hrel
      by_cases hlt : k < l.length
      · go_wp2_with (go_at_call 138; refine (digit_any _ _).mono ?_; rintro e w' ⟨rfl, rfl⟩)
        · go_ret2
          have hd : Vm.dg l[k] = false := by have h : (!Vm.dg l[k]) = true := ‹_›; simpa using h
          have ha : l.all Vm.dg = false := (all_no k hlt hd).symm
          exact ⟨by rw [HA.out, ha]; simp, rfl⟩
        · have hd : Vm.dg l[k] = true := by have h : (!Vm.dg l[k]) = false := ‹_›; simpa using h
          have hp : ∀ j (hj : j < l.length), j < k + 1 → Vm.dg l[j] = true := fun j hj h => by
            by_cases e : j = k
            · subst e; exact hd
            · exact HP.out j hj (by omega)
          have hv : 10 * m + (l[k].toNat - 48) = Vm.vl 0 (l.take (k + 1)) := by rw [Vm.vl_take l k hlt, HV.out]
          exact ⟨⟨k + 1, 10 * m + (l[k].toNat - 48), hlt, by go_num, ep_val hd, by rw [hv]; exact Vm.vl_take_lt l (k + 1) (by omega) hp, hv, hp⟩, by simp [intOf]; omega⟩
      · go_wp2
        go_ret2
        have ha : l.all Vm.dg = true := (all_to (fun j hj => HP.out j hj (by omega))).symm
        have hkl : k = l.length := by omega
        exact ⟨by rw [HA.out, ha, HV.out, hkl, List.take_length]; simp, rfl⟩

/-- version.parseEpoch, whole. -/
theorem epoch_any (l : List UInt8) (w : World) : Calls Tryz.prog 121 #[.string ⟨l.toArray⟩] w fun e w' =>
    e = .returned (match Vm.pep l with | none => .tuple #[.int .i64 0, .bool false] | some n => .tuple #[.int .i64 n, .bool true]) ∧ w' = w := by
  cases l with
  | nil => exact epoch_nil w
  | cons c t =>
    by_cases h9 : 9 < (c :: t).length
    · have : Vm.pep (c :: t) = none := by unfold Vm.pep; rw [if_pos (Or.inr (Or.inl h9))]
      rw [this]; exact epoch_long (c :: t) w rfl h9
    · by_cases h48 : c = 48 ∧ t ≠ []
      · obtain ⟨rfl, ht⟩ := h48
        cases t with
        | nil => exact absurd rfl ht
        | cons d t =>
          have : Vm.pep (48 :: d :: t) = none := by unfold Vm.pep; rw [if_pos (Or.inr (Or.inr ⟨rfl, by simp⟩))]
          rw [this]; exact epoch_nought 48 d t w (by omega) rfl
      · have hp : Vm.pep (c :: t) = if (c :: t).all Vm.dg = true then some (Vm.vl 0 (c :: t)) else none := by
          unfold Vm.pep; rw [if_neg]
          rintro (h | h | h)
          · cases h
          · exact h9 h
          · exact h48 ⟨h.1, fun e => h.2 (by rw [e, show c = 48 from h.1])⟩
        have h := epoch_loop (c :: t) w (by omega) rfl (by simp [ByteArray.size]) (by
          by_cases hc : c = 48
          · right
            have ht : t = [] := Classical.byContradiction fun h => h48 ⟨hc, h⟩
            subst hc ht; exact ⟨rfl, rfl⟩
          · left
            rw [pb_head]
            have : c.toNat ≠ 48 := fun e => hc (UInt8.toNat_inj.1 e)
            exact beq_eq_false_iff_ne.2 (by omega))
        rw [hp]
        refine h.mono ?_
        rintro e w' ⟨rfl, rfl⟩
        cases hall : (c :: t).all Vm.dg with
        | false => simp
        | true => simp

end Go.Proofs.YthijccmiemlilaaGreatDoor
namespace Go.Proofs.YthijccmiemlilaaGreatDoor
open Go.RowKit Go.Shelf Go.Sort

theorem parse_long (s : List UInt8) (w : World) (hs : 40 < s.length) :
    Calls Tryz.prog 85 #[.string ⟨s.toArray⟩] w fun x w' => x = .returned (.tuple #[.agg #[.int .i64 0, .string ⟨#[]⟩, .string ⟨#[]⟩], .iface 40 (.int .i64 3)]) ∧ Below w.heap.size w w' := by
  go_enter Tryz.func85, Tryz.ntmps85
  go_wp2
  exact bodyPost_ret (v := .tuple #[.agg #[.int .i64 0, .string ⟨#[]⟩, .string ⟨#[]⟩], .iface 40 (.int .i64 3)]) (by simp [results, Tryz.results85, go_sem]) rfl ⟨rfl, (Below.refl _ _).alloc (Nat.le_refl _) _⟩

theorem lidx_any (l : List UInt8) (w : World) (hl : l.length ≤ 200) : Calls Tryz.prog 122 #[.string ⟨l.toArray⟩, .int .u8 45] w fun e w' => e = .returned (.int .i64 (Lib.lastIndexByte ⟨l.toArray⟩ 45)) ∧ w' = w :=
  Tryz.strings_LastIndexByte ⟨l.toArray⟩ 45 (by have := size_le hl; omega) w

theorem via_alloc {w1 w3 : World} {o : Obj} {n : Nat} (h : Below ((w1.alloc o).drewN n).heap.size ((w1.alloc o).drewN n) w3) : Below w1.heap.size w1 w3 :=
  (below_drewN ((Below.refl w1.heap.size w1).alloc (Nat.le_refl _) o) n).trans (h.mono (by simp))
theorem via_set {w1 w3 : World} {o : Obj} {n : Nat} {v1 v2 : Value} (h : Below ((((w1.alloc o).drewN n).setCell ⟨w1.heap.size, 1, none⟩ v1).setCell ⟨w1.heap.size, 2, none⟩ v2).heap.size ((((w1.alloc o).drewN n).setCell ⟨w1.heap.size, 1, none⟩ v1).setCell ⟨w1.heap.size, 2, none⟩ v2) w3) : Below w1.heap.size w1 w3 :=
  (((below_drewN ((Below.refl w1.heap.size w1).alloc (Nat.le_refl _) o) n).setCell (p := ⟨w1.heap.size, 1, none⟩) (Nat.le_refl _) v1).setCell (p := ⟨w1.heap.size, 2, none⟩) (Nat.le_refl _) v2).trans (h.mono (by simp))
def Ep (n : Nat) : Prop := n < 1000000000
structure RtIs (n : Nat) (u r : List UInt8) (b : Bool) : Prop where
  out : Vm.rt (n : Int) u r = b
structure Rt0Is (u r : List UInt8) (b : Bool) : Prop where
  out : Vm.rt 0 u r = b
def J0 (y : List UInt8) : Prop := Lib.lastIndexByte ⟨y.toArray⟩ 45 = -1
def J1 (y : List UInt8) (j : Nat) : Prop := Lib.lastIndexByte ⟨y.toArray⟩ 45 = j
theorem ep_le {n : Nat} (h : Ep n) : (n : Int) ≤ 9223372036854775807 := by unfold Ep at h; omega
theorem set2 (w1 : World) (a b c v1 v2 : Value) (n : Nat) : (((w1.alloc (.cells #[a, b, c] 24)).drewN n).setCell ⟨w1.heap.size, 1, none⟩ v1).setCell ⟨w1.heap.size, 2, none⟩ v2 = (w1.alloc (.cells #[a, v1, v2] 24)).drewN n := by
  have e : ∀ (W : World) (p : Addr) (v : Value), (W.drewN n).setCell p v = (W.setCell p v).drewN n := fun _ _ _ => rfl
  rw [e, e, World.setCell_alloc_at _ _ _ _ _ rfl, World.setCell_alloc_at _ _ _ _ _ rfl]
  rfl
theorem set01 (w1 : World) (a b c v0 v1 : Value) (n : Nat) : (((w1.alloc (.cells #[a, b, c] 24)).drewN n).setCell ⟨w1.heap.size, 0, none⟩ v0).setCell ⟨w1.heap.size, 1, none⟩ v1 = (w1.alloc (.cells #[v0, v1, c] 24)).drewN n := by
  have e : ∀ (W : World) (p : Addr) (v : Value), (W.drewN n).setCell p v = (W.setCell p v).drewN n := fun _ _ _ => rfl
  rw [e, e, World.setCell_alloc_at _ _ _ _ _ rfl, World.setCell_alloc_at _ _ _ _ _ rfl]
  rfl
theorem cut_xy (s x y : List UInt8) (k : Nat) (w : World) (hl : s.length ≤ 200) (hk : k < s.length) (hi : Lib.indexByte s 58 = k) (hx : s.take k = x) (hy : s.drop (k + 1) = y) : Calls Tryz.prog 120 #[.string ⟨s.toArray⟩, .string ⟨#[58]⟩] w fun e w' =>
    e = .returned (.tuple #[.string ⟨x.toArray⟩, .string ⟨y.toArray⟩, .bool true]) ∧ ∃ n, w' = w.drewN n := by
  subst hx hy; exact cut_some s k w hl hk hi
theorem epoch_some (l : List UInt8) (n : Nat) (h : Vm.pep l = some n) (w : World) : Calls Tryz.prog 121 #[.string ⟨l.toArray⟩] w fun e w' => e = .returned (.tuple #[.int .i64 n, .bool true]) ∧ w' = w := by
  have := epoch_any l w; rw [h] at this; exact this
theorem epoch_no (l : List UInt8) (h : Vm.pep l = none) (w : World) : Calls Tryz.prog 121 #[.string ⟨l.toArray⟩] w fun e w' => e = .returned (.tuple #[.int .i64 0, .bool false]) ∧ w' = w := by
  have := epoch_any l w; rw [h] at this; exact this

/-- What is kept of the result's block, and of the version's, behind what was called. -/
theorem kept3 {w1 w3 : World} {g : Nat} {x0 x1 x2 : Value} (h0 : w1.cell? ⟨g, 0, none⟩ = some x0) (h1 : w1.cell? ⟨g, 1, none⟩ = some x1) (h2 : w1.cell? ⟨g, 2, none⟩ = some x2) (hf : ∀ j, w1.frozen? ⟨g, j, none⟩ = false) (hg : g < w1.heap.size) (hb : Below w1.heap.size w1 w3) :
    w3.cell? ⟨g, 0, none⟩ = some x0 ∧ w3.cell? ⟨g, 1, none⟩ = some x1 ∧ w3.cell? ⟨g, 2, none⟩ = some x2 ∧ (∀ j, w3.frozen? ⟨g, j, none⟩ = false) ∧ g < w3.heap.size :=
  ⟨by rw [hb.cell hg, h0], by rw [hb.cell hg, h1], by rw [hb.cell hg, h2], fun j => by rw [hb.frozen hg, hf j], Nat.lt_of_lt_of_le hg hb.size⟩

set_option maxHeartbeats 1600000 in
set_option maxRecDepth 100000 in
theorem parse_n0t (s : List UInt8) (w : World) (hs : s.length ≤ 40) (hi : Lib.indexByte s 58 = -1) (hj : J0 s) (hb : Rt0Is s [] true) (htab : Lib.TabIs Tryz.prog w "internal/strconv.uint64pow10" .u64 Lib.pow10Tab) :
    Calls Tryz.prog 85 #[.string ⟨s.toArray⟩] w fun x w' => x = .returned (.tuple #[.agg #[.int .i64 0, .string ⟨s.toArray⟩, .string ⟨#[]⟩], .nilIface]) ∧ Below w.heap.size w w' := by
  have HI := Lib.hid hi
  clear hi
  have hT := Lib.tabBelow_of_tabIs htab
  clear htab
  have hR : Below w.heap.size w (w.alloc (.cells #[.int .i64 0, .string ⟨#[]⟩, .string ⟨#[]⟩] 24)) := (Below.refl _ _).alloc (Nat.le_refl _) _
  go_enter Tryz.func85, Tryz.ntmps85
  go_wp2_with fail
  refine (clone_any s _ (by omega)).mono ?_
  rintro x w1 ⟨rfl, hb1⟩
  have hz1 : w.heap.size + 1 ≤ w1.heap.size := by have := hb1.size; simp at this; omega
  obtain ⟨k0, k1, k2, kf, kg⟩ := kept3 (g := w.heap.size) (x0 := .int .i64 0) (x1 := .string ⟨#[]⟩) (x2 := .string ⟨#[]⟩) (by simp) (by simp) (by simp) (by simp) (by simp) hb1
  have hW1 : Below w.heap.size w w1 := hR.trans (hb1.mono (by simp))
  go_wp2_with fail
  refine (cut_none s _ HI.out).mono ?_
  rintro x w2 ⟨rfl, n2, rfl⟩
  go_wp2_with fail
  refine (lidx_any s _ (by omega)).mono ?_
  rintro x w2 ⟨rfl, rfl⟩
  rw [show Lib.lastIndexByte _ _ = _ from hj]
  go_wp2_with fail
  refine (right_any 0 s [] _ (by decide) (by decide) (by omega) (by decide) (hT _ ?tab)).mono ?_
  case tab => exact below_drewN (hW1.alloc hW1.size _) _
  rintro x w3 ⟨rfl, hb3⟩
  rw [hb.out]
  have hX := via_alloc hb3
  obtain ⟨r0, r1, r2, rf, rg⟩ := kept3 k0 k1 k2 kf kg hX
  obtain ⟨v0, v1, v2, vf, vg⟩ := kept3 (g := w1.heap.size) (x0 := .int .i64 0) (x1 := .string ⟨s.toArray⟩) (x2 := .string ⟨#[]⟩) (by simp) (by simp) (by simp) (by simp) (by simp) hb3
  clear k0 k1 k2 kf hb3
  go_wp2
  exact bodyPost_ret (v := .tuple #[.agg #[.int .i64 0, .string ⟨s.toArray⟩, .string ⟨#[]⟩], .nilIface]) (by simp [results, Tryz.results85, go_sem, r0, r1, r2]) rfl ⟨rfl, (((hW1.trans (hX.mono hW1.size)).setCell (Nat.le_refl _) _).setCell (Nat.le_refl _) _).setCell (Nat.le_refl _) _⟩

set_option maxHeartbeats 1600000 in
set_option maxRecDepth 100000 in
theorem parse_n0f (s : List UInt8) (w : World) (hs : s.length ≤ 40) (hi : Lib.indexByte s 58 = -1) (hj : J0 s) (hb : Rt0Is s [] false) (htab : Lib.TabIs Tryz.prog w "internal/strconv.uint64pow10" .u64 Lib.pow10Tab) :
    Calls Tryz.prog 85 #[.string ⟨s.toArray⟩] w fun x w' => x = .returned (.tuple #[.agg #[.int .i64 0, .string ⟨#[]⟩, .string ⟨#[]⟩], .iface 40 (.int .i64 3)]) ∧ Below w.heap.size w w' := by
  have HI := Lib.hid hi
  clear hi
  have hT := Lib.tabBelow_of_tabIs htab
  clear htab
  have hR : Below w.heap.size w (w.alloc (.cells #[.int .i64 0, .string ⟨#[]⟩, .string ⟨#[]⟩] 24)) := (Below.refl _ _).alloc (Nat.le_refl _) _
  go_enter Tryz.func85, Tryz.ntmps85
  go_wp2_with fail
  refine (clone_any s _ (by omega)).mono ?_
  rintro x w1 ⟨rfl, hb1⟩
  have hz1 : w.heap.size + 1 ≤ w1.heap.size := by have := hb1.size; simp at this; omega
  obtain ⟨k0, k1, k2, kf, kg⟩ := kept3 (g := w.heap.size) (x0 := .int .i64 0) (x1 := .string ⟨#[]⟩) (x2 := .string ⟨#[]⟩) (by simp) (by simp) (by simp) (by simp) (by simp) hb1
  have hW1 : Below w.heap.size w w1 := hR.trans (hb1.mono (by simp))
  go_wp2_with fail
  refine (cut_none s _ HI.out).mono ?_
  rintro x w2 ⟨rfl, n2, rfl⟩
  go_wp2_with fail
  refine (lidx_any s _ (by omega)).mono ?_
  rintro x w2 ⟨rfl, rfl⟩
  rw [show Lib.lastIndexByte _ _ = _ from hj]
  go_wp2_with fail
  refine (right_any 0 s [] _ (by decide) (by decide) (by omega) (by decide) (hT _ ?tab)).mono ?_
  case tab => exact below_drewN (hW1.alloc hW1.size _) _
  rintro x w3 ⟨rfl, hb3⟩
  rw [hb.out]
  have hX := via_alloc hb3
  obtain ⟨r0, r1, r2, rf, rg⟩ := kept3 k0 k1 k2 kf kg hX
  obtain ⟨v0, v1, v2, vf, vg⟩ := kept3 (g := w1.heap.size) (x0 := .int .i64 0) (x1 := .string ⟨s.toArray⟩) (x2 := .string ⟨#[]⟩) (by simp) (by simp) (by simp) (by simp) (by simp) hb3
  clear k0 k1 k2 kf hb3
  go_wp2
  exact bodyPost_ret (v := .tuple #[.agg #[.int .i64 0, .string ⟨#[]⟩, .string ⟨#[]⟩], .iface 40 (.int .i64 3)]) (by simp [results, Tryz.results85, go_sem, r0, r1, r2]) rfl ⟨rfl, (((hW1.trans (hX.mono hW1.size)).setCell (Nat.le_refl _) _).setCell (Nat.le_refl _) _).setCell (Nat.le_refl _) _⟩

set_option maxHeartbeats 1600000 in
set_option maxRecDepth 100000 in
theorem parse_n1 (s : List UInt8) (w : World) (hs : s.length ≤ 40) (hi : Lib.indexByte s 58 = -1) (j : Nat) (hjl : j < s.length) (hj : J1 s j) (u : List UInt8) (hu : s.take j = u) (hr : s.drop (j + 1) = []) (htab : Lib.TabIs Tryz.prog w "internal/strconv.uint64pow10" .u64 Lib.pow10Tab) :
    Calls Tryz.prog 85 #[.string ⟨s.toArray⟩] w fun x w' => x = .returned (.tuple #[.agg #[.int .i64 0, .string ⟨#[]⟩, .string ⟨#[]⟩], .iface 40 (.int .i64 3)]) ∧ Below w.heap.size w w' := by
  have HI := Lib.hid hi
  clear hi
  have HU := Lib.hid hu
  have HR := Lib.hid hr
  clear hu hr
  have hT := Lib.tabBelow_of_tabIs htab
  clear htab
  have hR : Below w.heap.size w (w.alloc (.cells #[.int .i64 0, .string ⟨#[]⟩, .string ⟨#[]⟩] 24)) := (Below.refl _ _).alloc (Nat.le_refl _) _
  go_enter Tryz.func85, Tryz.ntmps85
  go_wp2_with fail
  refine (clone_any s _ (by omega)).mono ?_
  rintro x w1 ⟨rfl, hb1⟩
  have hz1 : w.heap.size + 1 ≤ w1.heap.size := by have := hb1.size; simp at this; omega
  obtain ⟨k0, k1, k2, kf, kg⟩ := kept3 (g := w.heap.size) (x0 := .int .i64 0) (x1 := .string ⟨#[]⟩) (x2 := .string ⟨#[]⟩) (by simp) (by simp) (by simp) (by simp) (by simp) hb1
  have hW1 : Below w.heap.size w w1 := hR.trans (hb1.mono (by simp))
  go_wp2_with fail
  refine (cut_none s _ HI.out).mono ?_
  rintro x w2 ⟨rfl, n2, rfl⟩
  go_wp2_with fail
  refine (lidx_any s _ (by omega)).mono ?_
  rintro x w2 ⟨rfl, rfl⟩
  rw [show Lib.lastIndexByte _ _ = _ from hj]
  have q1 : (j : Int) ≤ (s.length : Int) := by omega
  have q2 : (j : Int) + 1 ≤ (s.length : Int) := by omega
  go_wp2_with fail
  go_region
  rw [show (ByteArray.mk s.toArray).extract 0 j = ⟨u.toArray⟩ from by rw [ba_take, HU.out], show (ByteArray.mk s.toArray).extract (j + 1) s.length = ⟨([] : List UInt8).toArray⟩ from by rw [ba_drop, HR.out], set2]
  go_wp2_with fail
  have hX := below_drewN (hW1.alloc hW1.size (.cells #[.int .i64 0, .string ⟨u.toArray⟩, .string ⟨#[]⟩] 24)) (n2 + 1)
  exact bodyPost_ret (v := .tuple #[.agg #[.int .i64 0, .string ⟨#[]⟩, .string ⟨#[]⟩], .iface 40 (.int .i64 3)]) (by simp [results, Tryz.results85, go_sem, k0, k1, k2, kg]) rfl ⟨rfl, ((hX.setCell (Nat.le_refl _) _).setCell (Nat.le_refl _) _).setCell (Nat.le_refl _) _⟩

set_option maxHeartbeats 1600000 in
set_option maxRecDepth 100000 in
theorem parse_n2t (s : List UInt8) (w : World) (hs : s.length ≤ 40) (hi : Lib.indexByte s 58 = -1) (j : Nat) (hjl : j < s.length) (hj : J1 s j) (u r : List UInt8) (hu : s.take j = u) (hr : s.drop (j + 1) = r) (hre : r.isEmpty = false) (hul : u.length ≤ 40) (hrl : r.length ≤ 40) (hb : Rt0Is u r true) (htab : Lib.TabIs Tryz.prog w "internal/strconv.uint64pow10" .u64 Lib.pow10Tab) :
    Calls Tryz.prog 85 #[.string ⟨s.toArray⟩] w fun x w' => x = .returned (.tuple #[.agg #[.int .i64 0, .string ⟨u.toArray⟩, .string ⟨r.toArray⟩], .nilIface]) ∧ Below w.heap.size w w' := by
  have HI := Lib.hid hi
  clear hi
  have HU := Lib.hid hu
  have HR := Lib.hid hr
  clear hu hr
  have hT := Lib.tabBelow_of_tabIs htab
  clear htab
  have hR : Below w.heap.size w (w.alloc (.cells #[.int .i64 0, .string ⟨#[]⟩, .string ⟨#[]⟩] 24)) := (Below.refl _ _).alloc (Nat.le_refl _) _
  go_enter Tryz.func85, Tryz.ntmps85
  go_wp2_with fail
  refine (clone_any s _ (by omega)).mono ?_
  rintro x w1 ⟨rfl, hb1⟩
  have hz1 : w.heap.size + 1 ≤ w1.heap.size := by have := hb1.size; simp at this; omega
  obtain ⟨k0, k1, k2, kf, kg⟩ := kept3 (g := w.heap.size) (x0 := .int .i64 0) (x1 := .string ⟨#[]⟩) (x2 := .string ⟨#[]⟩) (by simp) (by simp) (by simp) (by simp) (by simp) hb1
  have hW1 : Below w.heap.size w w1 := hR.trans (hb1.mono (by simp))
  go_wp2_with fail
  refine (cut_none s _ HI.out).mono ?_
  rintro x w2 ⟨rfl, n2, rfl⟩
  go_wp2_with fail
  refine (lidx_any s _ (by omega)).mono ?_
  rintro x w2 ⟨rfl, rfl⟩
  rw [show Lib.lastIndexByte _ _ = _ from hj]
  have q1 : (j : Int) ≤ (s.length : Int) := by omega
  have q2 : (j : Int) + 1 ≤ (s.length : Int) := by omega
  go_wp2_with fail
  go_region
  rw [show (ByteArray.mk s.toArray).extract 0 j = ⟨u.toArray⟩ from by rw [ba_take, HU.out], show (ByteArray.mk s.toArray).extract (j + 1) s.length = ⟨r.toArray⟩ from by rw [ba_drop, HR.out], set2]
  go_wp2_with fail
  refine (right_any 0 u r _ (by decide) (by decide) (by omega) (by omega) (hT _ ?tab)).mono ?_
  case tab => exact below_drewN (hW1.alloc hW1.size _) _
  rintro x w3 ⟨rfl, hb3⟩
  rw [hb.out]
  have hX := via_alloc hb3
  obtain ⟨r0, r1, r2, rf, rg⟩ := kept3 k0 k1 k2 kf kg hX
  obtain ⟨v0, v1, v2, vf, vg⟩ := kept3 (g := w1.heap.size) (x0 := .int .i64 0) (x1 := .string ⟨u.toArray⟩) (x2 := .string ⟨r.toArray⟩) (by simp) (by simp) (by simp) (by simp) (by simp) hb3
  clear k0 k1 k2 kf hb3
  go_wp2
  exact bodyPost_ret (v := .tuple #[.agg #[.int .i64 0, .string ⟨u.toArray⟩, .string ⟨r.toArray⟩], .nilIface]) (by simp [results, Tryz.results85, go_sem, r0, r1, r2]) rfl ⟨rfl, (((hW1.trans (hX.mono hW1.size)).setCell (Nat.le_refl _) _).setCell (Nat.le_refl _) _).setCell (Nat.le_refl _) _⟩

set_option maxHeartbeats 1600000 in
set_option maxRecDepth 100000 in
theorem parse_n2f (s : List UInt8) (w : World) (hs : s.length ≤ 40) (hi : Lib.indexByte s 58 = -1) (j : Nat) (hjl : j < s.length) (hj : J1 s j) (u r : List UInt8) (hu : s.take j = u) (hr : s.drop (j + 1) = r) (hre : r.isEmpty = false) (hul : u.length ≤ 40) (hrl : r.length ≤ 40) (hb : Rt0Is u r false) (htab : Lib.TabIs Tryz.prog w "internal/strconv.uint64pow10" .u64 Lib.pow10Tab) :
    Calls Tryz.prog 85 #[.string ⟨s.toArray⟩] w fun x w' => x = .returned (.tuple #[.agg #[.int .i64 0, .string ⟨#[]⟩, .string ⟨#[]⟩], .iface 40 (.int .i64 3)]) ∧ Below w.heap.size w w' := by
  have HI := Lib.hid hi
  clear hi
  have HU := Lib.hid hu
  have HR := Lib.hid hr
  clear hu hr
  have hT := Lib.tabBelow_of_tabIs htab
  clear htab
  have hR : Below w.heap.size w (w.alloc (.cells #[.int .i64 0, .string ⟨#[]⟩, .string ⟨#[]⟩] 24)) := (Below.refl _ _).alloc (Nat.le_refl _) _
  go_enter Tryz.func85, Tryz.ntmps85
  go_wp2_with fail
  refine (clone_any s _ (by omega)).mono ?_
  rintro x w1 ⟨rfl, hb1⟩
  have hz1 : w.heap.size + 1 ≤ w1.heap.size := by have := hb1.size; simp at this; omega
  obtain ⟨k0, k1, k2, kf, kg⟩ := kept3 (g := w.heap.size) (x0 := .int .i64 0) (x1 := .string ⟨#[]⟩) (x2 := .string ⟨#[]⟩) (by simp) (by simp) (by simp) (by simp) (by simp) hb1
  have hW1 : Below w.heap.size w w1 := hR.trans (hb1.mono (by simp))
  go_wp2_with fail
  refine (cut_none s _ HI.out).mono ?_
  rintro x w2 ⟨rfl, n2, rfl⟩
  go_wp2_with fail
  refine (lidx_any s _ (by omega)).mono ?_
  rintro x w2 ⟨rfl, rfl⟩
  rw [show Lib.lastIndexByte _ _ = _ from hj]
  have q1 : (j : Int) ≤ (s.length : Int) := by omega
  have q2 : (j : Int) + 1 ≤ (s.length : Int) := by omega
  go_wp2_with fail
  go_region
  rw [show (ByteArray.mk s.toArray).extract 0 j = ⟨u.toArray⟩ from by rw [ba_take, HU.out], show (ByteArray.mk s.toArray).extract (j + 1) s.length = ⟨r.toArray⟩ from by rw [ba_drop, HR.out], set2]
  go_wp2_with fail
  refine (right_any 0 u r _ (by decide) (by decide) (by omega) (by omega) (hT _ ?tab)).mono ?_
  case tab => exact below_drewN (hW1.alloc hW1.size _) _
  rintro x w3 ⟨rfl, hb3⟩
  rw [hb.out]
  have hX := via_alloc hb3
  obtain ⟨r0, r1, r2, rf, rg⟩ := kept3 k0 k1 k2 kf kg hX
  obtain ⟨v0, v1, v2, vf, vg⟩ := kept3 (g := w1.heap.size) (x0 := .int .i64 0) (x1 := .string ⟨u.toArray⟩) (x2 := .string ⟨r.toArray⟩) (by simp) (by simp) (by simp) (by simp) (by simp) hb3
  clear k0 k1 k2 kf hb3
  go_wp2
  exact bodyPost_ret (v := .tuple #[.agg #[.int .i64 0, .string ⟨#[]⟩, .string ⟨#[]⟩], .iface 40 (.int .i64 3)]) (by simp [results, Tryz.results85, go_sem, r0, r1, r2]) rfl ⟨rfl, (((hW1.trans (hX.mono hW1.size)).setCell (Nat.le_refl _) _).setCell (Nat.le_refl _) _).setCell (Nat.le_refl _) _⟩

set_option maxHeartbeats 1600000 in
set_option maxRecDepth 100000 in
theorem parse_s0t (s : List UInt8) (w : World) (hs : s.length ≤ 40) (k : Nat) (hk : k < s.length) (hi : Lib.indexByte s 58 = k) (x y : List UInt8) (hx : s.take k = x) (hy : s.drop (k + 1) = y) (hyl : y.length ≤ 40) (n : Nat) (hn : Ep n) (hp : Vm.pep x = some n) (hj : J0 y) (hb : RtIs n y [] true) (htab : Lib.TabIs Tryz.prog w "internal/strconv.uint64pow10" .u64 Lib.pow10Tab) :
    Calls Tryz.prog 85 #[.string ⟨s.toArray⟩] w fun x w' => x = .returned (.tuple #[.agg #[.int .i64 n, .string ⟨y.toArray⟩, .string ⟨#[]⟩], .nilIface]) ∧ Below w.heap.size w w' := by
  have HI := Lib.hid hi
  clear hi
  have HX := Lib.hid hx
  have HY := Lib.hid hy
  have HP := Lib.hid hp
  clear hx hy hp
  have HN := Lib.hid hn
  clear hn
  have hT := Lib.tabBelow_of_tabIs htab
  clear htab
  have hR : Below w.heap.size w (w.alloc (.cells #[.int .i64 0, .string ⟨#[]⟩, .string ⟨#[]⟩] 24)) := (Below.refl _ _).alloc (Nat.le_refl _) _
  go_enter Tryz.func85, Tryz.ntmps85
  go_wp2_with fail
  refine (clone_any s _ (by omega)).mono ?_
  rintro x w1 ⟨rfl, hb1⟩
  have hz1 : w.heap.size + 1 ≤ w1.heap.size := by have := hb1.size; simp at this; omega
  obtain ⟨k0, k1, k2, kf, kg⟩ := kept3 (g := w.heap.size) (x0 := .int .i64 0) (x1 := .string ⟨#[]⟩) (x2 := .string ⟨#[]⟩) (by simp) (by simp) (by simp) (by simp) (by simp) hb1
  have hW1 : Below w.heap.size w w1 := hR.trans (hb1.mono (by simp))
  go_wp2_with fail
  refine (cut_xy s x y k _ (by omega) hk HI.out HX.out HY.out).mono ?_
  rintro x w2 ⟨rfl, n2, rfl⟩
  go_wp2_with fail
  refine (epoch_some _ n HP.out _).mono ?_
  rintro x w2 ⟨rfl, rfl⟩
  go_wp2_with fail
  rw [set01]
  refine (lidx_any y _ (by omega)).mono ?_
  rintro x w2 ⟨rfl, rfl⟩
  rw [show Lib.lastIndexByte _ _ = _ from hj]
  go_wp2_with fail
  refine (right_any n y [] _ (by omega) (ep_le HN.out) (by omega) (by decide) (hT _ ?tab)).mono ?_
  case tab => exact below_drewN (hW1.alloc hW1.size _) _
  rintro x w3 ⟨rfl, hb3⟩
  rw [hb.out]
  have hX := via_alloc hb3
  obtain ⟨r0, r1, r2, rf, rg⟩ := kept3 k0 k1 k2 kf kg hX
  obtain ⟨v0, v1, v2, vf, vg⟩ := kept3 (g := w1.heap.size) (x0 := .int .i64 n) (x1 := .string ⟨y.toArray⟩) (x2 := .string ⟨#[]⟩) (by simp) (by simp) (by simp) (by simp) (by simp) hb3
  clear k0 k1 k2 kf hb3
  go_wp2
  exact bodyPost_ret (v := .tuple #[.agg #[.int .i64 n, .string ⟨y.toArray⟩, .string ⟨#[]⟩], .nilIface]) (by simp [results, Tryz.results85, go_sem, r0, r1, r2]) rfl ⟨rfl, (((hW1.trans (hX.mono hW1.size)).setCell (Nat.le_refl _) _).setCell (Nat.le_refl _) _).setCell (Nat.le_refl _) _⟩

set_option maxHeartbeats 1600000 in
set_option maxRecDepth 100000 in
theorem parse_s0f (s : List UInt8) (w : World) (hs : s.length ≤ 40) (k : Nat) (hk : k < s.length) (hi : Lib.indexByte s 58 = k) (x y : List UInt8) (hx : s.take k = x) (hy : s.drop (k + 1) = y) (hyl : y.length ≤ 40) (n : Nat) (hn : Ep n) (hp : Vm.pep x = some n) (hj : J0 y) (hb : RtIs n y [] false) (htab : Lib.TabIs Tryz.prog w "internal/strconv.uint64pow10" .u64 Lib.pow10Tab) :
    Calls Tryz.prog 85 #[.string ⟨s.toArray⟩] w fun x w' => x = .returned (.tuple #[.agg #[.int .i64 0, .string ⟨#[]⟩, .string ⟨#[]⟩], .iface 40 (.int .i64 3)]) ∧ Below w.heap.size w w' := by
  have HI := Lib.hid hi
  clear hi
  have HX := Lib.hid hx
  have HY := Lib.hid hy
  have HP := Lib.hid hp
  clear hx hy hp
  have HN := Lib.hid hn
  clear hn
  have hT := Lib.tabBelow_of_tabIs htab
  clear htab
  have hR : Below w.heap.size w (w.alloc (.cells #[.int .i64 0, .string ⟨#[]⟩, .string ⟨#[]⟩] 24)) := (Below.refl _ _).alloc (Nat.le_refl _) _
  go_enter Tryz.func85, Tryz.ntmps85
  go_wp2_with fail
  refine (clone_any s _ (by omega)).mono ?_
  rintro x w1 ⟨rfl, hb1⟩
  have hz1 : w.heap.size + 1 ≤ w1.heap.size := by have := hb1.size; simp at this; omega
  obtain ⟨k0, k1, k2, kf, kg⟩ := kept3 (g := w.heap.size) (x0 := .int .i64 0) (x1 := .string ⟨#[]⟩) (x2 := .string ⟨#[]⟩) (by simp) (by simp) (by simp) (by simp) (by simp) hb1
  have hW1 : Below w.heap.size w w1 := hR.trans (hb1.mono (by simp))
  go_wp2_with fail
  refine (cut_xy s x y k _ (by omega) hk HI.out HX.out HY.out).mono ?_
  rintro x w2 ⟨rfl, n2, rfl⟩
  go_wp2_with fail
  refine (epoch_some _ n HP.out _).mono ?_
  rintro x w2 ⟨rfl, rfl⟩
  go_wp2_with fail
  rw [set01]
  refine (lidx_any y _ (by omega)).mono ?_
  rintro x w2 ⟨rfl, rfl⟩
  rw [show Lib.lastIndexByte _ _ = _ from hj]
  go_wp2_with fail
  refine (right_any n y [] _ (by omega) (ep_le HN.out) (by omega) (by decide) (hT _ ?tab)).mono ?_
  case tab => exact below_drewN (hW1.alloc hW1.size _) _
  rintro x w3 ⟨rfl, hb3⟩
  rw [hb.out]
  have hX := via_alloc hb3
  obtain ⟨r0, r1, r2, rf, rg⟩ := kept3 k0 k1 k2 kf kg hX
  obtain ⟨v0, v1, v2, vf, vg⟩ := kept3 (g := w1.heap.size) (x0 := .int .i64 n) (x1 := .string ⟨y.toArray⟩) (x2 := .string ⟨#[]⟩) (by simp) (by simp) (by simp) (by simp) (by simp) hb3
  clear k0 k1 k2 kf hb3
  go_wp2
  exact bodyPost_ret (v := .tuple #[.agg #[.int .i64 0, .string ⟨#[]⟩, .string ⟨#[]⟩], .iface 40 (.int .i64 3)]) (by simp [results, Tryz.results85, go_sem, r0, r1, r2]) rfl ⟨rfl, (((hW1.trans (hX.mono hW1.size)).setCell (Nat.le_refl _) _).setCell (Nat.le_refl _) _).setCell (Nat.le_refl _) _⟩

set_option maxHeartbeats 1600000 in
set_option maxRecDepth 100000 in
theorem parse_s1 (s : List UInt8) (w : World) (hs : s.length ≤ 40) (k : Nat) (hk : k < s.length) (hi : Lib.indexByte s 58 = k) (x y : List UInt8) (hx : s.take k = x) (hy : s.drop (k + 1) = y) (hyl : y.length ≤ 40) (n : Nat) (hn : Ep n) (hp : Vm.pep x = some n) (j : Nat) (hjl : j < y.length) (hj : J1 y j) (u : List UInt8) (hu : y.take j = u) (hr : y.drop (j + 1) = []) (htab : Lib.TabIs Tryz.prog w "internal/strconv.uint64pow10" .u64 Lib.pow10Tab) :
    Calls Tryz.prog 85 #[.string ⟨s.toArray⟩] w fun x w' => x = .returned (.tuple #[.agg #[.int .i64 0, .string ⟨#[]⟩, .string ⟨#[]⟩], .iface 40 (.int .i64 3)]) ∧ Below w.heap.size w w' := by
  have HI := Lib.hid hi
  clear hi
  have HX := Lib.hid hx
  have HY := Lib.hid hy
  have HP := Lib.hid hp
  clear hx hy hp
  have HN := Lib.hid hn
  clear hn
  have HU := Lib.hid hu
  have HR := Lib.hid hr
  clear hu hr
  have hT := Lib.tabBelow_of_tabIs htab
  clear htab
  have hR : Below w.heap.size w (w.alloc (.cells #[.int .i64 0, .string ⟨#[]⟩, .string ⟨#[]⟩] 24)) := (Below.refl _ _).alloc (Nat.le_refl _) _
  go_enter Tryz.func85, Tryz.ntmps85
  go_wp2_with fail
  refine (clone_any s _ (by omega)).mono ?_
  rintro x w1 ⟨rfl, hb1⟩
  have hz1 : w.heap.size + 1 ≤ w1.heap.size := by have := hb1.size; simp at this; omega
  obtain ⟨k0, k1, k2, kf, kg⟩ := kept3 (g := w.heap.size) (x0 := .int .i64 0) (x1 := .string ⟨#[]⟩) (x2 := .string ⟨#[]⟩) (by simp) (by simp) (by simp) (by simp) (by simp) hb1
  have hW1 : Below w.heap.size w w1 := hR.trans (hb1.mono (by simp))
  go_wp2_with fail
  refine (cut_xy s x y k _ (by omega) hk HI.out HX.out HY.out).mono ?_
  rintro x w2 ⟨rfl, n2, rfl⟩
  go_wp2_with fail
  refine (epoch_some _ n HP.out _).mono ?_
  rintro x w2 ⟨rfl, rfl⟩
  go_wp2_with fail
  rw [set01]
  refine (lidx_any y _ (by omega)).mono ?_
  rintro x w2 ⟨rfl, rfl⟩
  rw [show Lib.lastIndexByte _ _ = _ from hj]
  have q1 : (j : Int) ≤ (y.length : Int) := by omega
  have q2 : (j : Int) + 1 ≤ (y.length : Int) := by omega
  go_wp2_with fail
  go_region
  rw [show (ByteArray.mk y.toArray).extract 0 j = ⟨u.toArray⟩ from by rw [ba_take, HU.out], show (ByteArray.mk y.toArray).extract (j + 1) y.length = ⟨([] : List UInt8).toArray⟩ from by rw [ba_drop, HR.out], set2]
  go_wp2_with fail
  have hX := below_drewN (hW1.alloc hW1.size (.cells #[.int .i64 n, .string ⟨u.toArray⟩, .string ⟨#[]⟩] 24)) (n2 + 1)
  exact bodyPost_ret (v := .tuple #[.agg #[.int .i64 0, .string ⟨#[]⟩, .string ⟨#[]⟩], .iface 40 (.int .i64 3)]) (by simp [results, Tryz.results85, go_sem, k0, k1, k2, kg]) rfl ⟨rfl, ((hX.setCell (Nat.le_refl _) _).setCell (Nat.le_refl _) _).setCell (Nat.le_refl _) _⟩

set_option maxHeartbeats 1600000 in
set_option maxRecDepth 100000 in
theorem parse_s2t (s : List UInt8) (w : World) (hs : s.length ≤ 40) (k : Nat) (hk : k < s.length) (hi : Lib.indexByte s 58 = k) (x y : List UInt8) (hx : s.take k = x) (hy : s.drop (k + 1) = y) (hyl : y.length ≤ 40) (n : Nat) (hn : Ep n) (hp : Vm.pep x = some n) (j : Nat) (hjl : j < y.length) (hj : J1 y j) (u r : List UInt8) (hu : y.take j = u) (hr : y.drop (j + 1) = r) (hre : r.isEmpty = false) (hul : u.length ≤ 40) (hrl : r.length ≤ 40) (hb : RtIs n u r true) (htab : Lib.TabIs Tryz.prog w "internal/strconv.uint64pow10" .u64 Lib.pow10Tab) :
    Calls Tryz.prog 85 #[.string ⟨s.toArray⟩] w fun x w' => x = .returned (.tuple #[.agg #[.int .i64 n, .string ⟨u.toArray⟩, .string ⟨r.toArray⟩], .nilIface]) ∧ Below w.heap.size w w' := by
  have HI := Lib.hid hi
  clear hi
  have HX := Lib.hid hx
  have HY := Lib.hid hy
  have HP := Lib.hid hp
  clear hx hy hp
  have HN := Lib.hid hn
  clear hn
  have HU := Lib.hid hu
  have HR := Lib.hid hr
  clear hu hr
  have hT := Lib.tabBelow_of_tabIs htab
  clear htab
  have hR : Below w.heap.size w (w.alloc (.cells #[.int .i64 0, .string ⟨#[]⟩, .string ⟨#[]⟩] 24)) := (Below.refl _ _).alloc (Nat.le_refl _) _
  go_enter Tryz.func85, Tryz.ntmps85
  go_wp2_with fail
  refine (clone_any s _ (by omega)).mono ?_
  rintro x w1 ⟨rfl, hb1⟩
  have hz1 : w.heap.size + 1 ≤ w1.heap.size := by have := hb1.size; simp at this; omega
  obtain ⟨k0, k1, k2, kf, kg⟩ := kept3 (g := w.heap.size) (x0 := .int .i64 0) (x1 := .string ⟨#[]⟩) (x2 := .string ⟨#[]⟩) (by simp) (by simp) (by simp) (by simp) (by simp) hb1
  have hW1 : Below w.heap.size w w1 := hR.trans (hb1.mono (by simp))
  go_wp2_with fail
  refine (cut_xy s x y k _ (by omega) hk HI.out HX.out HY.out).mono ?_
  rintro x w2 ⟨rfl, n2, rfl⟩
  go_wp2_with fail
  refine (epoch_some _ n HP.out _).mono ?_
  rintro x w2 ⟨rfl, rfl⟩
  go_wp2_with fail
  rw [set01]
  refine (lidx_any y _ (by omega)).mono ?_
  rintro x w2 ⟨rfl, rfl⟩
  rw [show Lib.lastIndexByte _ _ = _ from hj]
  have q1 : (j : Int) ≤ (y.length : Int) := by omega
  have q2 : (j : Int) + 1 ≤ (y.length : Int) := by omega
  go_wp2_with fail
  go_region
  rw [show (ByteArray.mk y.toArray).extract 0 j = ⟨u.toArray⟩ from by rw [ba_take, HU.out], show (ByteArray.mk y.toArray).extract (j + 1) y.length = ⟨r.toArray⟩ from by rw [ba_drop, HR.out], set2]
  go_wp2_with fail
  refine (right_any n u r _ (by omega) (ep_le HN.out) (by omega) (by omega) (hT _ ?tab)).mono ?_
  case tab => exact below_drewN (hW1.alloc hW1.size _) _
  rintro x w3 ⟨rfl, hb3⟩
  rw [hb.out]
  have hX := via_alloc hb3
  obtain ⟨r0, r1, r2, rf, rg⟩ := kept3 k0 k1 k2 kf kg hX
  obtain ⟨v0, v1, v2, vf, vg⟩ := kept3 (g := w1.heap.size) (x0 := .int .i64 n) (x1 := .string ⟨u.toArray⟩) (x2 := .string ⟨r.toArray⟩) (by simp) (by simp) (by simp) (by simp) (by simp) hb3
  clear k0 k1 k2 kf hb3
  go_wp2
  exact bodyPost_ret (v := .tuple #[.agg #[.int .i64 n, .string ⟨u.toArray⟩, .string ⟨r.toArray⟩], .nilIface]) (by simp [results, Tryz.results85, go_sem, r0, r1, r2]) rfl ⟨rfl, (((hW1.trans (hX.mono hW1.size)).setCell (Nat.le_refl _) _).setCell (Nat.le_refl _) _).setCell (Nat.le_refl _) _⟩

set_option maxHeartbeats 1600000 in
set_option maxRecDepth 100000 in
theorem parse_s2f (s : List UInt8) (w : World) (hs : s.length ≤ 40) (k : Nat) (hk : k < s.length) (hi : Lib.indexByte s 58 = k) (x y : List UInt8) (hx : s.take k = x) (hy : s.drop (k + 1) = y) (hyl : y.length ≤ 40) (n : Nat) (hn : Ep n) (hp : Vm.pep x = some n) (j : Nat) (hjl : j < y.length) (hj : J1 y j) (u r : List UInt8) (hu : y.take j = u) (hr : y.drop (j + 1) = r) (hre : r.isEmpty = false) (hul : u.length ≤ 40) (hrl : r.length ≤ 40) (hb : RtIs n u r false) (htab : Lib.TabIs Tryz.prog w "internal/strconv.uint64pow10" .u64 Lib.pow10Tab) :
    Calls Tryz.prog 85 #[.string ⟨s.toArray⟩] w fun x w' => x = .returned (.tuple #[.agg #[.int .i64 0, .string ⟨#[]⟩, .string ⟨#[]⟩], .iface 40 (.int .i64 3)]) ∧ Below w.heap.size w w' := by
  have HI := Lib.hid hi
  clear hi
  have HX := Lib.hid hx
  have HY := Lib.hid hy
  have HP := Lib.hid hp
  clear hx hy hp
  have HN := Lib.hid hn
  clear hn
  have HU := Lib.hid hu
  have HR := Lib.hid hr
  clear hu hr
  have hT := Lib.tabBelow_of_tabIs htab
  clear htab
  have hR : Below w.heap.size w (w.alloc (.cells #[.int .i64 0, .string ⟨#[]⟩, .string ⟨#[]⟩] 24)) := (Below.refl _ _).alloc (Nat.le_refl _) _
  go_enter Tryz.func85, Tryz.ntmps85
  go_wp2_with fail
  refine (clone_any s _ (by omega)).mono ?_
  rintro x w1 ⟨rfl, hb1⟩
  have hz1 : w.heap.size + 1 ≤ w1.heap.size := by have := hb1.size; simp at this; omega
  obtain ⟨k0, k1, k2, kf, kg⟩ := kept3 (g := w.heap.size) (x0 := .int .i64 0) (x1 := .string ⟨#[]⟩) (x2 := .string ⟨#[]⟩) (by simp) (by simp) (by simp) (by simp) (by simp) hb1
  have hW1 : Below w.heap.size w w1 := hR.trans (hb1.mono (by simp))
  go_wp2_with fail
  refine (cut_xy s x y k _ (by omega) hk HI.out HX.out HY.out).mono ?_
  rintro x w2 ⟨rfl, n2, rfl⟩
  go_wp2_with fail
  refine (epoch_some _ n HP.out _).mono ?_
  rintro x w2 ⟨rfl, rfl⟩
  go_wp2_with fail
  rw [set01]
  refine (lidx_any y _ (by omega)).mono ?_
  rintro x w2 ⟨rfl, rfl⟩
  rw [show Lib.lastIndexByte _ _ = _ from hj]
  have q1 : (j : Int) ≤ (y.length : Int) := by omega
  have q2 : (j : Int) + 1 ≤ (y.length : Int) := by omega
  go_wp2_with fail
  go_region
  rw [show (ByteArray.mk y.toArray).extract 0 j = ⟨u.toArray⟩ from by rw [ba_take, HU.out], show (ByteArray.mk y.toArray).extract (j + 1) y.length = ⟨r.toArray⟩ from by rw [ba_drop, HR.out], set2]
  go_wp2_with fail
  refine (right_any n u r _ (by omega) (ep_le HN.out) (by omega) (by omega) (hT _ ?tab)).mono ?_
  case tab => exact below_drewN (hW1.alloc hW1.size _) _
  rintro x w3 ⟨rfl, hb3⟩
  rw [hb.out]
  have hX := via_alloc hb3
  obtain ⟨r0, r1, r2, rf, rg⟩ := kept3 k0 k1 k2 kf kg hX
  obtain ⟨v0, v1, v2, vf, vg⟩ := kept3 (g := w1.heap.size) (x0 := .int .i64 n) (x1 := .string ⟨u.toArray⟩) (x2 := .string ⟨r.toArray⟩) (by simp) (by simp) (by simp) (by simp) (by simp) hb3
  clear k0 k1 k2 kf hb3
  go_wp2
  exact bodyPost_ret (v := .tuple #[.agg #[.int .i64 0, .string ⟨#[]⟩, .string ⟨#[]⟩], .iface 40 (.int .i64 3)]) (by simp [results, Tryz.results85, go_sem, r0, r1, r2]) rfl ⟨rfl, (((hW1.trans (hX.mono hW1.size)).setCell (Nat.le_refl _) _).setCell (Nat.le_refl _) _).setCell (Nat.le_refl _) _⟩

set_option maxHeartbeats 1600000 in
set_option maxRecDepth 100000 in
theorem parse_f (s : List UInt8) (w : World) (hs : s.length ≤ 40) (k : Nat) (hk : k < s.length) (hi : Lib.indexByte s 58 = k) (x y : List UInt8) (hx : s.take k = x) (hy : s.drop (k + 1) = y) (hp : Vm.pep x = none) (htab : Lib.TabIs Tryz.prog w "internal/strconv.uint64pow10" .u64 Lib.pow10Tab) :
    Calls Tryz.prog 85 #[.string ⟨s.toArray⟩] w fun x w' => x = .returned (.tuple #[.agg #[.int .i64 0, .string ⟨#[]⟩, .string ⟨#[]⟩], .iface 40 (.int .i64 3)]) ∧ Below w.heap.size w w' := by
  have HI := Lib.hid hi
  clear hi
  have HX := Lib.hid hx
  have HY := Lib.hid hy
  have HP := Lib.hid hp
  clear hx hy hp
  have hT := Lib.tabBelow_of_tabIs htab
  clear htab
  have hR : Below w.heap.size w (w.alloc (.cells #[.int .i64 0, .string ⟨#[]⟩, .string ⟨#[]⟩] 24)) := (Below.refl _ _).alloc (Nat.le_refl _) _
  go_enter Tryz.func85, Tryz.ntmps85
  go_wp2_with fail
  refine (clone_any s _ (by omega)).mono ?_
  rintro x w1 ⟨rfl, hb1⟩
  have hz1 : w.heap.size + 1 ≤ w1.heap.size := by have := hb1.size; simp at this; omega
  obtain ⟨k0, k1, k2, kf, kg⟩ := kept3 (g := w.heap.size) (x0 := .int .i64 0) (x1 := .string ⟨#[]⟩) (x2 := .string ⟨#[]⟩) (by simp) (by simp) (by simp) (by simp) (by simp) hb1
  have hW1 : Below w.heap.size w w1 := hR.trans (hb1.mono (by simp))
  go_wp2_with fail
  refine (cut_xy s x y k _ (by omega) hk HI.out HX.out HY.out).mono ?_
  rintro x w2 ⟨rfl, n2, rfl⟩
  go_wp2_with fail
  refine (epoch_no _ HP.out _).mono ?_
  rintro x w2 ⟨rfl, rfl⟩
  go_wp2
  have hX : Below w.heap.size w ((w1.alloc (.cells #[.int .i64 0, .string ⟨s.toArray⟩, .string ⟨#[]⟩] 24)).drewN n2) := below_drewN (hW1.alloc hW1.size _) _
  exact bodyPost_ret (v := .tuple #[.agg #[.int .i64 0, .string ⟨#[]⟩, .string ⟨#[]⟩], .iface 40 (.int .i64 3)]) (by simp [results, Tryz.results85, go_sem, k0, k1, k2, kg]) rfl ⟨rfl, ((hX.setCell (Nat.le_refl _) _).setCell (Nat.le_refl _) _).setCell (Nat.le_refl _) _⟩

end Go.Proofs.YthijccmiemlilaaGreatDoor
namespace Go.Proofs.YthijccmiemlilaaGreatDoor
open Go.RowKit Go.Shelf Go.Sort

/-- What version.Parse hands back. -/
def pvVal : Option (Int × List UInt8 × List UInt8) → Value
  | none => .tuple #[.agg #[.int .i64 0, .string ⟨#[]⟩, .string ⟨#[]⟩], .iface 40 (.int .i64 3)]
  | some (e, u, r) => .tuple #[.agg #[.int .i64 e, .string ⟨u.toArray⟩, .string ⟨r.toArray⟩], .nilIface]

theorem lc_small {c : UInt8} {y u r : List UInt8} (h : Vm.lc c y = some (u, r)) : u.length ≤ y.length ∧ r.length ≤ y.length := by
  rcases Vm.lc_idx c y with ⟨_, h2⟩ | ⟨k, hk, _, h2⟩
  · rw [h2] at h; cases h
  · rw [h2] at h; cases h; simp; omega

theorem parse_any (s : List UInt8) (w : World) (htab : Lib.TabIs Tryz.prog w "internal/strconv.uint64pow10" .u64 Lib.pow10Tab) :
    Calls Tryz.prog 85 #[.string ⟨s.toArray⟩] w fun x w' => x = .returned (pvVal (Vm.pv s)) ∧ Below w.heap.size w w' := by
  by_cases hs : 40 < s.length
  · have : Vm.pv s = none := by unfold Vm.pv; rw [if_pos hs]
    rw [this]; exact parse_long s w hs
  · have hs' : s.length ≤ 40 := by omega
    rcases Vm.fc_idx 58 s with ⟨hi, hf⟩ | ⟨k, hk, hi, hf⟩
    · have hpv : Vm.pv s = match Vm.lc 45 s with
          | none => if Vm.rt 0 s [] = true then some (0, s, []) else none
          | some (u, r) => if r = [] then none else if Vm.rt 0 u r = true then some (0, u, r) else none := by
        unfold Vm.pv; rw [if_neg hs, hf]; rfl
      rw [hpv]
      rcases Vm.lc_idx 45 s with ⟨hj, hl⟩ | ⟨j, hjl, hj, hl⟩
      · rw [hl]
        cases hb : Vm.rt 0 s [] with
        | true => simpa [pvVal, hb] using parse_n0t s w hs' hi hj ⟨hb⟩ htab
        | false => simpa [pvVal, hb] using parse_n0f s w hs' hi hj ⟨hb⟩ htab
      · rw [hl]
        by_cases hr : s.drop (j + 1) = []
        · simpa [pvVal, hr] using parse_n1 s w hs' hi j hjl hj _ rfl hr htab
        · have hre : (s.drop (j + 1)).isEmpty = false := by
            cases hd : s.drop (j + 1) with
            | nil => exact absurd hd hr
            | cons c t => rfl
          have hsm := lc_small hl
          cases hb : Vm.rt 0 (s.take j) (s.drop (j + 1)) with
          | true =>
            have := parse_n2t s w hs' hi j hjl hj _ _ rfl rfl hre (by omega) (by omega) ⟨hb⟩ htab
            simp only [hr, if_false, hb, if_true]
            exact this
          | false =>
            have := parse_n2f s w hs' hi j hjl hj _ _ rfl rfl hre (by omega) (by omega) ⟨hb⟩ htab
            simp only [hr, if_false, hb, Bool.false_eq_true]
            exact this
    · cases hp : Vm.pep (s.take k) with
      | none =>
        have hpv : Vm.pv s = none := by unfold Vm.pv; rw [if_neg hs, hf]; simp only [hp]
        rw [hpv]; exact parse_f s w hs' k hk hi _ _ rfl rfl hp htab
      | some n =>
        have hpv : Vm.pv s = match Vm.lc 45 (s.drop (k + 1)) with
            | none => if Vm.rt n (s.drop (k + 1)) [] = true then some ((n : Int), s.drop (k + 1), []) else none
            | some (u, r) => if r = [] then none else if Vm.rt n u r = true then some ((n : Int), u, r) else none := by
          unfold Vm.pv; rw [if_neg hs, hf]; simp only [hp]; rfl
        rw [hpv]
        have hn : Ep n := Vm.pep_lt hp
        have hyl : (s.drop (k + 1)).length ≤ 40 := by simp; omega
        rcases Vm.lc_idx 45 (s.drop (k + 1)) with ⟨hj, hl⟩ | ⟨j, hjl, hj, hl⟩
        · rw [hl]
          cases hb : Vm.rt n (s.drop (k + 1)) [] with
          | true =>
            have := parse_s0t s w hs' k hk hi _ _ rfl rfl hyl n hn hp hj ⟨hb⟩ htab
            simp only [if_true]; exact this
          | false =>
            have := parse_s0f s w hs' k hk hi _ _ rfl rfl hyl n hn hp hj ⟨hb⟩ htab
            simp only [Bool.false_eq_true, if_false]; exact this
        · rw [hl]
          by_cases hr : (s.drop (k + 1)).drop (j + 1) = []
          · have := parse_s1 s w hs' k hk hi _ _ rfl rfl hyl n hn hp j hjl hj _ rfl hr htab
            simp only [hr, if_true]; exact this
          · have hre : ((s.drop (k + 1)).drop (j + 1)).isEmpty = false := by
              cases hd : (s.drop (k + 1)).drop (j + 1) with
              | nil => exact absurd hd hr
              | cons c t => rfl
            have hsm := lc_small hl
            cases hb : Vm.rt n ((s.drop (k + 1)).take j) ((s.drop (k + 1)).drop (j + 1)) with
            | true =>
              have := parse_s2t s w hs' k hk hi _ _ rfl rfl hyl n hn hp j hjl hj _ _ rfl rfl hre (by omega) (by omega) ⟨hb⟩ htab
              simp only [hr, if_false, hb, if_true]; exact this
            | false =>
              have := parse_s2f s w hs' k hk hi _ _ rfl rfl hyl n hn hp j hjl hj _ _ rfl rfl hre (by omega) (by omega) ⟨hb⟩ htab
              simp only [hr, if_false, hb, Bool.false_eq_true]; exact this

end Go.Proofs.YthijccmiemlilaaGreatDoor
