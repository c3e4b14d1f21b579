/- The walks of the reference's digit, letter, all, in, Number, Print. -/
import Derived.Test.YtmlmdncepgcimaaGreatDoorZaf
import Derived.Test.YtmlmdncepgcimaaGreatDoorZad
import Derived.Test.YtmlmdncepgcimaaGreatDoorZai
import Derived.RangeFuncNested
import Derived.RangeFuncLeaves
import Derived.CallsIn
namespace Go.Proofs.YtmlmdncepgcimaaGreatDoor
open Go.RowKit Go.Shelf Go.Sort

theorem xdigit_any (c : UInt8) (w : World) : Calls Tryz.prog 67 #[.int .u8 c.toNat] w fun e w' => e = .returned (.bool (Vm.dg c)) ∧ w' = w := by
  go_enter Tryz.func67, Tryz.ntmps67
  go_wp2
  all_goals go_ret
  all_goals exact ⟨ret_bool (by unfold Vm.dg; rw [Bool.eq_iff_iff]; simp; omega), rfl⟩

theorem xletter_any (c : UInt8) (w : World) : Calls Tryz.prog 68 #[.int .u8 c.toNat] w fun e w' => e = .returned (.bool (Vm.lr c)) ∧ w' = w := by
  go_enter Tryz.func68, Tryz.ntmps68
  go_wp2
  all_goals go_ret
  all_goals exact ⟨ret_bool (by unfold Vm.lr; rw [Bool.eq_iff_iff]; simp; omega), rfl⟩

set_option maxHeartbeats 400000 in
theorem xall_any (l m : List UInt8) (w : World) (hl : l.length ≤ 200) : Calls Tryz.prog 133 #[.string ⟨l.toArray⟩, .string ⟨m.toArray⟩] w fun e w' => e = .returned (.bool (l.all (Vm.ok1 m))) ∧ w' = w := by
  go_enter Tryz.func133, Tryz.ntmps133
  go_wp2
  go_loop [8] (fun i => ∃ k : Nat, k ≤ l.length ∧ i = .int .i64 k ∧ ∀ j (hj : j < l.length), j < k → Vm.ok1 m l[j] = true) (fun i => l.length - (intOf i).toNat)
  case atStart => exact ⟨0, Nat.zero_le _, rfl, fun j _ h => absurd h (Nat.not_lt_zero _)⟩
  case round =>
    obtain ⟨k, hk, rfl, hpre0⟩ := hrel
    have hpre : Hid (∀ j (hj : j < l.length), j < k → Vm.ok1 m l[j] = true) := hpre0
    clear hpre0
    by_cases hlt : k < l.length
    · have more : Vm.ok1 m l[k] = true → ∀ j (hj : j < l.length), j < k + 1 → Vm.ok1 m l[j] = true := fun hc j hj h => by
        by_cases e : j = k
        · subst e; exact hc
        · exact hpre.out j hj (by omega)
      have HM := Lib.hid more
      clear more
      go_wp2_with (first | (go_at_call 67; refine (xdigit_any _ _).mono ?_; rintro e w' ⟨rfl, rfl⟩) | (go_at_call 68; refine (xletter_any _ _).mono ?_; rintro e w' ⟨rfl, rfl⟩) | (go_at_call 170; refine (idx_any _ _ _).mono ?_; rintro e w' ⟨rfl, rfl⟩))
      · exact ⟨⟨k + 1, hlt, by go_num, HM.out (ok_dig ‹_›)⟩, by simp [intOf]; omega⟩
      · exact ⟨⟨k + 1, hlt, by go_num, HM.out (ok_let ‹_›)⟩, by simp [intOf]; omega⟩
      · go_ret
        have h1 : ¬ Vm.dg l[k] = true := ‹_›
        have h2 : ¬ Vm.lr l[k] = true := ‹_›
        exact ⟨ret_bool (all_no k hlt (ok_no (by simpa using h1) (by simpa using h2) ‹_›)), rfl⟩
      · have h3 : 0 ≤ Lib.indexByte m l[k] := ‹_›
        exact ⟨⟨k + 1, hlt, by go_num, HM.out (ok_in (by omega))⟩, by simp [intOf]; omega⟩
    · go_wp2
      go_ret
      exact ⟨ret_bool (all_to (fun j hj => hpre.out j hj (by omega))), rfl⟩

def inB (e : Int) : Bool := decide (0 ≤ e) && decide (e < 1000000000)
theorem xin_any (e : Int) (w : World) : Calls Tryz.prog 66 #[.int .i64 e, .int .i64 0, .int .i64 999999999] w fun x w' => x = .returned (.bool (inB e)) ∧ w' = w := by
  go_enter Tryz.func66, Tryz.ntmps66
  go_wp2
  all_goals go_ret
  all_goals exact ⟨ret_bool (by unfold inB; rw [Bool.eq_iff_iff]; simp; omega), rfl⟩

theorem num_val {c : UInt8} {m : Nat} (h : Vm.dg c = true) : Value.int .i64 ((m : Int) * 10 + ((c.toNat : Int) - 48) % 256) = .int .i64 ((10 * m + (c.toNat - 48) : Nat) : Int) := by
  have := (Vm.dg_iff c).1 h
  congr 1
  omega

set_option maxHeartbeats 1600000 in
set_option maxRecDepth 100000 in
theorem xprint_any (e : Int) (u r : List UInt8) (w : World) (h0 : -9223372036854775808 ≤ e) (h1 : e ≤ 9223372036854775807) (hu : u.length ≤ 200) (hr : r.length ≤ 200) (htab : Lib.TabIs Tryz.prog w "internal/strconv.uint64pow10" .u64 Lib.pow10Tab) :
    Calls Tryz.prog 39 #[.agg #[.int .i64 e, .string ⟨u.toArray⟩, .string ⟨r.toArray⟩]] w fun x w' => x = .returned (.string ⟨(Vm.pt e u r).toArray⟩) ∧ Below w.heap.size w w' := by
  have hb : ∀ o, Below w.heap.size w (w.alloc o) := fun o => (Below.refl _ _).alloc (Nat.le_refl _) _
  have htab' := fun o => (Lib.tabBelow_of_tabIs htab).on (hb o)
  have le := Lib.itoa_length_le e h0 h1
  have HLE := Lib.hid le
  clear htab
  by_cases he : e = 0
  · subst he
    by_cases hr0 : r = []
    · subst hr0
      go_enter Tryz.func39, Tryz.ntmps39
      go_wp2
      go_ret
      exact ⟨ret_sv (by apply ByteArray.ext; simp [Vm.pt, Vm.pe, Vm.pr]), hb _⟩
    · have hre : r.isEmpty = false := by cases r with
        | nil => exact absurd rfl hr0
        | cons c r => rfl
      go_enter Tryz.func39, Tryz.ntmps39
      go_wp2
      go_ret
      exact ⟨ret_sv (by apply ByteArray.ext; simp [Vm.pt, Vm.pe, Vm.pr, hr0]), hb _⟩
  · have hne : (e != 0) = true := by simpa using he
    obtain ⟨li, hli⟩ : ∃ l : List UInt8, l = Lib.itoa e := ⟨_, rfl⟩
    have HI := Lib.hid hli
    rw [← hli] at le
    have hc := fun W h => Tryz.strconv_Itoa e h0 h1 W h
    rw [← hli] at hc
    have HC := Lib.hid hc
    clear hc HLE hli
    by_cases hr0 : r = []
    · subst hr0
      go_enter Tryz.func39, Tryz.ntmps39
      go_wp2_with fail
      refine (HC.out _ (htab' _).here).mono ?_
      rintro x w1 ⟨rfl, k, os, hw1⟩
      have b1 : Below (w.alloc (.cells #[.int .i64 e, .string ⟨u.toArray⟩, .string ⟨([] : List UInt8).toArray⟩] 23)).heap.size (w.alloc (.cells #[.int .i64 e, .string ⟨u.toArray⟩, .string ⟨([] : List UInt8).toArray⟩] 23)) w1 := by rw [hw1]; exact Lib.below_grow _ _ (Nat.le_refl _) k os
      clear hw1
      have c1 : w1.cell? ⟨w.heap.size, 1, none⟩ = some (.string ⟨u.toArray⟩) := by rw [b1.cell (by simp)]; simp
      have c2 : w1.cell? ⟨w.heap.size, 2, none⟩ = some (.string ⟨#[]⟩) := by rw [b1.cell (by simp)]; simp
      go_wp2
      go_ret
      exact ⟨ret_sv (by apply ByteArray.ext; simp [Vm.pt, Vm.pe, Vm.pr, he, HI.out]), (hb _).trans (b1.mono (by simp))⟩
    · have hre : r.isEmpty = false := by cases r with
        | nil => exact absurd rfl hr0
        | cons c r => rfl
      go_enter Tryz.func39, Tryz.ntmps39
      go_wp2_with fail
      refine (HC.out _ (htab' _).here).mono ?_
      rintro x w1 ⟨rfl, k, os, hw1⟩
      have b1 : Below (w.alloc (.cells #[.int .i64 e, .string ⟨u.toArray⟩, .string ⟨r.toArray⟩] 23)).heap.size (w.alloc (.cells #[.int .i64 e, .string ⟨u.toArray⟩, .string ⟨r.toArray⟩] 23)) w1 := by rw [hw1]; exact Lib.below_grow _ _ (Nat.le_refl _) k os
      clear hw1
      have c1 : w1.cell? ⟨w.heap.size, 1, none⟩ = some (.string ⟨u.toArray⟩) := by rw [b1.cell (by simp)]; simp
      have c2 : w1.cell? ⟨w.heap.size, 2, none⟩ = some (.string ⟨r.toArray⟩) := by rw [b1.cell (by simp)]; simp
      go_wp2
      go_ret
      exact ⟨ret_sv (by apply ByteArray.ext; simp [Vm.pt, Vm.pe, Vm.pr, he, hr0, HI.out]), (hb _).trans (b1.mono (by simp))⟩

end Go.Proofs.YtmlmdncepgcimaaGreatDoor

/- The walk of depend's parseTerm. -/
namespace Go.Proofs.YtmlmdncepgcimaaGreatDoor
open Go.RowKit Go.Shelf Go.Sort

theorem dwl_le (p : UInt8 → Bool) : ∀ l : List UInt8, (l.dropWhile p).length ≤ l.length
  | [] => by simp
  | c :: l => by
    rw [List.dropWhile_cons]
    split
    · have := dwl_le p l; simp; omega
    · simp
theorem trimR_le (l cs : List UInt8) : (Lib.trimRightS l cs).length ≤ l.length := by
  unfold Lib.trimRightS
  have := dwl_le (cs.contains ·) l.reverse
  simpa using this
theorem trimS_le (l cs : List UInt8) : (Lib.trimS l cs).length ≤ l.length := Nat.le_trans (dwl_le _ _) (trimR_le l cs)
theorem cutV_le (c : UInt8) (l : List UInt8) : (cutV c l).1.length ≤ l.length ∧ (cutV c l).2.1.length ≤ l.length := by
  unfold cutV
  rcases Vm.fc_idx c l with ⟨_, h⟩ | ⟨k, hk, _, h⟩
  · rw [h]; simp
  · rw [h]; simp; omega

theorem sfx_iff (b : List UInt8) : Lib.hasSuffix b [41] = decide (b.getLast? = some 41) := by
  unfold Lib.hasSuffix
  rw [Bool.eq_iff_iff]
  rw [List.isSuffixOf_iff_suffix, decide_eq_true_iff]
  constructor
  · rintro ⟨t, rfl⟩; simp
  · intro h
    obtain ⟨t, rfl⟩ := List.getLast?_eq_some_iff.1 h
    exact ⟨t, rfl⟩
theorem sfx_cut (b : List UInt8) : Lib.trimSuffix b [41] = cutE b := by
  unfold Lib.trimSuffix cutE
  rw [sfx_iff]
  by_cases h : b.getLast? = some 41
  · simp [h, List.dropLast_eq_take]
  · simp [h]
theorem cutE_le (b : List UInt8) : (cutE b).length ≤ b.length := by unfold cutE; split <;> simp
theorem cutS_le (b : List UInt8) : (cutS b).2.length ≤ b.length := by
  unfold cutS; repeat' split
  all_goals simp

/-- What parseTerm answers. -/
def ptB : Option Tm → Value
  | some t => .tuple #[.agg #[.string ⟨t.n.toArray⟩, .int .i64 t.o, .int .i64 t.e, .string ⟨t.u.toArray⟩, .string ⟨t.r.toArray⟩], .bool true]
  | none => .tuple #[.agg #[.string ⟨#[]⟩, .int .i64 0, .int .i64 0, .string ⟨#[]⟩, .string ⟨#[]⟩], .bool false]
theorem rett {o p : Option Tm} (h : o = p) : Ending.returned (ptB o) = .returned (ptB p) := by rw [h]

theorem sfx_any (b : List UInt8) (w : World) (hb : b.length ≤ 1000000) : Calls Tryz.prog 190 #[.string ⟨b.toArray⟩, .string ⟨#[41]⟩] w fun e w' => e = .returned (.tuple #[.string ⟨(cutE b).toArray⟩, .bool (decide (b.getLast? = some 41))]) ∧ w' = w := by
  have := Tryz.strings_CutSuffix ⟨b.toArray⟩ ⟨#[41]⟩ w (by have := size_le hb; omega)
  rw [show Lib.trimSuffix (ByteArray.mk b.toArray).data.toList (ByteArray.mk #[41]).data.toList = cutE b from sfx_cut b, show Lib.hasSuffix (ByteArray.mk b.toArray).data.toList (ByteArray.mk #[41]).data.toList = decide (b.getLast? = some 41) from sfx_iff b] at this
  exact this

/-- A block of a term's five cells. -/
structure K5 (W : World) (g : Nat) (x0 x1 x2 x3 x4 : Value) : Prop where
  c0 : W.cell? ⟨g, 0, none⟩ = some x0
  c1 : W.cell? ⟨g, 1, none⟩ = some x1
  c2 : W.cell? ⟨g, 2, none⟩ = some x2
  c3 : W.cell? ⟨g, 3, none⟩ = some x3
  c4 : W.cell? ⟨g, 4, none⟩ = some x4
  f : ∀ j, W.frozen? ⟨g, j, none⟩ = false
  lt : g < W.heap.size
theorem K5.on {W w' : World} {g : Nat} {x0 x1 x2 x3 x4 : Value} (h : K5 W g x0 x1 x2 x3 x4) (b : Below W.heap.size W w') : K5 w' g x0 x1 x2 x3 x4 :=
  ⟨by rw [b.cell h.lt, h.c0], by rw [b.cell h.lt, h.c1], by rw [b.cell h.lt, h.c2], by rw [b.cell h.lt, h.c3], by rw [b.cell h.lt, h.c4], fun j => by rw [b.frozen h.lt, h.f j], Nat.lt_of_lt_of_le h.lt b.size⟩
theorem K5.new (w : World) (x0 x1 x2 x3 x4 : Value) (t : TypeId) : K5 (w.alloc (.cells #[x0, x1, x2, x3, x4] t)) w.heap.size x0 x1 x2 x3 x4 :=
  ⟨by simp, by simp, by simp, by simp, by simp, by simp, by simp⟩

theorem res5 {W : World} {g : Nat} {x0 x1 x2 x3 x4 : Value} (y0 y1 y2 y3 y4 : Value) (k : K5 W g x0 x1 x2 x3 x4) :
    K5 (((((W.setCell ⟨g, 0, none⟩ y0).setCell ⟨g, 1, none⟩ y1).setCell ⟨g, 2, none⟩ y2).setCell ⟨g, 3, none⟩ y3).setCell ⟨g, 4, none⟩ y4) g y0 y1 y2 y3 y4 :=
  ⟨by simp [go_sem, k.c0], by simp [go_sem, k.c1], by simp [go_sem, k.c2], by simp [go_sem, k.c3], by simp [go_sem, k.c4], fun j => by simp [k.f], by simpa using k.lt⟩
theorem low5 {w W : World} (h : Below w.heap.size w W) (y0 y1 y2 y3 y4 : Value) : Below w.heap.size w (((((W.setCell ⟨w.heap.size, 0, none⟩ y0).setCell ⟨w.heap.size, 1, none⟩ y1).setCell ⟨w.heap.size, 2, none⟩ y2).setCell ⟨w.heap.size, 3, none⟩ y3).setCell ⟨w.heap.size, 4, none⟩ y4) :=
  ((((h.setCell (Nat.le_refl _) _).setCell (Nat.le_refl _) _).setCell (Nat.le_refl _) _).setCell (Nat.le_refl _) _).setCell (Nat.le_refl _) _

set_option maxHeartbeats 800000 in
set_option maxRecDepth 100000 in
theorem pt_no (s a b : List UInt8) (m : Bool) (w : World) (hs : s.length ≤ 100000) (h : cutV 40 (Lib.trimS s bls) = (a, b, m)) (hn : nmo (Lib.trimRightS a bls) = false) : Calls Tryz.prog 143 #[.string ⟨s.toArray⟩] w fun x w' => x = .returned (ptB none) ∧ Below w.heap.size w w' := by
  have l1 := trimS_le s bls
  have l2 := cutV_le 40 (Lib.trimS s bls)
  rw [h] at l2
  have l3 := trimR_le a bls
  simp only at l2
  have cT := fun W => trim3 s W (by omega)
  have cC := fun W => cutc 40 (Lib.trimS s bls) W (by omega)
  rw [h] at cC
  have cR := fun W => trimr3 a W (by omega)
  have cN := fun W => name_any (Lib.trimRightS a bls) W
  rw [hn] at cN
  obtain ⟨n, hn'⟩ : ∃ n, n = Lib.trimRightS a bls := ⟨_, rfl⟩
  rw [← hn'] at cR cN
  obtain ⟨t, ht⟩ : ∃ t, t = Lib.trimS s bls := ⟨_, rfl⟩
  rw [← ht] at cT cC
  clear h hn l1 l2 l3 ht hn'
  unfold ptB
  go_enter Tryz.func143, Tryz.ntmps143
  go_wp2_with fail
  refine (cT _).mono ?_
  rintro x w1 ⟨rfl, b1⟩
  go_wp2_with fail
  refine (cC _).mono ?_
  rintro x w2 ⟨rfl, b2⟩
  go_wp2_with fail
  refine (cR _).mono ?_
  rintro x w3 ⟨rfl, b3⟩
  go_wp2_with fail
  refine (cN _).mono ?_
  rintro x w4 ⟨rfl, b4⟩
  have b14 := bt2 (bt2 (bt2 b1 b2) b3) b4
  have kR := (K5.new w (.string ⟨#[]⟩) (.int .i64 0) (.int .i64 0) (.string ⟨#[]⟩) (.string ⟨#[]⟩) 83).on b14
  have hW4 := bt2 (bA1 _ _) b14
  clear b1 b2 b3 b4 b14 cT cC cR cN
  have q := res5 (.string ⟨#[]⟩) (.int .i64 0) (.int .i64 0) (.string ⟨#[]⟩) (.string ⟨#[]⟩) kR
  have q0 := q.c0
  have q1 := q.c1
  have q2 := q.c2
  have q3 := q.c3
  have q4 := q.c4
  obtain ⟨k0, k1, k2, k3, k4, kf, kl⟩ := kR
  go_wp2
  exact bodyPost_ret (v := .tuple #[.agg #[.string ⟨#[]⟩, .int .i64 0, .int .i64 0, .string ⟨#[]⟩, .string ⟨#[]⟩], .bool false]) (by simp only [results, Tryz.results143]; simp [go_sem, q0, q1, q2, q3, q4]) rfl ⟨rfl, low5 hW4 _ _ _ _ _⟩

set_option maxHeartbeats 1600000 in
set_option maxRecDepth 100000 in
theorem pt_bare (s a b : List UInt8) (w : World) (hs : s.length ≤ 100000) (h : cutV 40 (Lib.trimS s bls) = (a, b, false)) (hn : nmo (Lib.trimRightS a bls) = true) : Calls Tryz.prog 143 #[.string ⟨s.toArray⟩] w fun x w' => x = .returned (ptB (some ⟨Lib.trimRightS a bls, 0, 0, [], []⟩)) ∧ Below w.heap.size w w' := by
  have l1 := trimS_le s bls
  have l2 := cutV_le 40 (Lib.trimS s bls)
  rw [h] at l2
  have l3 := trimR_le a bls
  simp only at l2
  have cT := fun W => trim3 s W (by omega)
  have cC := fun W => cutc 40 (Lib.trimS s bls) W (by omega)
  rw [h] at cC
  have cR := fun W => trimr3 a W (by omega)
  have cN := fun W => name_any (Lib.trimRightS a bls) W
  rw [hn] at cN
  have cL := fun W => clone2 (Lib.trimRightS a bls) W (by omega)
  obtain ⟨n, hn'⟩ : ∃ n, n = Lib.trimRightS a bls := ⟨_, rfl⟩
  rw [← hn'] at cR cN cL ⊢
  obtain ⟨t, ht⟩ : ∃ t, t = Lib.trimS s bls := ⟨_, rfl⟩
  rw [← ht] at cT cC
  clear h hn l1 l2 l3 ht hn'
  unfold ptB
  go_enter Tryz.func143, Tryz.ntmps143
  go_wp2_with fail
  refine (cT _).mono ?_
  rintro x w1 ⟨rfl, b1⟩
  go_wp2_with fail
  refine (cC _).mono ?_
  rintro x w2 ⟨rfl, b2⟩
  go_wp2_with fail
  refine (cR _).mono ?_
  rintro x w3 ⟨rfl, b3⟩
  go_wp2_with fail
  refine (cN _).mono ?_
  rintro x w4 ⟨rfl, b4⟩
  have b14 := bt2 (bt2 (bt2 b1 b2) b3) b4
  have kR := (K5.new w (.string ⟨#[]⟩) (.int .i64 0) (.int .i64 0) (.string ⟨#[]⟩) (.string ⟨#[]⟩) 83).on b14
  have hW4 := bt2 (bA1 _ _) b14
  clear b1 b2 b3 b4 b14 cT cC cR cN
  go_wp2_with fail
  refine (cL _).mono ?_
  rintro x w5 ⟨rfl, b5⟩
  have kR := kR.on b5
  have hW5 := bt2 hW4 b5
  clear b5 cL
  have q := res5 (.string ⟨n.toArray⟩) (.int .i64 0) (.int .i64 0) (.string ⟨#[]⟩) (.string ⟨#[]⟩) kR
  have q' := q.on (bA1 _ (.cells #[.string ⟨n.toArray⟩, .int .i64 0, .int .i64 0, .string ⟨#[]⟩, .string ⟨#[]⟩] 83))
  have q0 := q'.c0
  have q1 := q'.c1
  have q2 := q'.c2
  have q3 := q'.c3
  have q4 := q'.c4
  obtain ⟨k0, k1, k2, k3, k4, kf, kl⟩ := kR
  go_wp2
  exact bodyPost_ret (v := .tuple #[.agg #[.string ⟨n.toArray⟩, .int .i64 0, .int .i64 0, .string ⟨#[]⟩, .string ⟨#[]⟩], .bool true]) (by simp only [results, Tryz.results143]; simp [go_sem, q0, q1, q2, q3, q4]) rfl ⟨rfl, (low5 hW5 _ _ _ _ _).alloc (low5 hW5 _ _ _ _ _).size _⟩

/-- Behind a bracket: whether it ends, which sign, which version. -/
structure Beh (b b' c d : List UInt8) (en : Bool) (op : Nat) (v : Option (Int × List UInt8 × List UInt8)) : Prop where
  e : cutE b = b'
  n : decide (b.getLast? = some 41) = en
  s : cutS b' = (op, c)
  t : Lib.trimS c bls = d
  v : rdV d = v
def behT (n : List UInt8) (en : Bool) (op : Nat) : Option (Int × List UInt8 × List UInt8) → Option Tm
  | some (e, u, r) => if en = true ∧ op ≠ 0 then some ⟨n, (op : Int), e, u, r⟩ else none
  | none => none
theorem beh_none (n : List UInt8) (en : Bool) (op : Nat) : behT n en op none = none := rfl
theorem beh_en (n : List UInt8) (op : Nat) (v : Option (Int × List UInt8 × List UInt8)) : behT n false op v = none := by cases v <;> simp [behT]
theorem beh_op (n : List UInt8) (en : Bool) (v : Option (Int × List UInt8 × List UInt8)) : behT n en 0 v = none := by cases v <;> simp [behT]
theorem beh_some (n : List UInt8) {op : Nat} (h : ¬ op = 0) (e : Int) (u r : List UInt8) : behT n true op (some (e, u, r)) = some ⟨n, (op : Int), e, u, r⟩ := by simp [behT, h]
set_option maxHeartbeats 1600000 in
set_option maxRecDepth 100000 in
theorem pt_more (s a b b' c d : List UInt8) (en : Bool) (op : Nat) (v : Option (Int × List UInt8 × List UInt8)) (w : World) (hs : s.length ≤ 100000) (h : cutV 40 (Lib.trimS s bls) = (a, b, true)) (hn : nmo (Lib.trimRightS a bls) = true) (hB : Beh b b' c d en op v) (hG : Sg w) (hT : Tab w) : Calls Tryz.prog 143 #[.string ⟨s.toArray⟩] w fun x w' => x = .returned (ptB (behT (Lib.trimRightS a bls) en op v)) ∧ Below w.heap.size w w' := by
  have l1 := trimS_le s bls
  have l2 := cutV_le 40 (Lib.trimS s bls)
  rw [h] at l2
  have l3 := trimR_le a bls
  simp only at l2
  have cT := fun W => trim3 s W (by omega)
  have cC := fun W => cutc 40 (Lib.trimS s bls) W (by omega)
  rw [h] at cC
  have cR := fun W => trimr3 a W (by omega)
  have cN := fun W => name_any (Lib.trimRightS a bls) W
  rw [hn] at cN
  have l4 := cutE_le b
  have l5 := cutS_le b'
  have cL := fun W => clone2 (Lib.trimRightS a bls) W (by omega)
  have cX := fun W => sfx_any b W (by omega)
  rw [hB.e, hB.n] at cX
  have cG := fun W (hW : Below w.heap.size w W) => cutsign_any b' W (hG.on hW)
  rw [hB.s] at cG l5
  rw [hB.e] at l4
  simp only at l5
  have cM := fun W => trim3 c W (by omega)
  rw [hB.t] at cM
  have cV := fun W (hW : Below w.heap.size w W) => pver_any d W (tab_on hT hW)
  rw [hB.v] at cV
  obtain ⟨n, hn'⟩ : ∃ n, n = Lib.trimRightS a bls := ⟨_, rfl⟩
  rw [← hn'] at cR cN cL ⊢
  obtain ⟨t, ht⟩ : ∃ t, t = Lib.trimS s bls := ⟨_, rfl⟩
  rw [← ht] at cT cC
  clear h hn l1 l2 l3 l4 l5 ht hn' hB hG hT
  go_enter Tryz.func143, Tryz.ntmps143
  go_wp2_with fail
  refine (cT _).mono ?_
  rintro x w1 ⟨rfl, b1⟩
  go_wp2_with fail
  refine (cC _).mono ?_
  rintro x w2 ⟨rfl, b2⟩
  go_wp2_with fail
  refine (cR _).mono ?_
  rintro x w3 ⟨rfl, b3⟩
  go_wp2_with fail
  refine (cN _).mono ?_
  rintro x w4 ⟨rfl, b4⟩
  have b14 := bt2 (bt2 (bt2 b1 b2) b3) b4
  have h4 : w.heap.size < w4.heap.size := by have := b14.size; simp at this; omega
  have kR := (K5.new w (.string ⟨#[]⟩) (.int .i64 0) (.int .i64 0) (.string ⟨#[]⟩) (.string ⟨#[]⟩) 83).on b14
  have hW4 := bt2 (bA1 _ _) b14
  clear b1 b2 b3 b4 b14 cT cC cR cN
  go_wp2_with fail
  refine (cL _).mono ?_
  rintro x w5 ⟨rfl, b5⟩
  have kT := K5.new w5 (.string ⟨n.toArray⟩) (.int .i64 0) (.int .i64 0) (.string ⟨#[]⟩) (.string ⟨#[]⟩) 83
  have kR := (kR.on b5).on (bA1 _ (.cells #[.string ⟨n.toArray⟩, .int .i64 0, .int .i64 0, .string ⟨#[]⟩, .string ⟨#[]⟩] 83))
  have hW5 := bt2 (bt2 hW4 b5) (bA1 _ (.cells #[.string ⟨n.toArray⟩, .int .i64 0, .int .i64 0, .string ⟨#[]⟩, .string ⟨#[]⟩] 83))
  have h45 : w.heap.size < w5.heap.size := Nat.lt_of_lt_of_le (by assumption) b5.size
  clear b5 cL
  go_wp2_with fail
  refine (cX _).mono ?_
  rintro x _ ⟨rfl, rfl⟩
  go_wp2_with fail
  refine (cG _ hW5).mono ?_
  rintro x w6 ⟨rfl, b6⟩
  go_wp2_with fail
  refine (cM _).mono ?_
  rintro x w7 ⟨rfl, b7⟩
  go_wp2_with fail
  refine (cV _ (bt2 (bt2 hW5 b6) b7)).mono ?_
  rintro x w8 ⟨rfl, b8⟩
  have b58 := bt2 (bt2 b6 b7) b8
  have kR := kR.on b58
  have kT := kT.on b58
  have hW8 := bt2 hW5 b58
  clear b6 b7 b8 b58 cX cG cM cV
  have q := res5 (.string ⟨#[]⟩) (.int .i64 0) (.int .i64 0) (.string ⟨#[]⟩) (.string ⟨#[]⟩) kR
  have HZ : Hid (∀ x y z : Value, K5 (((((w8.setCell ⟨w.heap.size, 0, none⟩ (.string ⟨#[]⟩)).setCell ⟨w.heap.size, 1, none⟩ (.int .i64 0)).setCell ⟨w.heap.size, 2, none⟩ (.int .i64 0)).setCell ⟨w.heap.size, 3, none⟩ (.string ⟨#[]⟩)).setCell ⟨w.heap.size, 4, none⟩ (.string ⟨#[]⟩) |>.alloc (.cells #[x, y, z] 23)) w.heap.size (.string ⟨#[]⟩) (.int .i64 0) (.int .i64 0) (.string ⟨#[]⟩) (.string ⟨#[]⟩)) := fun x y z => q.on (bA1 _ _)
  clear q
  have kTl := kT.lt
  cases v with
  | none =>
    simp only [pvB]
    obtain ⟨k0, k1, k2, k3, k4, kf, kl⟩ := kR
    cases en with
    | false =>
      go_wp2
      have q := HZ.out (.int .i64 0) (.string ⟨#[]⟩) (.string ⟨#[]⟩)
      have q0 := q.c0
      have q1 := q.c1
      have q2 := q.c2
      have q3 := q.c3
      have q4 := q.c4
      exact bodyPost_ret (v := .tuple #[.agg #[.string ⟨#[]⟩, .int .i64 0, .int .i64 0, .string ⟨#[]⟩, .string ⟨#[]⟩], .bool false]) (by simp only [results, Tryz.results143]; simp [go_sem, q0, q1, q2, q3, q4]) rfl ⟨by rw [beh_none]; rfl, (low5 hW8 _ _ _ _ _).alloc (low5 hW8 _ _ _ _ _).size _⟩
    | true =>
      by_cases ho : op = 0
      · subst ho
        go_wp2
        have q := HZ.out (.int .i64 0) (.string ⟨#[]⟩) (.string ⟨#[]⟩)
        have q0 := q.c0
        have q1 := q.c1
        have q2 := q.c2
        have q3 := q.c3
        have q4 := q.c4
        exact bodyPost_ret (v := .tuple #[.agg #[.string ⟨#[]⟩, .int .i64 0, .int .i64 0, .string ⟨#[]⟩, .string ⟨#[]⟩], .bool false]) (by simp only [results, Tryz.results143]; simp [go_sem, q0, q1, q2, q3, q4]) rfl ⟨by rw [beh_none]; rfl, (low5 hW8 _ _ _ _ _).alloc (low5 hW8 _ _ _ _ _).size _⟩
      · have ho' : ¬ (op : Int) = 0 := by omega
        go_wp2
        have q := HZ.out (.int .i64 0) (.string ⟨#[]⟩) (.string ⟨#[]⟩)
        have q0 := q.c0
        have q1 := q.c1
        have q2 := q.c2
        have q3 := q.c3
        have q4 := q.c4
        exact bodyPost_ret (v := .tuple #[.agg #[.string ⟨#[]⟩, .int .i64 0, .int .i64 0, .string ⟨#[]⟩, .string ⟨#[]⟩], .bool false]) (by simp only [results, Tryz.results143]; simp [go_sem, q0, q1, q2, q3, q4]) rfl ⟨by rw [beh_none]; rfl, (low5 hW8 _ _ _ _ _).alloc (low5 hW8 _ _ _ _ _).size _⟩
  | some v =>
    obtain ⟨e, u, r⟩ := v
    simp only [pvB]
    cases en with
    | false =>
      obtain ⟨k0, k1, k2, k3, k4, kf, kl⟩ := kR
      go_wp2
      have q := HZ.out (.int .i64 e) (.string ⟨u.toArray⟩) (.string ⟨r.toArray⟩)
      have q0 := q.c0
      have q1 := q.c1
      have q2 := q.c2
      have q3 := q.c3
      have q4 := q.c4
      exact bodyPost_ret (v := .tuple #[.agg #[.string ⟨#[]⟩, .int .i64 0, .int .i64 0, .string ⟨#[]⟩, .string ⟨#[]⟩], .bool false]) (by simp only [results, Tryz.results143]; simp [go_sem, q0, q1, q2, q3, q4]) rfl ⟨by rw [beh_en]; rfl, (low5 hW8 _ _ _ _ _).alloc (low5 hW8 _ _ _ _ _).size _⟩
    | true =>
      by_cases ho : op = 0
      · subst ho
        obtain ⟨k0, k1, k2, k3, k4, kf, kl⟩ := kR
        go_wp2
        have q := HZ.out (.int .i64 e) (.string ⟨u.toArray⟩) (.string ⟨r.toArray⟩)
        have q0 := q.c0
        have q1 := q.c1
        have q2 := q.c2
        have q3 := q.c3
        have q4 := q.c4
        exact bodyPost_ret (v := .tuple #[.agg #[.string ⟨#[]⟩, .int .i64 0, .int .i64 0, .string ⟨#[]⟩, .string ⟨#[]⟩], .bool false]) (by simp only [results, Tryz.results143]; simp [go_sem, q0, q1, q2, q3, q4]) rfl ⟨by rw [beh_op]; rfl, (low5 hW8 _ _ _ _ _).alloc (low5 hW8 _ _ _ _ _).size _⟩
      · have ho' : ¬ (op : Int) = 0 := by omega
        clear HZ
        have kR := kR.on (bA1 _ (.cells #[.int .i64 e, .string ⟨u.toArray⟩, .string ⟨r.toArray⟩] 23))
        have kT := kT.on (bA1 _ (.cells #[.int .i64 e, .string ⟨u.toArray⟩, .string ⟨r.toArray⟩] 23))
        have hW9 := bt2 hW8 (bA1 _ (.cells #[.int .i64 e, .string ⟨u.toArray⟩, .string ⟨r.toArray⟩] 23))
        have v0 : (w8.alloc (.cells #[.int .i64 e, .string ⟨u.toArray⟩, .string ⟨r.toArray⟩] 23)).cell? ⟨w8.heap.size, 0, none⟩ = some (.int .i64 e) := by simp
        have v1 : (w8.alloc (.cells #[.int .i64 e, .string ⟨u.toArray⟩, .string ⟨r.toArray⟩] 23)).cell? ⟨w8.heap.size, 1, none⟩ = some (.string ⟨u.toArray⟩) := by simp
        have v2 : (w8.alloc (.cells #[.int .i64 e, .string ⟨u.toArray⟩, .string ⟨r.toArray⟩] 23)).cell? ⟨w8.heap.size, 2, none⟩ = some (.string ⟨r.toArray⟩) := by simp
        have h58 : w5.heap.size < w8.heap.size := kTl
        have hne : ¬ w5.heap.size = w8.heap.size := by omega
        have hne2 : ¬ w8.heap.size = w5.heap.size := by omega
        have hne3 : ¬ w.heap.size = w5.heap.size := by omega
        have hne4 : ¬ w5.heap.size = w.heap.size := by omega
        go_wp2
        generalize w8.alloc (.cells #[.int .i64 e, .string ⟨u.toArray⟩, .string ⟨r.toArray⟩] 23) = w9 at *
        generalize w8.heap.size = gv at *
        generalize w5.heap.size = gt at *
        have hgt : w.heap.size ≤ gt := by omega
        clear h58 h45 h4 kTl
        obtain ⟨t0, t1, t2, t3, t4, tf, tl⟩ := kT
        go_region
        have kX : K5 ((((w9.setCell ⟨gt, 1, none⟩ (.int .i64 (op : Int))).setCell ⟨gt, 2, none⟩ (.int .i64 e)).setCell ⟨gt, 3, none⟩ (.string ⟨u.toArray⟩)).setCell ⟨gt, 4, none⟩ (.string ⟨r.toArray⟩)).drew gt (.string ⟨n.toArray⟩) (.int .i64 (op : Int)) (.int .i64 e) (.string ⟨u.toArray⟩) (.string ⟨r.toArray⟩) :=
          ⟨by simp [go_sem, t0], by simp [go_sem, t1], by simp [go_sem, t2], by simp [go_sem, t3], by simp [go_sem, t4], fun j => by simp [tf], by simpa using tl⟩
        have kY : K5 ((((w9.setCell ⟨gt, 1, none⟩ (.int .i64 (op : Int))).setCell ⟨gt, 2, none⟩ (.int .i64 e)).setCell ⟨gt, 3, none⟩ (.string ⟨u.toArray⟩)).setCell ⟨gt, 4, none⟩ (.string ⟨r.toArray⟩)).drew w.heap.size (.string ⟨#[]⟩) (.int .i64 0) (.int .i64 0) (.string ⟨#[]⟩) (.string ⟨#[]⟩) :=
          ⟨by simp [go_sem, kR.c0], by simp [go_sem, kR.c1], by simp [go_sem, kR.c2], by simp [go_sem, kR.c3], by simp [go_sem, kR.c4], fun j => by simp [kR.f], by simpa using kR.lt⟩
        have hX := ((((hW9.setCell (p := ⟨gt, 1, none⟩) hgt (.int .i64 (op : Int))).setCell (p := ⟨gt, 2, none⟩) hgt (.int .i64 e)).setCell (p := ⟨gt, 3, none⟩) hgt (.string ⟨u.toArray⟩)).setCell (p := ⟨gt, 4, none⟩) hgt (.string ⟨r.toArray⟩)).drew
        clear t0 t1 t2 t3 t4 tf tl kR hW9 v0 v1 v2 hne hne2 hgt
        generalize ((((w9.setCell ⟨gt, 1, none⟩ (.int .i64 (op : Int))).setCell ⟨gt, 2, none⟩ (.int .i64 e)).setCell ⟨gt, 3, none⟩ (.string ⟨u.toArray⟩)).setCell ⟨gt, 4, none⟩ (.string ⟨r.toArray⟩)).drew = X at *
        have q := res5 (.string ⟨n.toArray⟩) (.int .i64 (op : Int)) (.int .i64 e) (.string ⟨u.toArray⟩) (.string ⟨r.toArray⟩) kY
        have q0 := q.c0
        have q1 := q.c1
        have q2 := q.c2
        have q3 := q.c3
        have q4 := q.c4
        obtain ⟨t0, t1, t2, t3, t4, tf, tl⟩ := kX
        obtain ⟨k0, k1, k2, k3, k4, kf, kl⟩ := kY
        go_wp2
        exact bodyPost_ret (v := .tuple #[.agg #[.string ⟨n.toArray⟩, .int .i64 (op : Int), .int .i64 e, .string ⟨u.toArray⟩, .string ⟨r.toArray⟩], .bool true]) (by simp only [results, Tryz.results143]; simp [go_sem, q0, q1, q2, q3, q4]) rfl ⟨by rw [beh_some n ho]; rfl, low5 hX _ _ _ _ _⟩

theorem rd_cut (s a b : List UInt8) (h : cutV 40 (Lib.trimS s bls) = (a, b, true)) : rd s = if nmo (Lib.trimRightS a bls) = true then rdB (Lib.trimRightS a bls) b else none := by
  unfold cutV at h
  unfold rd rdT
  cases hf : Vm.fc 40 (Lib.trimS s bls) with
  | none => rw [hf] at h; simp at h
  | some p => obtain ⟨x, y⟩ := p; rw [hf] at h; simp at h; obtain ⟨rfl, rfl⟩ := h; rfl
theorem rd_un (s a b : List UInt8) (h : cutV 40 (Lib.trimS s bls) = (a, b, false)) : rd s = if nmo (Lib.trimRightS a bls) = true then some ⟨Lib.trimRightS a bls, 0, 0, [], []⟩ else none := by
  unfold cutV at h
  unfold rd rdT
  cases hf : Vm.fc 40 (Lib.trimS s bls) with
  | none => rw [hf] at h; simp at h; obtain ⟨rfl, rfl⟩ := h; rfl
  | some p => obtain ⟨x, y⟩ := p; rw [hf] at h; simp at h
theorem rdB_beh (n b : List UInt8) : rdB n b = behT n (decide (b.getLast? = some 41)) (cutS (cutE b)).1 (rdV (Lib.trimS (cutS (cutE b)).2 bls)) := by
  unfold rdB behT
  cases rdV (Lib.trimS (cutS (cutE b)).2 bls) with
  | none => rfl
  | some v => obtain ⟨e, u, r⟩ := v; simp

/-- A term is read. -/
theorem pt_any (s : List UInt8) (w : World) (hs : s.length ≤ 100000) (hG : Sg w) (hT : Tab w) : Calls Tryz.prog 143 #[.string ⟨s.toArray⟩] w fun x w' => x = .returned (ptB (rd s)) ∧ Below w.heap.size w w' := by
  obtain ⟨a, b, m, h⟩ : ∃ a b m, cutV 40 (Lib.trimS s bls) = (a, b, m) := ⟨_, _, _, rfl⟩
  cases hn : nmo (Lib.trimRightS a bls) with
  | false =>
    have hr : rd s = none := by
      cases m with
      | true => rw [rd_cut s a b h, hn]; rfl
      | false => rw [rd_un s a b h, hn]; rfl
    rw [hr]
    exact pt_no s a b m w hs h hn
  | true =>
    cases m with
    | false =>
      rw [rd_un s a b h, hn]
      exact pt_bare s a b w hs h hn
    | true =>
      rw [rd_cut s a b h, hn, if_pos rfl, rdB_beh]
      exact pt_more s a b _ _ _ _ _ _ w hs h hn ⟨rfl, rfl, rfl, rfl, rfl⟩ hG hT

end Go.Proofs.YtmlmdncepgcimaaGreatDoor

/- The walk of depend's rightTerm. -/
namespace Go.Proofs.YtmlmdncepgcimaaGreatDoor
open Go.RowKit Go.Shelf Go.Sort

/-- A term that may be. -/
def tok (t : Tm) : Bool := nmo t.n && (if t.o = 0 then decide (t.e = 0) && (decide (t.u = []) && decide (t.r = [])) else decide (0 < t.o) && (decide (t.o < 6) && Vm.rt t.e t.u t.r))
/-- Of numbers that a word holds, and short. -/
structure Shn (t : Tm) : Prop where
  o0 : -9223372036854775808 ≤ t.o
  o1 : t.o ≤ 9223372036854775807
  e0 : -9223372036854775808 ≤ t.e
  e1 : t.e ≤ 9223372036854775807
  u : t.u.length ≤ 200
  r : t.r.length ≤ 200
def tmv (t : Tm) : Value := .agg #[.string ⟨t.n.toArray⟩, .int .i64 t.o, .int .i64 t.e, .string ⟨t.u.toArray⟩, .string ⟨t.r.toArray⟩]

set_option maxHeartbeats 800000 in
set_option maxRecDepth 100000 in
theorem rterm_no (t : Tm) (w : World) (hn : nmo t.n = false) : Calls Tryz.prog 130 #[tmv t] w fun x w' => x = .returned (.bool (tok t)) ∧ Below w.heap.size w w' := by
  have HK : Hid (tok t = false) := by show tok t = false; unfold tok; rw [hn]; rfl
  have cN := fun W => name_any t.n W
  rw [hn] at cN
  unfold tmv
  go_enter Tryz.func130, Tryz.ntmps130
  go_wp2_with fail
  refine (cN _).mono ?_
  rintro x w1 ⟨rfl, b1⟩
  go_wp2
  go_ret
  exact ⟨ret_bool HK.out.symm, bt2 (bA1 _ _) b1⟩
set_option maxHeartbeats 800000 in
set_option maxRecDepth 100000 in
theorem rterm_any0 (t : Tm) (w : World) (hn : nmo t.n = true) (ho : t.o = 0) : Calls Tryz.prog 130 #[tmv t] w fun x w' => x = .returned (.bool (tok t)) ∧ Below w.heap.size w w' := by
  obtain ⟨y, hy⟩ : ∃ y, y = tok t := ⟨_, rfl⟩
  have HK : Hid (y = (decide (t.e = 0) && (decide (t.u = []) && decide (t.r = [])))) := by show y = _; rw [hy]; unfold tok; rw [hn, if_pos ho]; rfl
  rw [← hy]
  have cN := fun W => name_any t.n W
  rw [hn] at cN
  unfold tmv
  rw [ho]
  clear ho hn hy
  go_enter Tryz.func130, Tryz.ntmps130
  go_wp2_with fail
  refine (cN _).mono ?_
  rintro x w1 ⟨rfl, b1⟩
  have tK := (K5.new w (.string ⟨t.n.toArray⟩) (.int .i64 0) (.int .i64 t.e) (.string ⟨t.u.toArray⟩) (.string ⟨t.r.toArray⟩) 83).on b1
  have hb := bt2 (bA1 _ _) b1
  obtain ⟨t0, t1, t2, t3, t4, tf, tl⟩ := tK
  clear b1 cN
  go_wp2
  all_goals
    go_ret
    refine ⟨ret_bool ?_, hb⟩
    rw [HK.out]
    simp_all

set_option maxHeartbeats 800000 in
set_option maxRecDepth 100000 in
theorem rterm_op (t : Tm) (w : World) (h : Shn t) (hT : Tab w) (hn : nmo t.n = true) (ho : ¬ t.o = 0) : Calls Tryz.prog 130 #[tmv t] w fun x w' => x = .returned (.bool (tok t)) ∧ Below w.heap.size w w' := by
  obtain ⟨y, hy⟩ : ∃ y, y = tok t := ⟨_, rfl⟩
  have HK : Hid (y = (decide (0 < t.o) && (decide (t.o < 6) && Vm.rt t.e t.u t.r))) := by show y = _; rw [hy]; unfold tok; rw [hn, if_neg ho]; rfl
  rw [← hy]
  have cN := fun W => name_any t.n W
  rw [hn] at cN
  have cR := fun W (hW : Below w.heap.size w W) => right_any t.e t.u t.r W h.e0 h.e1 h.u h.r (tab_on hT hW)
  obtain ⟨z, hz⟩ : ∃ z, z = Vm.rt t.e t.u t.r := ⟨_, rfl⟩
  rw [← hz] at cR HK
  unfold tmv
  clear hn hy hT hz h
  go_enter Tryz.func130, Tryz.ntmps130
  go_wp2_with fail
  refine (cN _).mono ?_
  rintro x w1 ⟨rfl, b1⟩
  have tK := (K5.new w (.string ⟨t.n.toArray⟩) (.int .i64 t.o) (.int .i64 t.e) (.string ⟨t.u.toArray⟩) (.string ⟨t.r.toArray⟩) 83).on b1
  have hb := bt2 (bA1 _ _) b1
  obtain ⟨t0, t1, t2, t3, t4, tf, tl⟩ := tK
  clear b1 cN
  by_cases h0 : 0 < t.o
  · by_cases h6 : t.o < 6
    · go_wp2_with fail
      refine (cR _ hb).mono ?_
      rintro x w2 ⟨rfl, b2⟩
      go_wp2
      go_ret
      exact ⟨ret_bool (by rw [HK.out]; simp [h0, h6]), bt2 hb b2⟩
    · go_wp2
      go_ret
      exact ⟨ret_bool (by rw [HK.out]; simp; intro _ _; omega), hb⟩
  · go_wp2
    go_ret
    exact ⟨ret_bool (by rw [HK.out]; simp; intro _ _; omega), hb⟩

/-- Whether a term may be. -/
theorem rterm_any (t : Tm) (w : World) (h : Shn t) (hT : Tab w) : Calls Tryz.prog 130 #[tmv t] w fun x w' => x = .returned (.bool (tok t)) ∧ Below w.heap.size w w' := by
  cases hn : nmo t.n with
  | false => exact rterm_no t w hn
  | true =>
    by_cases ho : t.o = 0
    · exact rterm_any0 t w hn ho
    · exact rterm_op t w h hT hn ho

end Go.Proofs.YtmlmdncepgcimaaGreatDoor

/- A range over a function whose rounds are numbered: what the iterator owes, and the loop's law. -/
namespace Go.Proofs.YtmlmdncepgcimaaGreatDoor
open Go.RowKit

/-- What an iterator owes: round k hands over `enc k`, k from 0 on below M, till a round says no more; a round that goes on keeps what lies below n₀. -/
def Turns (P : Program) (gf : Nat) (lb : Array Value) (enc : Nat → Array Value) (M n₀ n : Nat) (w : World) : Prop :=
  ∀ (l : Nat) (J : Nat → World → Prop) (Jx : World → Prop) (W : World), Below w.heap.size w W →
    (∀ k A B, J k A → Below A.heap.size A B → J k B) → (∀ A B, Jx A → Below A.heap.size A B → Jx B) →
    (∀ k W1, k < M → J k W1 → YieldAt Fence.wide (n - 1) P l (enc k) W1 fun e W' => (e = .returned (.bool true) ∧ J (k + 1) W' ∧ Below n₀ W1 W') ∨ (e = .returned (.bool false) ∧ Jx W')) →
    J 0 W → CallsIn Fence.wide n P gf (#[.func (.yield l) #[] #[]] ++ lb) W fun e W' => (∃ v, e = .returned v) ∧ (J M W' ∨ Jx W')

/-- How a round's body may be left. -/
def turnPost (n₀ : Nat) (J : World → Prop) (Ix : World → Prop) (W : World) : Exit → Act → World → Prop
  | .normal, _, W' => KeepsOthers W W' ∧ Below n₀ W W' ∧ J W'
  | .ret, _, W' => KeepsOthers W W' ∧ Ix W'
  | _, _, _ => False

theorem range_turns {P : Program} {n : Nat} {g : Operand} {ps : Array Tmp} {assign body : Code} {Q : Exit → Act → World → Prop} {a : Act} {w : World} {gf : Nat} {lb : Array Value} {enc : Nat → Array Value} {M n₀ : Nat} {w0 : World}
    (hg : a.eval g = .func (.func gf) #[] lb) (eg : ∀ args w, (callFunc gf args).run P w = .ok (.enter gf args) w) (hseq : Turns P gf lb enc M n₀ (n - 1) w0) (hb0 : Below w0.heap.size w0 w) (hn0 : n₀ ≤ w.heap.size) (hps : ∀ k, (enc k).size = ps.size)
    (I : Nat → World → Prop) (Ix : World → Prop) (hI : OwnFrom w.heap.size I) (hIx : OwnFrom w.heap.size (fun (_ : Unit) W => Ix W)) (h0 : I 0 w) (a₁ : Nat → Act)
    (hassign : ∀ (l k : Nat) (W : World) (K : Act → World → Prop), K (a₁ k) W → assign.wpIn (Fence.wide.inRound l) (n - 1 - 1) P (Exit.then K (fun _ _ _ => False)) { tmps := (ps.zip (enc k)).foldl (fun t (p, v) => t.setIfInBounds p v) a.tmps, defers := [] } W)
    (hbody : ∀ (l k : Nat) (W : World), k < M → I k W → body.wpIn (Fence.wide.inRound l) (n - 1 - 1) P (turnPost n₀ (I (k + 1)) Ix W) (a₁ k) W)
    (hdone : ∀ (D : Nat) (W : World), w.heap.size ≤ D → I M W → W.heap[D]? = some (.deferred (some [])) → Q .normal { a with defers := { target := .collected D, args := #[] } :: a.defers } W)
    (hstop : ∀ (D : Nat) (W : World), w.heap.size ≤ D → Ix W → W.heap[D]? = some (.deferred (some [])) → Code.ret.wpIn Fence.wide n P Q { a with defers := { target := .collected D, args := #[] } :: a.defers } W) :
    (Code.rangeFunc g ps assign body).wpIn Fence.wide n P Q a w := by
  refine wpIn_rangeFunc fun fn hfn => ?_
  let D := w.heap.size
  let rec' : LoopState → Option Code → Obj := fun s p => .loop { state := s, pending := p, fn, tmps := a.tmps, params := ps, assign, body, defers := D }
  let w1 := (w.alloc (.deferred (some []))).alloc (rec' .ready none)
  have hs1 : w1.heap.size = D + 2 := by simp [w1, D]
  have l1 : w1.heap[D + 1]? = some (rec' .ready none) := by
    have := World.alloc_heap_new (w.alloc (.deferred (some []))) (rec' .ready none)
    rwa [World.size_alloc] at this
  have d1 : w1.heap[D]? = some (.deferred (some [])) := (Below.heap_alloc _ _ _ (by simp [D])).trans (World.alloc_heap_new w _)
  have put : ∀ {k : Nat} {A : World} {o : Obj} (o' : Obj), I k A → A.heap[D + 1]? = some o → o.isCells = false → I k (A.putObj (D + 1) o') := fun o' h hl ho => hI.putObj o' h (Nat.le_succ _) hl ho
  have keep : ∀ {A B : World} {i : Nat} {o : Obj}, A.heap[i]? = some o → Below A.heap.size A B → B.heap[i]? = some o := fun h hb => (hb.block _ (Array.getElem?_eq_some_iff.1 h).1).trans h
  have turn : ∀ (s : LoopState) (p : Option Code) {A : World} {o : Obj}, A.heap[D + 1]? = some o → A.heap[D]? = some (.deferred (some [])) →
      (A.putObj (D + 1) (rec' s p)).heap[D + 1]? = some (rec' s p) ∧ (A.putObj (D + 1) (rec' s p)).heap[D]? = some (.deferred (some [])) := fun s p A o h1 h2 =>
    ⟨World.putObj_heap_same (Array.getElem?_eq_some_iff.1 h1).1, (World.putObj_heap_other (by omega)).trans h2⟩
  have low : ∀ {A : World} {o : Obj} (o' : Obj), A.heap[D + 1]? = some o → Below n₀ A (A.putObj (D + 1) o') := fun {A} {o} o' h =>
    (Below.refl _ A).grown (grownBy_putObj' A _ o') (by have := (Array.getElem?_eq_some_iff.1 h).1; omega) (fun k e => by cases e; omega)
  have wI : ∀ {k : Nat} {A B : World}, I k A → Below A.heap.size A B → I k B := fun h hb => hI _ _ _ none h ⟨hb.os, hb.tape, hb.output, hb.size, fun j hj _ => hb.block j hj⟩ (fun r e => by cases e)
  have wX : ∀ {A B : World}, Ix A → Below A.heap.size A B → Ix B := fun h hb => hIx () _ _ none h ⟨hb.os, hb.tape, hb.output, hb.size, fun j hj _ => hb.block j hj⟩ (fun r e => by cases e)
  refine ⟨D + 1, [{ target := .collected D, args := #[] }], w1, { target := .fn (.func gf) lb, args := #[.func (.yield (D + 1)) #[] #[]] }, w1, gf, #[.func (.yield (D + 1)) #[] #[]] ++ lb, w1,
    run_enterLoop_outer _ _ _ _ _, ?_, ?_, ?_, (fun h => by cases h), ?_⟩
  · simp only [resolve, hg]
    simp [go_sem]
  · intro f' hf'
    trivial
  · simp [invoke, go_sem, eg]
  · have hw1 : Below w.heap.size w w1 := ((Below.refl _ w).alloc (Nat.le_refl _) _).alloc (by simp) _
    refine (hseq (D + 1) (fun k A => I k A ∧ A.heap[D + 1]? = some (rec' .ready none) ∧ A.heap[D]? = some (.deferred (some [])))
      (fun A => Ix A ∧ A.heap[D + 1]? = some (rec' .done (some .ret)) ∧ A.heap[D]? = some (.deferred (some []))) w1 (hb0.trans (hw1.mono hb0.size))
      (fun k A B h hb => ⟨wI h.1 hb, keep h.2.1 hb, keep h.2.2 hb⟩) (fun A B h hb => ⟨wX h.1 hb, keep h.2.1 hb, keep h.2.2 hb⟩) ?_ ⟨wI h0 hw1, l1, d1⟩).mono ?_
    · rintro k A hk ⟨hi, hl, hd⟩
      refine ⟨fn, _, assign, body, run_yield hl (hps k), roundIn_of_wpIn hfn (hassign _ k A _ ?_)⟩
      refine ⟨_, run_beginRound hl rfl, ?_⟩
      obtain ⟨l2, d2⟩ := turn .busy none hl hd
      refine wpIn_mono (hbody _ k _ hk (put _ hi hl rfl)) ?_
      have fin : ∀ (jump : Option Code) (B : World), KeepsOthers (A.putObj (D + 1) (rec' .busy none)) B → B.heap[D + 1]? = some (rec' .busy none) ∧ B.heap[D]? = some (.deferred (some [])) := fun jump B hB =>
        ⟨hB.same _ _ l2 rfl, hB.same _ _ d2 rfl⟩
      rintro e a3 B hp
      cases e with
      | normal =>
        obtain ⟨ho, hb, hi3⟩ := hp
        obtain ⟨l3, d3⟩ := fin none B ho
        obtain ⟨l4, d4⟩ := turn .ready none l3 d3
        exact ⟨_, _, run_endRound none l3, .inl ⟨rfl, ⟨put _ hi3 l3 rfl, l4, d4⟩, ((low _ hl).trans hb).trans (low _ l3)⟩⟩
      | ret =>
        obtain ⟨ho, hi3⟩ := hp
        obtain ⟨l3, d3⟩ := fin (some .ret) B ho
        obtain ⟨l4, d4⟩ := turn .done (some .ret) l3 d3
        exact ⟨_, _, run_endRound (some .ret) l3, .inr ⟨rfl, hIx.putObj (s := ()) _ hi3 (Nat.le_succ _) l3 rfl, l4, d4⟩⟩
      | exit id => exact hp.elim
      | goto t => exact hp.elim
      | panic ch => exact hp.elim
      | outgrown => exact hp.elim
    · rintro e B ⟨⟨v, rfl⟩, ⟨hi, hl, hd⟩ | ⟨hi, hl, hd⟩⟩
      · exact ⟨none, _, run_endLoop hl (by simp), hdone D _ (Nat.le_refl _) (put _ hi hl rfl) ((World.putObj_heap_other (by omega)).trans hd)⟩
      · exact ⟨some .ret, _, run_endLoop hl (by simp), hstop D _ (Nat.le_refl _) (hIx.putObj (s := ()) _ hi (Nat.le_succ _) hl rfl) ((World.putObj_heap_other (by omega)).trans hd)⟩

end Go.Proofs.YtmlmdncepgcimaaGreatDoor
