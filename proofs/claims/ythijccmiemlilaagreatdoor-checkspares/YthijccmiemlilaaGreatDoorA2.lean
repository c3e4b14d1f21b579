/- The walks of version.compareWords, compareNumbers, compareParts. -/
import Derived.Test.YthijccmiemlilaaGreatDoorCa
import Derived.Test.YthijccmiemlilaaGreatDoorVh
namespace Go.Proofs.YthijccmiemlilaaGreatDoor
open Go.RowKit

theorem rank_any (l : List UInt8) (k : Nat) (w : World) : Calls Tryz.prog 166 #[.string ⟨l.toArray⟩, .int .i64 k] w fun e w' => e = .returned (.int .i64 (Vm.ra l k)) ∧ w' = w := by
  by_cases h : k < l.length
  · rw [Vm.ra_in l k h]; exact rank_in l k w h
  · rw [Vm.ra_out l k (by omega)]; exact rank_out l k w (by omega)

theorem cmp_ne {x y : Int} (h : (Lib.compareInt x y != 0) = true) : x ≠ y := by
  intro e; subst e; simp [Lib.compareInt] at h
theorem cmp_eq {x y : Int} (h : (Lib.compareInt x y != 0) = false) : x = y := by
  unfold Lib.compareInt at h
  by_cases h1 : x < y
  · simp [h1] at h
  · by_cases h2 : y < x
    · simp [h1, h2] at h
    · omega
theorem cmp_val {x y : Int} (h : x ≠ y) : Lib.compareInt x y = if x < y then -1 else 1 := by
  unfold Lib.compareInt
  by_cases h1 : x < y
  · simp [h1]
  · have h2 : y < x := by omega
    simp [h1, h2]

set_option maxHeartbeats 400000 in
theorem words_any (a b : List UInt8) (w : World) (ha : a.length ≤ 200) (hb : b.length ≤ 200) : Calls Tryz.prog 155 #[.string ⟨a.toArray⟩, .string ⟨b.toArray⟩] w fun e w' => e = .returned (.int .i64 (Vm.cw a b)) ∧ w' = w := by
  go_enter Tryz.func155, Tryz.ntmps155
  go_wp2
  go_loop [12] (fun i => ∃ k : Nat, k ≤ max a.length b.length ∧ i = .int .i64 k ∧ ∀ j, j < k → Vm.ra a j = Vm.ra b j) (fun i => max a.length b.length - (intOf i).toNat)
  case atStart => exact ⟨0, Nat.zero_le _, rfl, fun j h => absurd h (Nat.not_lt_zero _)⟩
  case round =>
    obtain ⟨k, hk, rfl, hpre⟩ := hrel
    have H : Hid (∀ j, j < k → Vm.ra a j = Vm.ra b j) := hpre
    clear hpre
    by_cases hlt : k < max a.length b.length
    · go_wp2_with (first | (go_at_call 166; refine (rank_any _ _ _).mono ?_; rintro e w' ⟨rfl, rfl⟩) | (go_at_call 146; refine (Tryz.cmp_Compare_int _ _ _).mono ?_; rintro e w' ⟨rfl, rfl⟩))
      · go_ret
        have hne := cmp_ne (x := Vm.ra a k) (y := Vm.ra b k) ‹_›
        exact ⟨ret_int (by rw [cmp_val hne, Vm.cw_at a b k H.out hne]), rfl⟩
      · have he := cmp_eq (x := Vm.ra a k) (y := Vm.ra b k) ‹_›
        exact ⟨⟨k + 1, hlt, by go_num, fun j h => by
          by_cases e : j = k
          · subst e; exact he
          · exact H.out j (by omega)⟩, by simp [intOf]; omega⟩
    · go_wp2
      go_ret
      exact ⟨ret_int (by rw [Vm.cw_all a b k H.out (by omega) (by omega)]), rfl⟩

theorem cb_eq (a b : List UInt8) : Lib.compareBytes a b = Vm.cb a b := by
  induction a generalizing b with
  | nil => cases b <;> rfl
  | cons x a ih =>
    cases b with
    | nil => rfl
    | cons y b => unfold Lib.compareBytes Vm.cb; rw [ih]

theorem trim_any (a : List UInt8) (w : World) : Calls Tryz.prog 167 #[.string ⟨a.toArray⟩, .string ⟨#[48]⟩] w fun e w' => e = .returned (.string ⟨(Vm.tz a).toArray⟩) ∧ w' = w :=
  Tryz.strings_TrimLeft_one ⟨a.toArray⟩ 48 (by decide) w
theorem strcmp_any (a b : List UInt8) (w : World) : Calls Tryz.prog 160 #[.string ⟨a.toArray⟩, .string ⟨b.toArray⟩] w fun e w' => e = .returned (.int .i64 (Vm.cb a b)) ∧ w' = w := by
  rw [← cb_eq]; exact Tryz.strings_Compare ⟨a.toArray⟩ ⟨b.toArray⟩ w

theorem cmp_len {x y : Nat} (h : (Lib.compareInt (x : Int) (y : Int) != 0) = true) (z : Int) : Lib.compareInt (x : Int) (y : Int) = if x < y then -1 else if y < x then 1 else z := by
  have hne := cmp_ne h
  rw [cmp_val hne]
  by_cases h1 : x < y
  · rw [if_pos (by omega), if_pos h1]
  · rw [if_neg (by omega), if_neg h1, if_pos (by omega)]

theorem numbers_any (a b : List UInt8) (w : World) (ha : ∀ c ∈ a, Vm.dg c = true) (hb : ∀ c ∈ b, Vm.dg c = true) : Calls Tryz.prog 156 #[.string ⟨a.toArray⟩, .string ⟨b.toArray⟩] w fun e w' => e = .returned (.int .i64 (Vm.cn a b)) ∧ w' = w := by
  have H : Hid (Vm.cn a b = if (Vm.tz a).length < (Vm.tz b).length then -1 else if (Vm.tz b).length < (Vm.tz a).length then 1 else Vm.cb (Vm.tz a) (Vm.tz b)) := Vm.cn_texts a b ha hb
  clear ha hb
  go_enter Tryz.func156, Tryz.ntmps156
  go_wp2_with (first | (go_at_call 167; refine (trim_any _ _).mono ?_; rintro e w' ⟨rfl, rfl⟩) | (go_at_call 146; refine (Tryz.cmp_Compare_int _ _ _).mono ?_; rintro e w' ⟨rfl, rfl⟩) | (go_at_call 160; refine (strcmp_any _ _ _).mono ?_; rintro e w' ⟨rfl, rfl⟩))
  · go_ret
    exact ⟨ret_int (by rw [H.out]; exact cmp_len ‹_› _), rfl⟩
  · go_ret
    have he := cmp_eq (x := ((Vm.tz a).length : Int)) (y := ((Vm.tz b).length : Int)) ‹_›
    exact ⟨ret_int (by rw [H.out, if_neg (by omega), if_neg (by omega)]), rfl⟩

def strSize : Value → Nat
  | .string s => s.size
  | _ => 0
theorem dw_le (f : UInt8 → Bool) (l : List UInt8) (n : Nat) (h : l.length ≤ n) : (l.dropWhile f).length ≤ n :=
  Nat.le_trans (List.dropWhile_suffix f).length_le h
theorem tw_le (f : UInt8 → Bool) (l : List UInt8) (n : Nat) (h : l.length ≤ n) : (l.takeWhile f).length ≤ n :=
  Nat.le_trans (List.takeWhile_prefix f).length_le h

def cut1 (b : Bool) (l : List UInt8) : List UInt8 := l.takeWhile (fun c => Vm.dg c == b)
def cut2 (b : Bool) (l : List UInt8) : List UInt8 := l.dropWhile (fun c => Vm.dg c == b)
theorem cutRun_cut (l : List UInt8) (b : Bool) (w : World) (hl : l.length ≤ 200) : Calls Tryz.prog 154 #[.string ⟨l.toArray⟩, .bool b] w fun e w' =>
    e = .returned (.tuple #[.string ⟨(cut1 b l).toArray⟩, .string ⟨(cut2 b l).toArray⟩]) ∧ ∃ n, w' = w.drewN n := cutRun_any l b w hl
theorem cut1_wd (l : List UInt8) : cut1 false l = Vm.wd l := by
  unfold cut1 Vm.wd; congr 1; funext c; cases Vm.dg c <;> rfl
theorem cut2_wr (l : List UInt8) : cut2 false l = Vm.wr l := by
  unfold cut2 Vm.wr; congr 1; funext c; cases Vm.dg c <;> rfl
theorem cut1_nm (l : List UInt8) : cut1 true (Vm.wr l) = Vm.nm l := by
  unfold cut1 Vm.nm; congr 1; funext c; cases Vm.dg c <;> rfl
theorem cut2_nr (l : List UInt8) : cut2 true (Vm.wr l) = Vm.nr l := by
  unfold cut2 Vm.nr; congr 1; funext c; cases Vm.dg c <;> rfl
theorem wd_le (l : List UInt8) (n : Nat) (h : l.length ≤ n) : (Vm.wd l).length ≤ n := tw_le _ l n h
theorem wr_le (l : List UInt8) (n : Nat) (h : l.length ≤ n) : (Vm.wr l).length ≤ n := dw_le _ l n h
theorem nr_le (l : List UInt8) (n : Nat) (h : l.length ≤ n) : (Vm.nr l).length ≤ n := dw_le _ _ n (wr_le l n h)
theorem nr_lt (l : List UInt8) (h : l ≠ []) : (Vm.nr l).length < l.length := by
  cases l with
  | nil => exact absurd rfl h
  | cons c l =>
    unfold Vm.nr Vm.wr
    by_cases hc : Vm.dg c = true
    · simp [hc]
      have := dw_le Vm.dg l l.length (Nat.le_refl _); omega
    · simp [hc]
      have := dw_le Vm.dg _ l.length (dw_le (fun c => !Vm.dg c) l l.length (Nat.le_refl _)); omega
theorem cutw (l : List UInt8) (w : World) (hl : l.length ≤ 200) : Calls Tryz.prog 154 #[.string ⟨l.toArray⟩, .bool false] w fun e w' =>
    e = .returned (.tuple #[.string ⟨(Vm.wd l).toArray⟩, .string ⟨(Vm.wr l).toArray⟩]) ∧ ∃ n, w' = w.drewN n := by
  rw [← cut1_wd, ← cut2_wr]; exact cutRun_cut l false w hl
theorem cutn (l : List UInt8) (w : World) (hl : l.length ≤ 200) : Calls Tryz.prog 154 #[.string ⟨(Vm.wr l).toArray⟩, .bool true] w fun e w' =>
    e = .returned (.tuple #[.string ⟨(Vm.nm l).toArray⟩, .string ⟨(Vm.nr l).toArray⟩]) ∧ ∃ n, w' = w.drewN n := by
  rw [← cut1_nm, ← cut2_nr]; exact cutRun_cut _ true w (wr_le l 200 hl)

set_option maxHeartbeats 800000 in
theorem parts_any (a b : List UInt8) (w : World) (ha : a.length ≤ 200) (hb : b.length ≤ 200) : Calls Tryz.prog 147 #[.string ⟨a.toArray⟩, .string ⟨b.toArray⟩] w fun e w' => e = .returned (.int .i64 (Vm.pc a b)) ∧ ∃ n, w' = w.drewN n := by
  go_enter Tryz.func147, Tryz.ntmps147
  go_wp2
  go_loopw [0, 1] (fun x y wr => ∃ (p q : List UInt8) (n : Nat), x = .string ⟨p.toArray⟩ ∧ y = .string ⟨q.toArray⟩ ∧ p.length ≤ 200 ∧ q.length ≤ 200 ∧ Hid (Vm.pc a b = Vm.pc p q) ∧ wr = w.drewN n) (fun x y _ => strSize x + strSize y)
  case atStart => exact ⟨a, b, 0, rfl, rfl, ha, hb, rfl, rfl⟩
  case round =>
    obtain ⟨p, q, n, rfl, rfl, hp, hq, H, rfl⟩ := hrel
    by_cases hpq : p = [] ∧ q = []
    · obtain ⟨rfl, rfl⟩ := hpq
      go_wp2
      go_ret
      exact ⟨ret_int (by rw [H.out]; rfl), _, rfl⟩
    · have hm : (Vm.nr p).length + (Vm.nr q).length < p.length + q.length := by
        have h1 := nr_le p p.length (Nat.le_refl _)
        have h2 := nr_le q q.length (Nat.le_refl _)
        by_cases e : p = []
        · have := nr_lt q (fun h => hpq ⟨e, h⟩); omega
        · have := nr_lt p e; omega
      have hg : (p.isEmpty = false) ∨ (p.isEmpty = true ∧ q.isEmpty = false) := by
        cases p with
        | nil => right; cases q with
          | nil => simp at hpq
          | cons c q => simp
        | cons c p => left; rfl
      clear hpq
      have HT : Hid (Vm.pc p q = if Vm.cw (Vm.wd p) (Vm.wd q) = 0 then (if Vm.cn (Vm.nm p) (Vm.nm q) = 0 then Vm.pc (Vm.nr p) (Vm.nr q) else Vm.cn (Vm.nm p) (Vm.nm q)) else Vm.cw (Vm.wd p) (Vm.wd q)) := Vm.pc_turn p q
      rcases hg with hg | ⟨hg, hg2⟩
      all_goals
        go_wp2_with fail
        refine (cutw p _ hp).mono ?_
        rintro e w' ⟨rfl, n1, rfl⟩
        go_wp2_with fail
        refine (cutw q _ hq).mono ?_
        rintro e w' ⟨rfl, n2, rfl⟩
        go_wp2_with fail
        refine (words_any (Vm.wd p) (Vm.wd q) _ (wd_le p 200 hp) (wd_le q 200 hq)).mono ?_
        rintro e w' ⟨rfl, rfl⟩
        go_wp2_with fail
        · go_ret
          exact ⟨ret_int (by rw [H.out, HT.out, if_neg (by simpa using ‹(Vm.cw (Vm.wd p) (Vm.wd q) != 0) = true›)]), _, rfl⟩
        · have h0 : Vm.cw (Vm.wd p) (Vm.wd q) = 0 := by simpa using ‹(Vm.cw (Vm.wd p) (Vm.wd q) != 0) = false›
          have H0 : Hid (Vm.cw (Vm.wd p) (Vm.wd q) = 0) := h0
          clear h0
          refine (cutn p _ hp).mono ?_
          rintro e w' ⟨rfl, n3, rfl⟩
          go_wp2_with fail
          refine (cutn q _ hq).mono ?_
          rintro e w' ⟨rfl, n4, rfl⟩
          go_wp2_with fail
          refine (numbers_any (Vm.nm p) (Vm.nm q) _ (Vm.nm_dg p) (Vm.nm_dg q)).mono ?_
          rintro e w' ⟨rfl, rfl⟩
          go_wp2_with fail
          · go_ret
            exact ⟨ret_int (by rw [H.out, HT.out, if_pos H0.out, if_neg (by simpa using ‹(Vm.cn (Vm.nm p) (Vm.nm q) != 0) = true›)]), _, rfl⟩
          · have h1 : Vm.cn (Vm.nm p) (Vm.nm q) = 0 := by simpa using ‹(Vm.cn (Vm.nm p) (Vm.nm q) != 0) = false›
            exact ⟨⟨Vm.nr p, Vm.nr q, _, rfl, rfl, nr_le p 200 hp, nr_le q 200 hq, by show Vm.pc a b = _; rw [H.out, HT.out, if_pos H0.out, if_pos h1], rfl⟩, hm⟩

end Go.Proofs.YthijccmiemlilaaGreatDoor
namespace Go.Proofs.YthijccmiemlilaaGreatDoor
open Go.RowKit

theorem short_any (e : Int) (u r : List UInt8) (w : World) : Calls Tryz.prog 24 #[.agg #[.int .i64 e, .string ⟨u.toArray⟩, .string ⟨r.toArray⟩]] w fun x w' =>
    x = .returned (.bool (decide (u.length ≤ 100) && decide (r.length ≤ 100))) ∧ w' = w.alloc (.cells #[.int .i64 e, .string ⟨u.toArray⟩, .string ⟨r.toArray⟩] 24) := by
  by_cases h1 : u.length ≤ 100
  all_goals by_cases h2 : r.length ≤ 100
  all_goals
    go_enter Tryz.func24, Tryz.ntmps24
    go_wp2
    go_ret
    exact ⟨ret_bool (by apply Bool.eq_iff_iff.2; constructor <;> intro hh <;> simp at hh ⊢ <;> omega), rfl⟩

set_option maxHeartbeats 800000 in
theorem compare_any (e1 : Int) (u1 r1 : List UInt8) (e2 : Int) (u2 r2 : List UInt8) (w : World) (h1 : u1.length ≤ 200) (h2 : r1.length ≤ 200) (h3 : u2.length ≤ 200) (h4 : r2.length ≤ 200) :
    Calls Tryz.prog 128 #[.agg #[.int .i64 e1, .string ⟨u1.toArray⟩, .string ⟨r1.toArray⟩], .agg #[.int .i64 e2, .string ⟨u2.toArray⟩, .string ⟨r2.toArray⟩]] w fun x w' =>
    x = .returned (.int .i64 (Vm.cv e1 u1 r1 e2 u2 r2)) ∧ ∃ n, w' = ((w.alloc (.cells #[.int .i64 e1, .string ⟨u1.toArray⟩, .string ⟨r1.toArray⟩] 24)).alloc (.cells #[.int .i64 e2, .string ⟨u2.toArray⟩, .string ⟨r2.toArray⟩] 24)).drewN n := by
  go_enter Tryz.func128, Tryz.ntmps128
  go_wp2_with fail
  refine (Tryz.cmp_Compare_int _ _ _).mono ?_
  rintro e w' ⟨rfl, rfl⟩
  go_wp2_with fail
  · have hne := cmp_ne (x := e1) (y := e2) ‹_›
    go_ret
    exact ⟨ret_int (by rw [cmp_val hne]; unfold Vm.cv; by_cases h : e1 < e2; · simp [h]
                       have h' : e2 < e1 := by omega
                       simp [h, h']), 0, rfl⟩
  · have he := cmp_eq (x := e1) (y := e2) ‹_›
    have H : Hid (Vm.cv e1 u1 r1 e2 u2 r2 = if Vm.pc u1 u2 = 0 then Vm.pc r1 r2 else Vm.pc u1 u2) := by
      show Vm.cv e1 u1 r1 e2 u2 r2 = _
      unfold Vm.cv; rw [if_neg (by omega), if_neg (by omega)]
    clear he
    refine (parts_any u1 u2 _ h1 h3).mono ?_
    rintro e w' ⟨rfl, n, rfl⟩
    go_wp2_with fail
    · go_ret
      exact ⟨ret_int (by rw [H.out, if_neg (by simpa using ‹(Vm.pc u1 u2 != 0) = true›)]), _, rfl⟩
    · refine (parts_any r1 r2 _ h2 h4).mono ?_
      rintro e w' ⟨rfl, m, rfl⟩
      go_wp2_with fail
      go_ret
      exact ⟨ret_int (by rw [H.out, if_pos (by simpa using ‹(Vm.pc u1 u2 != 0) = false›)]), _, rfl⟩

set_option maxHeartbeats 1600000 in
/-- version.Is where it compares. -/
theorem is_any (e1 : Int) (u1 r1 : List UInt8) (op : Int) (e2 : Int) (u2 r2 : List UInt8) (w : World) (h1 : u1.length ≤ 200) (h2 : r1.length ≤ 200) (h3 : u2.length ≤ 200) (h4 : r2.length ≤ 200) (hop : 1 ≤ op ∧ op ≤ 5) :
    Calls Tryz.prog 89 #[.agg #[.int .i64 e1, .string ⟨u1.toArray⟩, .string ⟨r1.toArray⟩], .int .i64 op, .agg #[.int .i64 e2, .string ⟨u2.toArray⟩, .string ⟨r2.toArray⟩]] w fun x w' =>
    x = .returned (.bool (Vm.iv (Vm.cv e1 u1 r1 e2 u2 r2) op)) ∧ ∃ (c1 c2 c3 c4 : Array Value) (n : Nat), w' = ((((w.alloc (.cells c1 24)).alloc (.cells c2 24)).alloc (.cells c3 24)).alloc (.cells c4 24)).drewN n := by
  have hc : op = 1 ∨ op = 2 ∨ op = 3 ∨ op = 4 ∨ op = 5 := by omega
  clear hop
  rcases hc with rfl | rfl | rfl | rfl | rfl
  all_goals
    go_enter Tryz.func89, Tryz.ntmps89
    go_wp2_with fail
    refine (compare_any e1 u1 r1 e2 u2 r2 _ h1 h2 h3 h4).mono ?_
    rintro e w' ⟨rfl, n, rfl⟩
    go_wp2
    go_ret
    exact ⟨ret_bool (by simp [Vm.iv]), _, _, _, _, _, rfl⟩

/-- version.Is where it asks nothing of the order. -/
theorem is_none (e1 : Int) (u1 r1 : List UInt8) (op : Int) (e2 : Int) (u2 r2 : List UInt8) (w : World) (hop : op < 1 ∨ 5 < op) :
    Calls Tryz.prog 89 #[.agg #[.int .i64 e1, .string ⟨u1.toArray⟩, .string ⟨r1.toArray⟩], .int .i64 op, .agg #[.int .i64 e2, .string ⟨u2.toArray⟩, .string ⟨r2.toArray⟩]] w fun x w' =>
    x = .returned (.bool (op == 0)) ∧ ∃ (c1 c2 : Array Value), w' = (w.alloc (.cells c1 24)).alloc (.cells c2 24) := by
  by_cases h0 : op = 0
  · subst h0
    go_enter Tryz.func89, Tryz.ntmps89
    go_wp2
    go_ret
    exact ⟨rfl, _, _, rfl⟩
  · have q0 : (op == 0) = false := beq_eq_false_iff_ne.2 h0
    have q1 : (op == 1) = false := beq_eq_false_iff_ne.2 (by omega)
    have q2 : (op == 2) = false := beq_eq_false_iff_ne.2 (by omega)
    have q3 : (op == 3) = false := beq_eq_false_iff_ne.2 (by omega)
    have q4 : (op == 4) = false := beq_eq_false_iff_ne.2 (by omega)
    have q5 : (op == 5) = false := beq_eq_false_iff_ne.2 (by omega)
    go_enter Tryz.func89, Tryz.ntmps89
    go_wp2
    go_ret
    exact ⟨ret_bool q0.symm, _, _, rfl⟩

theorem iv_none (c op : Int) (hop : op < 1 ∨ 5 < op) : Vm.iv c op = (op == 0) := by
  unfold Vm.iv
  have q1 : (op == 1) = false := beq_eq_false_iff_ne.2 (by omega)
  have q2 : (op == 2) = false := beq_eq_false_iff_ne.2 (by omega)
  have q3 : (op == 3) = false := beq_eq_false_iff_ne.2 (by omega)
  have q4 : (op == 4) = false := beq_eq_false_iff_ne.2 (by omega)
  have q5 : (op == 5) = false := beq_eq_false_iff_ne.2 (by omega)
  simp [q1, q2, q3, q4, q5]

end Go.Proofs.YthijccmiemlilaaGreatDoor
namespace Go.Proofs.YthijccmiemlilaaGreatDoor
open Go.RowKit

theorem rdigit_any (c : UInt8) (w : World) : Calls Tryz.prog 159 #[.int .u8 c.toNat] w fun e w' => e = .returned (.bool (Vm.dg c)) ∧ w' = w := by
  go_enter Tryz.func159, Tryz.ntmps159
  go_wp2
  all_goals go_ret
  all_goals exact ⟨ret_bool (by unfold Vm.dg; rw [Bool.eq_iff_iff]; simp; omega), rfl⟩

theorem rletter_any (c : UInt8) (w : World) : Calls Tryz.prog 168 #[.int .u8 c.toNat] w fun e w' => e = .returned (.bool (Vm.lr c)) ∧ w' = w := by
  go_enter Tryz.func168, Tryz.ntmps168
  go_wp2
  all_goals go_ret
  all_goals exact ⟨ret_bool (by unfold Vm.lr; rw [Bool.eq_iff_iff]; simp; omega), rfl⟩

theorem rsign_any (n : Int) (w : World) : Calls Tryz.prog 158 #[.int .i64 n] w fun e w' => e = .returned (.int .i64 (Vm.sg n)) ∧ w' = w := by
  by_cases h : n < 0
  · go_enter Tryz.func158, Tryz.ntmps158
    go_wp2
    go_ret
    exact ⟨ret_int (Vm.sg_neg h).symm, rfl⟩
  · go_enter Tryz.func158, Tryz.ntmps158
    go_wp2
    go_ret
    exact ⟨ret_int (by unfold Vm.sg; rw [if_neg (by omega)]; by_cases h1 : 0 < n; · rw [if_pos h1]; omega
                       rw [if_neg h1]; omega), rfl⟩

theorem ba_head (c : UInt8) (l : List UInt8) (h : 0 < (ByteArray.mk (c :: l).toArray).size) : (ByteArray.mk (c :: l).toArray)[0]'h = c := rfl
theorem ba_tail (c : UInt8) (l : List UInt8) : (ByteArray.mk (c :: l).toArray).extract 1 (l.length + 1) = ⟨l.toArray⟩ := ba_drop (c :: l) 1
theorem ba_first (c : UInt8) (l : List UInt8) : (ByteArray.mk (c :: l).toArray).extract 0 1 = ⟨[c].toArray⟩ := by rw [ba_take]; rfl
attribute [local go_sem] ba_head ba_tail ba_first

theorem rr_dig {c : UInt8} (l : List UInt8) (h : Vm.dg c = true) : 1 = Vm.rr (c :: l) := by rw [Vm.rr_cons, if_pos h]
theorem rr_til {c : UInt8} (l : List UInt8) (h : Vm.dg c = false) (h1 : ((c.toNat : Int) == 126) = true) : 0 = Vm.rr (c :: l) := by
  have h0 : ¬ Vm.dg c = true := by simp [h]
  rw [Vm.rr_cons, if_neg h0, if_pos (by have := beq_iff_eq.1 h1; omega)]
theorem rr_let {c : UInt8} (l : List UInt8) (h : Vm.dg c = false) (h1 : ((c.toNat : Int) == 126) = false) (h2 : Vm.lr c = true) : wrap64 (2 + wrap64 (c.toNat : Int)) = Vm.rr (c :: l) := by
  have h0 : ¬ Vm.dg c = true := by simp [h]
  have := c.toNat_lt
  rw [Vm.rr_cons, if_neg h0, if_neg (by have := beq_eq_false_iff_ne.1 h1; omega), if_pos h2, w64 (c.toNat) (by omega) (by omega), w64 _ (by omega) (by omega)]
theorem rr_oth {c : UInt8} (l : List UInt8) (h : Vm.dg c = false) (h1 : ((c.toNat : Int) == 126) = false) (h2 : Vm.lr c = false) : wrap64 (300 + wrap64 (c.toNat : Int)) = Vm.rr (c :: l) := by
  have h0 : ¬ Vm.dg c = true := by simp [h]
  have h3 : ¬ Vm.lr c = true := by simp [h2]
  have := c.toNat_lt
  rw [Vm.rr_cons, if_neg h0, if_neg (by have := beq_eq_false_iff_ne.1 h1; omega), if_neg h3, w64 (c.toNat) (by omega) (by omega), w64 _ (by omega) (by omega)]

theorem rrank_nil (w : World) : Calls Tryz.prog 157 #[.string ⟨([] : List UInt8).toArray⟩] w fun e w' => e = .returned (.int .i64 (Vm.rr [])) ∧ w' = w := by
  go_enter Tryz.func157, Tryz.ntmps157
  go_wp2
  go_ret
  exact ⟨rfl, rfl⟩
theorem rrank_cons (c : UInt8) (l : List UInt8) (w : World) : Calls Tryz.prog 157 #[.string ⟨(c :: l).toArray⟩] w fun e w' => e = .returned (.int .i64 (Vm.rr (c :: l))) ∧ w' = w := by
  go_enter Tryz.func157, Tryz.ntmps157
  go_wp2_with (first | (go_at_call 159; refine (rdigit_any _ _).mono ?_; rintro e w' ⟨rfl, rfl⟩) | (go_at_call 168; refine (rletter_any _ _).mono ?_; rintro e w' ⟨rfl, rfl⟩))
  all_goals go_ret
  · exact ⟨ret_int (rr_dig _ ‹_›), rfl⟩
  · exact ⟨ret_int (rr_til _ ‹_› ‹_›), rfl⟩
  · exact ⟨ret_int (rr_let _ ‹_› ‹_› ‹_›), rfl⟩
  · exact ⟨ret_int (rr_oth _ ‹_› ‹_› ‹_›), rfl⟩
theorem rrank_any (l : List UInt8) (w : World) : Calls Tryz.prog 157 #[.string ⟨l.toArray⟩] w fun e w' => e = .returned (.int .i64 (Vm.rr l)) ∧ w' = w := by
  cases l with
  | nil => exact rrank_nil w
  | cons c l => exact rrank_cons c l w

theorem empty_or (p q : List UInt8) (hpq : ¬ (p = [] ∧ q = [])) : (p.isEmpty = false) ∨ (p.isEmpty = true ∧ q.isEmpty = false) := by
  cases p with
  | nil => right; cases q with
    | nil => simp at hpq
    | cons c q => simp
  | cons c p => left; rfl
theorem dw_short (p : List UInt8) : (Vm.dw p).length ≤ p.length := dw_le Vm.dg p _ (Nat.le_refl _)
theorem dw_one (p : List UInt8) (h : Vm.rr p = 1) (hp : p ≠ []) : (Vm.dw p).length < p.length := by
  have h1 := (Vm.rr_one h)
  have := nr_lt p hp
  unfold Vm.nr at this
  rw [h1.2] at this
  exact this
theorem dw_lt (p q : List UInt8) (h1 : Vm.rr p = 1) (h2 : Vm.rr q = 1) (hpq : ¬ (p = [] ∧ q = [])) : (Vm.dw p).length + (Vm.dw q).length < p.length + q.length := by
  have a1 := dw_short p
  have a2 := dw_short q
  by_cases e : p = []
  · have := dw_one q h2 (fun h => hpq ⟨e, h⟩); omega
  · have := dw_one p h1 e; omega

theorem ba_app (x y : List UInt8) : ByteArray.mk x.toArray ++ ByteArray.mk y.toArray = ⟨(x ++ y).toArray⟩ := by
  apply ByteArray.ext; simp
theorem tzA {d : List UInt8} {c : UInt8} (h : Vm.tz d = []) (hc : ((c.toNat : Int) != 48) = true) : Value.string (ByteArray.mk #[] ++ ByteArray.mk #[c]) = .string ⟨(Vm.tz (d ++ [c])).toArray⟩ := by
  have h1 : c ≠ 48 := by rintro rfl; simp at hc
  rw [Vm.tz_snoc, if_pos (Or.inr h1), h]
  exact congrArg Value.string (ba_app [] [c])
theorem tzB {d : List UInt8} {c : UInt8} (h : Vm.tz d = []) (hc : ((c.toNat : Int) != 48) = false) : Value.string (ByteArray.mk #[]) = .string ⟨(Vm.tz (d ++ [c])).toArray⟩ := by
  have h1 : c = 48 := by
    apply UInt8.toNat_inj.1
    have : (c.toNat : Int) = 48 := by simpa using hc
    have e : (48 : UInt8).toNat = 48 := rfl
    omega
  rw [Vm.tz_snoc, if_neg (by simp [h, h1])]
theorem tzC {d : List UInt8} {c : UInt8} (h : ¬ Vm.tz d = []) : Value.string (ByteArray.mk (Vm.tz d).toArray ++ ByteArray.mk #[c]) = .string ⟨(Vm.tz (d ++ [c])).toArray⟩ := by
  rw [Vm.tz_snoc, if_pos (Or.inl h)]
  exact congrArg Value.string (ba_app (Vm.tz d) [c])
theorem run_more {p d r : List UInt8} {c : UInt8} (h : p = d ++ c :: r ∧ ∀ x ∈ d, Vm.dg x = true) (hc : Vm.dg c = true) : p = (d ++ [c]) ++ r ∧ ∀ x ∈ d ++ [c], Vm.dg x = true := by
  refine ⟨by rw [h.1]; simp, fun x hx => ?_⟩
  rcases List.mem_append.1 hx with h1 | h1
  · exact h.2 x h1
  · rw [List.mem_singleton.1 h1]; exact hc
theorem tz_len (d : List UInt8) : (Vm.tz d).length ≤ d.length := dw_le _ d _ (Nat.le_refl _)
theorem run_len {p d r : List UInt8} (h : p = d ++ r ∧ ∀ x ∈ d, Vm.dg x = true) (n : Nat) (hp : p.length ≤ n) : (Vm.tz d).length ≤ n := by
  have := tz_len d
  rw [h.1] at hp; simp at hp; omega
theorem run_stop {p d r : List UInt8} (h : p = d ++ r ∧ ∀ x ∈ d, Vm.dg x = true) (hx : ¬ ∃ c t, r = c :: t ∧ Vm.dg c = true) : Vm.tw p = d ∧ Vm.dw p = r := by
  rw [h.1]
  refine Vm.run_end d r h.2 (fun c t e => ?_)
  cases hc : Vm.dg c with
  | false => rfl
  | true => exact absurd ⟨c, t, e, hc⟩ hx
theorem run_head {r : List UInt8} (hx : ¬ ∃ c t, r = c :: t ∧ Vm.dg c = true) : r = [] ∨ ∃ c t, r = c :: t ∧ Vm.dg c = false := by
  cases r with
  | nil => left; rfl
  | cons c t =>
    right; refine ⟨c, t, rfl, ?_⟩
    cases hc : Vm.dg c with
    | false => rfl
    | true => exact absurd ⟨c, t, rfl, hc⟩ hx

set_option maxRecDepth 100000 in
set_option maxHeartbeats 4000000 in
theorem half_any (a b : List UInt8) (w : World) (ha : a.length ≤ 200) (hb : b.length ≤ 200) : Calls Tryz.prog 148 #[.string ⟨a.toArray⟩, .string ⟨b.toArray⟩] w fun e w' => e = .returned (.int .i64 (Vm.pc a b)) ∧ ∃ n, w' = w.drewN n := by
  go_enter Tryz.func148, Tryz.ntmps148
  go_wp2
  go_loopw [0, 1] (fun x y wr => ∃ (p q : List UInt8) (n : Nat), x = .string ⟨p.toArray⟩ ∧ y = .string ⟨q.toArray⟩ ∧ p.length ≤ 200 ∧ q.length ≤ 200 ∧ Hid (Vm.pc a b = Vm.pc p q) ∧ wr = w.drewN n) (fun x y _ => strSize x + strSize y)
  case atStart => exact ⟨a, b, 0, rfl, rfl, ha, hb, rfl, rfl⟩
  case round =>
    obtain ⟨p0, q0, n0, rfl, rfl, hp0, hq0, H0, rfl⟩ := hrel
    go_wp2_with fail
    go_loopw [0, 1] (fun x y wr => ∃ (p q : List UInt8) (n : Nat), x = .string ⟨p.toArray⟩ ∧ y = .string ⟨q.toArray⟩ ∧ p.length ≤ p0.length ∧ q.length ≤ q0.length ∧ Hid (Vm.pc a b = Vm.pc p q) ∧ wr = w.drewN n) (fun x y _ => strSize x + strSize y)
    case atStart => exact ⟨p0, q0, n0, rfl, rfl, Nat.le_refl _, Nat.le_refl _, H0, rfl⟩
    case round =>
      obtain ⟨p, q, n, rfl, rfl, hp, hq, H, rfl⟩ := hrel
      have hrp := Vm.rr_range p
      have hrq := Vm.rr_range q
      by_cases h1 : Vm.rr p = 1 ∧ Vm.rr q = 1
      · obtain ⟨g1, g2⟩ := h1
        have g1' : (Vm.rr p != 1) = false := by simp [g1]
        have g2' : (Vm.rr q != 1) = false := by simp [g2]
        have G1 : Hid (Vm.rr p = 1) := g1
        have G2 : Hid (Vm.rr q = 1) := g2
        clear g1 g2
        have HN : Hid (Vm.pc p q = if Vm.cn (Vm.tw p) (Vm.tw q) = 0 then Vm.pc (Vm.dw p) (Vm.dw q) else Vm.cn (Vm.tw p) (Vm.tw q)) := Vm.pc_nums p q G1.out G2.out
        by_cases hpq : p = [] ∧ q = []
        · obtain ⟨rfl, rfl⟩ := hpq
          go_wp2_with (go_at_call 157; refine (rrank_any _ _).mono ?_; rintro e w' ⟨rfl, rfl⟩)
          go_ret
          exact ⟨ret_int (by rw [H.out]; rfl), _, rfl⟩
        · have hm : (Vm.dw p).length + (Vm.dw q).length < p.length + q.length := dw_lt p q G1.out G2.out hpq
          have hg : (p.isEmpty = false) ∨ (p.isEmpty = true ∧ q.isEmpty = false) := empty_or p q hpq
          clear hpq
          rcases hg with hg | ⟨hg, hg2⟩
          all_goals
            go_wp2_with (go_at_call 157; refine (rrank_any _ _).mono ?_; rintro e w' ⟨rfl, rfl⟩)
            go_loop [0, 5] (fun x y => ∃ (d r : List UInt8), x = .string ⟨r.toArray⟩ ∧ y = .string ⟨(Vm.tz d).toArray⟩ ∧ Hid (p = d ++ r ∧ ∀ c ∈ d, Vm.dg c = true)) (fun x _ => strSize x)
            case atStart => exact ⟨[], p, rfl, rfl, rfl, fun c hc => absurd hc (List.not_mem_nil)⟩
            case round =>
              obtain ⟨d, r, rfl, rfl, HD⟩ := hrel
              have htz : (Vm.tz d).length ≤ 200 := run_len HD.out 200 (by omega)
              by_cases hx : ∃ c t, r = c :: t ∧ Vm.dg c = true
              · obtain ⟨c, t, rfl, hc⟩ := hx
                go_wp2_with (go_at_call 159; refine (rdigit_any _ _).mono ?_; rintro e w' ⟨rfl, rfl⟩)
                · exact ⟨⟨d ++ [c], t, rfl, tzA ‹_› ‹_›, run_more HD.out hc⟩, Nat.lt_succ_self _⟩
                · exact ⟨⟨d ++ [c], t, rfl, tzB ‹_› ‹_›, run_more HD.out hc⟩, Nat.lt_succ_self _⟩
                · exact ⟨⟨d ++ [c], t, rfl, tzC ‹_›, run_more HD.out hc⟩, Nat.lt_succ_self _⟩
              · have HE : Hid (Vm.tw p = d ∧ Vm.dw p = r) := run_stop HD.out hx
                have hr := run_head hx
                clear hx
                rcases hr with rfl | ⟨c, t, rfl, hc⟩
                all_goals
                  go_wp2_with (go_at_call 159; refine (rdigit_any _ _).mono ?_; rintro e w' ⟨rfl, rfl⟩)
                  go_loop [1, 6] (fun x y => ∃ (d r : List UInt8), x = .string ⟨r.toArray⟩ ∧ y = .string ⟨(Vm.tz d).toArray⟩ ∧ Hid (q = d ++ r ∧ ∀ c ∈ d, Vm.dg c = true)) (fun x _ => strSize x)
                  case atStart => exact ⟨[], q, rfl, rfl, rfl, fun c hc => absurd hc (List.not_mem_nil)⟩
                  case round =>
                    obtain ⟨d2, r2, rfl, rfl, HD2⟩ := hrel
                    have htz2 : (Vm.tz d2).length ≤ 200 := run_len HD2.out 200 (by omega)
                    by_cases hx : ∃ c t, r2 = c :: t ∧ Vm.dg c = true
                    · obtain ⟨c, t, rfl, hc⟩ := hx
                      go_wp2_with (go_at_call 159; refine (rdigit_any _ _).mono ?_; rintro e w' ⟨rfl, rfl⟩)
                      · exact ⟨⟨d2 ++ [c], t, rfl, tzA ‹_› ‹_›, run_more HD2.out hc⟩, Nat.lt_succ_self _⟩
                      · exact ⟨⟨d2 ++ [c], t, rfl, tzB ‹_› ‹_›, run_more HD2.out hc⟩, Nat.lt_succ_self _⟩
                      · exact ⟨⟨d2 ++ [c], t, rfl, tzC ‹_›, run_more HD2.out hc⟩, Nat.lt_succ_self _⟩
                    · have HE2 : Hid (Vm.tw q = d2 ∧ Vm.dw q = r2) := run_stop HD2.out hx
                      have hr := run_head hx
                      clear hx
                      have HC : Hid (Vm.cn (Vm.tw p) (Vm.tw q) = if (Vm.tz d).length < (Vm.tz d2).length then -1 else if (Vm.tz d2).length < (Vm.tz d).length then 1 else Vm.cb (Vm.tz d) (Vm.tz d2)) := by
                        have e := Vm.cn_texts _ _ (Vm.tw_dg p) (Vm.tw_dg q)
                        rw [HE.out.1, HE2.out.1] at e ⊢
                        exact e
                      by_cases hl : (Vm.tz d).length = (Vm.tz d2).length
                      · have hl' : (((Vm.tz d).length : Int) != ((Vm.tz d2).length : Int)) = false := by simp [hl]
                        have HL : Hid ((Vm.tz d).length = (Vm.tz d2).length) := hl
                        clear hl
                        rcases hr with rfl | ⟨c, t, rfl, hc⟩
                        all_goals
                          go_wp2_with (first | (go_at_call 159; refine (rdigit_any _ _).mono ?_; rintro e w' ⟨rfl, rfl⟩) | (go_at_call 160; refine (strcmp_any _ _ _).mono ?_; rintro e w' ⟨rfl, rfl⟩) | (go_at_call 158; refine (rsign_any _ _).mono ?_; rintro e w' ⟨rfl, rfl⟩))
                          · go_ret
                            have hs : Vm.tz d ≠ Vm.tz d2 := by simpa using ‹(!Vm.tz d == Vm.tz d2) = true›
                            exact ⟨ret_int (by rw [H.out, HN.out, HC.out, HL.out, if_neg (Nat.lt_irrefl _), if_neg (Nat.lt_irrefl _), if_neg (Vm.cb_ne hs), Vm.cb_sg]), _, rfl⟩
                          · have hs : Vm.tz d = Vm.tz d2 := by simpa using ‹(!Vm.tz d == Vm.tz d2) = false›
                            have hz : Vm.pc a b = Vm.pc (Vm.dw p) (Vm.dw q) := by
                              rw [H.out, HN.out, HC.out, HL.out, if_neg (Nat.lt_irrefl _), if_neg (Nat.lt_irrefl _), hs, Vm.cb_refl, if_pos rfl]
                            have b1 := dw_short p
                            have b2 := dw_short q
                            refine ⟨⟨Vm.dw p, Vm.dw q, _, by rw [HE.out.2], by rw [HE2.out.2], by omega, by omega, hz, rfl⟩, Nat.lt_of_lt_of_le (?_ : _ < p.length + q.length) (Nat.add_le_add hp hq)⟩
                            have hm' := hm
                            rw [HE.out.2, HE2.out.2] at hm'
                            exact hm'
                      · have hl' : (((Vm.tz d).length : Int) != ((Vm.tz d2).length : Int)) = true := by simp; omega
                        have HL : Hid (Vm.pc p q = Vm.sg (((Vm.tz d).length : Int) - ((Vm.tz d2).length : Int))) := by
                          show Vm.pc p q = _
                          have e : Vm.cn (Vm.tw p) (Vm.tw q) = Vm.sg (((Vm.tz d).length : Int) - ((Vm.tz d2).length : Int)) := by
                            rw [HC.out]
                            by_cases h1 : (Vm.tz d).length < (Vm.tz d2).length
                            · rw [if_pos h1, Vm.sg_neg (by omega)]
                            · rw [if_neg h1, if_pos (by omega), Vm.sg_pos (by omega)]
                          rw [HN.out, e, if_neg]
                          by_cases h1 : (Vm.tz d).length < (Vm.tz d2).length
                          · rw [Vm.sg_neg (by omega)]; decide
                          · rw [Vm.sg_pos (by omega)]; decide
                        clear hl
                        rcases hr with rfl | ⟨c, t, rfl, hc⟩
                        all_goals
                          go_wp2_with (first | (go_at_call 159; refine (rdigit_any _ _).mono ?_; rintro e w' ⟨rfl, rfl⟩) | (go_at_call 158; refine (rsign_any _ _).mono ?_; rintro e w' ⟨rfl, rfl⟩))
                          go_ret
                          exact ⟨ret_int (by rw [H.out, HL.out]), _, rfl⟩
      · by_cases he : Vm.rr p = Vm.rr q
        · have hne : Vm.rr p ≠ 1 := fun e => h1 ⟨e, he ▸ e⟩
          obtain ⟨c, s, t, rfl, rfl, hz⟩ := Vm.pc_same p q he hne
          have g1 : (Vm.rr (c :: s) != 1) = true := by simpa using hne
          have g3 : (Vm.rr (c :: s) != Vm.rr (c :: t)) = false := by simp [he]
          have HZ : Hid (Vm.pc a b = Vm.pc s t) := by show Vm.pc a b = _; rw [H.out, hz]
          clear he hne h1 hz H
          simp only [List.length_cons] at hp hq
          go_wp2_with (go_at_call 157; refine (rrank_any _ _).mono ?_; rintro e w' ⟨rfl, rfl⟩)
          go_quiet (fail)
          go_wp2
          exact ⟨⟨s, t, _, rfl, rfl, by omega, by omega, HZ, World.drewN_drewN ..⟩, Nat.add_lt_add (Nat.lt_succ_self _) (Nat.lt_succ_self _)⟩
        · have HZ : Hid (Vm.pc p q = Vm.sg (Vm.rr p - Vm.rr q)) := Vm.pc_part p q he
          have g3 : (Vm.rr p != Vm.rr q) = true := by simpa using he
          by_cases h2 : Vm.rr p = 1
          · have g1 : (Vm.rr p != 1) = false := by simp [h2]
            have g2 : (Vm.rr q != 1) = true := by simpa using fun e => h1 ⟨h2, e⟩
            clear h1 h2 he
            go_wp2_with (first | (go_at_call 157; refine (rrank_any _ _).mono ?_; rintro e w' ⟨rfl, rfl⟩) | (go_at_call 158; refine (rsign_any _ _).mono ?_; rintro e w' ⟨rfl, rfl⟩))
            go_ret
            exact ⟨ret_int (by rw [H.out, HZ.out]), _, rfl⟩
          · have g1 : (Vm.rr p != 1) = true := by simpa using h2
            clear h1 h2 he
            go_wp2_with (first | (go_at_call 157; refine (rrank_any _ _).mono ?_; rintro e w' ⟨rfl, rfl⟩) | (go_at_call 158; refine (rsign_any _ _).mono ?_; rintro e w' ⟨rfl, rfl⟩))
            go_ret
            exact ⟨ret_int (by rw [H.out, HZ.out]), _, rfl⟩

end Go.Proofs.YthijccmiemlilaaGreatDoor
namespace Go.Proofs.YthijccmiemlilaaGreatDoor
open Go.RowKit

set_option maxHeartbeats 800000 in
theorem rcompare_any (e1 : Int) (u1 r1 : List UInt8) (e2 : Int) (u2 r2 : List UInt8) (w : World) (h1 : u1.length ≤ 200) (h2 : r1.length ≤ 200) (h3 : u2.length ≤ 200) (h4 : r2.length ≤ 200) :
    Calls Tryz.prog 129 #[.agg #[.int .i64 e1, .string ⟨u1.toArray⟩, .string ⟨r1.toArray⟩], .agg #[.int .i64 e2, .string ⟨u2.toArray⟩, .string ⟨r2.toArray⟩]] w fun x w' =>
    x = .returned (.int .i64 (Vm.cv e1 u1 r1 e2 u2 r2)) ∧ ∃ n, w' = ((w.alloc (.cells #[.int .i64 e1, .string ⟨u1.toArray⟩, .string ⟨r1.toArray⟩] 24)).alloc (.cells #[.int .i64 e2, .string ⟨u2.toArray⟩, .string ⟨r2.toArray⟩] 24)).drewN n := by
  by_cases he : e1 = e2
  · subst he
    have H : Hid (Vm.cv e1 u1 r1 e1 u2 r2 = if Vm.pc u1 u2 = 0 then Vm.pc r1 r2 else Vm.pc u1 u2) := by
      show Vm.cv e1 u1 r1 e1 u2 r2 = _
      unfold Vm.cv; rw [if_neg (by omega), if_neg (by omega)]
    go_enter Tryz.func129, Tryz.ntmps129
    go_wp2_with fail
    refine (half_any u1 u2 _ h1 h3).mono ?_
    rintro e w' ⟨rfl, n, rfl⟩
    go_wp2_with fail
    · go_ret
      exact ⟨ret_int (by rw [H.out, if_neg (by simpa using ‹(Vm.pc u1 u2 != 0) = true›)]), _, rfl⟩
    · refine (half_any r1 r2 _ h2 h4).mono ?_
      rintro e w' ⟨rfl, m, rfl⟩
      go_wp2_with fail
      go_ret
      exact ⟨ret_int (by rw [H.out, if_pos (by simpa using ‹(Vm.pc u1 u2 != 0) = false›)]), _, rfl⟩
  · have g : (e1 != e2) = true := by simpa using he
    by_cases hl : e1 < e2
    · go_enter Tryz.func129, Tryz.ntmps129
      go_wp2
      go_ret
      exact ⟨ret_int (by unfold Vm.cv; rw [if_pos hl]), 0, rfl⟩
    · have hg : e2 < e1 := by omega
      go_enter Tryz.func129, Tryz.ntmps129
      go_wp2
      go_ret
      exact ⟨ret_int (by unfold Vm.cv; rw [if_neg (by omega), if_pos hg]), 0, rfl⟩

set_option maxHeartbeats 1600000 in
theorem ris_any (e1 : Int) (u1 r1 : List UInt8) (op : Int) (e2 : Int) (u2 r2 : List UInt8) (w : World) (h1 : u1.length ≤ 200) (h2 : r1.length ≤ 200) (h3 : u2.length ≤ 200) (h4 : r2.length ≤ 200) :
    Calls Tryz.prog 94 #[.agg #[.int .i64 e1, .string ⟨u1.toArray⟩, .string ⟨r1.toArray⟩], .int .i64 op, .agg #[.int .i64 e2, .string ⟨u2.toArray⟩, .string ⟨r2.toArray⟩]] w fun x w' =>
    x = .returned (.bool (Vm.iv (Vm.cv e1 u1 r1 e2 u2 r2) op)) ∧ ∃ (c1 c2 c3 c4 : Array Value) (n : Nat), w' = ((((w.alloc (.cells c1 24)).alloc (.cells c2 24)).alloc (.cells c3 24)).alloc (.cells c4 24)).drewN n := by
  by_cases hc : op = 0 ∨ op = 1 ∨ op = 2 ∨ op = 3 ∨ op = 4 ∨ op = 5
  · rcases hc with rfl | rfl | rfl | rfl | rfl | rfl
    all_goals
      go_enter Tryz.func94, Tryz.ntmps94
      go_wp2_with fail
      refine (rcompare_any e1 u1 r1 e2 u2 r2 _ h1 h2 h3 h4).mono ?_
      rintro e w' ⟨rfl, n, rfl⟩
      generalize hc : Vm.cv e1 u1 r1 e2 u2 r2 = c
      have HC : Hid (Vm.cv e1 u1 r1 e2 u2 r2 = c) := hc
      clear hc
      rcases Int.lt_trichotomy c 0 with k | k | k
      · go_wp2
        go_ret
        exact ⟨ret_bool (by rw [HC.out]; simp [Vm.iv]; try omega), _, _, _, _, _, rfl⟩
      · subst k
        go_wp2
        go_ret
        exact ⟨ret_bool (by rw [HC.out]; simp [Vm.iv]), _, _, _, _, _, rfl⟩
      · go_wp2
        go_ret
        exact ⟨ret_bool (by rw [HC.out]; simp [Vm.iv]; try omega), _, _, _, _, _, rfl⟩
  · have q0 : (op == 0) = false := beq_eq_false_iff_ne.2 (by omega)
    have q1 : (op == 1) = false := beq_eq_false_iff_ne.2 (by omega)
    have q2 : (op == 2) = false := beq_eq_false_iff_ne.2 (by omega)
    have q3 : (op == 3) = false := beq_eq_false_iff_ne.2 (by omega)
    have q4 : (op == 4) = false := beq_eq_false_iff_ne.2 (by omega)
    have q5 : (op == 5) = false := beq_eq_false_iff_ne.2 (by omega)
    go_enter Tryz.func94, Tryz.ntmps94
    go_wp2_with fail
    refine (rcompare_any e1 u1 r1 e2 u2 r2 _ h1 h2 h3 h4).mono ?_
    rintro e w' ⟨rfl, n, rfl⟩
    go_wp2
    go_ret
    exact ⟨ret_bool (by simp [Vm.iv, q0, q1, q2, q3, q4, q5]), _, _, _, _, _, rfl⟩

end Go.Proofs.YthijccmiemlilaaGreatDoor
