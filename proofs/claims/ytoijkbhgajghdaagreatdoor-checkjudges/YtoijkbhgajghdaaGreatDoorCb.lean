/- The walks of version.compareWords, compareNumbers, compareParts. -/
import Derived.Test.YtoijkbhgajghdaaGreatDoorCa
import Derived.Test.YtoijkbhgajghdaaGreatDoorVh
namespace Go.Proofs.YtoijkbhgajghdaaGreatDoor
open Go.RowKit

theorem rank_any (l : List UInt8) (k : Nat) (w : World) : Calls Tryz.prog 166 #[.string ⟨l.toArray⟩, .int .i64 k] w fun e w' => e = .returned (.int .i64 (Vm.ra l k)) ∧ w' = w := by
  by_cases h : k < l.length
  · rw [Vm.ra_in l k h]; exact rank_in l k w h
  · rw [Vm.ra_out l k (by omega)]; exact rank_out l k w (by omega)

theorem cmp_ne {x y : Int} (h : (Lib.compareInt x y != 0) = true) : x ≠ y := by
  intro e; subst e; simp [Lib.compareInt] at h
theorem cmp_eq {x y : Int} (h : (Lib.compareInt x y != 0) = false) : x = y := by
  unfold Lib.compareInt at h
  by_cases h1 : x < y
  · simp [h1] at h
  · by_cases h2 : y < x
    · simp [h1, h2] at h
    · omega
theorem cmp_val {x y : Int} (h : x ≠ y) : Lib.compareInt x y = if x < y then -1 else 1 := by
  unfold Lib.compareInt
  by_cases h1 : x < y
  · simp [h1]
  · have h2 : y < x := by omega
    simp [h1, h2]

set_option maxHeartbeats 400000 in
theorem words_any (a b : List UInt8) (w : World) (ha : a.length ≤ 200) (hb : b.length ≤ 200) : Calls Tryz.prog 155 #[.string ⟨a.toArray⟩, .string ⟨b.toArray⟩] w fun e w' => e = .returned (.int .i64 (Vm.cw a b)) ∧ w' = w := by
  go_enter Tryz.func155, Tryz.ntmps155
  go_wp2
  go_loop [12] (fun i => ∃ k : Nat, k ≤ max a.length b.length ∧ i = .int .i64 k ∧ ∀ j, j < k → Vm.ra a j = Vm.ra b j) (fun i => max a.length b.length - (intOf i).toNat)
  case atStart => exact ⟨0, Nat.zero_le _, rfl, fun j h => absurd h (Nat.not_lt_zero _)⟩
  case round =>
    obtain ⟨k, hk, rfl, hpre⟩ := hrel
    have H : Hid (∀ j, j < k → Vm.ra a j = Vm.ra b j) := hpre
    clear hpre
    by_cases hlt : k < max a.length b.length
    · go_wp2_with (first | (go_at_call 166; refine (rank_any _ _ _).mono ?_; rintro e w' ⟨rfl, rfl⟩) | (go_at_call 146; refine (Tryz.cmp_Compare_int _ _ _).mono ?_; rintro e w' ⟨rfl, rfl⟩))
      · go_ret
        have hne := cmp_ne (x := Vm.ra a k) (y := Vm.ra b k) ‹_›
        exact ⟨ret_int (by rw [cmp_val hne, Vm.cw_at a b k H.out hne]), rfl⟩
      · have he := cmp_eq (x := Vm.ra a k) (y := Vm.ra b k) ‹_›
        exact ⟨⟨k + 1, hlt, by go_num, fun j h => by
          by_cases e : j = k
          · subst e; exact he
          · exact H.out j (by omega)⟩, by simp [intOf]; omega⟩
    · go_wp2
      go_ret
      exact ⟨ret_int (by rw [Vm.cw_all a b k H.out (by omega) (by omega)]), rfl⟩

theorem cb_eq (a b : List UInt8) : Lib.compareBytes a b = Vm.cb a b := by
  induction a generalizing b with
  | nil => cases b <;> rfl
  | cons x a ih =>
    cases b with
    | nil => rfl
    | cons y b => unfold Lib.compareBytes Vm.cb; rw [ih]

theorem trim_any (a : List UInt8) (w : World) : Calls Tryz.prog 167 #[.string ⟨a.toArray⟩, .string ⟨#[48]⟩] w fun e w' => e = .returned (.string ⟨(Vm.tz a).toArray⟩) ∧ w' = w :=
  Tryz.strings_TrimLeft_one ⟨a.toArray⟩ 48 (by decide) w
theorem strcmp_any (a b : List UInt8) (w : World) : Calls Tryz.prog 160 #[.string ⟨a.toArray⟩, .string ⟨b.toArray⟩] w fun e w' => e = .returned (.int .i64 (Vm.cb a b)) ∧ w' = w := by
  rw [← cb_eq]; exact Tryz.strings_Compare ⟨a.toArray⟩ ⟨b.toArray⟩ w

theorem cmp_len {x y : Nat} (h : (Lib.compareInt (x : Int) (y : Int) != 0) = true) (z : Int) : Lib.compareInt (x : Int) (y : Int) = if x < y then -1 else if y < x then 1 else z := by
  have hne := cmp_ne h
  rw [cmp_val hne]
  by_cases h1 : x < y
  · rw [if_pos (by omega), if_pos h1]
  · rw [if_neg (by omega), if_neg h1, if_pos (by omega)]

theorem numbers_any (a b : List UInt8) (w : World) (ha : ∀ c ∈ a, Vm.dg c = true) (hb : ∀ c ∈ b, Vm.dg c = true) : Calls Tryz.prog 156 #[.string ⟨a.toArray⟩, .string ⟨b.toArray⟩] w fun e w' => e = .returned (.int .i64 (Vm.cn a b)) ∧ w' = w := by
  have H : Hid (Vm.cn a b = if (Vm.tz a).length < (Vm.tz b).length then -1 else if (Vm.tz b).length < (Vm.tz a).length then 1 else Vm.cb (Vm.tz a) (Vm.tz b)) := Vm.cn_texts a b ha hb
  clear ha hb
  go_enter Tryz.func156, Tryz.ntmps156
  go_wp2_with (first | (go_at_call 167; refine (trim_any _ _).mono ?_; rintro e w' ⟨rfl, rfl⟩) | (go_at_call 146; refine (Tryz.cmp_Compare_int _ _ _).mono ?_; rintro e w' ⟨rfl, rfl⟩) | (go_at_call 160; refine (strcmp_any _ _ _).mono ?_; rintro e w' ⟨rfl, rfl⟩))
  · go_ret
    exact ⟨ret_int (by rw [H.out]; exact cmp_len ‹_› _), rfl⟩
  · go_ret
    have he := cmp_eq (x := ((Vm.tz a).length : Int)) (y := ((Vm.tz b).length : Int)) ‹_›
    exact ⟨ret_int (by rw [H.out, if_neg (by omega), if_neg (by omega)]), rfl⟩

def strSize : Value → Nat
  | .string s => s.size
  | _ => 0
theorem dw_le (f : UInt8 → Bool) (l : List UInt8) (n : Nat) (h : l.length ≤ n) : (l.dropWhile f).length ≤ n :=
  Nat.le_trans (List.dropWhile_suffix f).length_le h
theorem tw_le (f : UInt8 → Bool) (l : List UInt8) (n : Nat) (h : l.length ≤ n) : (l.takeWhile f).length ≤ n :=
  Nat.le_trans (List.takeWhile_prefix f).length_le h

def cut1 (b : Bool) (l : List UInt8) : List UInt8 := l.takeWhile (fun c => Vm.dg c == b)
def cut2 (b : Bool) (l : List UInt8) : List UInt8 := l.dropWhile (fun c => Vm.dg c == b)
theorem cutRun_cut (l : List UInt8) (b : Bool) (w : World) (hl : l.length ≤ 200) : Calls Tryz.prog 154 #[.string ⟨l.toArray⟩, .bool b] w fun e w' =>
    e = .returned (.tuple #[.string ⟨(cut1 b l).toArray⟩, .string ⟨(cut2 b l).toArray⟩]) ∧ ∃ n, w' = w.drewN n := cutRun_any l b w hl
theorem cut1_wd (l : List UInt8) : cut1 false l = Vm.wd l := by
  unfold cut1 Vm.wd; congr 1; funext c; cases Vm.dg c <;> rfl
theorem cut2_wr (l : List UInt8) : cut2 false l = Vm.wr l := by
  unfold cut2 Vm.wr; congr 1; funext c; cases Vm.dg c <;> rfl
theorem cut1_nm (l : List UInt8) : cut1 true (Vm.wr l) = Vm.nm l := by
  unfold cut1 Vm.nm; congr 1; funext c; cases Vm.dg c <;> rfl
theorem cut2_nr (l : List UInt8) : cut2 true (Vm.wr l) = Vm.nr l := by
  unfold cut2 Vm.nr; congr 1; funext c; cases Vm.dg c <;> rfl
theorem wd_le (l : List UInt8) (n : Nat) (h : l.length ≤ n) : (Vm.wd l).length ≤ n := tw_le _ l n h
theorem wr_le (l : List UInt8) (n : Nat) (h : l.length ≤ n) : (Vm.wr l).length ≤ n := dw_le _ l n h
theorem nr_le (l : List UInt8) (n : Nat) (h : l.length ≤ n) : (Vm.nr l).length ≤ n := dw_le _ _ n (wr_le l n h)
theorem nr_lt (l : List UInt8) (h : l ≠ []) : (Vm.nr l).length < l.length := by
  cases l with
  | nil => exact absurd rfl h
  | cons c l =>
    unfold Vm.nr Vm.wr
    by_cases hc : Vm.dg c = true
    · simp [hc]
      have := dw_le Vm.dg l l.length (Nat.le_refl _); omega
    · simp [hc]
      have := dw_le Vm.dg _ l.length (dw_le (fun c => !Vm.dg c) l l.length (Nat.le_refl _)); omega
theorem cutw (l : List UInt8) (w : World) (hl : l.length ≤ 200) : Calls Tryz.prog 154 #[.string ⟨l.toArray⟩, .bool false] w fun e w' =>
    e = .returned (.tuple #[.string ⟨(Vm.wd l).toArray⟩, .string ⟨(Vm.wr l).toArray⟩]) ∧ ∃ n, w' = w.drewN n := by
  rw [← cut1_wd, ← cut2_wr]; exact cutRun_cut l false w hl
theorem cutn (l : List UInt8) (w : World) (hl : l.length ≤ 200) : Calls Tryz.prog 154 #[.string ⟨(Vm.wr l).toArray⟩, .bool true] w fun e w' =>
    e = .returned (.tuple #[.string ⟨(Vm.nm l).toArray⟩, .string ⟨(Vm.nr l).toArray⟩]) ∧ ∃ n, w' = w.drewN n := by
  rw [← cut1_nm, ← cut2_nr]; exact cutRun_cut _ true w (wr_le l 200 hl)

set_option maxHeartbeats 800000 in
theorem parts_any (a b : List UInt8) (w : World) (ha : a.length ≤ 200) (hb : b.length ≤ 200) : Calls Tryz.prog 147 #[.string ⟨a.toArray⟩, .string ⟨b.toArray⟩] w fun e w' => e = .returned (.int .i64 (Vm.pc a b)) ∧ ∃ n, w' = w.drewN n := by
  go_enter Tryz.func147, Tryz.ntmps147
  go_wp2
  go_loopw [0, 1] (fun x y wr => ∃ (p q : List UInt8) (n : Nat), x = .string ⟨p.toArray⟩ ∧ y = .string ⟨q.toArray⟩ ∧ p.length ≤ 200 ∧ q.length ≤ 200 ∧ Hid (Vm.pc a b = Vm.pc p q) ∧ wr = w.drewN n) (fun x y _ => strSize x + strSize y)
  case atStart => exact ⟨a, b, 0, rfl, rfl, ha, hb, rfl, rfl⟩
  case round =>
    obtain ⟨p, q, n, rfl, rfl, hp, hq, H, rfl⟩ := hrel
    by_cases hpq : p = [] ∧ q = []
    · obtain ⟨rfl, rfl⟩ := hpq
      go_wp2
      go_ret
      exact ⟨ret_int (by rw [H.out]; rfl), _, rfl⟩
    · have hm : (Vm.nr p).length + (Vm.nr q).length < p.length + q.length := by
        have h1 := nr_le p p.length (Nat.le_refl _)
        have h2 := nr_le q q.length (Nat.le_refl _)
        by_cases e : p = []
        · have := nr_lt q (fun h => hpq ⟨e, h⟩); omega
        · have := nr_lt p e; omega
      have hg : (p.isEmpty = false) ∨ (p.isEmpty = true ∧ q.isEmpty = false) := by
        cases p with
        | nil => right; cases q with
          | nil => simp at hpq
          | cons c q => simp
        | cons c p => left; rfl
      clear hpq
      have HT : Hid (Vm.pc p q = if Vm.cw (Vm.wd p) (Vm.wd q) = 0 then (if Vm.cn (Vm.nm p) (Vm.nm q) = 0 then Vm.pc (Vm.nr p) (Vm.nr q) else Vm.cn (Vm.nm p) (Vm.nm q)) else Vm.cw (Vm.wd p) (Vm.wd q)) := Vm.pc_turn p q
      rcases hg with hg | ⟨hg, hg2⟩
      all_goals
        go_wp2_with fail
        refine (cutw p _ hp).mono ?_
        rintro e w' ⟨rfl, n1, rfl⟩
        go_wp2_with fail
        refine (cutw q _ hq).mono ?_
        rintro e w' ⟨rfl, n2, rfl⟩
        go_wp2_with fail
        refine (words_any (Vm.wd p) (Vm.wd q) _ (wd_le p 200 hp) (wd_le q 200 hq)).mono ?_
        rintro e w' ⟨rfl, rfl⟩
        go_wp2_with fail
        · go_ret
          exact ⟨ret_int (by rw [H.out, HT.out, if_neg (by simpa using ‹(Vm.cw (Vm.wd p) (Vm.wd q) != 0) = true›)]), _, rfl⟩
        · have h0 : Vm.cw (Vm.wd p) (Vm.wd q) = 0 := by simpa using ‹(Vm.cw (Vm.wd p) (Vm.wd q) != 0) = false›
          have H0 : Hid (Vm.cw (Vm.wd p) (Vm.wd q) = 0) := h0
          clear h0
          refine (cutn p _ hp).mono ?_
          rintro e w' ⟨rfl, n3, rfl⟩
          go_wp2_with fail
          refine (cutn q _ hq).mono ?_
          rintro e w' ⟨rfl, n4, rfl⟩
          go_wp2_with fail
          refine (numbers_any (Vm.nm p) (Vm.nm q) _ (Vm.nm_dg p) (Vm.nm_dg q)).mono ?_
          rintro e w' ⟨rfl, rfl⟩
          go_wp2_with fail
          · go_ret
            exact ⟨ret_int (by rw [H.out, HT.out, if_pos H0.out, if_neg (by simpa using ‹(Vm.cn (Vm.nm p) (Vm.nm q) != 0) = true›)]), _, rfl⟩
          · have h1 : Vm.cn (Vm.nm p) (Vm.nm q) = 0 := by simpa using ‹(Vm.cn (Vm.nm p) (Vm.nm q) != 0) = false›
            exact ⟨⟨Vm.nr p, Vm.nr q, _, rfl, rfl, nr_le p 200 hp, nr_le q 200 hq, by show Vm.pc a b = _; rw [H.out, HT.out, if_pos H0.out, if_pos h1], rfl⟩, hm⟩

end Go.Proofs.YtoijkbhgajghdaaGreatDoor
