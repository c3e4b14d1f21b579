/- The keeper's pick, steps, short, texts, and its fact on a status that waits. -/
import Derived.Test.YtoojbpldhhbkbaaDoorHf
import Derived.Test.YtoojbpldhhbkbaaDoorNa
import Derived.IntWalk
namespace Go.Proofs.YtoojbpldhhbkbaaDoor
open Go.RowKit Go.Shelf Go.Sort

theorem u64_pos (a : Int) : 0 ≤ IntKind.u64.wrap a := by
  have e : IntKind.u64.wrap a = a % 18446744073709551616 := by unfold IntKind.wrap; rfl
  rw [e]; omega
def pk (a : Int) : Nat := ((IntKind.u64.wrap a).tmod 8).toNat
theorem pk_lt (a : Int) : pk a < 8 := by
  unfold pk
  rw [Int.tmod_eq_emod_of_nonneg (u64_pos a)]
  omega
theorem pk_eq (a : Int) : (IntKind.u64.wrap a).tmod 8 = (pk a : Int) := by
  unfold pk
  rw [Int.tmod_eq_emod_of_nonneg (u64_pos a)]
  omega
set_option maxRecDepth 100000 in
theorem pick_any (a : Int) (w : World) : Calls Tryd.prog 15 #[.int .i64 a, .int .i64 8] w fun e w' => e = .returned (.int .i64 (pk a : Nat)) ∧ w' = w := by
  have HE := Lib.hid (pk_eq a)
  have hk := pk_lt a
  go_enter Tryd.func15, Tryd.ntmps15
  go_wp2
  go_ret
  exact ⟨ret_int (by rw [HE.out, w64 _ (by omega) (by omega)]), rfl⟩
theorem next_ok {s e t : Int} (h : nx s e = (t, 0)) (w : World) (hO : Oc w) : Calls Tryd.prog 6 #[.int .i64 s, .int .i64 e] w fun x w' => x = .returned (.tuple #[.int .i64 t, .nilIface]) ∧ w' = w := by
  have := next_any s e w hO
  rw [h] at this
  exact this
theorem may_ok {s e t : Int} (h : nx s e = (t, 0)) (w : World) (hO : Oc w) : Calls Tryd.prog 8 #[.int .i64 s, .int .i64 e] w fun x w' => x = .returned (.bool true) ∧ w' = w := by
  have := may_any s e w hO
  unfold mayB at this
  rw [h] at this
  exact this
set_option maxRecDepth 100000 in
set_option maxHeartbeats 1600000 in
theorem steps_any (st ev : Nat → Int) (h : ∀ k, k < 4 → nx (st k) (ev k) = (st (k + 1), 0)) (b : Nat) (w : World) (hO : Oc w) (hc : ∀ k, k < 4 → w.cell? ⟨b, k, none⟩ = some (.int .i64 (ev k))) :
    Calls Tryd.prog 16 #[.int .i64 (st 0), .slice (some ⟨b, 0, none⟩) 4 4] w fun x w' => x = .returned (.tuple #[.int .i64 (st 4), .bool true]) ∧ w' = w := by
  have HN := Lib.hid h
  have HC := Lib.hid hc
  have HO := Lib.hid hO
  clear h hc hO
  go_enter Tryd.func16, Tryd.ntmps16
  go_wp2
  go_loopw [0, 6] (fun s i W => ∃ k : Nat, k ≤ 4 ∧ i = .int .i64 k ∧ s = .int .i64 (st k) ∧ W = w) (fun _ i _ => 4 - (intOf i).toNat)
  case atStart => exact ⟨0, by omega, rfl, rfl, rfl⟩
  case round =>
    obtain ⟨k, hk, rfl, rfl, rfl⟩ := hrel
    by_cases hlt : k < 4
    · have c0 := HC.out k hlt
      have cN := next_ok (HN.out k hlt) wr HO.out
      have cM := may_ok (HN.out k hlt) wr HO.out
      have hi : (k : Int) < 4 := by omega
      generalize ev k = e at c0 cN cM
      generalize st k = s1 at cN cM ⊢
      generalize hs2 : st (k + 1) = s2 at cN
      go_wp2_with (first | (go_at_call 6; refine cN.mono ?_; rintro x w' ⟨rfl, rfl⟩) | (go_at_call 8; refine cM.mono ?_; rintro x w' ⟨rfl, rfl⟩))
      exact ⟨⟨k + 1, by omega, by go_num, by rw [hs2], trivial⟩, by simp [intOf]; omega⟩
    · obtain rfl : k = 4 := by omega
      go_wp2
      go_ret2
      exact ⟨rfl, rfl⟩
def ste (k : Nat) : Nat → Int | 0 => k | 1 => 2 | 2 => 3 | 3 => 4 | _ => 7
def eve : Nat → Int | 0 => 1 | 1 => 2 | 2 => 3 | _ => 4
def stl (k : Nat) : Nat → Int | 0 => k | 1 => 2 | 2 => 2 | 3 => 1 | _ => 0
def evl : Nat → Int | 0 => 1 | 1 => 6 | 2 => 7 | _ => 8
theorem ste_ok : ∀ s, s < 8 → ∀ k, k < 4 → nx (ste s k) (eve k) = (ste s (k + 1), 0) := by decide
theorem stl_ok : ∀ s, s < 8 → ∀ k, k < 4 → nx (stl s k) (evl k) = (stl s (k + 1), 0) := by decide
theorem steps_e (s : Nat) (hs : s < 8) (b : Nat) (w : World) (hO : Oc w) (c0 : w.cell? ⟨b, 0, none⟩ = some (.int .i64 1)) (c1 : w.cell? ⟨b, 1, none⟩ = some (.int .i64 2)) (c2 : w.cell? ⟨b, 2, none⟩ = some (.int .i64 3)) (c3 : w.cell? ⟨b, 3, none⟩ = some (.int .i64 4)) :
    Calls Tryd.prog 16 #[.int .i64 s, .slice (some ⟨b, 0, none⟩) 4 4] w fun x w' => x = .returned (.tuple #[.int .i64 7, .bool true]) ∧ w' = w :=
  steps_any (ste s) eve (ste_ok s hs) b w hO fun k hk => by
    match k, hk with
    | 0, _ => exact c0
    | 1, _ => exact c1
    | 2, _ => exact c2
    | 3, _ => exact c3
theorem steps_l (s : Nat) (hs : s < 8) (b : Nat) (w : World) (hO : Oc w) (c0 : w.cell? ⟨b, 0, none⟩ = some (.int .i64 1)) (c1 : w.cell? ⟨b, 1, none⟩ = some (.int .i64 6)) (c2 : w.cell? ⟨b, 2, none⟩ = some (.int .i64 7)) (c3 : w.cell? ⟨b, 3, none⟩ = some (.int .i64 8)) :
    Calls Tryd.prog 16 #[.int .i64 s, .slice (some ⟨b, 0, none⟩) 4 4] w fun x w' => x = .returned (.tuple #[.int .i64 0, .bool true]) ∧ w' = w :=
  steps_any (stl s) evl (stl_ok s hs) b w hO fun k hk => by
    match k, hk with
    | 0, _ => exact c0
    | 1, _ => exact c1
    | 2, _ => exact c2
    | 3, _ => exact c3
theorem kshort_any (e : Int) (u r : List UInt8) (w : World) : Calls Tryd.prog 9 #[.agg #[.int .i64 e, .string ⟨u.toArray⟩, .string ⟨r.toArray⟩]] w fun x w' =>
    x = .returned (.bool (decide (u.length ≤ 100) && decide (r.length ≤ 100))) ∧ Below w.heap.size w w' := by
  have hb : ∀ o, Below w.heap.size w (w.alloc o) := fun o => (Below.refl _ _).alloc (Nat.le_refl _) _
  by_cases h1 : u.length ≤ 100
  all_goals by_cases h2 : r.length ≤ 100
  all_goals
    go_enter Tryd.func9, Tryd.ntmps9
    go_wp2
    go_ret
    exact ⟨ret_bool (by apply Bool.eq_iff_iff.2; constructor <;> intro hh <;> simp at hh ⊢ <;> omega), hb _⟩
theorem texts_long (A : Option Addr) (n c : Nat) (w : World) (h : 40 < n) : Calls Tryd.prog 10 #[.slice A n c] w fun e w' => e = .returned (.bool false) ∧ w' = w := by
  go_enter Tryd.func10, Tryd.ntmps10
  go_wp2
  go_ret
  exact ⟨rfl, rfl⟩
theorem texts_nil (A : Option Addr) (c : Nat) (w : World) : Calls Tryd.prog 10 #[.slice A 0 c] w fun e w' => e = .returned (.bool true) ∧ w' = w := by
  go_enter Tryd.func10, Tryd.ntmps10
  go_wp2
  refine wp_loop_rounds 1 ?_
  rw [rounds_succ]
  go_wp2
  go_ret
  exact ⟨rfl, rfl⟩
set_option maxHeartbeats 1600000 in
theorem texts_row (b o c : Nat) (l : List (List UInt8)) (w : World) (h : Sr w b o l) (hn : l.length ≤ 40) : Calls Tryd.prog 10 #[.slice (some ⟨b, o, none⟩) l.length c] w fun e w' => e = .returned (.bool (l.all fun s => decide (s.length ≤ 100))) ∧ w' = w := by
  obtain ⟨r, hr⟩ : ∃ r, r = (l.all fun s => decide (s.length ≤ 100)) := ⟨_, rfl⟩
  rw [← hr]
  have HR := Lib.hid hr
  have HF := Lib.hid h
  clear h hr
  go_enter Tryd.func10, Tryd.ntmps10
  go_wp2
  go_loop [3] (fun i => ∃ k : Nat, k ≤ l.length ∧ i = .int .i64 k ∧ Hid (∀ j (hj : j < l.length), j < k → decide (l[j].length ≤ 100) = true)) (fun i => l.length - (intOf i).toNat)
  case atStart => exact ⟨0, Nat.zero_le _, rfl, fun j _ h => absurd h (Nat.not_lt_zero _)⟩
  case round =>
    obtain ⟨k, hk, rfl, HP⟩ := hrel
    by_cases hlt : k < l.length
    · have c0 := HF.out.c k hlt
      by_cases h1 : l[k].length ≤ 100
      · have HG : Hid (∀ j (hj : j < l.length), j < k + 1 → decide (l[j].length ≤ 100) = true) := fun j hj h => by
          by_cases e : j = k
          · subst e; exact decide_eq_true h1
          · exact HP.out j hj (by omega)
        go_wp2
        exact ⟨⟨k + 1, hlt, by go_num, HG⟩, by simp [intOf]; omega⟩
      · have hr : r = false := by rw [HR.out]; exact all_f k hlt (decide_eq_false h1)
        subst hr
        go_wp2
        go_ret
        exact ⟨rfl, rfl⟩
    · have hr : r = true := by rw [HR.out]; exact all_t (fun j hj => HP.out j hj (by omega))
      subst hr
      go_wp2
      go_ret
      exact ⟨rfl, rfl⟩
theorem texts_any (v : Value) (l : List (List UInt8)) (w : World) (h : Ss w v l) : Calls Tryd.prog 10 #[v] w fun e w' => e = .returned (.bool (txs l)) ∧ Below w.heap.size w w' := by
  have up : ∀ {y : Bool} {e : Ending} {w' : World}, (e = .returned (.bool y) ∧ w' = w) → txs l = y → e = .returned (.bool (txs l)) ∧ Below w.heap.size w w' := fun ⟨h1, h2⟩ hy => ⟨by rw [h1, hy], by rw [h2]; exact Below.refl _ _⟩
  rcases h.is with ⟨rfl, A, c, rfl⟩ | ⟨b, o, c, rfl, _, hf⟩
  · exact (texts_nil A c w).mono fun _ _ h => up h rfl
  · by_cases hn : l.length ≤ 40
    · exact (texts_row b o c l w hf hn).mono fun _ _ h => up h (by unfold txs; rw [decide_eq_true hn]; rfl)
    · exact (texts_long _ _ c w (by omega)).mono fun _ _ h => up h (by unfold txs; rw [decide_eq_false hn]; rfl)
/-- The fact's status. -/
def x0 : Sta := ⟨5, 0, [49, 46, 48], [], false, [[97, 97], [98, 98]], []⟩
def s0 : List UInt8 := [53, 32, 49, 46, 48, 32, 102, 114, 101, 101, 32, 97, 97, 44, 98, 98, 32, 45]
theorem x0_is : IsS s0 x0 := ⟨by decide, by
  rw [stx_eq]
  rw [show Lib.itoa x0.n = [UInt8.ofNat (48 + (5 : Int).toNat)] from itoa_one (n := 5) (by decide) (by decide)]
  decide⟩
set_option maxRecDepth 100000 in
set_option maxHeartbeats 1600000 in
theorem stood_any (w : World) (ht : Tab w) (g : Gb w) (hO : Oc w) : Calls Tryd.prog 11 #[] w fun x w' => x = .returned (.bool true) ∧ Below w.heap.size w w' := by
  have cP : Calls Tryd.prog 13 #[.string ⟨#[53, 32, 49, 46, 48, 32, 102, 114, 101, 101, 32, 97, 97, 44, 98, 98, 32, 45]⟩] w fun e w' => Par s0 e w w' := sparse_any s0 (by decide) w ht g
  have hr := rds_some x0_is
  have HO := Lib.hid hO
  have hN : nx 2 2 = (3, 0) := by decide
  clear ht g hO
  go_enter Tryd.func11, Tryd.ntmps11
  go_wp2_with fail
  refine cP.mono ?_
  rintro e w1 ⟨⟨rfl, h⟩ | ⟨x, A, n, c, A', n', c', rfl, hW, hT, hg, h⟩, b1⟩
  · rw [hr] at h; cases h
  · obtain rfl : x0 = x := by rw [hr] at h; exact Option.some.inj h
    have hl : n = 2 := by
      obtain ⟨B, d, e⟩ := hW.sl
      cases e; rfl
    subst hl
    have b2 := bt2 b1 (bA1 w1 (sto x0.n x0.e x0.u x0.r x0.held (.slice A 2 c) (.slice A' n' c') 35))
    have cN := next_ok hN _ (HO.out.on b2)
    clear hr h hW hT hg cP
    have e1 : x0.n = 5 := rfl
    rw [e1] at cN ⊢
    go_wp2_with fail
    refine cN.mono ?_
    rintro e w3 ⟨rfl, rfl⟩
    go_wp2
    go_ret
    exact ⟨rfl, b2⟩
end Go.Proofs.YtoojbpldhhbkbaaDoor
