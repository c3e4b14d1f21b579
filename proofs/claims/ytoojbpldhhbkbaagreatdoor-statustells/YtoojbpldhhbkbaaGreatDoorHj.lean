/- The reference's Number of one digit; what ParseStatus reads. -/
import Derived.Test.YtoojbpldhhbkbaaGreatDoorHi
import Derived.Test.YtoojbpldhhbkbaaGreatDoorRc
namespace Go.Proofs.YtoojbpldhhbkbaaGreatDoor
open Go.RowKit Go.Shelf Go.Sort

/-- A text of one digit. -/
def one (l : List UInt8) : Option Int := match l with
  | [c] => if Vm.dg c then some ((c.toNat : Int) - 48) else none
  | _ => none
def onv : Option Int → Value
  | none => .tuple #[.int .i64 0, .bool false]
  | some n => .tuple #[.int .i64 n, .bool true]
theorem one_itoa {n : Int} (h0 : 0 ≤ n) (h7 : n ≤ 7) : one (Lib.itoa n) = some n := by
  rw [itoa_one h0 h7]
  obtain ⟨k, rfl⟩ : ∃ k : Nat, n = k := ⟨n.toNat, by omega⟩
  have : k < 8 := by omega
  match k, this with
  | 0, _ | 1, _ | 2, _ | 3, _ | 4, _ | 5, _ | 6, _ | 7, _ => rfl
theorem num1_nil (w : World) : Calls Tryz.prog 36 #[.string ⟨([] : List UInt8).toArray⟩, .int .i64 1] w fun e w' => e = .returned (.tuple #[.int .i64 0, .bool false]) ∧ w' = w := by
  go_enter Tryz.func36, Tryz.ntmps36
  go_wp2
  go_ret2
  exact ⟨rfl, rfl⟩
theorem num1_long (l : List UInt8) (w : World) (h : 1 < l.length) : Calls Tryz.prog 36 #[.string ⟨l.toArray⟩, .int .i64 1] w fun e w' => e = .returned (.tuple #[.int .i64 0, .bool false]) ∧ w' = w := by
  have h' : (1 : Int) < (l.length : Int) := by omega
  have h0 : ((l.length : Int) == 0) = false := by rw [beq_eq_false_iff_ne]; omega
  go_enter Tryz.func36, Tryz.ntmps36
  go_wp2
  all_goals go_ret2
  all_goals exact ⟨rfl, rfl⟩
set_option maxHeartbeats 800000 in
set_option maxRecDepth 100000 in
theorem num1_loop (l : List UInt8) (w : World) (hl : l.length ≤ 1) (h0 : 0 < (ByteArray.mk l.toArray).size) (g0 : l.length = 1 ∨ (1 < l.length ∧ ((((ByteArray.mk l.toArray)[0]'h0).toNat : Int) == 48) = false)) : Calls Tryz.prog 36 #[.string ⟨l.toArray⟩, .int .i64 1] w fun e w' =>
    e = .returned (.tuple #[.int .i64 (if l.all Vm.dg = true then Vm.vl 0 l else 0), .bool (l.all Vm.dg)]) ∧ w' = w := by
  obtain ⟨A, hA⟩ : ∃ A, A = (if l.all Vm.dg = true then (Vm.vl 0 l : Int) else 0) := ⟨_, rfl⟩
  have HA : Hid (A = (if l.all Vm.dg = true then (Vm.vl 0 l : Int) else 0)) := hA
  rw [← hA]
  clear hA
  have hz : ((l.length : Int) == 0) = false := by rw [beq_eq_false_iff_ne]; have : 0 < l.length := h0; omega
  rcases g0 with g0 | ⟨g0, g1⟩
  case' inr => exact absurd g0 (by omega)
  all_goals
    go_enter Tryz.func36, Tryz.ntmps36
    go_wp2
    go_loop [6, 29] (fun n i => ∃ k m : Nat, k ≤ l.length ∧ i = .int .i64 k ∧ n = .int .i64 m ∧ m < 1000000000 ∧ Hid (m = Vm.vl 0 (l.take k)) ∧ Hid (∀ j (hj : j < l.length), j < k → Vm.dg l[j] = true)) (fun _ i => l.length - (intOf i).toNat)
    case atStart => exact ⟨0, 0, Nat.zero_le _, rfl, rfl, by decide, rfl, fun j _ h => absurd h (Nat.not_lt_zero _)⟩
    case round =>
      obtain ⟨k, m, hk, rfl, rfl, hm, HV, HP⟩ := hrel
      by_cases hlt : k < l.length
      · go_wp2_with (go_at_call 51; refine (xdigit_any _ _).mono ?_; rintro e w' ⟨rfl, rfl⟩)
        · go_ret2
          have hd : Vm.dg l[k] = false := by have h : (!Vm.dg l[k]) = true := ‹_›; simpa using h
          have ha : l.all Vm.dg = false := (all_no k hlt hd).symm
          exact ⟨by rw [HA.out, ha]; simp, rfl⟩
        · have hd : Vm.dg l[k] = true := by have h : (!Vm.dg l[k]) = false := ‹_›; simpa using h
          have hp : ∀ j (hj : j < l.length), j < k + 1 → Vm.dg l[j] = true := fun j hj h => by
            by_cases e : j = k
            · subst e; exact hd
            · exact HP.out j hj (by omega)
          have hv : 10 * m + (l[k].toNat - 48) = Vm.vl 0 (l.take (k + 1)) := by rw [Vm.vl_take l k hlt, HV.out]
          exact ⟨⟨k + 1, 10 * m + (l[k].toNat - 48), hlt, by go_num, num_val hd, by rw [hv]; exact Vm.vl_take_lt l (k + 1) (by omega) hp, hv, hp⟩, by simp [intOf]; omega⟩
      · go_wp2
        go_ret2
        have ha : l.all Vm.dg = true := (all_to (fun j hj => HP.out j hj (by omega))).symm
        have hkl : k = l.length := by omega
        exact ⟨by rw [HA.out, ha, HV.out, hkl, List.take_length]; simp, rfl⟩
theorem num1_any (l : List UInt8) (w : World) : Calls Tryz.prog 36 #[.string ⟨l.toArray⟩, .int .i64 1] w fun e w' => e = .returned (onv (one l)) ∧ w' = w := by
  match l with
  | [] => exact num1_nil w
  | [c] =>
    refine (num1_loop [c] w (by simp) (by simp [ByteArray.size]) (Or.inl rfl)).mono fun e w' h => ⟨?_, h.2⟩
    rw [h.1]
    unfold one
    cases hd : Vm.dg c with
    | false => simp [onv, hd]
    | true =>
      have : 48 ≤ c.toNat := by unfold Vm.dg at hd; simp at hd; omega
      simp [onv, hd, Vm.vl]
      omega
  | a :: b :: t => exact num1_long (a :: b :: t) w (by simp)
/-- What the reference reads of words. -/
def rvR (s : List UInt8) : Int × List UInt8 × List UInt8 := if s = [45] then (0, [], []) else (Vm.pv s).getD (0, [], [])
def rlR (s : List UInt8) : List (List UInt8) := if s = [45] then [] else spk 44 (s.count 44) s
def rdR (n : Int) (w1 w2 w3 w4 : List UInt8) : Sta := ⟨n, (rvR w1).1, (rvR w1).2.1, (rvR w1).2.2, w2 == [104, 101, 108, 100], rlR w3, rlR w4⟩
theorem words_ref {s : List UInt8} {x : Sta} (h : IsS s x) : spk 32 (s.count 32) s = wds x := (words_of h _ (by rw [(words_of h 4 (by omega)).2]; omega)).1
theorem rlR_W {x : Sta} (h : Wok x) : rlR (ltx x.W) = x.W := by
  unfold rlR
  split
  · rename_i e; exact (h.W0 e).symm
  · rename_i e; exact (h.W1 e).1 _ (by have := (h.W1 e).2; omega)
theorem rlR_T {x : Sta} (h : Wok x) : rlR (ltx x.T) = x.T := by
  unfold rlR
  split
  · rename_i e; exact (h.T0 e).symm
  · rename_i e; exact (h.T1 e).1 _ (by have := (h.T1 e).2; omega)
theorem rvR_v {x : Sta} (h : Wok x) : rvR (vtx x) = (x.e, x.u, x.r) := by
  unfold rvR
  split
  · rename_i e; obtain ⟨h1, h2, h3⟩ := h.v0 e; rw [h1, h2, h3]
  · rename_i e; rw [(h.v1 e).1]; rfl
theorem rdsR_words {s : List UInt8} (h : (spk 32 (s.count 32) s).length ≠ 5) : rds s = none :=
  rds_none fun x hx => h (by rw [words_ref hx]; rfl)
theorem rdsR {s w0 w1 w2 w3 w4 : List UInt8} (hw : spk 32 (s.count 32) s = [w0, w1, w2, w3, w4]) (n : Int) (hn : (one w0).getD 0 = n) :
    rds s = if (one w0).isSome && (sok (rdR n w1 w2 w3 w4) && (stx (rdR n w1 w2 w3 w4) == s)) then some (rdR n w1 w2 w3 w4) else none := by
  split
  · rename_i h
    simp only [Bool.and_eq_true, beq_iff_eq] at h
    exact rds_some ⟨h.2.1, h.2.2⟩
  · rename_i h
    refine rds_none fun x hx => h ?_
    have e := (words_ref hx).symm.trans hw
    unfold wds at e
    simp only [List.cons.injEq, and_true] at e
    have hk := wok_of hx.ok
    obtain ⟨e0, e1, e2, e3, e4⟩ := e
    have ho : one w0 = some x.n := by rw [← e0]; exact one_itoa hk.n0 hk.n7
    have en : n = x.n := by rw [← hn, ho]; rfl
    have : rdR n w1 w2 w3 w4 = x := by
      unfold rdR
      rw [en, ← e1, ← e2, ← e3, ← e4, htx_back, rlR_W hk, rlR_T hk, rvR_v hk]
    rw [this, hx.ok, hx.tx, ho]
    simp
theorem rvR_small (s : List UInt8) : 0 ≤ (rvR s).1 ∧ (rvR s).1 < 1000000000 ∧ (rvR s).2.1.length ≤ 40 ∧ (rvR s).2.2.length ≤ 40 := by
  unfold rvR
  split
  · simp
  · cases hp : Vm.pv s with
    | none => simp
    | some v => obtain ⟨h1, h2, h3, h4, _⟩ := Vm.rt_parts (pv_rt hp); exact ⟨h1, h2, h3, h4⟩
theorem rlR_le (s : List UInt8) (hs : s.length ≤ 400) : (rlR s).length ≤ 1000 ∧ ∀ p ∈ rlR s, p.length ≤ 400 := by
  unfold rlR
  split
  · simp
  · have := List.count_le_length (a := (44 : UInt8)) (l := s)
    exact ⟨by have := spk_len 44 (s.count 44) s; omega, fun p hp => Nat.le_trans (spk_small 44 _ s p hp) hs⟩
end Go.Proofs.YtoojbpldhhbkbaaGreatDoor
