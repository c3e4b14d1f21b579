/- The walk of depend's rightTerm. -/
import Derived.Test.YtppogjjhippefaaGreatDoorTx
import Derived.Test.YtppogjjhippefaaGreatDoorPf
import Derived.Test.YtppogjjhippefaaGreatDoorTb
import Derived.Test.YtppogjjhippefaaGreatDoorDx
import Derived.Test.YtppogjjhippefaaGreatDoorRx
import Derived.RangeFuncBound
import Derived.RangeFuncCalls
import Derived.Shelf.Abstract
import Derived.Shelf.RegionOpen
import Derived.WalkKit
import Derived.OwnWalkIn
import Derived.TacticsInMore
import Derived.LoopNIn
import Derived.LoopIn
namespace Go.Proofs.YtppogjjhippefaaGreatDoor
open Go.RowKit Go.Shelf Go.Sort

/-- A term that may be. -/
def tok (t : Tm) : Bool := nmo t.n && (if t.o = 0 then decide (t.e = 0) && (decide (t.u = []) && decide (t.r = [])) else decide (0 < t.o) && (decide (t.o < 6) && Vm.rt t.e t.u t.r))
/-- Of numbers that a word holds, and short. -/
structure Shn (t : Tm) : Prop where
  o0 : -9223372036854775808 ≤ t.o
  o1 : t.o ≤ 9223372036854775807
  e0 : -9223372036854775808 ≤ t.e
  e1 : t.e ≤ 9223372036854775807
  u : t.u.length ≤ 200
  r : t.r.length ≤ 200
def tmv (t : Tm) : Value := .agg #[.string ⟨t.n.toArray⟩, .int .i64 t.o, .int .i64 t.e, .string ⟨t.u.toArray⟩, .string ⟨t.r.toArray⟩]

set_option maxHeartbeats 800000 in
set_option maxRecDepth 100000 in
theorem rterm_no (t : Tm) (w : World) (hn : nmo t.n = false) : Calls Tryz.prog 179 #[tmv t] w fun x w' => x = .returned (.bool (tok t)) ∧ Below w.heap.size w w' := by
  have HK : Hid (tok t = false) := by show tok t = false; unfold tok; rw [hn]; rfl
  have cN := fun W => name_any t.n W
  rw [hn] at cN
  unfold tmv
  go_enter Tryz.func179, Tryz.ntmps179
  go_wp2_with fail
  refine (cN _).mono ?_
  rintro x w1 ⟨rfl, b1⟩
  go_wp2
  go_ret
  exact ⟨ret_bool HK.out.symm, bt2 (bA1 _ _) b1⟩
set_option maxHeartbeats 800000 in
set_option maxRecDepth 100000 in
theorem rterm_any0 (t : Tm) (w : World) (hn : nmo t.n = true) (ho : t.o = 0) : Calls Tryz.prog 179 #[tmv t] w fun x w' => x = .returned (.bool (tok t)) ∧ Below w.heap.size w w' := by
  obtain ⟨y, hy⟩ : ∃ y, y = tok t := ⟨_, rfl⟩
  have HK : Hid (y = (decide (t.e = 0) && (decide (t.u = []) && decide (t.r = [])))) := by show y = _; rw [hy]; unfold tok; rw [hn, if_pos ho]; rfl
  rw [← hy]
  have cN := fun W => name_any t.n W
  rw [hn] at cN
  unfold tmv
  rw [ho]
  clear ho hn hy
  go_enter Tryz.func179, Tryz.ntmps179
  go_wp2_with fail
  refine (cN _).mono ?_
  rintro x w1 ⟨rfl, b1⟩
  have tK := (K5.new w (.string ⟨t.n.toArray⟩) (.int .i64 0) (.int .i64 t.e) (.string ⟨t.u.toArray⟩) (.string ⟨t.r.toArray⟩) 125).on b1
  have hb := bt2 (bA1 _ _) b1
  obtain ⟨t0, t1, t2, t3, t4, tf, tl⟩ := tK
  clear b1 cN
  go_wp2
  all_goals
    go_ret
    refine ⟨ret_bool ?_, hb⟩
    rw [HK.out]
    simp_all

set_option maxHeartbeats 800000 in
set_option maxRecDepth 100000 in
theorem rterm_op (t : Tm) (w : World) (h : Shn t) (hT : Tab w) (hn : nmo t.n = true) (ho : ¬ t.o = 0) : Calls Tryz.prog 179 #[tmv t] w fun x w' => x = .returned (.bool (tok t)) ∧ Below w.heap.size w w' := by
  obtain ⟨y, hy⟩ : ∃ y, y = tok t := ⟨_, rfl⟩
  have HK : Hid (y = (decide (0 < t.o) && (decide (t.o < 6) && Vm.rt t.e t.u t.r))) := by show y = _; rw [hy]; unfold tok; rw [hn, if_neg ho]; rfl
  rw [← hy]
  have cN := fun W => name_any t.n W
  rw [hn] at cN
  have cR := fun W (hW : Below w.heap.size w W) => right_any t.e t.u t.r W h.e0 h.e1 h.u h.r (tab_on hT hW)
  obtain ⟨z, hz⟩ : ∃ z, z = Vm.rt t.e t.u t.r := ⟨_, rfl⟩
  rw [← hz] at cR HK
  unfold tmv
  clear hn hy hT hz h
  go_enter Tryz.func179, Tryz.ntmps179
  go_wp2_with fail
  refine (cN _).mono ?_
  rintro x w1 ⟨rfl, b1⟩
  have tK := (K5.new w (.string ⟨t.n.toArray⟩) (.int .i64 t.o) (.int .i64 t.e) (.string ⟨t.u.toArray⟩) (.string ⟨t.r.toArray⟩) 125).on b1
  have hb := bt2 (bA1 _ _) b1
  obtain ⟨t0, t1, t2, t3, t4, tf, tl⟩ := tK
  clear b1 cN
  by_cases h0 : 0 < t.o
  · by_cases h6 : t.o < 6
    · go_wp2_with fail
      refine (cR _ hb).mono ?_
      rintro x w2 ⟨rfl, b2⟩
      go_wp2
      go_ret
      exact ⟨ret_bool (by rw [HK.out]; simp [h0, h6]), bt2 hb b2⟩
    · go_wp2
      go_ret
      exact ⟨ret_bool (by rw [HK.out]; simp; intro _ _; omega), hb⟩
  · go_wp2
    go_ret
    exact ⟨ret_bool (by rw [HK.out]; simp; intro _ _; omega), hb⟩

/-- Whether a term may be. -/
theorem rterm_any (t : Tm) (w : World) (h : Shn t) (hT : Tab w) : Calls Tryz.prog 179 #[tmv t] w fun x w' => x = .returned (.bool (tok t)) ∧ Below w.heap.size w w' := by
  cases hn : nmo t.n with
  | false => exact rterm_no t w hn
  | true =>
    by_cases ho : t.o = 0
    · exact rterm_any0 t w hn ho
    · exact rterm_op t w h hT hn ho

end Go.Proofs.YtppogjjhippefaaGreatDoor
namespace Go.Proofs.YtppogjjhippefaaGreatDoor
open Go.RowKit Go.Shelf Go.Sort
attribute [local go_sem] Oper.semAt_some

/-- What the k-th round of all hands over. -/
def alE (F : List Tm) (k : Nat) : Array Value := #[tmv (F[k]?.getD default)]

theorem flat_at : ∀ (l : List (List Tm)) (i j : Nat) (hi : i < l.length) (hj : j < l[i].length), (l.flatten)[(l.take i).flatten.length + j]? = some l[i][j]
  | x :: l, 0, j, _, hj => by
    simp only [List.take_zero, List.flatten_nil, List.length_nil, Nat.zero_add, List.flatten_cons, List.getElem_cons_zero]
    have hj' : j < x.length := hj
    rw [List.getElem?_append_left hj', List.getElem?_eq_getElem hj']
  | x :: l, i + 1, j, hi, hj => by
    simp only [List.take_succ_cons, List.flatten_cons, List.length_append, List.getElem_cons_succ]
    rw [List.getElem?_append_right (by omega), show x.length + (l.take i).flatten.length + j - x.length = (l.take i).flatten.length + j by omega]
    exact flat_at l i j (by simpa using hi) hj
theorem flat_succ (l : List (List Tm)) (i : Nat) (hi : i < l.length) : (l.take (i + 1)).flatten.length = (l.take i).flatten.length + l[i].length := by
  rw [List.take_succ_eq_append_getElem hi, List.flatten_append, List.length_append]; congr 1; simp

set_option maxRecDepth 100000 in
set_option maxHeartbeats 2000000 in
theorem all_row (b o c : Nat) (l : List (List Tm)) (hl : l.length ≤ 1000) (hx : ∀ x ∈ l, x.length ≤ 1000) (n ll Bs : Nat) (w : World) (J : Nat → World → Prop) (Jx : World → Prop) (W : World) (hJ : ∀ k A B, J k A → Below A.heap.size A B → J k B) (hA : Al w b o l) (hW : Below w.heap.size w W)
    (hY : ∀ k W1, k < l.flatten.length → J k W1 → YieldAt Fence.wide (n - 1) Tryz.prog ll (alE l.flatten k) W1 fun e W' => (e = .returned (.bool true) ∧ J (k + 1) W' ∧ Below w.heap.size W1 W') ∨ (e = .returned (.bool false) ∧ Jx W'))
    (hc : W.cell? ⟨Bs, 0, none⟩ = some (.slice (some ⟨b, o, none⟩) l.length c)) (h0 : J 0 W) :
    CallsIn Fence.wide n Tryz.prog 203 #[.func (.yield ll) #[] #[], .pointer (some ⟨Bs, 0, none⟩)] W fun e W' => (∃ v, e = .returned v) ∧ (J l.flatten.length W' ∨ Jx W') := by
  have HA := Lib.hid hA
  have HX := Lib.hid hx
  have HY := Lib.hid hY
  clear hA hx hY
  refine callsIn_of_wp Tryz.func203 rfl trivial ?_ rfl
  simp only [Tryz.ntmps203, List.size_toArray, List.length_cons, List.length_nil, Nat.reduceAdd, Nat.reduceSub, Array.replicate_succ, Array.replicate_zero, List.push_toArray, List.append_toArray, List.nil_append, List.cons_append]
  gi_wp2
  gi_loopw [9] (fun v wr => ∃ i : Nat, i ≤ l.length ∧ v = .int .i64 i ∧ Below w.heap.size w wr ∧ J ((l.take i).flatten.length) wr) (fun v _ => l.length - (intOf v).toNat)
  case atStart => exact ⟨0, Nat.zero_le _, rfl, hW, by simpa using h0⟩
  case round =>
    obtain ⟨i, hi, rfl, hb, hJi⟩ := hrel
    by_cases hlt : i < l.length
    · obtain ⟨vi, c0, hT⟩ := HA.out.c i hlt
      have c1 : wr.cell? ⟨b, o + i, none⟩ = some vi := (hb.cell (p := ⟨b, o + i, none⟩) HA.out.lt).trans c0
      have hxl := HX.out l[i] (List.getElem_mem hlt)
      have HS := Lib.hid (flat_succ l i hlt)
      rcases hT.is with ⟨hnil, A, c', rfl⟩ | ⟨b1, o1, c', rfl, _, hTl⟩
      · have HE : Hid ((l.take (i + 1)).flatten.length = (l.take i).flatten.length) := by show _ = _; rw [HS.out, hnil]; rfl
        clear HS hnil hT c0 hxl
        gi_wp2
        gi_loopw [15] (fun v wr2 => v = .int .i64 0 ∧ wr2 = wr) (fun _ _ => 0)
        case atStart => exact ⟨rfl, rfl⟩
        case round =>
          obtain ⟨rfl, rfl⟩ := hrel
          gi_wp2
          go_roundw
          case rel => exact ⟨i + 1, hlt, by go_num, hb, by rw [HE.out]; exact hJi⟩
          case measure => simp [intOf]; omega
      · have HT := Lib.hid hTl
        obtain ⟨x, hx⟩ : ∃ x, x = l[i] := ⟨_, rfl⟩
        have HG : Hid (∀ j (hj : j < x.length), (l.flatten)[(l.take i).flatten.length + j]? = some x[j]) := fun j hj => by subst hx; exact flat_at l i j hlt hj
        rw [← hx] at HT HS hxl c1
        clear hT hTl c0 hx
        gi_wp2
        gi_loopw [15] (fun v wr2 => ∃ j : Nat, j ≤ x.length ∧ v = .int .i64 j ∧ Below w.heap.size w wr2 ∧ J ((l.take i).flatten.length + j) wr2) (fun v _ => x.length - (intOf v).toNat)
        case atStart => exact ⟨0, Nat.zero_le _, rfl, hb, by simpa using hJi⟩
        case round =>
          obtain ⟨j, hj, rfl, hb2, hJj⟩ := hrel
          clear hJi c1
          by_cases hlt2 : j < x.length
          · have e0 := (hb2.cell (p := ⟨b1, o1 + j * 5, none⟩) HT.out.lt).trans (HT.out.c0 j hlt2)
            have e1 := (hb2.cell (p := ⟨b1, o1 + j * 5 + 1, none⟩) HT.out.lt).trans (HT.out.c1 j hlt2)
            have e2 := (hb2.cell (p := ⟨b1, o1 + j * 5 + 2, none⟩) HT.out.lt).trans (HT.out.c2 j hlt2)
            have e3 := (hb2.cell (p := ⟨b1, o1 + j * 5 + 3, none⟩) HT.out.lt).trans (HT.out.c3 j hlt2)
            have e4 := (hb2.cell (p := ⟨b1, o1 + j * 5 + 4, none⟩) HT.out.lt).trans (HT.out.c4 j hlt2)
            have hg := HG.out j hlt2
            have HK : Hid ((l.take i).flatten.length + j < l.flatten.length) := (List.getElem?_eq_some_iff.1 hg).1
            have he : alE l.flatten ((l.take i).flatten.length + j) = #[tmv x[j]] := by unfold alE; rw [hg]; rfl
            have bN := bA1 wr (.cells #[.string ⟨x[j].n.toArray⟩, .int .i64 x[j].o, .int .i64 x[j].e, .string ⟨x[j].u.toArray⟩, .string ⟨x[j].r.toArray⟩] 125)
            obtain ⟨fn, tmps, assign, body, hy, hR⟩ := HY.out _ _ HK.out (hJ _ _ _ hJj bN)
            rw [he] at hy
            unfold tmv at hy
            clear hg he hJj
            gi_wp2
            refine ⟨fun h => (by cases h), hR.mono ?_⟩
            rintro e W3 (⟨rfl, hJ3, hk3⟩ | ⟨rfl, hJx3⟩)
            · have hb3 := (hb2.trans (bN.mono hb2.size)).trans hk3
              gi_wp2
              go_roundw
              case rel => exact ⟨j + 1, hlt2, by go_num, hb3, hJ3⟩
              case measure => simp [intOf]; omega
            · gi_wp2
              refine bodyPost_ret (results_none rfl _ _ _) rfl ?_
              exact ⟨⟨_, rfl⟩, .inr hJx3⟩
          · obtain rfl : j = x.length := by omega
            have HE : Hid ((l.take (i + 1)).flatten.length = (l.take i).flatten.length + x.length) := HS.out
            gi_wp2
            go_roundw
            case rel => exact ⟨i + 1, hlt, by go_num, hb2, by rw [HE.out]; exact hJj⟩
            case measure => simp [intOf]; omega
    · obtain rfl : i = l.length := by omega
      gi_wp2
      go_end0
      exact ⟨⟨_, rfl⟩, .inl (by simpa using hJi)⟩

set_option maxRecDepth 100000 in
set_option maxHeartbeats 800000 in
theorem all_none (A : Option Addr) (c : Nat) (n ll Bs : Nat) (J : Nat → World → Prop) (Jx : World → Prop) (W : World) (hc : W.cell? ⟨Bs, 0, none⟩ = some (.slice A 0 c)) (h0 : J 0 W) :
    CallsIn Fence.wide n Tryz.prog 203 #[.func (.yield ll) #[] #[], .pointer (some ⟨Bs, 0, none⟩)] W fun e W' => (∃ v, e = .returned v) ∧ (J 0 W' ∨ Jx W') := by
  refine callsIn_of_wp Tryz.func203 rfl trivial ?_ rfl
  simp only [Tryz.ntmps203, List.size_toArray, List.length_cons, List.length_nil, Nat.reduceAdd, Nat.reduceSub, Array.replicate_succ, Array.replicate_zero, List.push_toArray, List.append_toArray, List.nil_append, List.cons_append]
  gi_wp2
  gi_loopw [9] (fun v wr => v = .int .i64 0 ∧ wr = W) (fun _ _ => 0)
  case atStart => exact ⟨rfl, rfl⟩
  case round =>
    obtain ⟨rfl, rfl⟩ := hrel
    gi_wp2
    go_end0
    exact ⟨⟨_, rfl⟩, .inl h0⟩

/-- all(l): its list lies in a block of its own. -/
theorem all_any (A : Option Addr) (m c : Nat) (w : World) : Calls Tryz.prog 178 #[.slice A m c] w fun e w' => e = .returned (.func (.func 203) #[] #[.pointer (some ⟨w.heap.size, 0, none⟩)]) ∧ w' = w.alloc (.cells #[.slice A m c] 38) := by
  go_enter Tryz.func178, Tryz.ntmps178
  go_wp2
  go_ret
  exact ⟨rfl, rfl⟩
theorem all_turns {v : Value} {l : List (List Tm)} {w : World} (hA : As w v l) (hl : l.length ≤ 1000) (hx : ∀ x ∈ l, x.length ≤ 1000) (n Bs : Nat) (w0 : World) (hb : Below w.heap.size w w0) (hB : Bs < w0.heap.size) (hc : w0.cell? ⟨Bs, 0, none⟩ = some v) :
    Turns Tryz.prog 203 #[.pointer (some ⟨Bs, 0, none⟩)] (alE l.flatten) l.flatten.length w.heap.size n w0 := fun ll J Jx W hW hJ _ hY h0 => by
  have hc' := (hW.cell (p := ⟨Bs, 0, none⟩) hB).trans hc
  rcases hA.is with ⟨rfl, A, c, rfl⟩ | ⟨b, o, c, rfl, _, hAl⟩
  · exact all_none A c n ll Bs J Jx W hc' h0
  · exact all_row b o c l hl hx n ll Bs w J Jx W hJ hAl (hb.trans (hW.mono hb.size)) hY hc' h0

end Go.Proofs.YtppogjjhippefaaGreatDoor
