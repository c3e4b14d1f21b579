/- The walk of depend's rightTerm. -/
import Derived.Test.YtlldfmnoidndmaaGreatDoorTx
import Derived.Test.YtlldfmnoidndmaaGreatDoorPr
import Derived.Test.YtlldfmnoidndmaaGreatDoorTq
import Derived.Test.YtlldfmnoidndmaaGreatDoorDx
import Derived.Test.YtlldfmnoidndmaaGreatDoorRx
import Derived.RangeFuncBound
import Derived.RangeFuncCalls
import Derived.Shelf.Abstract
import Derived.Shelf.RegionOpen
import Derived.WalkKit
import Derived.OwnWalkIn
import Derived.TacticsInMore
import Derived.LoopNIn
import Derived.LoopIn
namespace Go.Proofs.YtlldfmnoidndmaaGreatDoor
open Go.RowKit Go.Shelf Go.Sort

/-- A term that may be. -/
def tok (t : Tm) : Bool := nmo t.n && (if t.o = 0 then decide (t.e = 0) && (decide (t.u = []) && decide (t.r = [])) else decide (0 < t.o) && (decide (t.o < 6) && Vm.rt t.e t.u t.r))
/-- Of numbers that a word holds, and short. -/
structure Shn (t : Tm) : Prop where
  o0 : -9223372036854775808 ≤ t.o
  o1 : t.o ≤ 9223372036854775807
  e0 : -9223372036854775808 ≤ t.e
  e1 : t.e ≤ 9223372036854775807
  u : t.u.length ≤ 200
  r : t.r.length ≤ 200
def tmv (t : Tm) : Value := .agg #[.string ⟨t.n.toArray⟩, .int .i64 t.o, .int .i64 t.e, .string ⟨t.u.toArray⟩, .string ⟨t.r.toArray⟩]

set_option maxHeartbeats 800000 in
set_option maxRecDepth 100000 in
theorem rterm_no (t : Tm) (w : World) (hn : nmo t.n = false) : Calls Tryz.prog 179 #[tmv t] w fun x w' => x = .returned (.bool (tok t)) ∧ Below w.heap.size w w' := by
  have HK : Hid (tok t = false) := by show tok t = false; unfold tok; rw [hn]; rfl
  have cN := fun W => name_any t.n W
  rw [hn] at cN
  unfold tmv
  go_enter Tryz.func179, Tryz.ntmps179
  go_wp2_with fail
  refine (cN _).mono ?_
  rintro x w1 ⟨rfl, b1⟩
  go_wp2
  go_ret
  exact ⟨ret_bool HK.out.symm, bt2 (bA1 _ _) b1⟩
set_option maxHeartbeats 800000 in
set_option maxRecDepth 100000 in
theorem rterm_any0 (t : Tm) (w : World) (hn : nmo t.n = true) (ho : t.o = 0) : Calls Tryz.prog 179 #[tmv t] w fun x w' => x = .returned (.bool (tok t)) ∧ Below w.heap.size w w' := by
  obtain ⟨y, hy⟩ : ∃ y, y = tok t := ⟨_, rfl⟩
  have HK : Hid (y = (decide (t.e = 0) && (decide (t.u = []) && decide (t.r = [])))) := by show y = _; rw [hy]; unfold tok; rw [hn, if_pos ho]; rfl
  rw [← hy]
  have cN := fun W => name_any t.n W
  rw [hn] at cN
  unfold tmv
  rw [ho]
  clear ho hn hy
  go_enter Tryz.func179, Tryz.ntmps179
  go_wp2_with fail
  refine (cN _).mono ?_
  rintro x w1 ⟨rfl, b1⟩
  have tK := (K5.new w (.string ⟨t.n.toArray⟩) (.int .i64 0) (.int .i64 t.e) (.string ⟨t.u.toArray⟩) (.string ⟨t.r.toArray⟩) 125).on b1
  have hb := bt2 (bA1 _ _) b1
  obtain ⟨t0, t1, t2, t3, t4, tf, tl⟩ := tK
  clear b1 cN
  go_wp2
  all_goals
    go_ret
    refine ⟨ret_bool ?_, hb⟩
    rw [HK.out]
    simp_all

set_option maxHeartbeats 800000 in
set_option maxRecDepth 100000 in
theorem rterm_op (t : Tm) (w : World) (h : Shn t) (hT : Tab w) (hn : nmo t.n = true) (ho : ¬ t.o = 0) : Calls Tryz.prog 179 #[tmv t] w fun x w' => x = .returned (.bool (tok t)) ∧ Below w.heap.size w w' := by
  obtain ⟨y, hy⟩ : ∃ y, y = tok t := ⟨_, rfl⟩
  have HK : Hid (y = (decide (0 < t.o) && (decide (t.o < 6) && Vm.rt t.e t.u t.r))) := by show y = _; rw [hy]; unfold tok; rw [hn, if_neg ho]; rfl
  rw [← hy]
  have cN := fun W => name_any t.n W
  rw [hn] at cN
  have cR := fun W (hW : Below w.heap.size w W) => right_any t.e t.u t.r W h.e0 h.e1 h.u h.r (tab_on hT hW)
  obtain ⟨z, hz⟩ : ∃ z, z = Vm.rt t.e t.u t.r := ⟨_, rfl⟩
  rw [← hz] at cR HK
  unfold tmv
  clear hn hy hT hz h
  go_enter Tryz.func179, Tryz.ntmps179
  go_wp2_with fail
  refine (cN _).mono ?_
  rintro x w1 ⟨rfl, b1⟩
  have tK := (K5.new w (.string ⟨t.n.toArray⟩) (.int .i64 t.o) (.int .i64 t.e) (.string ⟨t.u.toArray⟩) (.string ⟨t.r.toArray⟩) 125).on b1
  have hb := bt2 (bA1 _ _) b1
  obtain ⟨t0, t1, t2, t3, t4, tf, tl⟩ := tK
  clear b1 cN
  by_cases h0 : 0 < t.o
  · by_cases h6 : t.o < 6
    · go_wp2_with fail
      refine (cR _ hb).mono ?_
      rintro x w2 ⟨rfl, b2⟩
      go_wp2
      go_ret
      exact ⟨ret_bool (by rw [HK.out]; simp [h0, h6]), bt2 hb b2⟩
    · go_wp2
      go_ret
      exact ⟨ret_bool (by rw [HK.out]; simp; intro _ _; omega), hb⟩
  · go_wp2
    go_ret
    exact ⟨ret_bool (by rw [HK.out]; simp; intro _ _; omega), hb⟩

/-- Whether a term may be. -/
theorem rterm_any (t : Tm) (w : World) (h : Shn t) (hT : Tab w) : Calls Tryz.prog 179 #[tmv t] w fun x w' => x = .returned (.bool (tok t)) ∧ Below w.heap.size w w' := by
  cases hn : nmo t.n with
  | false => exact rterm_no t w hn
  | true =>
    by_cases ho : t.o = 0
    · exact rterm_any0 t w hn ho
    · exact rterm_op t w h hT hn ho

end Go.Proofs.YtlldfmnoidndmaaGreatDoor
namespace Go.Proofs.YtlldfmnoidndmaaGreatDoor
open Go.RowKit Go.Shelf Go.Sort
attribute [local go_sem] Oper.semAt_some

/-- What the k-th round of all hands over. -/
def alE (F : List Tm) (k : Nat) : Array Value := #[tmv (F[k]?.getD default)]

theorem flat_at : ∀ (l : List (List Tm)) (i j : Nat) (hi : i < l.length) (hj : j < l[i].length), (l.flatten)[(l.take i).flatten.length + j]? = some l[i][j]
  | x :: l, 0, j, _, hj => by
    simp only [List.take_zero, List.flatten_nil, List.length_nil, Nat.zero_add, List.flatten_cons, List.getElem_cons_zero]
    have hj' : j < x.length := hj
    rw [List.getElem?_append_left hj', List.getElem?_eq_getElem hj']
  | x :: l, i + 1, j, hi, hj => by
    simp only [List.take_succ_cons, List.flatten_cons, List.length_append, List.getElem_cons_succ]
    rw [List.getElem?_append_right (by omega), show x.length + (l.take i).flatten.length + j - x.length = (l.take i).flatten.length + j by omega]
    exact flat_at l i j (by simpa using hi) hj
theorem flat_succ (l : List (List Tm)) (i : Nat) (hi : i < l.length) : (l.take (i + 1)).flatten.length = (l.take i).flatten.length + l[i].length := by
  rw [List.take_succ_eq_append_getElem hi, List.flatten_append, List.length_append]; congr 1; simp

set_option maxRecDepth 100000 in
set_option maxHeartbeats 2000000 in
theorem all_row (b o c : Nat) (l : List (List Tm)) (hl : l.length ≤ 1000) (hx : ∀ x ∈ l, x.length ≤ 1000) (n ll Bs : Nat) (w : World) (J : Nat → World → Prop) (Jx : World → Prop) (W : World) (hJ : ∀ k A B, J k A → Below A.heap.size A B → J k B) (hA : Al w b o l) (hW : Below w.heap.size w W)
    (hY : ∀ k W1, k < l.flatten.length → J k W1 → YieldAt Fence.wide (n - 1) Tryz.prog ll (alE l.flatten k) W1 fun e W' => (e = .returned (.bool true) ∧ J (k + 1) W' ∧ Below w.heap.size W1 W') ∨ (e = .returned (.bool false) ∧ Jx W'))
    (hc : W.cell? ⟨Bs, 0, none⟩ = some (.slice (some ⟨b, o, none⟩) l.length c)) (h0 : J 0 W) :
    CallsIn Fence.wide n Tryz.prog 203 #[.func (.yield ll) #[] #[], .pointer (some ⟨Bs, 0, none⟩)] W fun e W' => (∃ v, e = .returned v) ∧ (J l.flatten.length W' ∨ Jx W') := by
  have HA := Lib.hid hA
  have HX := Lib.hid hx
  have HY := Lib.hid hY
  clear hA hx hY
  refine callsIn_of_wp Tryz.func203 rfl trivial ?_ rfl
  simp only [Tryz.ntmps203, List.size_toArray, List.length_cons, List.length_nil, Nat.reduceAdd, Nat.reduceSub, Array.replicate_succ, Array.replicate_zero, List.push_toArray, List.append_toArray, List.nil_append, List.cons_append]
  gi_wp2
  gi_loopw [9] (fun v wr => ∃ i : Nat, i ≤ l.length ∧ v = .int .i64 i ∧ Below w.heap.size w wr ∧ J ((l.take i).flatten.length) wr) (fun v _ => l.length - (intOf v).toNat)
  case atStart => exact ⟨0, Nat.zero_le _, rfl, hW, by simpa using h0⟩
  case round =>
    obtain ⟨i, hi, rfl, hb, hJi⟩ := hrel
    by_cases hlt : i < l.length
    · obtain ⟨vi, c0, hT⟩ := HA.out.c i hlt
      have c1 : wr.cell? ⟨b, o + i, none⟩ = some vi := (hb.cell (p := ⟨b, o + i, none⟩) HA.out.lt).trans c0
      have hxl := HX.out l[i] (List.getElem_mem hlt)
      have HS := Lib.hid (flat_succ l i hlt)
      rcases hT.is with ⟨hnil, A, c', rfl⟩ | ⟨b1, o1, c', rfl, _, hTl⟩
      · have HE : Hid ((l.take (i + 1)).flatten.length = (l.take i).flatten.length) := by show _ = _; rw [HS.out, hnil]; rfl
        clear HS hnil hT c0 hxl
        gi_wp2
        gi_loopw [15] (fun v wr2 => v = .int .i64 0 ∧ wr2 = wr) (fun _ _ => 0)
        case atStart => exact ⟨rfl, rfl⟩
        case round =>
          obtain ⟨rfl, rfl⟩ := hrel
          gi_wp2
          go_roundw
          case rel => exact ⟨i + 1, hlt, by go_num, hb, by rw [HE.out]; exact hJi⟩
          case measure => simp [intOf]; omega
      · have HT := Lib.hid hTl
        obtain ⟨x, hx⟩ : ∃ x, x = l[i] := ⟨_, rfl⟩
        have HG : Hid (∀ j (hj : j < x.length), (l.flatten)[(l.take i).flatten.length + j]? = some x[j]) := fun j hj => by subst hx; exact flat_at l i j hlt hj
        rw [← hx] at HT HS hxl c1
        clear hT hTl c0 hx
        gi_wp2
        gi_loopw [15] (fun v wr2 => ∃ j : Nat, j ≤ x.length ∧ v = .int .i64 j ∧ Below w.heap.size w wr2 ∧ J ((l.take i).flatten.length + j) wr2) (fun v _ => x.length - (intOf v).toNat)
        case atStart => exact ⟨0, Nat.zero_le _, rfl, hb, by simpa using hJi⟩
        case round =>
          obtain ⟨j, hj, rfl, hb2, hJj⟩ := hrel
          clear hJi c1
          by_cases hlt2 : j < x.length
          · have e0 := (hb2.cell (p := ⟨b1, o1 + j * 5, none⟩) HT.out.lt).trans (HT.out.c0 j hlt2)
            have e1 := (hb2.cell (p := ⟨b1, o1 + j * 5 + 1, none⟩) HT.out.lt).trans (HT.out.c1 j hlt2)
            have e2 := (hb2.cell (p := ⟨b1, o1 + j * 5 + 2, none⟩) HT.out.lt).trans (HT.out.c2 j hlt2)
            have e3 := (hb2.cell (p := ⟨b1, o1 + j * 5 + 3, none⟩) HT.out.lt).trans (HT.out.c3 j hlt2)
            have e4 := (hb2.cell (p := ⟨b1, o1 + j * 5 + 4, none⟩) HT.out.lt).trans (HT.out.c4 j hlt2)
            have hg := HG.out j hlt2
            have HK : Hid ((l.take i).flatten.length + j < l.flatten.length) := (List.getElem?_eq_some_iff.1 hg).1
            have he : alE l.flatten ((l.take i).flatten.length + j) = #[tmv x[j]] := by unfold alE; rw [hg]; rfl
            have bN := bA1 wr (.cells #[.string ⟨x[j].n.toArray⟩, .int .i64 x[j].o, .int .i64 x[j].e, .string ⟨x[j].u.toArray⟩, .string ⟨x[j].r.toArray⟩] 125)
            obtain ⟨fn, tmps, assign, body, hy, hR⟩ := HY.out _ _ HK.out (hJ _ _ _ hJj bN)
            rw [he] at hy
            unfold tmv at hy
            clear hg he hJj
            gi_wp2
            refine ⟨fun h => (by cases h), hR.mono ?_⟩
            rintro e W3 (⟨rfl, hJ3, hk3⟩ | ⟨rfl, hJx3⟩)
            · have hb3 := (hb2.trans (bN.mono hb2.size)).trans hk3
              gi_wp2
              go_roundw
              case rel => exact ⟨j + 1, hlt2, by go_num, hb3, hJ3⟩
              case measure => simp [intOf]; omega
            · gi_wp2
              refine bodyPost_ret (results_none rfl _ _ _) rfl ?_
              exact ⟨⟨_, rfl⟩, .inr hJx3⟩
          · obtain rfl : j = x.length := by omega
            have HE : Hid ((l.take (i + 1)).flatten.length = (l.take i).flatten.length + x.length) := HS.out
            gi_wp2
            go_roundw
            case rel => exact ⟨i + 1, hlt, by go_num, hb2, by rw [HE.out]; exact hJj⟩
            case measure => simp [intOf]; omega
    · obtain rfl : i = l.length := by omega
      gi_wp2
      go_end0
      exact ⟨⟨_, rfl⟩, .inl (by simpa using hJi)⟩

set_option maxRecDepth 100000 in
set_option maxHeartbeats 800000 in
theorem all_none (A : Option Addr) (c : Nat) (n ll Bs : Nat) (J : Nat → World → Prop) (Jx : World → Prop) (W : World) (hc : W.cell? ⟨Bs, 0, none⟩ = some (.slice A 0 c)) (h0 : J 0 W) :
    CallsIn Fence.wide n Tryz.prog 203 #[.func (.yield ll) #[] #[], .pointer (some ⟨Bs, 0, none⟩)] W fun e W' => (∃ v, e = .returned v) ∧ (J 0 W' ∨ Jx W') := by
  refine callsIn_of_wp Tryz.func203 rfl trivial ?_ rfl
  simp only [Tryz.ntmps203, List.size_toArray, List.length_cons, List.length_nil, Nat.reduceAdd, Nat.reduceSub, Array.replicate_succ, Array.replicate_zero, List.push_toArray, List.append_toArray, List.nil_append, List.cons_append]
  gi_wp2
  gi_loopw [9] (fun v wr => v = .int .i64 0 ∧ wr = W) (fun _ _ => 0)
  case atStart => exact ⟨rfl, rfl⟩
  case round =>
    obtain ⟨rfl, rfl⟩ := hrel
    gi_wp2
    go_end0
    exact ⟨⟨_, rfl⟩, .inl h0⟩

/-- all(l): its list lies in a block of its own. -/
theorem all_any (A : Option Addr) (m c : Nat) (w : World) : Calls Tryz.prog 178 #[.slice A m c] w fun e w' => e = .returned (.func (.func 203) #[] #[.pointer (some ⟨w.heap.size, 0, none⟩)]) ∧ w' = w.alloc (.cells #[.slice A m c] 38) := by
  go_enter Tryz.func178, Tryz.ntmps178
  go_wp2
  go_ret
  exact ⟨rfl, rfl⟩
theorem all_turns {v : Value} {l : List (List Tm)} {w : World} (hA : As w v l) (hl : l.length ≤ 1000) (hx : ∀ x ∈ l, x.length ≤ 1000) (n Bs : Nat) (w0 : World) (hb : Below w.heap.size w w0) (hB : Bs < w0.heap.size) (hc : w0.cell? ⟨Bs, 0, none⟩ = some v) :
    Turns Tryz.prog 203 #[.pointer (some ⟨Bs, 0, none⟩)] (alE l.flatten) l.flatten.length w.heap.size n w0 := fun ll J Jx W hW hJ _ hY h0 => by
  have hc' := (hW.cell (p := ⟨Bs, 0, none⟩) hB).trans hc
  rcases hA.is with ⟨rfl, A, c, rfl⟩ | ⟨b, o, c, rfl, _, hAl⟩
  · exact all_none A c n ll Bs J Jx W hc' h0
  · exact all_row b o c l hl hx n ll Bs w J Jx W hJ hAl (hb.trans (hW.mono hb.size)) hY hc' h0

end Go.Proofs.YtlldfmnoidndmaaGreatDoor
namespace Go.Proofs.YtlldfmnoidndmaaGreatDoor
open Go.RowKit Go.Shelf Go.Sort
attribute [local go_sem] Oper.semAt_some

/-- What may be asked for. -/
def ask (l : List (List Tm)) : Bool := l.all (fun x => decide (x ≠ [])) && (decide (l.flatten.length ≤ 30) && l.flatten.all tok)

theorem empty_any (A : Option Addr) (n c : Nat) (w : World) : Calls Tryz.prog 177 #[.slice A n c] w fun e w' => e = .returned (.bool (decide (n = 0))) ∧ w' = w := by
  go_enter Tryz.func177, Tryz.ntmps177
  go_wp2
  go_ret
  exact ⟨ret_bool (by rw [Bool.eq_iff_iff]; simp), rfl⟩

/-- The index of the first empty one, or -1. -/
def Iz (l : List (List Tm)) (e : Ending) : Prop := ∃ z : Int, e = .returned (.int .i64 z) ∧ -1 ≤ z ∧ z ≤ 1000 ∧ decide (0 ≤ z) = !(l.all fun x => decide (x ≠ []))
theorem ts_sl {W : World} {v : Value} {x : List Tm} (h : Ts W v x) : ∃ A c, v = .slice A x.length c := by
  rcases h.is with ⟨rfl, A, c, rfl⟩ | ⟨b, o, c, rfl, _⟩
  · exact ⟨_, _, rfl⟩
  · exact ⟨_, _, rfl⟩

set_option maxHeartbeats 800000 in
set_option maxRecDepth 100000 in
theorem idx_row (b o c : Nat) (l : List (List Tm)) (w : World) (h : Al w b o l) (hn : l.length ≤ 1000) : Calls Tryz.prog 202 #[.slice (some ⟨b, o, none⟩) l.length c, .func (.func 177) #[] #[]] w fun e w' => Iz l e ∧ w' = w := by
  have HF := Lib.hid h
  clear h
  go_enter Tryz.func202, Tryz.ntmps202
  go_wp2
  go_loopw [8] (fun v W => ∃ k : Nat, k ≤ l.length ∧ v = .int .i64 k ∧ W = w ∧ Hid (∀ j (hj : j < l.length), j < k → l[j] ≠ [])) (fun v _ => l.length - (intOf v).toNat)
  case atStart => exact ⟨0, Nat.zero_le _, rfl, rfl, fun j _ h => absurd h (Nat.not_lt_zero _)⟩
  case round =>
    obtain ⟨k, hk, rfl, rfl, HP⟩ := hrel
    by_cases hlt : k < l.length
    · obtain ⟨vi, c0, hT⟩ := HF.out.c k hlt
      obtain ⟨A, c', rfl⟩ := ts_sl hT
      have cE := fun W => empty_any A l[k].length c' W
      by_cases he : l[k].length = 0
      · have HG : Hid ((l.all fun x => decide (x ≠ [])) = false) := by
          show (l.all fun x => decide (x ≠ [])) = false
          rw [List.all_eq_false]
          exact ⟨l[k], List.getElem_mem hlt, by simp [List.length_eq_zero_iff.1 he]⟩
        rw [decide_eq_true he] at cE
        clear hT he
        go_wp2_with (go_at_call 177; refine (cE _).mono ?_; rintro e w' ⟨rfl, rfl⟩)
        go_ret
        exact ⟨⟨k, rfl, by omega, by omega, by rw [HG.out]; simp⟩, rfl⟩
      · have HG : Hid (∀ j (hj : j < l.length), j < k + 1 → l[j] ≠ []) := fun j hj h => by
          by_cases e2 : j = k
          · subst e2; intro e3; rw [e3] at he; exact he rfl
          · exact HP.out j hj (by omega)
        rw [decide_eq_false he] at cE
        clear hT he
        go_wp2_with (go_at_call 177; refine (cE _).mono ?_; rintro e w' ⟨rfl, rfl⟩)
        exact ⟨⟨k + 1, hlt, by go_num, trivial, HG⟩, by simp [intOf]; omega⟩
    · have HG : Hid ((l.all fun x => decide (x ≠ [])) = true) := by
        show (l.all fun x => decide (x ≠ [])) = true
        rw [List.all_eq_true]
        intro x hx
        obtain ⟨j, hj, rfl⟩ := List.getElem_of_mem hx
        simpa using HP.out j hj (by omega)
      go_wp2
      go_ret
      exact ⟨⟨-1, rfl, by omega, by omega, by rw [HG.out]; simp⟩, rfl⟩
theorem idx_none (A : Option Addr) (c : Nat) (w : World) : Calls Tryz.prog 202 #[.slice A 0 c, .func (.func 177) #[] #[]] w fun e w' => Iz [] e ∧ w' = w := by
  go_enter Tryz.func202, Tryz.ntmps202
  go_wp2
  refine wp_loop_rounds 1 ?_
  rw [rounds_succ]
  go_wp2
  go_ret
  exact ⟨⟨-1, rfl, by omega, by omega, rfl⟩, rfl⟩
theorem idx_any' (v : Value) (l : List (List Tm)) (w : World) (h : As w v l) (hn : l.length ≤ 1000) : Calls Tryz.prog 202 #[v, .func (.func 177) #[] #[]] w fun e w' => Iz l e ∧ w' = w := by
  rcases h.is with ⟨rfl, A, c, rfl⟩ | ⟨b, o, c, rfl, _, hA⟩
  · exact idx_none A c w
  · exact idx_row b o c l w hA hn
theorem as_sl {W : World} {v : Value} {l : List (List Tm)} (h : As W v l) : ∃ A c, v = .slice A l.length c := by
  rcases h.is with ⟨rfl, A, c, rfl⟩ | ⟨b, o, c, rfl, _⟩
  · exact ⟨_, _, rfl⟩
  · exact ⟨_, _, rfl⟩
theorem conE_any (v : Value) (l : List (List Tm)) (w : World) (h : As w v l) (hn : l.length ≤ 1000) : Calls Tryz.prog 176 #[v, .func (.func 177) #[] #[]] w fun e w' => e = .returned (.bool (!(l.all fun x => decide (x ≠ [])))) ∧ w' = w := by
  have cI := idx_any' v l w h hn
  obtain ⟨A, c, rfl⟩ := as_sl h
  clear h
  go_enter Tryz.func176, Tryz.ntmps176
  go_wp2_with fail
  refine cI.mono ?_
  rintro e w' ⟨⟨z, rfl, h0, h1, hz⟩, rfl⟩
  have HZ := Lib.hid hz
  clear hz
  go_wp2
  go_ret
  exact ⟨ret_bool (by rw [← HZ.out]), rfl⟩

theorem ask_empty {l : List (List Tm)} (h : (l.all fun x => decide (x ≠ [])) = false) : ask l = false := by unfold ask; rw [h]; rfl
theorem ask_long {l : List (List Tm)} (h : 30 < l.flatten.length) : ask l = false := by
  unfold ask; rw [decide_eq_false (by omega : ¬ l.flatten.length ≤ 30)]; simp
theorem ask_no {l : List (List Tm)} {k : Nat} {t : Tm} (h : l.flatten[k]? = some t) (ht : tok t = false) : ask l = false := by
  have : l.flatten.all tok = false := by
    rw [List.all_eq_false]; exact ⟨t, List.mem_of_getElem? h, by rw [ht]; simp⟩
  unfold ask; rw [this]; simp
theorem ask_yes {l : List (List Tm)} (h : (l.all fun x => decide (x ≠ [])) = true) (hn : l.flatten.length ≤ 30) (hk : ∀ j (hj : j < l.flatten.length), tok l.flatten[j] = true) : ask l = true := by
  have : l.flatten.all tok = true := by
    rw [List.all_eq_true]; intro t ht; obtain ⟨j, hj, rfl⟩ := List.getElem_of_mem ht; exact hk j hj
  unfold ask; rw [h, this, decide_eq_true hn]; rfl

/-- Between two rounds of Right. -/
structure RI (w : World) (l : List (List Tm)) (k : Nat) (W : World) : Prop where
  le : k ≤ 30
  bel : Below w.heap.size w W
  r : Boxed W w.heap.size 4 (.bool false)
  n : Boxed W (w.heap.size + 1) 3 (.int .i64 k)
  sz : w.heap.size + 3 ≤ W.heap.size
  ok : ∀ j (hj : j < l.flatten.length), j < k → tok l.flatten[j] = true
structure RX (w : World) (l : List (List Tm)) (W : World) : Prop where
  bel : Below w.heap.size w W
  no : ask l = false
  r : Boxed W w.heap.size 4 (.bool false)
theorem RI.own {w : World} {l : List (List Tm)} {B : Nat} (hB : w.heap.size ≤ B) : OwnFrom B (RI w l) := fun k W W' row h hg hr => by
  have kc := kc_grown hg (fun r e => (hr r e).2)
  exact ⟨h.le, h.bel.grown hg h.bel.size (fun r e => Nat.le_trans hB (hr r e).1), kc_box h.r kc, kc_box h.n kc, Nat.le_trans h.sz kc.1, h.ok⟩
theorem RX.own {w : World} {l : List (List Tm)} {B : Nat} (hB : w.heap.size ≤ B) : OwnFrom B (fun (_ : Unit) W => RX w l W) := fun k W W' row h hg hr => by
  have kc := kc_grown hg (fun r e => (hr r e).2)
  exact ⟨h.bel.grown hg h.bel.size (fun r e => Nat.le_trans hB (hr r e).1), h.no, kc_box h.r kc⟩

theorem K5.of {W : World} {g : Nat} {x0 x1 x2 x3 x4 : Value} {t : TypeId} (h : W.heap[g]? = some (.cells #[x0, x1, x2, x3, x4] t (0, 0))) : K5 W g x0 x1 x2 x3 x4 :=
  ⟨by simp [World.cell?, h], by simp [World.cell?, h], by simp [World.cell?, h], by simp [World.cell?, h], by simp [World.cell?, h], fun j => by simp [World.frozen?, h], (Array.getElem?_eq_some_iff.1 h).1⟩
/-- A round's term lies in a block. -/
def Rx (B0 : Nat) (F : List Tm) (mk : Value → Value → Act) (k : Nat) (a' : Act) (W : World) : Prop :=
  ∃ Bt, B0 ≤ Bt ∧ W.heap[Bt]? = some (Obj.cells #[.string ⟨(F[k]?.getD default).n.toArray⟩, .int .i64 (F[k]?.getD default).o, .int .i64 (F[k]?.getD default).e, .string ⟨(F[k]?.getD default).u.toArray⟩, .string ⟨(F[k]?.getD default).r.toArray⟩] 125 (0, 0)) ∧ a' = mk (.pointer (some ⟨Bt, 0, none⟩)) (tmv (F[k]?.getD default))
theorem Rx.own {B0 : Nat} {F : List Tm} {mk : Value → Value → Act} {k : Nat} {a' : Act} {B : Nat} : OwnFrom B (fun (_ : Unit) W => Rx B0 F mk k a' W) := fun _ W W' row h hg hr => by
  have kc := kc_grown hg (fun r e => (hr r e).2)
  obtain ⟨Bt, h1, h2, h3⟩ := h
  exact ⟨Bt, h1, kc.2 _ _ _ _ h2, h3⟩

set_option maxRecDepth 100000 in
set_option maxHeartbeats 2000000 in
theorem askr_main (v : Value) (l : List (List Tm)) (w : World) (h : As w v l) (hn : l.length ≤ 1000) (hx : ∀ x ∈ l, x.length ≤ 1000) (hS : ∀ t ∈ l.flatten, Shn t) (he : (l.all fun x => decide (x ≠ [])) = true) (hT : Tab w) : Calls Tryz.prog 127 #[v] w fun e w' => e = .returned (.bool (ask l)) ∧ Below w.heap.size w w' := by
  have cE := fun W (h : As W v l) => conE_any v l W h hn
  rw [he] at cE
  have HA := Lib.hid h
  have HE := Lib.hid he
  have HS := Lib.hid hS
  obtain ⟨A, c, rfl⟩ := as_sl h
  clear h he hS
  refine (callsIn_wide (n := 9)).1 ?_
  refine callsIn_of_wp_marks Tryz.func127 rfl trivial ?_ rfl
  simp only [Tryz.ntmps127, List.size_toArray, List.length_cons, List.length_nil, Nat.reduceAdd, Nat.reduceSub, Array.replicate_succ, Array.replicate_zero, List.push_toArray, List.append_toArray, List.nil_append, List.cons_append]
  gi_wp2_with fail
  refine ⟨trivial, (callsIn_wide.2 (cE _ (HA.out.on (bA1 _ _)))).mono ?_⟩
  rintro e w1 ⟨rfl, rfl⟩
  gi_wp2_with fail
  refine ⟨trivial, (callsIn_wide.2 (all_any A l.length c _)).mono ?_⟩
  rintro e w2 ⟨rfl, rfl⟩
  gi_wp2_with fail
  have bR := ((Boxed.new w 4 (.bool false)).alloc (.cells #[.int .i64 0] 3)).alloc (.cells #[.slice A l.length c] 38)
  have bN := (Boxed.new (w.alloc (.cells #[.bool false] 4)) 3 (.int .i64 0)).alloc (.cells #[.slice A l.length c] 38)
  have bS := Boxed.new ((w.alloc (.cells #[.bool false] 4)).alloc (.cells #[.int .i64 0] 3)) 38 (.slice A l.length c)
  rw [World.size_alloc] at bN
  rw [World.size_alloc, World.size_alloc] at bS
  have hb0 : Below w.heap.size w (((w.alloc (.cells #[.bool false] 4)).alloc (.cells #[.int .i64 0] 3)).alloc (.cells #[.slice A l.length c] 38)) := (((Below.refl _ w).alloc (Nat.le_refl _) _).alloc (by simp) _).alloc (by simp; omega) _
  have i0 : RI w l 0 (((w.alloc (.cells #[.bool false] 4)).alloc (.cells #[.int .i64 0] 3)).alloc (.cells #[.slice A l.length c] 38)) := ⟨by omega, hb0, bR, bN, by simp, fun j _ h => absurd h (Nat.not_lt_zero _)⟩
  refine range_lays (gf := 203) (lb := #[.pointer (some ⟨w.heap.size + 1 + 1, 0, none⟩)]) (n₀ := w.heap.size) rfl (enters_of Tryz.func203 (by kernel_rfl) rfl) (all_turns HA.out hn hx _ _ _ hb0 bS.lt bS.cell) (Below.refl _ _) (by simp; omega) (fun _ => rfl)
    (RI w l) (RX w l) (RI.own (by simp; omega)) (RX.own (by simp; omega)) i0
    (Rx (w.heap.size + 3) l.flatten (fun p t => { tmps := #[.slice A l.length c, undef, .pointer (some ⟨w.heap.size, 0, none⟩), .pointer (some ⟨w.heap.size + 1, 0, none⟩), p, .slice A l.length c, .bool false, .slice A l.length c, .func (.func 203) #[] #[.pointer (some ⟨w.heap.size + 1 + 1, 0, none⟩)], t, undef, undef, undef, undef, undef, undef, undef, undef, undef], defers := [] })) (fun k a' => Rx.own) ?assign ?body ?done ?stop
  case assign =>
    intro ll k W K hI hK
    unfold alE tmv
    gi_wp2
    refine hK _ _ (bA1 _ _) ⟨W.heap.size, hI.sz, World.alloc_heap_new W _, rfl⟩
  case done =>
    rintro D W hD hI hK
    have HY : Hid (ask l = true) := ask_yes HE.out hI.le (fun j hj => hI.ok j hj hj)
    have c0 := hI.r.cell
    have f0 := hI.r.frozen
    have kK := (KeepsOthers.setCell W ⟨w.heap.size, 0, none⟩ (.bool true)).same D _ hK rfl
    have q0 : Boxed (W.setCell ⟨w.heap.size, 0, none⟩ (.bool true)) w.heap.size 4 (.bool true) := hI.r.set _
    have hb := hI.bel.setCell (p := ⟨w.heap.size, 0, none⟩) (Nat.le_refl _) (.bool true)
    have kc := kc_grown (grownBy_putObj' (W.setCell ⟨w.heap.size, 0, none⟩ (.bool true)) D (.deferred none)) (fun r e => by cases e; exact ⟨_, kK, rfl⟩)
    have r0 := (kc_box q0 kc).cell
    have hD' : w.heap.size ≤ D := by simp at hD; omega
    have hb2 := hb.trans (belowK_b (w := w) (Nat.le_refl _) _ D _ (.deferred none) hD' kK rfl rfl)
    clear i0 hb0 bR bN bS hI hK kc q0 hb
    gi_wp2
    refine ⟨by simp, .inl ⟨_, _, rfl, run_takeDeferred kK, ?_⟩⟩
    exact ⟨.bool true, by simp only [results, Tryz.results127]; simp [go_sem, r0], by rw [HY.out], hb2⟩
  case stop =>
    rintro D W hD hX hK
    have kc := kc_grown (grownBy_putObj' W D (.deferred none)) (fun r e => by cases e; exact ⟨_, hK, rfl⟩)
    have r0 := (kc_box hX.r kc).cell
    have hD' : w.heap.size ≤ D := by simp at hD; omega
    have hb2 := hX.bel.trans (belowK_b (w := w) (Nat.le_refl _) _ D _ (.deferred none) hD' hK rfl rfl)
    have HN := Lib.hid hX.no
    clear hX i0 hb0 bR bN bS kc
    gi_wp2
    refine ⟨by simp, .inl ⟨_, _, rfl, run_takeDeferred hK, ?_⟩⟩
    exact ⟨.bool false, by simp only [results, Tryz.results127]; simp [go_sem, r0], by rw [HN.out], hb2⟩
  case body =>
    rintro ll k a' W hk hI ⟨Bt, hBt, hhp, rfl⟩
    obtain ⟨t, ht⟩ : ∃ t, l.flatten[k]? = some t := ⟨_, List.getElem?_eq_getElem hk⟩
    have HT := Lib.hid ht
    rw [ht] at hhp
    simp only [Option.getD_some] at hhp
    rw [ht]
    simp only [Option.getD_some]
    have tK := K5.of hhp
    have hS := HS.out t (List.mem_of_getElem? ht)
    have cP := fun W' (hW : Below w.heap.size w W') => rterm_any t W' hS (tab_on hT hW)
    have hko : KeepsOthers W (W.setCell ⟨w.heap.size + 1, 0, none⟩ (.int .i64 ((k : Int) + 1))) := KeepsOthers.setCell _ _ _
    have hbS := hI.bel.setCell (p := ⟨w.heap.size + 1, 0, none⟩) (Nat.le_succ _) (.int .i64 ((k : Int) + 1))
    have cn := hI.n.cell
    have fn := hI.n.frozen
    have lt1 := hI.n.lt
    have hk30 := hI.le
    have r1 := hI.r.other (B' := w.heap.size + 1) (by omega) (.int .i64 ((k : Int) + 1))
    have n1 := hI.n.set (.int .i64 ((k : Int) + 1))
    have tK1 := tK.other (B := w.heap.size + 1) (by omega) (.int .i64 ((k : Int) + 1))
    clear i0 hb0 bR bN bS ht hhp tK hS
    by_cases h30 : k = 30
    · have HN : Hid (ask l = false) := ask_long (by omega)
      have h31 : (30 : Int) < (k : Int) + 1 := by omega
      obtain ⟨t0, t1, t2, t3, t4, tf, tl⟩ := tK1
      have rc := r1.cell
      have rf := r1.frozen
      clear h30
      gi_wp2
      refine ⟨trivial, ?_⟩
      gi_wp2
      exact ⟨hko.trans (KeepsOthers.setCell _ _ _), hbS.setCell (p := ⟨w.heap.size, 0, none⟩) (Nat.le_refl _) _, HN.out, r1.set _⟩
    · have h31 : (k : Int) + 1 ≤ 30 := by omega
      have cQ := cP _ hbS
      cases hk2 : tok t with
      | false =>
        have HN : Hid (ask l = false) := ask_no HT.out hk2
        rw [hk2] at cQ
        unfold tmv at cQ
        obtain ⟨t0, t1, t2, t3, t4, tf, tl⟩ := tK1
        clear h30 cP
        gi_wp2_with fail
        refine ⟨trivial, (CallsIn.inRound ll (callsIn_wide.2 cQ)).mono ?_⟩
        rintro e w3 ⟨rfl, b3⟩
        have r3 := kc_box r1 (kc_below b3)
        have rc := r3.cell
        have rf := r3.frozen
        gi_wp2
        exact ⟨(hko.trans (ko_below b3)).trans (KeepsOthers.setCell _ _ _), (hbS.trans (b3.mono hbS.size)).setCell (p := ⟨w.heap.size, 0, none⟩) (Nat.le_refl _) _, HN.out, r3.set _⟩
      | true =>
        have HM : Hid (∀ j (hj : j < l.flatten.length), j < k + 1 → tok l.flatten[j] = true) := fun j hj h => by
          by_cases e : j = k
          · subst e
            have := HT.out
            rw [List.getElem?_eq_getElem hj] at this
            rw [Option.some.inj this]; exact hk2
          · exact hI.ok j hj (by omega)
        rw [hk2] at cQ
        unfold tmv at cQ
        obtain ⟨t0, t1, t2, t3, t4, tf, tl⟩ := tK1
        have hIb := hI.bel
        have hsz := hI.sz
        clear h30 cP hI
        gi_wp2_with fail
        refine ⟨trivial, (CallsIn.inRound ll (callsIn_wide.2 cQ)).mono ?_⟩
        rintro e w3 ⟨rfl, b3⟩
        have r3 := kc_box r1 (kc_below b3)
        have n3 := kc_box n1 (kc_below b3)
        rw [show ((k : Int) + 1) = ((k + 1 : Nat) : Int) by omega] at n3
        have hb3 := hbS.trans (b3.mono hbS.size)
        gi_wp2
        exact ⟨hko.trans (ko_below b3), ((Below.refl _ W).setCell (p := ⟨w.heap.size + 1, 0, none⟩) (Nat.le_succ _) _).trans (b3.mono hbS.size), by omega, hb3, r3, n3, by have := b3.size; simp at this; omega, HM.out⟩

/-- Whether what is asked for may be. -/
theorem askr_any (v : Value) (l : List (List Tm)) (w : World) (h : As w v l) (hn : l.length ≤ 1000) (hx : ∀ x ∈ l, x.length ≤ 1000) (hS : ∀ t ∈ l.flatten, Shn t) (hT : Tab w) : Calls Tryz.prog 127 #[v] w fun e w' => e = .returned (.bool (ask l)) ∧ Below w.heap.size w w' := by
  cases he : (l.all fun x => decide (x ≠ [])) with
  | true => exact askr_main v l w h hn hx hS he hT
  | false =>
    have cE := fun W (h : As W v l) => conE_any v l W h hn
    rw [he] at cE
    have HN := Lib.hid (ask_empty he)
    have HA := Lib.hid h
    obtain ⟨A, c, rfl⟩ := as_sl h
    clear h he hS hT
    go_enter Tryz.func127, Tryz.ntmps127
    go_wp2_with fail
    refine (cE _ (HA.out.on (bA1 _ _))).mono ?_
    rintro e w1 ⟨rfl, rfl⟩
    go_wp2
    exact bodyPost_ret (v := .bool false) (by simp only [results, Tryz.results127]; simp [go_sem]) rfl ⟨ret_bool HN.out.symm, bA1 _ _⟩

end Go.Proofs.YtlldfmnoidndmaaGreatDoor
