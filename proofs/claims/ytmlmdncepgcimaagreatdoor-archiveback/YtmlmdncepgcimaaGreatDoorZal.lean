/- The walk of depend's all: an iterator over lists of terms in memory. -/
import Derived.Test.YtmlmdncepgcimaaGreatDoorZak
import Derived.RangeFuncBound
import Derived.RangeFuncCalls
import Derived.Shelf.Abstract
import Derived.Shelf.RegionOpen
import Derived.WalkKit
import Derived.OwnWalkIn
import Derived.TacticsInMore
import Derived.LoopNIn
import Derived.LoopIn
import Derived.Test.YtmlmdncepgcimaaGreatDoorTb
import Derived.Test.YtmlmdncepgcimaaGreatDoorZac
import Derived.Laws.OwnMore
import Derived.Lib.OwnKind
import Derived.RangeFuncBox
import Derived.OneCell
import Derived.OrdersIn
import Derived.OrdersHeld
namespace Go.Proofs.YtmlmdncepgcimaaGreatDoor
open Go.RowKit Go.Shelf Go.Sort
attribute [local go_sem] Oper.semAt_some

/-- What the k-th round of all hands over. -/
def alE (F : List Tm) (k : Nat) : Array Value := #[tmv (F[k]?.getD default)]

theorem flat_at : ∀ (l : List (List Tm)) (i j : Nat) (hi : i < l.length) (hj : j < l[i].length), (l.flatten)[(l.take i).flatten.length + j]? = some l[i][j]
  | x :: l, 0, j, _, hj => by
    simp only [List.take_zero, List.flatten_nil, List.length_nil, Nat.zero_add, List.flatten_cons, List.getElem_cons_zero]
    have hj' : j < x.length := hj
    rw [List.getElem?_append_left hj', List.getElem?_eq_getElem hj']
  | x :: l, i + 1, j, hi, hj => by
    simp only [List.take_succ_cons, List.flatten_cons, List.length_append, List.getElem_cons_succ]
    rw [List.getElem?_append_right (by omega), show x.length + (l.take i).flatten.length + j - x.length = (l.take i).flatten.length + j by omega]
    exact flat_at l i j (by simpa using hi) hj
theorem flat_succ (l : List (List Tm)) (i : Nat) (hi : i < l.length) : (l.take (i + 1)).flatten.length = (l.take i).flatten.length + l[i].length := by
  rw [List.take_succ_eq_append_getElem hi, List.flatten_append, List.length_append]; congr 1; simp

set_option maxRecDepth 100000 in
set_option maxHeartbeats 2000000 in
theorem all_row (b o c : Nat) (l : List (List Tm)) (hl : l.length ≤ 1000) (hx : ∀ x ∈ l, x.length ≤ 1000) (n ll Bs : Nat) (w : World) (J : Nat → World → Prop) (Jx : World → Prop) (W : World) (hJ : ∀ k A B, J k A → Below A.heap.size A B → J k B) (hA : Al w b o l) (hW : Below w.heap.size w W)
    (hY : ∀ k W1, k < l.flatten.length → J k W1 → YieldAt Fence.wide (n - 1) Tryz.prog ll (alE l.flatten k) W1 fun e W' => (e = .returned (.bool true) ∧ J (k + 1) W' ∧ Below w.heap.size W1 W') ∨ (e = .returned (.bool false) ∧ Jx W'))
    (hc : W.cell? ⟨Bs, 0, none⟩ = some (.slice (some ⟨b, o, none⟩) l.length c)) (h0 : J 0 W) :
    CallsIn Fence.wide n Tryz.prog 172 #[.func (.yield ll) #[] #[], .pointer (some ⟨Bs, 0, none⟩)] W fun e W' => (∃ v, e = .returned v) ∧ (J l.flatten.length W' ∨ Jx W') := by
  have HA := Lib.hid hA
  have HX := Lib.hid hx
  have HY := Lib.hid hY
  clear hA hx hY
  refine callsIn_of_wp Tryz.func172 rfl trivial ?_ rfl
  simp only [Tryz.ntmps172, List.size_toArray, List.length_cons, List.length_nil, Nat.reduceAdd, Nat.reduceSub, Array.replicate_succ, Array.replicate_zero, List.push_toArray, List.append_toArray, List.nil_append, List.cons_append]
  gi_wp2
  gi_loopw [9] (fun v wr => ∃ i : Nat, i ≤ l.length ∧ v = .int .i64 i ∧ Below w.heap.size w wr ∧ J ((l.take i).flatten.length) wr) (fun v _ => l.length - (intOf v).toNat)
  case atStart => exact ⟨0, Nat.zero_le _, rfl, hW, by simpa using h0⟩
  case round =>
    obtain ⟨i, hi, rfl, hb, hJi⟩ := hrel
    by_cases hlt : i < l.length
    · obtain ⟨vi, c0, hT⟩ := HA.out.c i hlt
      have c1 : wr.cell? ⟨b, o + i, none⟩ = some vi := (hb.cell (p := ⟨b, o + i, none⟩) HA.out.lt).trans c0
      have hxl := HX.out l[i] (List.getElem_mem hlt)
      have HS := Lib.hid (flat_succ l i hlt)
      rcases hT.is with ⟨hnil, A, c', rfl⟩ | ⟨b1, o1, c', rfl, _, hTl⟩
      · have HE : Hid ((l.take (i + 1)).flatten.length = (l.take i).flatten.length) := by show _ = _; rw [HS.out, hnil]; rfl
        clear HS hnil hT c0 hxl
        gi_wp2
        gi_loopw [15] (fun v wr2 => v = .int .i64 0 ∧ wr2 = wr) (fun _ _ => 0)
        case atStart => exact ⟨rfl, rfl⟩
        case round =>
          obtain ⟨rfl, rfl⟩ := hrel
          gi_wp2
          go_roundw
          case rel => exact ⟨i + 1, hlt, by go_num, hb, by rw [HE.out]; exact hJi⟩
          case measure => simp [intOf]; omega
      · have HT := Lib.hid hTl
        obtain ⟨x, hx⟩ : ∃ x, x = l[i] := ⟨_, rfl⟩
        have HG : Hid (∀ j (hj : j < x.length), (l.flatten)[(l.take i).flatten.length + j]? = some x[j]) := fun j hj => by subst hx; exact flat_at l i j hlt hj
        rw [← hx] at HT HS hxl c1
        clear hT hTl c0 hx
        gi_wp2
        gi_loopw [15] (fun v wr2 => ∃ j : Nat, j ≤ x.length ∧ v = .int .i64 j ∧ Below w.heap.size w wr2 ∧ J ((l.take i).flatten.length + j) wr2) (fun v _ => x.length - (intOf v).toNat)
        case atStart => exact ⟨0, Nat.zero_le _, rfl, hb, by simpa using hJi⟩
        case round =>
          obtain ⟨j, hj, rfl, hb2, hJj⟩ := hrel
          clear hJi c1
          by_cases hlt2 : j < x.length
          · have e0 := (hb2.cell (p := ⟨b1, o1 + j * 5, none⟩) HT.out.lt).trans (HT.out.c0 j hlt2)
            have e1 := (hb2.cell (p := ⟨b1, o1 + j * 5 + 1, none⟩) HT.out.lt).trans (HT.out.c1 j hlt2)
            have e2 := (hb2.cell (p := ⟨b1, o1 + j * 5 + 2, none⟩) HT.out.lt).trans (HT.out.c2 j hlt2)
            have e3 := (hb2.cell (p := ⟨b1, o1 + j * 5 + 3, none⟩) HT.out.lt).trans (HT.out.c3 j hlt2)
            have e4 := (hb2.cell (p := ⟨b1, o1 + j * 5 + 4, none⟩) HT.out.lt).trans (HT.out.c4 j hlt2)
            have hg := HG.out j hlt2
            have HK : Hid ((l.take i).flatten.length + j < l.flatten.length) := (List.getElem?_eq_some_iff.1 hg).1
            have he : alE l.flatten ((l.take i).flatten.length + j) = #[tmv x[j]] := by unfold alE; rw [hg]; rfl
            have bN := bA1 wr (.cells #[.string ⟨x[j].n.toArray⟩, .int .i64 x[j].o, .int .i64 x[j].e, .string ⟨x[j].u.toArray⟩, .string ⟨x[j].r.toArray⟩] 83)
            obtain ⟨fn, tmps, assign, body, hy, hR⟩ := HY.out _ _ HK.out (hJ _ _ _ hJj bN)
            rw [he] at hy
            unfold tmv at hy
            clear hg he hJj
            gi_wp2
            refine ⟨fun h => (by cases h), hR.mono ?_⟩
            rintro e W3 (⟨rfl, hJ3, hk3⟩ | ⟨rfl, hJx3⟩)
            · have hb3 := (hb2.trans (bN.mono hb2.size)).trans hk3
              gi_wp2
              go_roundw
              case rel => exact ⟨j + 1, hlt2, by go_num, hb3, hJ3⟩
              case measure => simp [intOf]; omega
            · gi_wp2
              refine bodyPost_ret (results_none rfl _ _ _) rfl ?_
              exact ⟨⟨_, rfl⟩, .inr hJx3⟩
          · obtain rfl : j = x.length := by omega
            have HE : Hid ((l.take (i + 1)).flatten.length = (l.take i).flatten.length + x.length) := HS.out
            gi_wp2
            go_roundw
            case rel => exact ⟨i + 1, hlt, by go_num, hb2, by rw [HE.out]; exact hJj⟩
            case measure => simp [intOf]; omega
    · obtain rfl : i = l.length := by omega
      gi_wp2
      go_end0
      exact ⟨⟨_, rfl⟩, .inl (by simpa using hJi)⟩

set_option maxRecDepth 100000 in
set_option maxHeartbeats 800000 in
theorem all_none (A : Option Addr) (c : Nat) (n ll Bs : Nat) (J : Nat → World → Prop) (Jx : World → Prop) (W : World) (hc : W.cell? ⟨Bs, 0, none⟩ = some (.slice A 0 c)) (h0 : J 0 W) :
    CallsIn Fence.wide n Tryz.prog 172 #[.func (.yield ll) #[] #[], .pointer (some ⟨Bs, 0, none⟩)] W fun e W' => (∃ v, e = .returned v) ∧ (J 0 W' ∨ Jx W') := by
  refine callsIn_of_wp Tryz.func172 rfl trivial ?_ rfl
  simp only [Tryz.ntmps172, List.size_toArray, List.length_cons, List.length_nil, Nat.reduceAdd, Nat.reduceSub, Array.replicate_succ, Array.replicate_zero, List.push_toArray, List.append_toArray, List.nil_append, List.cons_append]
  gi_wp2
  gi_loopw [9] (fun v wr => v = .int .i64 0 ∧ wr = W) (fun _ _ => 0)
  case atStart => exact ⟨rfl, rfl⟩
  case round =>
    obtain ⟨rfl, rfl⟩ := hrel
    gi_wp2
    go_end0
    exact ⟨⟨_, rfl⟩, .inl h0⟩

/-- all(l): its list lies in a block of its own. -/
theorem all_any (A : Option Addr) (m c : Nat) (w : World) : Calls Tryz.prog 129 #[.slice A m c] w fun e w' => e = .returned (.func (.func 172) #[] #[.pointer (some ⟨w.heap.size, 0, none⟩)]) ∧ w' = w.alloc (.cells #[.slice A m c] 24) := by
  go_enter Tryz.func129, Tryz.ntmps129
  go_wp2
  go_ret
  exact ⟨rfl, rfl⟩
theorem all_turns {v : Value} {l : List (List Tm)} {w : World} (hA : As w v l) (hl : l.length ≤ 1000) (hx : ∀ x ∈ l, x.length ≤ 1000) (n Bs : Nat) (w0 : World) (hb : Below w.heap.size w w0) (hB : Bs < w0.heap.size) (hc : w0.cell? ⟨Bs, 0, none⟩ = some v) :
    Turns Tryz.prog 172 #[.pointer (some ⟨Bs, 0, none⟩)] (alE l.flatten) l.flatten.length w.heap.size n w0 := fun ll J Jx W hW hJ _ hY h0 => by
  have hc' := (hW.cell (p := ⟨Bs, 0, none⟩) hB).trans hc
  rcases hA.is with ⟨rfl, A, c, rfl⟩ | ⟨b, o, c, rfl, _, hAl⟩
  · exact all_none A c n ll Bs J Jx W hc' h0
  · exact all_row b o c l hl hx n ll Bs w J Jx W hJ hAl (hb.trans (hW.mono hb.size)) hY hc' h0

end Go.Proofs.YtmlmdncepgcimaaGreatDoor

/- The walk of depend's pieces: an iterator whose rounds are numbered. -/
namespace Go.Proofs.YtmlmdncepgcimaaGreatDoor
open Go.RowKit Go.Shelf Go.Sort
attribute [local go_sem] Oper.semAt_some

/-- What the k-th round of pieces hands over. -/
def pcE (ps : List (Nat × List UInt8)) (k : Nat) : Array Value := #[.int .i64 (((ps[k]?.getD (0, [])).1 : Nat) : Int), .string ⟨(ps[k]?.getD (0, [])).2.toArray⟩]

theorem grp_cut {z a b : List UInt8} {c : Bool} (j : Nat) (h : cutV 124 z = (a, b, c)) : grp j z = (j, a) :: (if c = true then grp j b else []) := by
  unfold cutV at h
  unfold grp
  cases hf : Vm.fc 124 z with
  | none => rw [hf] at h; simp at h; obtain ⟨rfl, rfl, rfl⟩ := h; rw [sp_none hf]; simp
  | some p => obtain ⟨x, y⟩ := p; rw [hf] at h; simp at h; obtain ⟨rfl, rfl, rfl⟩ := h; rw [sp_some hf]; simp
theorem pcl_cut {x a b : List UInt8} {c : Bool} (j : Nat) (h : cutV 44 x = (a, b, c)) : pcl j (sp 44 x) = grp j a ++ (if c = true then pcl (j + 1) (sp 44 b) else []) := by
  unfold cutV at h
  cases hf : Vm.fc 44 x with
  | none => rw [hf] at h; simp at h; obtain ⟨rfl, rfl, rfl⟩ := h; rw [sp_none hf]; simp [pcl]
  | some p => obtain ⟨u, v⟩ := p; rw [hf] at h; simp at h; obtain ⟨rfl, rfl, rfl⟩ := h; rw [sp_some hf]; simp [pcl]
theorem cutV_lt {c : UInt8} {x a b : List UInt8} {m : Bool} (h : cutV c x = (a, b, m)) : a.length ≤ x.length ∧ b.length ≤ x.length ∧ (m = true → b.length < x.length) := by
  unfold cutV at h
  rcases Vm.fc_idx c x with ⟨_, hf⟩ | ⟨k, hk, _, hf⟩
  · rw [hf] at h; simp at h; obtain ⟨rfl, rfl, rfl⟩ := h; simp
  · rw [hf] at h; simp at h; obtain ⟨rfl, rfl, rfl⟩ := h; simp; omega
theorem drop_cons {α : Type} {l r : List α} {k : Nat} {x : α} (h : l.drop k = x :: r) : k < l.length ∧ l[k]? = some x ∧ l.drop (k + 1) = r := by
  have hk : k < l.length := by
    rcases Nat.lt_or_ge k l.length with h' | h'
    · exact h'
    · rw [List.drop_eq_nil_of_le h'] at h; cases h
  rw [List.drop_eq_getElem_cons hk] at h
  cases h
  exact ⟨hk, List.getElem?_eq_getElem hk, rfl⟩
def stL : Value → Nat
  | .string b => b.size
  | _ => 0
def boN : Value → Nat
  | .bool true => 1
  | _ => 0
set_option maxRecDepth 100000 in
set_option maxHeartbeats 2000000 in
theorem pieces_in (s : List UInt8) (hs : s.length ≤ 100000) (n l Bs n₀ : Nat) (J : Nat → World → Prop) (Jx : World → Prop) (W : World) (hJ : ∀ k A B, J k A → Below A.heap.size A B → J k B)
    (hY : ∀ k W1, k < (pcs s).length → J k W1 → YieldAt Fence.wide (n - 1) Tryz.prog l (pcE (pcs s) k) W1 fun e W' => (e = .returned (.bool true) ∧ J (k + 1) W' ∧ Below n₀ W1 W') ∨ (e = .returned (.bool false) ∧ Jx W'))
    (hc : W.cell? ⟨Bs, 0, none⟩ = some (.string ⟨s.toArray⟩)) (h0 : J 0 W) :
    CallsIn Fence.wide n Tryz.prog 188 #[.func (.yield l) #[] #[], .pointer (some ⟨Bs, 0, none⟩)] W fun e W' => (∃ v, e = .returned v) ∧ (J (pcs s).length W' ∨ Jx W') := by
  refine callsIn_of_wp Tryz.func188 rfl trivial ?_ rfl
  simp only [Tryz.ntmps188, List.size_toArray, List.length_cons, List.length_nil, Nat.reduceAdd, Nat.reduceSub, Array.replicate_succ, Array.replicate_zero, List.push_toArray, List.append_toArray, List.nil_append, List.cons_append]
  gi_wp2
  gi_loopw [3, 4, 5] (fun r i m wr => ∃ (x : List UInt8) (j k : Nat) (b : Bool), r = .string ⟨x.toArray⟩ ∧ i = .int .i64 j ∧ m = .bool b ∧ x.length ≤ 100000 ∧ j ≤ 100001 ∧ (b = true → j + x.length ≤ 100000) ∧ Hid (k ≤ (pcs s).length ∧ (pcs s).drop k = if b = true then pcl j (sp 44 x) else []) ∧ J k wr)
    (fun r _ m _ => (stL r + 1) * boN m)
  case atStart => exact ⟨s, 0, 0, true, rfl, rfl, rfl, hs, by omega, fun _ => by omega, ⟨Nat.zero_le _, by simp [pcs]⟩, h0⟩
  case round =>
    obtain ⟨x, j, k, b, rfl, rfl, rfl, hx, hj, hjx, HD, hJk⟩ := hrel
    cases b with
    | false =>
      gi_wp2
      go_end0
      have hk : k = (pcs s).length := by have := HD.out; simp at this; omega
      exact ⟨⟨_, rfl⟩, .inl (hk ▸ hJk)⟩
    | true =>
      have hjx := hjx rfl
      obtain ⟨a, y, c, hcut⟩ : ∃ a y c, cutV 44 x = (a, y, c) := ⟨_, _, _, rfl⟩
      have cC := fun W => cutc 44 x W (by omega)
      rw [hcut] at cC
      have hl := cutV_lt hcut
      have HD1 : Hid (k ≤ (pcs s).length ∧ (pcs s).drop k = grp j a ++ (if c = true then pcl (j + 1) (sp 44 y) else [])) := ⟨HD.out.1, by rw [HD.out.2, if_pos rfl, pcl_cut j hcut]⟩
      clear HD hcut
      gi_wp2_with fail
      refine ⟨trivial, fun h => (by cases h), (callsIn_wide.2 (cC _)).mono ?_⟩
      rintro e w1 ⟨rfl, b1⟩
      have hJ1 := hJ _ _ _ hJk b1
      clear hJk b1 cC
      gi_wp2
      gi_loopw [6, 7] (fun r m wr => ∃ (z : List UInt8) (k : Nat) (b : Bool), r = .string ⟨z.toArray⟩ ∧ m = .bool b ∧ z.length ≤ 100000 ∧ Hid (k ≤ (pcs s).length ∧ (pcs s).drop k = (if b = true then grp j z else []) ++ (if c = true then pcl (j + 1) (sp 44 y) else [])) ∧ J k wr)
        (fun r m _ => (stL r + 1) * boN m)
      case atStart => exact ⟨a, k, true, rfl, rfl, by omega, HD1, hJ1⟩
      case round =>
        obtain ⟨z, k, b, rfl, rfl, hz, HD2, hJk⟩ := hrel
        clear HD1 hJ1
        cases b with
        | false =>
          have HD3 := Lib.hid (show k ≤ (pcs s).length ∧ (pcs s).drop k = if c = true then pcl (j + 1) (sp 44 y) else [] by
            have := HD2.out; simpa using this)
          clear HD2
          gi_wp2
          go_roundw
          case rel => exact ⟨y, j + 1, k, c, rfl, by go_num, rfl, by omega, by omega, fun h => by have := hl.2.2 h; omega, HD3, hJk⟩
          case measure =>
            cases c with
            | false => simp [stL, boN]
            | true => have := hl.2.2 rfl; simp [stL, boN, ByteArray.size]; omega
        | true =>
          obtain ⟨a2, b2, c2, hcut2⟩ : ∃ a b c, cutV 124 z = (a, b, c) := ⟨_, _, _, rfl⟩
          have cC := fun W => cutc 124 z W (by omega)
          rw [hcut2] at cC
          have hl2 := cutV_lt hcut2
          have hd := HD2.out.2
          rw [if_pos rfl, grp_cut j hcut2, List.cons_append] at hd
          obtain ⟨hk, hg, hd2⟩ := drop_cons hd
          have HD3 : Hid (k + 1 ≤ (pcs s).length ∧ (pcs s).drop (k + 1) = (if c2 = true then grp j b2 else []) ++ (if c = true then pcl (j + 1) (sp 44 y) else [])) := ⟨hk, hd2⟩
          have he : pcE (pcs s) k = #[.int .i64 (j : Int), .string ⟨a2.toArray⟩] := by unfold pcE; rw [hg]; rfl
          have HK := Lib.hid hk
          clear HD2 hcut2 hd hd2 hg hk
          gi_wp2_with fail
          refine ⟨trivial, fun h => (by cases h), (callsIn_wide.2 (cC _)).mono ?_⟩
          rintro e w2 ⟨rfl, b2'⟩
          have hJ2 := hJ _ _ _ hJk b2'
          clear hJk b2' cC
          obtain ⟨fn, tmps, assign, body, hy, hR⟩ := hY k w2 HK.out hJ2
          rw [he] at hy
          gi_wp2
          refine ⟨fun h => (by cases h), hR.mono ?_⟩
          rintro e W3 (⟨rfl, hJ3, hk3⟩ | ⟨rfl, hJx3⟩)
          · gi_wp2
            go_roundw
            case rel => exact ⟨b2, k + 1, c2, rfl, rfl, by omega, HD3, hJ3⟩
            case measure =>
              cases c2 with
              | false => simp [stL, boN]
              | true => have := hl2.2.2 rfl; simp [stL, boN, ByteArray.size]; omega
          · gi_wp2
            refine bodyPost_ret (results_none rfl _ _ _) rfl ?_
            exact ⟨⟨_, rfl⟩, .inr hJx3⟩

/-- pieces(s): its text lies in a block of its own. -/
theorem pieces_any (s : List UInt8) (w : World) : Calls Tryz.prog 142 #[.string ⟨s.toArray⟩] w fun e w' => e = .returned (.func (.func 188) #[] #[.pointer (some ⟨w.heap.size, 0, none⟩)]) ∧ w' = w.alloc (.cells #[.string ⟨s.toArray⟩] 9) := by
  go_enter Tryz.func142, Tryz.ntmps142
  go_wp2
  go_ret
  exact ⟨rfl, rfl⟩
theorem pieces_turns (s : List UInt8) (hs : s.length ≤ 100000) (n Bs n₀ : Nat) (w : World) (hB : Bs < w.heap.size) (hc : w.cell? ⟨Bs, 0, none⟩ = some (.string ⟨s.toArray⟩)) :
    Turns Tryz.prog 188 #[.pointer (some ⟨Bs, 0, none⟩)] (pcE (pcs s)) (pcs s).length n₀ n w := fun l J Jx W hW hJ _ hY h0 =>
  pieces_in s hs n l Bs n₀ J Jx W hJ hY ((hW.cell (p := ⟨Bs, 0, none⟩) hB).trans hc) h0

end Go.Proofs.YtmlmdncepgcimaaGreatDoor

/- Lists of lists of terms that are built: what is owned of them, and how it is kept. -/
namespace Go.Proofs.YtmlmdncepgcimaaGreatDoor
open Go.RowKit

def c5 (l : List Tm) : List Value := l.flatMap Tm.vs
theorem c5_len (l : List Tm) : (c5 l).length = l.length * 5 := by
  induction l with
  | nil => rfl
  | cons t l ih => simp only [c5, List.flatMap_cons, List.length_append, List.length_cons] at ih ⊢; rw [ih]; simp [Tm.vs]; omega
theorem c5_snoc (l : List Tm) (t : Tm) : c5 (l ++ [t]) = c5 l ++ t.vs := by simp [c5]
theorem c5_get : ∀ (l : List Tm) (i j : Nat) (hi : i < l.length), j < 5 → (c5 l)[i * 5 + j]? = (l[i].vs)[j]?
  | t :: l, 0, j, _, hj => by
    simp only [c5, List.flatMap_cons, Nat.zero_mul, Nat.zero_add, List.getElem_cons_zero]
    rw [List.getElem?_append_left (by simp [Tm.vs]; omega)]
  | t :: l, i + 1, j, hi, hj => by
    simp only [List.getElem_cons_succ]
    rw [← c5_get l i j (by simpa using hi) hj]
    simp only [c5, List.flatMap_cons]
    rw [List.getElem?_append_right (by simp [Tm.vs]; omega)]
    congr 1
    simp [Tm.vs]; omega

/-- Lists laid into each other: the last one is still built. -/
structure LS (W : World) (B : Nat) (v : Value) (I0 : List (List Tm)) (x : List Tm) (vs : List Value) (u : Value) (G : Nat) : Prop where
  len : vs.length = I0.length
  out : W.ownsRow B 25 1 v (I0.length + 1) (vs ++ [u])
  ins : ∀ i (hi : i < I0.length), W.ownsRow B 83 5 (vs[i]'(by omega)) I0[i].length (c5 I0[i])
  bel : ∀ i (hi : i < I0.length), ∀ g, (vs[i]'(by omega)).ownBlock = some g → g < G
  last : W.ownsRow G 83 5 u x.length (c5 x)
  gb : B ≤ G
  gs : G ≤ W.heap.size
/-- .. or there is none yet. -/
structure LA (W : World) (B : Nat) (v : Value) (L : List (List Tm)) : Prop where
  is : (L = [] ∧ v = .slice none 0 0) ∨ ∃ I0 x vs u G, L = I0 ++ [x] ∧ LS W B v I0 x vs u G

theorem own_ne {W : World} {B B' : Nat} {e e' : TypeId} {s s' n n' : Nat} {v v' : Value} {xs xs' : List Value} (h : W.ownsRow B e s v n xs) (h' : W.ownsRow B' e' s' v' n' xs') (he : e ≠ e') : v.ownBlock = none ∨ v.ownBlock ≠ v'.ownBlock := by
  cases hv : v.ownBlock with
  | none => exact .inl rfl
  | some g =>
    right
    intro hh
    obtain ⟨c, fz, h1⟩ := Lib.ownsRow_kind h g hv
    obtain ⟨c', fz', h2⟩ := Lib.ownsRow_kind h' g hh.symm
    rw [h1] at h2; cases h2; exact he rfl

theorem own_low {W : World} {B B' : Nat} {e : TypeId} {s n : Nat} {v : Value} {xs : List Value} (h : W.ownsRow B e s v n xs) (hb : B' ≤ B) : W.ownsRow B' e s v n xs :=
  ⟨h.1, h.2.imp id fun ⟨g, cap, cur, a, b, c⟩ => ⟨g, cap, cur, a, Nat.le_trans hb b, c⟩⟩
/-- Cells that are kept. -/
def Kc (W W' : World) : Prop := W.heap.size ≤ W'.heap.size ∧ ∀ (g : Nat) (c : Array Value) (t : TypeId) (f : Nat × Nat), W.heap[g]? = some (Obj.cells c t f) → W'.heap[g]? = some (Obj.cells c t f)
theorem kc_own {W W' : World} {B : Nat} {e : TypeId} {s n : Nat} {v : Value} {xs : List Value} (h : W.ownsRow B e s v n xs) (k : Kc W W') : W'.ownsRow B e s v n xs := by
  refine ⟨h.1, ?_⟩
  rcases h.2 with hn | ⟨g, cap, cur, rfl, hb, hgg, rest⟩
  · exact .inl hn
  · exact .inr ⟨g, cap, cur, rfl, hb, k.2 _ _ _ _ hgg, rest⟩
theorem LS.on {W W' : World} {B : Nat} {v : Value} {I0 : List (List Tm)} {x : List Tm} {vs : List Value} {u : Value} {G : Nat} (h : LS W B v I0 x vs u G) (k : Kc W W') : LS W' B v I0 x vs u G :=
  ⟨h.len, kc_own h.out k, fun i hi => kc_own (h.ins i hi) k, h.bel, kc_own h.last k, h.gb, Nat.le_trans h.gs k.1⟩
theorem LA.on {W W' : World} {B : Nat} {v : Value} {L : List (List Tm)} (h : LA W B v L) (k : Kc W W') : LA W' B v L := by
  rcases h.is with h | ⟨I0, x, vs, u, G, h1, h2⟩
  · exact ⟨.inl h⟩
  · exact ⟨.inr ⟨I0, x, vs, u, G, h1, h2.on k⟩⟩
theorem kc_below {W W' : World} (h : Below W.heap.size W W') : Kc W W' := ⟨h.size, fun g _ _ _ hg => (h.block g (Array.getElem?_eq_some_iff.1 hg).1).trans hg⟩
theorem kc_grown {W W' : World} {row : Option Nat} (hg : W.grownBy W' row) (hr : ∀ r, row = some r → ∃ o : Obj, W.heap[r]? = some o ∧ o.isCells = false) : Kc W W' :=
  ⟨hg.size, fun g _ _ _ h => (hg.block g (Array.getElem?_eq_some_iff.1 h).1 (fun e => by
    obtain ⟨o, ho, hc⟩ := hr g e.symm
    rw [h] at ho; cases ho; cases hc)).trans h⟩

/-- The outer slice, as it may be appended to. -/
theorem LA.out {W : World} {B : Nat} {v : Value} {L : List (List Tm)} (h : LA W B v L) : ∃ ws, ws.length = L.length ∧ W.ownsRow B 25 1 v L.length ws ∧ (∀ i (hi : i < L.length) (hi' : i < ws.length), W.ownsRow B 83 5 ws[i] L[i].length (c5 L[i])) := by
  rcases h.is with ⟨rfl, rfl⟩ | ⟨I0, x, vs, u, G, rfl, h'⟩
  · exact ⟨[], rfl, World.ownsRow_nil _ _ _ _, fun i hi => absurd hi (by simp)⟩
  · have hl := h'.len
    refine ⟨vs ++ [u], by simp [h'.len], by simpa using h'.out, fun i hi hi' => ?_⟩
    by_cases e : i < I0.length
    · rw [List.getElem_append_left (by omega)]
      have := h'.ins i e
      rw [show (I0 ++ [x])[i] = I0[i] from List.getElem_append_left e]
      exact this
    · have e' : i = I0.length := by simp at hi; omega
      subst e'
      rw [show (vs ++ [u])[I0.length] = u by rw [List.getElem_append_right (by omega)]; simp [hl]]
      rw [show (I0 ++ [x])[I0.length] = x by simp]
      exact own_low h'.last h'.gb

/-- A new list is begun. -/
theorem LS.begun {W W1 : World} {B : Nat} {v v1 : Value} {L : List (List Tm)} {ws : List Value} (hl : ws.length = L.length) (ho : W.ownsRow B 25 1 v L.length ws) (hi : ∀ i (hi : i < L.length) (hi' : i < ws.length), W.ownsRow B 83 5 ws[i] L[i].length (c5 L[i]))
    (h1 : W1.ownsRow B 25 1 v1 (L.length + 1) (ws ++ [.slice none 0 0])) (hg : W.grownBy W1 v.ownBlock) (hB : B ≤ W.heap.size) : LS W1 B v1 L [] ws (.slice none 0 0) W1.heap.size :=
  ⟨hl, h1, fun i h => (hi i h (by omega)).kept hg (own_ne (hi i h (by omega)) ho (by decide)), fun i h g e => Nat.lt_of_lt_of_le ((hi i h (by omega)).lt g e).2 hg.size, World.ownsRow_nil _ _ _ _, Nat.le_trans hB hg.size, Nat.le_refl _⟩

/-- A term is laid behind the last list's. -/
theorem LS.step {W W2 : World} {B : Nat} {v : Value} {I0 : List (List Tm)} {x : List Tm} {vs : List Value} {u u2 : Value} {G g cap : Nat} (t : Tm) (h : LS W B v I0 x vs u G) (hv : v = .slice (some ⟨g, 0, none⟩) (I0.length + 1) cap)
    (h2 : W2.ownsRow G 83 5 u2 (x.length + 1) (c5 x ++ t.vs)) (hg : W.grownBy W2 u.ownBlock) : LS (W2.setCell ⟨g, I0.length, none⟩ u2) B v I0 (x ++ [t]) vs u2 G := by
  have ho := h.out.kept hg (own_ne h.out h.last (by decide))
  have hs := (hv ▸ ho).stored I0.length u2
  have hset : (vs ++ [u]).set I0.length u2 = vs ++ [u2] := by
    rw [← h.len]
    simp
  have hne : ∀ {B' n' : Nat} {v' : Value} {xs' : List Value}, W2.ownsRow B' 83 5 v' n' xs' → v'.ownBlock ≠ some g := fun h' => by
    rcases own_ne h' ho (by decide) with e | e
    · rw [e]; simp
    · rw [hv] at e; exact e
  refine ⟨h.len, ?_, fun i hi => ?_, h.bel, ?_, h.gb, ?_⟩
  · rw [hv]
    have := hs.1
    rw [hset] at this
    exact this
  · have h3 := (h.ins i hi).kept hg (by
      cases e : (vs[i]'(by rw [h.len]; exact hi)).ownBlock with
      | none => exact .inl rfl
      | some b =>
        right
        intro e2
        have b1 := h.bel i hi b e
        have b2 := (h.last.lt b e2.symm).1
        omega)
    exact ownsRow_setCell_other h3 (hne h3) _
  · rw [c5_snoc, List.length_append]
    exact ownsRow_setCell_other h2 (hne h2) _
  · have := h.gs
    have := hg.size
    simp; omega

theorem own_ts {W : World} {B : Nat} {v : Value} {l : List Tm} (h : W.ownsRow B 83 5 v l.length (c5 l)) : Ts W v l := by
  rcases h.2 with ⟨hv, h0⟩ | ⟨g, cap, cur, hv, _, hg, hc, _⟩
  · have : l = [] := List.length_eq_zero_iff.1 h0
    exact ⟨.inl ⟨this, _, _, hv⟩⟩
  · refine ⟨.inr ⟨g, 0, cap, hv, hc, ?_⟩⟩
    have cell : ∀ i (hi : i < l.length) j, j < 5 → W.cell? ⟨g, 0 + i * 5 + j, none⟩ = (l[i].vs)[j]? := fun i hi j hj => by
      rw [Nat.zero_add, World.ownsRow.cellAt (hv ▸ h) (i * 5 + j) (by omega), c5_get l i j hi hj]
    exact ⟨(Array.getElem?_eq_some_iff.1 hg).1, fun i hi => cell i hi 0 (by omega), fun i hi => cell i hi 1 (by omega), fun i hi => cell i hi 2 (by omega), fun i hi => cell i hi 3 (by omega), fun i hi => cell i hi 4 (by omega)⟩
/-- What was built may be read. -/
theorem LA.as {W : World} {B : Nat} {v : Value} {L : List (List Tm)} (h : LA W B v L) : As W v L := by
  obtain ⟨ws, hl, ho, hi⟩ := h.out
  rcases ho.2 with ⟨hv, h0⟩ | ⟨g, cap, cur, hv, _, hg, hc, _⟩
  · exact ⟨.inl ⟨List.length_eq_zero_iff.1 h0, _, _, hv⟩⟩
  · refine ⟨.inr ⟨g, 0, cap, hv, hc, (Array.getElem?_eq_some_iff.1 hg).1, fun i hi' => ⟨ws[i]'(by omega), ?_, own_ts (hi i hi' (by omega))⟩⟩⟩
    rw [Nat.zero_add, World.ownsRow.cellAt (hv ▸ ho) i (by omega)]
    exact List.getElem?_eq_getElem (by omega)

theorem LS.set {W : World} {B : Nat} {v : Value} {I0 : List (List Tm)} {x : List Tm} {vs : List Value} {u : Value} {G : Nat} (h : LS W B v I0 x vs u G) {a : Addr} (ha : a.block < B) (y : Value) : LS (W.setCell a y) B v I0 x vs u G :=
  ⟨h.len, ownsRow_setCell_below h.out ha y, fun i hi => ownsRow_setCell_below (h.ins i hi) ha y, h.bel, ownsRow_setCell_below h.last (Nat.lt_of_lt_of_le ha h.gb) y, h.gb, by simpa using h.gs⟩
theorem LA.set {W : World} {B : Nat} {v : Value} {L : List (List Tm)} (h : LA W B v L) {a : Addr} (ha : a.block < B) (y : Value) : LA (W.setCell a y) B v L := by
  rcases h.is with h | ⟨I0, x, vs, u, G, h1, h2⟩
  · exact ⟨.inl h⟩
  · exact ⟨.inr ⟨I0, x, vs, u, G, h1, h2.set ha y⟩⟩
theorem LA.sl {W : World} {B : Nat} {v : Value} {L : List (List Tm)} (h : LA W B v L) : ∃ X c, v = .slice X L.length c := by
  obtain ⟨ws, _, ho, _⟩ := h.out
  rcases ho.2 with ⟨hv, h0⟩ | ⟨g, cap, cur, hv, _⟩
  · exact ⟨_, _, by rw [hv, h0]⟩
  · exact ⟨_, _, hv⟩

end Go.Proofs.YtmlmdncepgcimaaGreatDoor

/- Within a round: a region that draws its order, by the plain law. -/
namespace Go.Proofs.YtmlmdncepgcimaaGreatDoor
open Go.RowKit

theorem upon_round {P : Program} {l n : Nat} {o : Oper} {a : Act} {next : Act → World → Prop} {Q : Exit → Act → World → Prop} : ∀ {r : Result Next}, o.upon P a next Q r → o.uponIn (Fence.wide.inRound l) n P a next Q r
  | .ok (.value _) _, h => h
  | .ok .skip _, h => h
  | .ok (.defer _) _, h => h
  | .ok (.enter _ _) _, h => ⟨fun h => (by cases h), CallsIn.inRound l (callsIn_wide.2 h)⟩
  | .ok (.row _ _) _, h => ⟨fun h => (by cases h), fun c cs _ => by obtain ⟨v, w', hr, hs⟩ := h c cs; exact ⟨v, w', hr, stepsIn_wide.2 hs⟩⟩
  | .ok (.round ..) _, h => h.elim
  | .halt (.panic _) _, h => h

/-- No operation of a region defers a call. -/
def noDefer (ops : Array Oper) : Bool := ops.all fun o => match o.op with
  | .defer _ => false
  | _ => true
theorem noDefer_at {ops : Array Oper} (h : noDefer ops = true) {i : Nat} {o : Oper} (hi : ops[i]? = some o) : ∀ c, o.op ≠ .defer c := by
  intro c hc
  obtain ⟨hlt, rfl⟩ := Array.getElem?_eq_some_iff.1 hi
  have := (Array.all_eq_true.1 h) i hlt
  rw [hc] at this
  cases this
theorem wpOp_round {P : Program} {l n : Nat} {ops : Array Oper} {Q : Exit → Act → World → Prop} (hd : noDefer ops = true) (hQ : ¬ LetsOut Q) {i : Nat} {K : Act → World → Prop} {a : Act} {w : World} (h : wpOp P ops Q i K a w) : wpOpIn (Fence.wide.inRound l) n P ops Q i K a w := by
  unfold wpOp at h
  unfold wpOpIn
  cases ho : ops[i]? with
  | none => rw [ho] at h; exact h
  | some o =>
    rw [ho] at h
    simp only at h ⊢
    split
    · rename_i hw
      rw [if_pos hw] at h
      rcases h with h | h
      · refine ⟨fun _ _ => trivial, ?_⟩
        rw [Oper.semAt_eq _ _ _ (noDefer_at hd ho)]
        exact upon_round h
      · exact absurd h.2 hQ
    · rename_i hw
      rw [if_neg hw] at h
      exact ⟨fun _ _ => trivial, h⟩
theorem any_round {P : Program} {md : Region.Mode} {l n : Nat} {ops : Array Oper} {Q : Exit → Act → World → Prop} (hd : noDefer ops = true) (hQ : ¬ LetsOut Q) : ∀ (fuel : Nat) (listed : Array Bool) (a : Act) (w : World), wpAny P md ops Q fuel listed a w → wpAnyIn (Fence.wide.inRound l) n P md ops Q fuel listed a w
  | 0, _, _, _, h => h
  | fuel + 1, _, _, _, h => ⟨h.1, fun i hi => wpOpIn_mono (fun a' w' h' => any_round hd hQ fuel _ a' w' h') (wpOp_round hd hQ (h.2 i hi))⟩
/-- A region that draws its order, within a round. -/
theorem region_round {P : Program} {l n : Nat} {ops : Array Oper} {Q : Exit → Act → World → Prop} {id : Nat} {a : Act} {w : World} (S : World → Prop) (hm : P.follows .mixedOrders = true) (hd : noDefer ops = true) (hQ : ¬ LetsOut Q)
    (h : wpAnyH P .any ops Q S ops.size (Array.replicate ops.size false) a w.drew) : (Code.region id ops true).wpIn (Fence.wide.inRound l) n P Q a w :=
  wpIn_region_any hm (any_round hd hQ _ _ _ _ (wpAny_of_held _ _ _ _ h))

/-- An operation that is carried out. -/
theorem wpOp_go {P : Program} {ops : Array Oper} {Q : Exit → Act → World → Prop} {i : Nat} {o : Oper} {K : Act → World → Prop} {a : Act} {w : World} (hi : ops[i]? = some o) (hg : o.guard = none) (h : o.wp P a w K Q) : wpOp P ops Q i K a w := by
  unfold wpOp
  simp only [hi]
  rw [if_pos (by simp [Region.wanted, hg])]
  exact .inl h

end Go.Proofs.YtmlmdncepgcimaaGreatDoor
