/- The walk of depend's pieces: an iterator whose rounds are numbered. -/
import Derived.Test.YtglfdipepofcjabDoorTb
import Derived.Test.YtglfdipepofcjabDoorRf
import Derived.RangeFuncBound
import Derived.RangeFuncCalls
import Derived.Shelf.Abstract
import Derived.Shelf.RegionOpen
import Derived.WalkKit
import Derived.OwnWalkIn
import Derived.TacticsInMore
import Derived.LoopNIn
import Derived.LoopIn
namespace Go.Proofs.YtglfdipepofcjabDoor
open Go.RowKit Go.Shelf Go.Sort
attribute [local go_sem] Oper.semAt_some

/-- What the k-th round of pieces hands over. -/
def pcE (ps : List (Nat × List UInt8)) (k : Nat) : Array Value := #[.int .i64 (((ps[k]?.getD (0, [])).1 : Nat) : Int), .string ⟨(ps[k]?.getD (0, [])).2.toArray⟩]

theorem grp_cut {z a b : List UInt8} {c : Bool} (j : Nat) (h : cutV 124 z = (a, b, c)) : grp j z = (j, a) :: (if c = true then grp j b else []) := by
  unfold cutV at h
  unfold grp
  cases hf : Vm.fc 124 z with
  | none => rw [hf] at h; simp at h; obtain ⟨rfl, rfl, rfl⟩ := h; rw [sp_none hf]; simp
  | some p => obtain ⟨x, y⟩ := p; rw [hf] at h; simp at h; obtain ⟨rfl, rfl, rfl⟩ := h; rw [sp_some hf]; simp
theorem pcl_cut {x a b : List UInt8} {c : Bool} (j : Nat) (h : cutV 44 x = (a, b, c)) : pcl j (sp 44 x) = grp j a ++ (if c = true then pcl (j + 1) (sp 44 b) else []) := by
  unfold cutV at h
  cases hf : Vm.fc 44 x with
  | none => rw [hf] at h; simp at h; obtain ⟨rfl, rfl, rfl⟩ := h; rw [sp_none hf]; simp [pcl]
  | some p => obtain ⟨u, v⟩ := p; rw [hf] at h; simp at h; obtain ⟨rfl, rfl, rfl⟩ := h; rw [sp_some hf]; simp [pcl]
theorem cutV_lt {c : UInt8} {x a b : List UInt8} {m : Bool} (h : cutV c x = (a, b, m)) : a.length ≤ x.length ∧ b.length ≤ x.length ∧ (m = true → b.length < x.length) := by
  unfold cutV at h
  rcases Vm.fc_idx c x with ⟨_, hf⟩ | ⟨k, hk, _, hf⟩
  · rw [hf] at h; simp at h; obtain ⟨rfl, rfl, rfl⟩ := h; simp
  · rw [hf] at h; simp at h; obtain ⟨rfl, rfl, rfl⟩ := h; simp; omega
theorem drop_cons {α : Type} {l r : List α} {k : Nat} {x : α} (h : l.drop k = x :: r) : k < l.length ∧ l[k]? = some x ∧ l.drop (k + 1) = r := by
  have hk : k < l.length := by
    rcases Nat.lt_or_ge k l.length with h' | h'
    · exact h'
    · rw [List.drop_eq_nil_of_le h'] at h; cases h
  rw [List.drop_eq_getElem_cons hk] at h
  cases h
  exact ⟨hk, List.getElem?_eq_getElem hk, rfl⟩
def stL : Value → Nat
  | .string b => b.size
  | _ => 0
def boN : Value → Nat
  | .bool true => 1
  | _ => 0
set_option maxRecDepth 100000 in
set_option maxHeartbeats 2000000 in
theorem pieces_in (s : List UInt8) (hs : s.length ≤ 100000) (n l Bs n₀ : Nat) (J : Nat → World → Prop) (Jx : World → Prop) (W : World) (hJ : ∀ k A B, J k A → Below A.heap.size A B → J k B)
    (hY : ∀ k W1, k < (pcs s).length → J k W1 → YieldAt Fence.wide (n - 1) Tryd.prog l (pcE (pcs s) k) W1 fun e W' => (e = .returned (.bool true) ∧ J (k + 1) W' ∧ Below n₀ W1 W') ∨ (e = .returned (.bool false) ∧ Jx W'))
    (hc : W.cell? ⟨Bs, 0, none⟩ = some (.string ⟨s.toArray⟩)) (h0 : J 0 W) :
    CallsIn Fence.wide n Tryd.prog 138 #[.func (.yield l) #[] #[], .pointer (some ⟨Bs, 0, none⟩)] W fun e W' => (∃ v, e = .returned v) ∧ (J (pcs s).length W' ∨ Jx W') := by
  refine callsIn_of_wp Tryd.func138 rfl trivial ?_ rfl
  simp only [Tryd.ntmps138, List.size_toArray, List.length_cons, List.length_nil, Nat.reduceAdd, Nat.reduceSub, Array.replicate_succ, Array.replicate_zero, List.push_toArray, List.append_toArray, List.nil_append, List.cons_append]
  gi_wp2
  gi_loopw [3, 4, 5] (fun r i m wr => ∃ (x : List UInt8) (j k : Nat) (b : Bool), r = .string ⟨x.toArray⟩ ∧ i = .int .i64 j ∧ m = .bool b ∧ x.length ≤ 100000 ∧ j ≤ 100001 ∧ (b = true → j + x.length ≤ 100000) ∧ Hid (k ≤ (pcs s).length ∧ (pcs s).drop k = if b = true then pcl j (sp 44 x) else []) ∧ J k wr)
    (fun r _ m _ => (stL r + 1) * boN m)
  case atStart => exact ⟨s, 0, 0, true, rfl, rfl, rfl, hs, by omega, fun _ => by omega, ⟨Nat.zero_le _, by simp [pcs]⟩, h0⟩
  case round =>
    obtain ⟨x, j, k, b, rfl, rfl, rfl, hx, hj, hjx, HD, hJk⟩ := hrel
    cases b with
    | false =>
      gi_wp2
      go_end0
      have hk : k = (pcs s).length := by have := HD.out; simp at this; omega
      exact ⟨⟨_, rfl⟩, .inl (hk ▸ hJk)⟩
    | true =>
      have hjx := hjx rfl
      obtain ⟨a, y, c, hcut⟩ : ∃ a y c, cutV 44 x = (a, y, c) := ⟨_, _, _, rfl⟩
      have cC := fun W => cutc 44 x W (by omega)
      rw [hcut] at cC
      have hl := cutV_lt hcut
      have HD1 : Hid (k ≤ (pcs s).length ∧ (pcs s).drop k = grp j a ++ (if c = true then pcl (j + 1) (sp 44 y) else [])) := ⟨HD.out.1, by rw [HD.out.2, if_pos rfl, pcl_cut j hcut]⟩
      clear HD hcut
      gi_wp2_with fail
      refine ⟨trivial, fun h => (by cases h), (callsIn_wide.2 (cC _)).mono ?_⟩
      rintro e w1 ⟨rfl, b1⟩
      have hJ1 := hJ _ _ _ hJk b1
      clear hJk b1 cC
      gi_wp2
      gi_loopw [6, 7] (fun r m wr => ∃ (z : List UInt8) (k : Nat) (b : Bool), r = .string ⟨z.toArray⟩ ∧ m = .bool b ∧ z.length ≤ 100000 ∧ Hid (k ≤ (pcs s).length ∧ (pcs s).drop k = (if b = true then grp j z else []) ++ (if c = true then pcl (j + 1) (sp 44 y) else [])) ∧ J k wr)
        (fun r m _ => (stL r + 1) * boN m)
      case atStart => exact ⟨a, k, true, rfl, rfl, by omega, HD1, hJ1⟩
      case round =>
        obtain ⟨z, k, b, rfl, rfl, hz, HD2, hJk⟩ := hrel
        clear HD1 hJ1
        cases b with
        | false =>
          have HD3 := Lib.hid (show k ≤ (pcs s).length ∧ (pcs s).drop k = if c = true then pcl (j + 1) (sp 44 y) else [] by
            have := HD2.out; simpa using this)
          clear HD2
          gi_wp2
          go_roundw
          case rel => exact ⟨y, j + 1, k, c, rfl, by go_num, rfl, by omega, by omega, fun h => by have := hl.2.2 h; omega, HD3, hJk⟩
          case measure =>
            cases c with
            | false => simp [stL, boN]
            | true => have := hl.2.2 rfl; simp [stL, boN, ByteArray.size]; omega
        | true =>
          obtain ⟨a2, b2, c2, hcut2⟩ : ∃ a b c, cutV 124 z = (a, b, c) := ⟨_, _, _, rfl⟩
          have cC := fun W => cutc 124 z W (by omega)
          rw [hcut2] at cC
          have hl2 := cutV_lt hcut2
          have hd := HD2.out.2
          rw [if_pos rfl, grp_cut j hcut2, List.cons_append] at hd
          obtain ⟨hk, hg, hd2⟩ := drop_cons hd
          have HD3 : Hid (k + 1 ≤ (pcs s).length ∧ (pcs s).drop (k + 1) = (if c2 = true then grp j b2 else []) ++ (if c = true then pcl (j + 1) (sp 44 y) else [])) := ⟨hk, hd2⟩
          have he : pcE (pcs s) k = #[.int .i64 (j : Int), .string ⟨a2.toArray⟩] := by unfold pcE; rw [hg]; rfl
          have HK := Lib.hid hk
          clear HD2 hcut2 hd hd2 hg hk
          gi_wp2_with fail
          refine ⟨trivial, fun h => (by cases h), (callsIn_wide.2 (cC _)).mono ?_⟩
          rintro e w2 ⟨rfl, b2'⟩
          have hJ2 := hJ _ _ _ hJk b2'
          clear hJk b2' cC
          obtain ⟨fn, tmps, assign, body, hy, hR⟩ := hY k w2 HK.out hJ2
          rw [he] at hy
          gi_wp2
          refine ⟨fun h => (by cases h), hR.mono ?_⟩
          rintro e W3 (⟨rfl, hJ3, hk3⟩ | ⟨rfl, hJx3⟩)
          · gi_wp2
            go_roundw
            case rel => exact ⟨b2, k + 1, c2, rfl, rfl, by omega, HD3, hJ3⟩
            case measure =>
              cases c2 with
              | false => simp [stL, boN]
              | true => have := hl2.2.2 rfl; simp [stL, boN, ByteArray.size]; omega
          · gi_wp2
            refine bodyPost_ret (results_none rfl _ _ _) rfl ?_
            exact ⟨⟨_, rfl⟩, .inr hJx3⟩

/-- pieces(s): its text lies in a block of its own. -/
theorem pieces_any (s : List UInt8) (w : World) : Calls Tryd.prog 105 #[.string ⟨s.toArray⟩] w fun e w' => e = .returned (.func (.func 138) #[] #[.pointer (some ⟨w.heap.size, 0, none⟩)]) ∧ w' = w.alloc (.cells #[.string ⟨s.toArray⟩] 9) := by
  go_enter Tryd.func105, Tryd.ntmps105
  go_wp2
  go_ret
  exact ⟨rfl, rfl⟩
theorem pieces_turns (s : List UInt8) (hs : s.length ≤ 100000) (n Bs n₀ : Nat) (w : World) (hB : Bs < w.heap.size) (hc : w.cell? ⟨Bs, 0, none⟩ = some (.string ⟨s.toArray⟩)) :
    Turns Tryd.prog 138 #[.pointer (some ⟨Bs, 0, none⟩)] (pcE (pcs s)) (pcs s).length n₀ n w := fun l J Jx W hW hJ _ hY h0 =>
  pieces_in s hs n l Bs n₀ J Jx W hJ hY ((hW.cell (p := ⟨Bs, 0, none⟩) hB).trans hc) h0

end Go.Proofs.YtglfdipepofcjabDoor
