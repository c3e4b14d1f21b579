/- Files, the last one first: the iterator. -/
import Derived.Test.YtppogjjhippefaaGreatDoorRh
import Derived.Test.YtppogjjhippefaaGreatDoorSj
namespace Go.Proofs.YtppogjjhippefaaGreatDoor.Dsk
open Go.RowKit Go.Sort Go.Maps

set_option maxRecDepth 100000 in
set_option maxHeartbeats 2000000 in
theorem back_in (fb fo fc : Nat) (pa da : List UInt8) (n l Bs : Nat) (J : Nat → World → Prop) (W : World)
    (hY : ∀ W1, J 0 W1 → YieldAt Fence.wide (n - 1) Tryz.prog l #[.int .i64 0, .agg #[.string ⟨pa.toArray⟩, .string ⟨da.toArray⟩]] W1 fun e W' => e = .returned (.bool true) ∧ J 1 W' ∧ W'.heap[Bs]? = W1.heap[Bs]?)
    (hc : W.heap[Bs]? = some (.cells #[.slice (some ⟨fb, fo, none⟩) 1 fc] 41 (0, 0))) (hF : Fr W fb fo [(pa, da)]) (h0 : J 0 W) :
    CallsIn Fence.wide n Tryz.prog 97 (#[.func (.yield l) #[] #[]] ++ #[.pointer (some ⟨Bs, 0, none⟩)]) W fun e W' => (∃ v, e = .returned v) ∧ J 1 W' := by
  have c0 : W.cell? ⟨Bs, 0, none⟩ = some (.slice (some ⟨fb, fo, none⟩) 1 fc) := by unfold World.cell?; rw [hc]; rfl
  have hBlt : Bs < W.heap.size := (Array.getElem?_eq_some_iff.1 hc).1
  have f0 := hF.c0 0 (by simp)
  have f1 := hF.c1 0 (by simp)
  simp at f0 f1
  have hfl := hF.lt
  have hy0 := hY W h0
  have H0 := Lib.hid h0
  clear hc hF h0 hY
  refine callsIn_of_wp Tryz.func97 rfl trivial ?_ rfl
  simp only [Tryz.ntmps97, List.size_toArray, List.length_cons, List.length_nil, Nat.reduceAdd, Nat.reduceSub, Array.replicate_succ, Array.replicate_zero, List.push_toArray, List.append_toArray, List.nil_append, List.cons_append]
  gi_wp2
  gi_loopw [3] (fun iv wr => (iv = .int .i64 0 ∧ wr = W) ∨ (iv = .int .i64 (-1) ∧ J 1 wr)) (fun iv _ => (intOf iv + 1).toNat)
  case atStart => exact .inl ⟨rfl, rfl⟩
  case round =>
    rcases hrel with ⟨rfl, rfl⟩ | ⟨rfl, hJ⟩
    · obtain ⟨fn, tmps, assign, body, hy, hR⟩ := hy0
      gi_wp2
      refine ⟨fun h => (by cases h), hR.mono ?_⟩
      rintro e W3 ⟨rfl, hJ3, hk3⟩
      clear hR hy hk3 f0 f1 c0
      gi_wp2
      go_roundw
      case rel => exact .inr ⟨by go_num, hJ3⟩
      case measure => simp [intOf]
    · clear hy0 f0 f1 c0
      gi_wp2
      go_end0
      exact ⟨⟨_, rfl⟩, hJ⟩
end Go.Proofs.YtppogjjhippefaaGreatDoor.Dsk
