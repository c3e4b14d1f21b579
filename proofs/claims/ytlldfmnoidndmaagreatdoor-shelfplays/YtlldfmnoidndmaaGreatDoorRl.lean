/- Files, the last one first: the iterator. -/
import Derived.Test.YtlldfmnoidndmaaGreatDoorRx
import Derived.Test.YtlldfmnoidndmaaGreatDoorQc
namespace Go.Proofs.YtlldfmnoidndmaaGreatDoor.Dsk
open Go.RowKit Go.Sort Go.Maps

/-- Files of a row, wherever it begins. -/
def Fq (W : World) (A : Option Addr) (F : List (List UInt8 × List UInt8)) : Prop := ∀ i (hi : i < F.length), ∃ fb fo, A = some ⟨fb, fo, none⟩ ∧ fb < W.heap.size ∧ W.cell? ⟨fb, fo + i * 2, none⟩ = some (.string ⟨F[i].1.toArray⟩) ∧ W.cell? ⟨fb, fo + i * 2 + 1, none⟩ = some (.string ⟨F[i].2.toArray⟩)
/-- What the iterator reads. -/
def BK (Bs : Nat) (A : Option Addr) (fc : Nat) (F : List (List UInt8 × List UInt8)) (W : World) : Prop := W.heap[Bs]? = some (.cells #[.slice A F.length fc] 41 (0, 0)) ∧ Fq W A F
def encB (F : List (List UInt8 × List UInt8)) (k : Nat) : Array Value := #[.int .i64 ((F.length : Int) - 1 - k), .agg #[.string ⟨(F.getD (F.length - 1 - k) ([], [])).1.toArray⟩, .string ⟨(F.getD (F.length - 1 - k) ([], [])).2.toArray⟩]]
set_option maxRecDepth 100000 in
set_option maxHeartbeats 2000000 in
theorem back_gen (Bs fc : Nat) (A : Option Addr) (F : List (List UInt8 × List UInt8)) (hFl : F.length ≤ 1000) (n : Nat) : TurnsK Tryz.prog 97 #[.pointer (some ⟨Bs, 0, none⟩)] (encB F) F.length n (BK Bs A fc F) := by
  intro l J W hK hY h0
  have HY := Lib.hid hY
  have c0 : W.cell? ⟨Bs, 0, none⟩ = some (.slice A F.length fc) := by unfold World.cell?; rw [hK.1]; rfl
  have HK0 := Lib.hid hK
  have H0 := Lib.hid h0
  clear hY hK h0
  refine callsIn_of_wp Tryz.func97 rfl trivial ?_ rfl
  simp only [Tryz.ntmps97, List.size_toArray, List.length_cons, List.length_nil, Nat.reduceAdd, Nat.reduceSub, Array.replicate_succ, Array.replicate_zero, List.push_toArray, List.append_toArray, List.nil_append, List.cons_append]
  gi_wp2
  gi_loopw [3] (fun iv wr => ∃ k : Nat, k ≤ F.length ∧ iv = .int .i64 ((F.length : Int) - 1 - k) ∧ Hid (BK Bs A fc F wr ∧ J k wr)) (fun iv _ => (intOf iv + 1).toNat)
  case atStart => exact ⟨0, Nat.zero_le _, by simp, HK0.out, H0.out⟩
  case round =>
    clear c0
    obtain ⟨k, hk, rfl, HJ⟩ := hrel
    by_cases hlt : k < F.length
    · have c0 : wr.cell? ⟨Bs, 0, none⟩ = some (.slice A F.length fc) := by unfold World.cell?; rw [HJ.out.1.1]; rfl
      obtain ⟨j, hj⟩ : ∃ j, j = F.length - 1 - k := ⟨_, rfl⟩
      have hjl : j < F.length := by omega
      obtain ⟨fb, fo, rfl, hfl, f0, f1⟩ := HJ.out.1.2 j hjl
      have hyk := HY.out k wr hlt HJ.out.2 HJ.out.1
      have hge : F.getD (F.length - 1 - k) ([], []) = F[j] := by rw [← hj, List.getD_eq_getElem?_getD, List.getElem?_eq_getElem hjl]; rfl
      have hij : (F.length : Int) - 1 - k = j := by omega
      unfold encB at hyk
      rw [hge, hij] at hyk
      rw [hij]
      generalize F[j] = f at f0 f1 hyk
      obtain ⟨fa, fd⟩ := f
      dsimp only at f0 f1 hyk
      have HJE : Hid (j + k + 1 = F.length) := by show _ = _; omega
      clear hge hij hj HJ
      obtain ⟨fn, tmps, assign, body, hy, hR⟩ := hyk
      gi_wp2
      refine ⟨fun h => (by cases h), hR.mono ?_⟩
      rintro e W3 ⟨rfl, hJ3, hk3⟩
      have H3 : Hid (BK Bs (some ⟨fb, fo, none⟩) fc F W3 ∧ J (k + 1) W3) := ⟨hk3, hJ3⟩
      clear hR hy hk3 hJ3 f0 f1 c0
      gi_wp2
      go_roundw
      case rel =>
        refine ⟨k + 1, hlt, ?_, H3⟩
        have := HJE.out
        simp only [Value.int.injEq, true_and]
        try go_num
        try omega
      case measure => simp [intOf]; try omega
    · have hke : k = F.length := by omega
      have HF : Hid (J F.length wr) := by rw [← hke]; exact HJ.out.2
      have hneg : (F.length : Int) - 1 - k = -1 := by omega
      rw [hneg]
      clear HJ hke hneg hlt hk
      gi_wp2
      go_end0
      exact ⟨⟨_, rfl⟩, HF.out⟩
end Go.Proofs.YtlldfmnoidndmaaGreatDoor.Dsk
