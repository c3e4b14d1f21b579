/- The walk of strings.Lines' iterator over lines that were printed. -/
import Derived.Test.YteiobnkaadedkaaGreatDoorBe
import Derived.Test.YteiobnkaadedkaaGreatDoorRf
import Derived.RangeFuncBound
import Derived.RangeFuncCalls
import Derived.Shelf.Abstract
import Derived.Shelf.RegionOpen
import Derived.OwnWalkIn
import Derived.TacticsInMore
import Derived.LoopNIn
import Derived.LoopIn
import Derived.OrdersIn
import Derived.OrdersHeld
import Derived.ControlIn
import Derived.BigRegion
namespace Go.Proofs.YteiobnkaadedkaaGreatDoor
open Go.RowKit Go.Shelf Go.Sort Go.Maps
attribute [local go_sem] Oper.semAt_some

/-- What the k-th round hands over. -/
def lnE (M : Bk) (k : Nat) : Array Value := #[.string ⟨(lnt (M[k]?.getD ([], []))).toArray⟩]
theorem ib_at (c : UInt8) : ∀ {a : List UInt8} (r : List UInt8), c ∉ a → Lib.indexByte (a ++ c :: r) c = (a.length : Int)
  | [], r, _ => by simp [Lib.indexByte]
  | x :: a, r, h => by
    have ih := ib_at c (a := a) r (fun h' => h (List.mem_cons_of_mem _ h'))
    have hx : (x == c) = false := by rw [beq_eq_false_iff_ne]; exact fun e => h (by rw [e]; exact List.mem_cons_self ..)
    rw [List.cons_append, Lib.indexByte, hx, ih]
    rw [if_neg (by simp), if_neg (by first | (simp; done) | (simp; omega)), List.length_cons]
    omega
/-- The index of a line feed. -/
theorem ib_line {nm tx r : List UInt8} (h1 : Whole nm) (h2 : Whole tx) : Lib.indexByte (lnt (nm, tx) ++ r) 10 = ((nm.length + tx.length + 1 : Nat) : Int) := by
  have e : lnt (nm, tx) ++ r = (nm ++ 9 :: tx) ++ 10 :: r := by simp [lnt]
  rw [e, ib_at 10 r]
  · simp; omega
  · simp only [List.mem_append, List.mem_cons, not_or]
    exact ⟨h1.2, by decide, h2.2⟩
theorem lines_any (s : List UInt8) (w : World) : Calls Tryz.prog 48 #[.string ⟨s.toArray⟩] w fun e w' => e = .returned (.func (.func 69) #[] #[.pointer (some ⟨w.heap.size, 0, none⟩)]) ∧ w' = w.alloc (.cells #[.string ⟨s.toArray⟩] 9) := by
  go_enter Tryz.func48, Tryz.ntmps48
  go_wp2
  go_ret
  exact ⟨rfl, rfl⟩
theorem ixb_any (s : List UInt8) (w : World) : Calls Tryz.prog 70 #[.string ⟨s.toArray⟩, .int .u8 10] w fun e w' => e = .returned (.int .i64 (Lib.indexByte s 10)) ∧ w' = w := by
  have c := Tryz.stringslite_IndexByte ⟨s.toArray⟩ 10 w
  go_enter Tryz.func70, Tryz.ntmps70
  go_wp2_with fail
  refine c.mono ?_
  rintro e w' ⟨rfl, rfl⟩
  go_wp2
  go_ret
  exact ⟨rfl, rfl⟩
set_option maxRecDepth 100000 in
set_option maxHeartbeats 2000000 in
theorem lines_in (M : Bk) (hG : Gd M) (hM : M.length ≤ 1000) (n l Bs : Nat) (J : Nat → World → Prop) (W : World) (hJ : ∀ k A B, J k A → Below A.heap.size A B → J k B) (hS : ∀ k A v, J k A → J k (A.setCell ⟨Bs, 0, none⟩ v))
    (hY : ∀ k W1, k < M.length → J k W1 → YieldAt Fence.wide (n - 1) Tryz.prog l (lnE M k) W1 fun e W' => e = .returned (.bool true) ∧ J (k + 1) W' ∧ W'.heap[Bs]? = W1.heap[Bs]?)
    (hc : W.heap[Bs]? = some (.cells #[.string ⟨(prt M).toArray⟩] 9 (0, 0))) (h0 : J 0 W) :
    CallsIn Fence.wide n Tryz.prog 69 #[.func (.yield l) #[] #[], .pointer (some ⟨Bs, 0, none⟩)] W fun e W' => (∃ v, e = .returned v) ∧ J M.length W' := by
  have HG := Lib.hid hG
  have HC := Lib.hid hc
  have H0 := Lib.hid h0
  clear hG hc h0
  refine callsIn_of_wp Tryz.func69 rfl trivial ?_ rfl
  simp only [Tryz.ntmps69, List.size_toArray, List.length_cons, List.length_nil, Nat.reduceAdd, Nat.reduceSub, Array.replicate_succ, Array.replicate_zero, List.push_toArray, List.append_toArray, List.nil_append, List.cons_append]
  gi_wp2
  gi_loopw [3] (fun _ wr => ∃ k : Nat, k ≤ M.length ∧ wr.heap[Bs]? = some (.cells #[.string ⟨(prt (M.drop k)).toArray⟩] 9 (0, 0)) ∧ J k wr) (fun _ wr => match wr.cell? ⟨Bs, 0, none⟩ with | some (.string s) => s.size | _ => 0)
  case atStart => exact ⟨0, Nat.zero_le _, HC.out, H0.out⟩
  case round =>
    obtain ⟨k, hk, hbk, hJk⟩ := hrel
    by_cases hlt : k < M.length
    · have hnm := HG.out.nm M[k] (List.getElem_mem hlt)
      have htx := HG.out.tx M[k] (List.getElem_mem hlt)
      have hpd := prt_drop hlt
      have hib := ib_line (r := prt (M.drop (k + 1))) hnm.1 htx.1
      have hll := lnt_len M[k]
      have hen : lnE M k = #[.string ⟨(lnt M[k]).toArray⟩] := by unfold lnE; rw [List.getElem?_eq_getElem hlt]; rfl
      have hpl := prt_le HG.out hM M.length
      have hyk := hY k
      rw [hen] at hyk
      have HK := Lib.hid hlt
      rw [hpd] at hbk
      rw [show (M[k].1, M[k].2) = M[k] from rfl] at hib
      have hyl : (prt (M.drop (k + 1))).length ≤ 326000 := by
        have := prt_len (M := M.drop (k + 1)) ⟨HG.out.srt.sublist (List.drop_sublist _ _), fun p hp => HG.out.nm p (List.mem_of_mem_drop hp), fun p hp => HG.out.tx p (List.mem_of_mem_drop hp)⟩
        have h2 : (M.drop (k + 1)).length ≤ 1000 := by rw [List.length_drop]; omega
        omega
      have hlen : (lnt M[k]).length = M[k].1.length + M[k].2.length + 1 + 1 := by omega
      have hl24 := hnm.2.2
      have hl300 := htx.2
      generalize hyd : prt (M.drop (k + 1)) = y at hbk hib hyl
      have HYD := Lib.hid hyd
      clear hyd
      clear hpd hnm htx hen hpl hll
      have hi : M[k].1.length + M[k].2.length + 1 ≤ 1000 := by omega
      generalize M[k].1.length + M[k].2.length + 1 = i at hib hlen hi
      generalize lnt M[k] = x at hbk hib hlen hyk
      have c0 : wr.cell? ⟨Bs, 0, none⟩ = some (.string ⟨(x ++ y).toArray⟩) := by unfold World.cell?; rw [hbk]; rfl
      have f0 : wr.frozen? ⟨Bs, 0, none⟩ = false := by unfold World.frozen?; rw [hbk]; simp
      have hBlt : Bs < wr.heap.size := (Array.getElem?_eq_some_iff.1 hbk).1
      have hxl : (x ++ y).length = i + 1 + y.length := by rw [List.length_append, hlen]
      have c1 := ixb_any (x ++ y) wr
      rw [hib] at c1
      have e1 : (ByteArray.mk (x ++ y).toArray).extract 0 (i + 1) = ⟨x.toArray⟩ := by rw [ba_take, ← hlen, List.take_left']; rfl
      have e2 : (ByteArray.mk (x ++ y).toArray).extract (i + 1) (i + 1 + y.length) = ⟨y.toArray⟩ := by rw [← hxl, ba_drop, ← hlen, List.drop_left']; rfl
      gi_wp2_with fail
      refine ⟨trivial, fun h => (by cases h), (callsIn_wide.2 c1).mono ?_⟩
      rintro e w1 ⟨rfl, rfl⟩
      clear c1
      gi_wp2_with fail
      refine wpIn_wide.2 ?_
      go_region
      have hJ2 : J k (w1.setCell ⟨Bs, 0, none⟩ (.string ⟨y.toArray⟩)).drew := hJ _ _ _ (hS _ _ _ hJk) ((Below.refl _ _).drew)
      have hb2 : (w1.setCell ⟨Bs, 0, none⟩ (.string ⟨y.toArray⟩)).drew.heap[Bs]? = some (.cells #[.string ⟨y.toArray⟩] 9 (0, 0)) := heap_set hbk
      have hsz : (x ++ y).length = (x ++ y).length := rfl
      have HM : Hid ((match w1.cell? ⟨Bs, 0, none⟩ with | some (.string s) => s.size | _ => 0) = i + 1 + y.length) := by
        show _ = _
        rw [c0]
        show (ByteArray.mk (x ++ y).toArray).size = _
        rw [← hxl]; simp [ByteArray.size]
      generalize (w1.setCell ⟨Bs, 0, none⟩ (.string ⟨y.toArray⟩)).drew = w2 at hJ2 hb2 ⊢
      obtain ⟨fn, tmps, assign, body, hy, hR⟩ := hyk w2 HK.out hJ2
      clear hJk hbk c0 f0 hBlt e1 e2 hib hyk
      gi_wp2
      refine ⟨fun h => (by cases h), hR.mono ?_⟩
      rintro e W3 ⟨rfl, hJ3, hk3⟩
      have hb3 := hk3.trans hb2
      have hc3 : W3.cell? ⟨Bs, 0, none⟩ = some (.string ⟨y.toArray⟩) := by unfold World.cell?; rw [hb3]; rfl
      clear hR hy hJ2 hb2 hk3
      gi_wp2
      go_roundw
      case rel => exact ⟨k + 1, HK.out, by rw [HYD.out]; exact hb3, hJ3⟩
      case measure =>
        rw [HM.out, hc3]
        show (ByteArray.mk y.toArray).size < _
        simp [ByteArray.size]
    · obtain rfl : k = M.length := by omega
      rw [List.drop_length] at hbk
      have c0 : wr.cell? ⟨Bs, 0, none⟩ = some (.string ⟨#[]⟩) := by unfold World.cell?; rw [hbk]; rfl
      gi_wp2
      go_end0
      exact ⟨⟨_, rfl⟩, hJk⟩
/-- The iterator of strings.Lines over lines that were printed. -/
theorem lines_turns (M : Bk) (hG : Gd M) (hM : M.length ≤ 1000) (n Bs : Nat) (w : World) (hc : w.heap[Bs]? = some (.cells #[.string ⟨(prt M).toArray⟩] 9 (0, 0))) : Turns Tryz.prog 69 #[.pointer (some ⟨Bs, 0, none⟩)] (lnE M) M.length Bs n w := fun l J W hW hJ hS hY h0 =>
  lines_in M hG hM n l Bs J W hJ hS hY ((hW.block Bs (Array.getElem?_eq_some_iff.1 hc).1).trans hc) h0
end Go.Proofs.YteiobnkaadedkaaGreatDoor
