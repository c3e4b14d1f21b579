/- The walk of take: a line read, by cases. -/
import Derived.Test.YtfoangkkagijcaaGreatDoorQf
namespace Go.Proofs.YtfoangkkagijcaaGreatDoor.Stz
open Go.RowKit Go.Shelf Go.Sort

set_option maxHeartbeats 1600000 in
set_option maxRecDepth 100000 in
theorem take_hash {B C r : Nat} {S A V : Value} {out : List (List Sm.F)} {vs : List Value} {cur : List Sm.F} {val : List UInt8} {w0 W : World} (h : Rd B C r S A V out vs cur val w0 W) (l : List UInt8) (hl : l.length ≤ 1000000) (hh : l.head? = some 35) :
    Calls Tryz.prog 146 #[.pointer (some ⟨r, 0, none⟩), .string ⟨l.toArray⟩] W fun e w' => e = .returned (.bool true) ∧ Rd B C r S A V out vs cur val w0 w' := by
  have cH : ∀ W, Calls Tryz.prog 106 #[.string ⟨l.toArray⟩, .string ⟨#[35]⟩] W fun e w' => e = .returned (.bool true) ∧ w' = W := fun W => by
    have := hp35 l W; rw [hh] at this; exact this
  have HT := Lib.hid (fun W => trim_any l W hl)
  have HR := Lib.hid h
  clear h hh
  go_enter Tryz.func146, Tryz.ntmps146
  go_wp2_with fail
  refine (HT.out _).mono ?_
  rintro e w1 ⟨rfl, b1⟩
  go_wp2_with (go_at_call 106; with_reducible refine (cH _).mono ?_; rintro x w' ⟨rfl, rfl⟩)
  go_ret
  exact ⟨rfl, HR.out.on b1⟩

set_option maxHeartbeats 1600000 in
set_option maxRecDepth 100000 in
theorem take_empty {B C r : Nat} {S A V : Value} {out : List (List Sm.F)} {vs : List Value} {cur : List Sm.F} {val : List UInt8} {w0 W : World} (h : Rd B C r S A V out vs cur val w0 W) (hp : cur.length ≤ 100) (hv : val.length ≤ 1000000) (ho : out.length ≤ 1000000) (l : List UInt8) (hl : l.length ≤ 1000000) (hh : (l.head? == some 35) = false) (ht : Lib.trimS l [32, 9] = []) :
    Calls Tryz.prog 146 #[.pointer (some ⟨r, 0, none⟩), .string ⟨l.toArray⟩] W fun e w' => e = .returned (.bool true) ∧ ∃ C' S' V' vs', Rd B C' r S' (.slice none 0 0) V' (endO out (setL cur val)) vs' [] [] w0 w' := by
  have cH : ∀ W, Calls Tryz.prog 106 #[.string ⟨l.toArray⟩, .string ⟨#[35]⟩] W fun e w' => e = .returned (.bool false) ∧ w' = W := fun W => by
    have := hp35 l W; rw [hh] at this; exact this
  have cT : ∀ W, Calls Tryz.prog 141 #[.string ⟨l.toArray⟩, .string ⟨#[32, 9]⟩] W fun e w' => e = .returned (.string ⟨#[]⟩) ∧ Below W.heap.size W w' := fun W => by
    have := trim_any l W hl; rw [ht] at this; exact this
  have HT := Lib.hid cT
  have HR := Lib.hid h
  have HV := Lib.hid hv
  clear h hh ht cT hv
  go_enter Tryz.func146, Tryz.ntmps146
  go_wp2_with fail
  refine (HT.out _).mono ?_
  rintro e w1 ⟨rfl, b1⟩
  go_wp2_with (go_at_call 106; with_reducible refine (cH _).mono ?_; rintro x w' ⟨rfl, rfl⟩)
  refine (endS_any (HR.out.on b1) hp HV.out ho).mono ?_
  rintro e w2 ⟨rfl, R2⟩
  have HR2 := Lib.hid R2
  clear R2
  go_wp2
  go_ret
  exact ⟨rfl, HR2.out⟩

set_option maxHeartbeats 1600000 in
set_option maxRecDepth 100000 in
theorem take_more {B C r : Nat} {S A V : Value} {out : List (List Sm.F)} {vs : List Value} {cur : List Sm.F} {val : List UInt8} {w0 W : World} (h : Rd B C r S A V out vs cur val w0 W) (hp : cur.length ≤ 100) (hv : val.length ≤ 1000000) (c : UInt8) (l t : List UInt8) (hl : (c :: l).length ≤ 1000000) (hh : (c == 35) = false) (ht : Lib.trimS (c :: l) [32, 9] = t) (hne : t.isEmpty = false) (htl : t.length ≤ 1000000) (hb : Sm.bl c = true) :
    Calls Tryz.prog 146 #[.pointer (some ⟨r, 0, none⟩), .string ⟨(c :: l).toArray⟩] W fun e w' => e = .returned (.bool (gOk cur t).isSome) ∧
      ∀ u, (gOk cur t = some u → ∃ V', Rd B C r S A V' out vs cur (val ++ [10] ++ u) w0 w') ∧ (gOk cur t = none → Rd B C r S A V out vs cur val w0 w') := by
  have cH : ∀ W, Calls Tryz.prog 106 #[.string ⟨(c :: l).toArray⟩, .string ⟨#[35]⟩] W fun e w' => e = .returned (.bool false) ∧ w' = W := fun W => by
    have := hp35 (c :: l) W
    have e1 : ((c :: l).head? == some 35) = false := by simpa using hh
    rw [e1] at this; exact this
  have cT : ∀ W, Calls Tryz.prog 141 #[.string ⟨(c :: l).toArray⟩, .string ⟨#[32, 9]⟩] W fun e w' => e = .returned (.string ⟨t.toArray⟩) ∧ Below W.heap.size W w' := fun W => by
    have := trim_any (c :: l) W hl; rw [ht] at this; exact this
  have cI : ∀ W, Calls Tryz.prog 170 #[.string ⟨#[32, 9]⟩, .int .u8 c.toNat] W fun e w' => ∃ k : Int, e = .returned (.int .i64 k) ∧ decide (0 ≤ k) = true ∧ w' = W := fun W => by
    refine (idx_bl c W).mono ?_
    rintro e w' ⟨k, rfl, h1, h2⟩
    exact ⟨k, rfl, by rw [← h1, hb], h2⟩
  have HT := Lib.hid cT
  have HR := Lib.hid h
  have HV := Lib.hid hv
  obtain ⟨g, hg⟩ : ∃ g, g = gOk cur t := ⟨_, rfl⟩
  have HG := Lib.hid hg
  clear h hh ht cT hv hg hb
  rw [← HG.out]
  go_enter Tryz.func146, Tryz.ntmps146
  go_wp2_with fail
  refine (HT.out _).mono ?_
  rintro e w1 ⟨rfl, b1⟩
  go_wp2_with (first | (go_at_call 106; with_reducible refine (cH _).mono ?_; rintro x w' ⟨rfl, rfl⟩) | (go_at_call 170; refine (cI _).mono ?_; rintro x w' ⟨k, rfl, hk, rfl⟩))
  refine (goOn_any (HR.out.on b1) t htl HV.out hp).mono ?_
  rintro e w2 ⟨rfl, R2⟩
  have HR2 := Lib.hid R2
  clear R2
  rw [← HG.out] at HR2 ⊢
  go_wp2
  go_ret
  exact ⟨rfl, HR2.out⟩
end Go.Proofs.YtfoangkkagijcaaGreatDoor.Stz
