/- Tables in memory; follow. -/
import Derived.Test.YtnebkdildnngeaaDoorProg
import Derived.Test.YtnebkdildnngeaaDoorOa
import Derived.WalkKit
import Derived.OwnWalk
import Derived.BigCall
import Derived.Below
import Derived.Lib.Hide
import Derived.Lib.QuietBelow
import Derived.WalkSpells
import Derived.WalkLawsBesides
import Derived.Deep.QuietTactic
import Derived.BigQuiet
import Derived.Laws.Cover1
import Derived.OrdersHeld
namespace Go.Proofs.YtnebkdildnngeaaDoor
open Go.RowKit Go.Sort

/-- Only the blocks of S, and new ones, have turned. -/
structure Kp (S : Nat → Prop) (w w' : World) : Prop where
  os : w'.os = w.os
  tape : w'.tape = w.tape
  output : w'.output = w.output
  size : w.heap.size ≤ w'.heap.size
  block : ∀ k, k < w.heap.size → ¬ S k → w'.heap[k]? = w.heap[k]?
theorem Kp.refl (S : Nat → Prop) (w : World) : Kp S w w := ⟨rfl, rfl, rfl, Nat.le_refl _, fun _ _ _ => rfl⟩
theorem Kp.trans {S : Nat → Prop} {a b c : World} (h : Kp S a b) (k : Kp S b c) : Kp S a c :=
  ⟨k.os.trans h.os, k.tape.trans h.tape, k.output.trans h.output, Nat.le_trans h.size k.size, fun i hi hs => (k.block i (Nat.lt_of_lt_of_le hi h.size) hs).trans (h.block i hi hs)⟩
theorem Kp.set {S : Nat → Prop} {a w : World} (h : Kp S a w) {p : Addr} (hp : S p.block) (u : Value) : Kp S a (w.setCell p u) :=
  h.trans ⟨rfl, rfl, rfl, by simp [World.setCell], fun k _ hs => Below.heap_setCell _ _ _ _ (fun e => hs (e ▸ hp))⟩
theorem Kp.drew {S : Nat → Prop} {a w : World} (h : Kp S a w) : Kp S a w.drew := ⟨h.os, h.tape, h.output, h.size, h.block⟩
theorem Kp.below {S : Nat → Prop} {a w : World} (h : Kp S a w) {B : Nat} (hB : B ≤ a.heap.size) (hS : ∀ k, S k → B ≤ k) : Below B a w :=
  ⟨h.os, h.tape, h.output, h.size, fun k hk => h.block k (Nat.lt_of_lt_of_le hk hB) (fun s => by have := hS k s; omega)⟩
theorem bon {w w1 w2 : World} (h : Below w.heap.size w w1) (k : Below w1.heap.size w1 w2) : Below w.heap.size w w2 := h.trans (k.mono h.size)

/-- A table of the first n, as it lies in memory. -/
structure Tb (W : World) (g n : Nat) (M : Om.T) : Prop where
  lt : g < W.heap.size
  le : n ≤ 40
  c : ∀ a b, a < n → b < n → W.cell? ⟨g, a * 40 + b, none⟩ = some (.bool (M a b))
  f : ∀ j, W.frozen? ⟨g, j, none⟩ = false
theorem Tb.on {W W' : World} {g n : Nat} {M : Om.T} (h : Tb W g n M) (k : Below W.heap.size W W') : Tb W' g n M :=
  ⟨Nat.lt_of_lt_of_le h.lt k.size, h.le, fun a b ha hb => (k.cell h.lt).trans (h.c a b ha hb), fun j => (k.frozen h.lt).trans (h.f j)⟩
theorem Tb.kp {W W' : World} {g n : Nat} {M : Om.T} {S : Nat → Prop} (h : Tb W g n M) (k : Kp S W W') (hs : ¬ S g) : Tb W' g n M :=
  ⟨Nat.lt_of_lt_of_le h.lt k.size, h.le, fun a b ha hb => (World.cell?_of_block (w := W) (k.block g h.lt hs)).trans (h.c a b ha hb), fun j => (World.frozen?_of_block (w := W) (k.block g h.lt hs)).trans (h.f j)⟩
theorem Tb.drew {W : World} {g n : Nat} {M : Om.T} (h : Tb W g n M) : Tb W.drew g n M := ⟨h.lt, h.le, h.c, h.f⟩
theorem Tb.set {W : World} {g n : Nat} {M : Om.T} (h : Tb W g n M) {a b : Nat} (ha : a < n) (hb : b < n) (v : Bool) : Tb (W.setCell ⟨g, a * 40 + b, none⟩ (.bool v)) g n (fun x y => if x = a ∧ y = b then v else M x y) := by
  have hn := h.le
  refine ⟨by simpa [World.setCell] using h.lt, h.le, fun x y hx hy => ?_, fun j => by simpa using h.f j⟩
  by_cases e : x = a ∧ y = b
  · obtain ⟨rfl, rfl⟩ := e
    rw [if_pos ⟨rfl, rfl⟩]
    have := h.c x y hx hy
    simp [go_sem, this]
  · rw [if_neg e]
    have := h.c x y hx hy
    rw [World.cell?_setCell_other]
    · exact this
    · intro e2
      have e3 : a * 40 + b = x * 40 + y := by injection e2
      exact e ⟨by omega, by omega⟩
theorem Tb.congr {W : World} {g n : Nat} {M N : Om.T} (h : Tb W g n M) (e : ∀ a b, a < n → b < n → M a b = N a b) : Tb W g n N :=
  ⟨h.lt, h.le, fun a b ha hb => by rw [← e a b ha hb]; exact h.c a b ha hb, h.f⟩
theorem Tb.less {W : World} {g m n : Nat} {M : Om.T} (h : Tb W g m M) (e : n ≤ m) : Tb W g n M :=
  ⟨h.lt, Nat.le_trans e h.le, fun a b ha hb => h.c a b (by omega) (by omega), h.f⟩

set_option maxHeartbeats 1600000 in
set_option maxRecDepth 100000 in
theorem follow_any (g n : Nat) (M : Om.T) (w : World) (h : Tb w g n M) :
    Calls Tryd.prog 20 #[.pointer (some ⟨g, 0, none⟩), .int .i64 n] w fun e w' => e = .returned (.tuple #[]) ∧ Tb w' g n (Om.cl n M) ∧ Kp (· = g) w w' := by
  have hn := h.le
  go_enter Tryd.func20, Tryd.ntmps20
  go_wp2
  go_loopw [9] (fun i W => ∃ k : Nat, k ≤ n ∧ i = .int .i64 k ∧ Kp (· = g) w W ∧ Tb W g n (fun a b => M a b || (decide (a = b) && decide (a < k)))) (fun i _ => n - (intOf i).toNat)
  case atStart => exact ⟨0, Nat.zero_le _, rfl, Kp.refl _ _, h.congr fun a b _ _ => by simp⟩
  case round =>
    obtain ⟨k, hk, rfl, hW, hT⟩ := hrel
    by_cases hlt : k < n
    · have c0 := hT.c k k (by omega) (by omega)
      have f0 := hT.f (k * 40 + k)
      go_wp2
      refine ⟨⟨k + 1, hlt, by go_num, hW.set rfl _, ?_⟩, by simp [intOf]; omega⟩
      refine (hT.set (by omega) (by omega) true).congr fun a b ha hb => ?_
      by_cases e : a = k ∧ b = k
      · obtain ⟨rfl, rfl⟩ := e
        simp
      · rw [if_neg e]
        by_cases e2 : a = b
        · subst e2
          simp
          congr 1
          rw [Bool.eq_iff_iff]; simp; omega
        · simp [e2]
    · have ek : k = n := by omega
      subst ek
      have HT := Lib.hid hT
      have HW := Lib.hid hW
      clear hT hW h
      go_wp2
      go_loopw [20] (fun i W => ∃ j : Nat, j ≤ k ∧ i = .int .i64 j ∧ Kp (· = g) w W ∧ Tb W g k (Om.fw (Om.dg k M) j)) (fun i _ => k - (intOf i).toNat)
      case atStart => exact ⟨0, Nat.zero_le _, rfl, HW.out, HT.out⟩
      case round =>
        obtain ⟨j, hj, rfl, hW, hT⟩ := hrel
        by_cases hlt : j < k
        · have HN : Hid (∀ N, N = Om.fw (Om.dg k M) j → Om.fw (Om.dg k M) (j + 1) = Om.stp N j) := fun N h => by rw [h]; rfl
          generalize Om.fw (Om.dg k M) j = N at hT HN
          have HT2 := Lib.hid hT
          have HW2 := Lib.hid hW
          clear hT hW
          go_wp2
          go_loopw [24] (fun i W => ∃ a : Nat, a ≤ k ∧ i = .int .i64 a ∧ Kp (· = g) w W ∧ Tb W g k (Om.sq N j a 0)) (fun i _ => k - (intOf i).toNat)
          case atStart => exact ⟨0, Nat.zero_le _, rfl, HW2.out, by rw [Om.sq_0]; exact HT2.out⟩
          case round =>
            obtain ⟨a, ha, rfl, hW, hT⟩ := hrel
            by_cases hlta : a < k
            · have HT3 := Lib.hid hT
              have HW3 := Lib.hid hW
              clear hT hW
              go_wp2
              go_loopw [28] (fun i W => ∃ b : Nat, b ≤ k ∧ i = .int .i64 b ∧ Kp (· = g) w W ∧ Tb W g k (Om.sq N j a b)) (fun i _ => k - (intOf i).toNat)
              case atStart => exact ⟨0, Nat.zero_le _, rfl, HW3.out, HT3.out⟩
              case round =>
                obtain ⟨b, hb, rfl, hW, hT⟩ := hrel
                by_cases hltb : b < k
                · have c0 := hT.drew.c a b hlta hltb
                  have c1 := hT.drew.c a j hlta hlt
                  have c2 := hT.drew.c j b hlt hltb
                  have f0 := hT.f (a * 40 + b)
                  rw [Om.sq_here] at c0
                  rw [Om.sq_col] at c1
                  rw [Om.sq_row] at c2
                  have HS : Hid (Om.stp N j a b = (N a b || (N a j && N j b))) := rfl
                  have HTb := Lib.hid hT
                  have HWb := Lib.hid hW
                  clear hT hW
                  generalize N a b = x at c0 HS
                  generalize N a j = y at c1 HS
                  generalize N j b = z at c2 HS
                  have fin : ∀ v, v = (x || (y && z)) → Tb (wr.setCell ⟨g, a * 40 + b, none⟩ (.bool v)).drew g k (Om.sq N j a (b + 1)) := fun v hv => by
                    rw [Om.sq_next, HS.out, ← hv]
                    exact (HTb.out.set hlta hltb v).drew
                  have HF := Lib.hid fin
                  clear fin HS
                  cases x <;> cases y <;> cases z
                  all_goals (go_wp2; go_region; go_wp2)
                  all_goals exact ⟨⟨b + 1, hltb, by go_num, (HWb.out.set rfl _).drew, HF.out _ rfl⟩, by simp [intOf]; omega⟩
                · have eb : b = k := by omega
                  subst eb
                  go_wp2
                  exact ⟨⟨a + 1, hlta, by go_num, hW, hT.congr fun x y hx hy => by unfold Om.sq; by_cases e : x < a ∨ (x = a ∧ y < b); · rw [if_pos e, if_pos (by omega)]
                                                                                   · rw [if_neg e, if_neg (by omega)]⟩, by simp [intOf]; omega⟩
            · have ea : a = k := by omega
              subst ea
              go_wp2
              exact ⟨⟨j + 1, hlt, by go_num, hW, hT.congr fun x y hx hy => by rw [HN.out _ rfl]; unfold Om.sq; rw [if_pos (.inl hx)]⟩, by simp [intOf]; omega⟩
        · have ej : j = k := by omega
          subst ej
          go_wp2
          exact bodyPost_end (results_none rfl _ _ _) rfl ⟨rfl, hT, hW⟩
end Go.Proofs.YtnebkdildnngeaaDoor
