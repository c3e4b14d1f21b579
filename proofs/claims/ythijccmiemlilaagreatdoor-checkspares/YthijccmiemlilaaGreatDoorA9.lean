/- Mathematics of who comes ahead of whom: ways by squares, sets, one by one. -/
import Derived.Test.YthijccmiemlilaaGreatDoorProg
import Derived.WalkKit
import Derived.OwnWalk
import Derived.BigCall
import Derived.Below
import Derived.Lib.Hide
import Derived.Lib.QuietBelow
import Derived.WalkSpells
import Derived.WalkLawsBesides
import Derived.Deep.QuietTactic
import Derived.BigQuiet
import Derived.Laws.Cover1
import Derived.OrdersHeld
namespace Go.Proofs.YthijccmiemlilaaGreatDoor.Ord
namespace Om

/-- A table: of each one, ahead of whom it comes. -/
abbrev T := Nat → Nat → Bool
def stp (M : T) (k : Nat) : T := fun a b => M a b || (M a k && M k b)
def fw (M : T) : Nat → T
  | 0 => M
  | k + 1 => stp (fw M k) k
theorem fw_ge (M : T) : ∀ (k : Nat) {a b : Nat}, M a b = true → fw M k a b = true
  | 0, _, _, h => h
  | k + 1, _, _, h => by show (fw M k _ _ || _) = true; rw [fw_ge M k h]; rfl
theorem fw_tr (M : T) : ∀ (k c : Nat), c < k → ∀ a b, fw M k a c = true → fw M k c b = true → fw M k a b = true
  | 0, _, h, _, _ => absurd h (Nat.not_lt_zero _)
  | k + 1, c, h, a, b => by
    have ih := fw_tr M k
    intro h1 h2
    show (fw M k a b || (fw M k a k && fw M k k b)) = true
    have h1' : fw M k a c = true ∨ (fw M k a k = true ∧ fw M k k c = true) := by
      have : (fw M k a c || (fw M k a k && fw M k k c)) = true := h1
      simpa using this
    have h2' : fw M k c b = true ∨ (fw M k c k = true ∧ fw M k k b = true) := by
      have : (fw M k c b || (fw M k c k && fw M k k b)) = true := h2
      simpa using this
    by_cases hc : c = k
    · subst hc
      have e1 : fw M c a c = true := by rcases h1' with h | h; exact h; exact h.1
      have e2 : fw M c c b = true := by rcases h2' with h | h; exact h; exact h.2
      simp [e1, e2]
    · have hk : c < k := by omega
      rcases h1' with h1' | h1' <;> rcases h2' with h2' | h2'
      · simp [ih c hk a b h1' h2']
      · simp [ih c hk a k h1' h2'.1, h2'.2]
      · simp [h1'.1, ih c hk k b h1'.2 h2']
      · simp [h1'.1, h2'.2]
/-- Each to itself. -/
def dg (n : Nat) (M : T) : T := fun a b => M a b || (decide (a = b) && decide (a < n))
def cl (n : Nat) (M : T) : T := fw (dg n M) n
theorem cl_refl {n : Nat} (M : T) {a : Nat} (h : a < n) : cl n M a a = true := fw_ge _ _ (by simp [dg, h])
theorem cl_ge {n : Nat} {M : T} {a b : Nat} (h : M a b = true) : cl n M a b = true := fw_ge _ _ (by simp [dg, h])
theorem cl_tr {n : Nat} (M : T) {a b c : Nat} (hc : c < n) (h1 : cl n M a c = true) (h2 : cl n M c b = true) : cl n M a b = true := fw_tr _ n c hc a b h1 h2
/-- One step of a square, cell by cell: those ahead of (a, b) are done. -/
def sq (M : T) (k a b : Nat) : T := fun x y => if x < a ∨ (x = a ∧ y < b) then stp M k x y else M x y
theorem stp_col (M : T) (k x : Nat) : stp M k x k = M x k := by unfold stp; cases M x k <;> simp
theorem stp_row (M : T) (k y : Nat) : stp M k k y = M k y := by unfold stp; cases M k y <;> simp
theorem sq_col (M : T) (k a b x : Nat) : sq M k a b x k = M x k := by unfold sq; rw [stp_col]; split <;> rfl
theorem sq_row (M : T) (k a b y : Nat) : sq M k a b k y = M k y := by unfold sq; rw [stp_row]; split <;> rfl
theorem sq_here (M : T) (k a b : Nat) : sq M k a b a b = M a b := by unfold sq; rw [if_neg (by omega)]
theorem sq_next (M : T) (k a b : Nat) : sq M k a (b + 1) = fun x y => if x = a ∧ y = b then stp M k a b else sq M k a b x y := by
  funext x y
  unfold sq
  by_cases h : x = a ∧ y = b
  · obtain ⟨rfl, rfl⟩ := h
    rw [if_pos (by omega), if_pos ⟨rfl, rfl⟩]
  · rw [if_neg h]
    by_cases h2 : x < a ∨ (x = a ∧ y < b)
    · rw [if_pos h2, if_pos (by omega)]
    · rw [if_neg h2, if_neg (by omega)]
theorem sq_0 (M : T) (k : Nat) : sq M k 0 0 = M := by funext x y; unfold sq; rw [if_neg (by omega)]
/-- Beyond n nothing is asked. -/
def Eqn (n : Nat) (M N : T) : Prop := ∀ a b, a < n → b < n → M a b = N a b
end Om
end Go.Proofs.YthijccmiemlilaaGreatDoor.Ord
namespace Go.Proofs.YthijccmiemlilaaGreatDoor.Ord
open Go.RowKit Go.Sort

/-- Only the blocks of S, and new ones, have turned. -/
structure Kp (S : Nat → Prop) (w w' : World) : Prop where
  os : w'.os = w.os
  tape : w'.tape = w.tape
  output : w'.output = w.output
  size : w.heap.size ≤ w'.heap.size
  block : ∀ k, k < w.heap.size → ¬ S k → w'.heap[k]? = w.heap[k]?
theorem Kp.refl (S : Nat → Prop) (w : World) : Kp S w w := ⟨rfl, rfl, rfl, Nat.le_refl _, fun _ _ _ => rfl⟩
theorem Kp.trans {S : Nat → Prop} {a b c : World} (h : Kp S a b) (k : Kp S b c) : Kp S a c :=
  ⟨k.os.trans h.os, k.tape.trans h.tape, k.output.trans h.output, Nat.le_trans h.size k.size, fun i hi hs => (k.block i (Nat.lt_of_lt_of_le hi h.size) hs).trans (h.block i hi hs)⟩
theorem Kp.set {S : Nat → Prop} {a w : World} (h : Kp S a w) {p : Addr} (hp : S p.block) (u : Value) : Kp S a (w.setCell p u) :=
  h.trans ⟨rfl, rfl, rfl, by simp [World.setCell], fun k _ hs => Below.heap_setCell _ _ _ _ (fun e => hs (e ▸ hp))⟩
theorem Kp.drew {S : Nat → Prop} {a w : World} (h : Kp S a w) : Kp S a w.drew := ⟨h.os, h.tape, h.output, h.size, h.block⟩
theorem Kp.below {S : Nat → Prop} {a w : World} (h : Kp S a w) {B : Nat} (hB : B ≤ a.heap.size) (hS : ∀ k, S k → B ≤ k) : Below B a w :=
  ⟨h.os, h.tape, h.output, h.size, fun k hk => h.block k (Nat.lt_of_lt_of_le hk hB) (fun s => by have := hS k s; omega)⟩
theorem bon {w w1 w2 : World} (h : Below w.heap.size w w1) (k : Below w1.heap.size w1 w2) : Below w.heap.size w w2 := h.trans (k.mono h.size)

/-- A table of the first n, as it lies in memory. -/
structure Tb (W : World) (g n : Nat) (M : Om.T) : Prop where
  lt : g < W.heap.size
  le : n ≤ 40
  c : ∀ a b, a < n → b < n → W.cell? ⟨g, a * 40 + b, none⟩ = some (.bool (M a b))
  f : ∀ j, W.frozen? ⟨g, j, none⟩ = false
theorem Tb.on {W W' : World} {g n : Nat} {M : Om.T} (h : Tb W g n M) (k : Below W.heap.size W W') : Tb W' g n M :=
  ⟨Nat.lt_of_lt_of_le h.lt k.size, h.le, fun a b ha hb => (k.cell h.lt).trans (h.c a b ha hb), fun j => (k.frozen h.lt).trans (h.f j)⟩
theorem Tb.kp {W W' : World} {g n : Nat} {M : Om.T} {S : Nat → Prop} (h : Tb W g n M) (k : Kp S W W') (hs : ¬ S g) : Tb W' g n M :=
  ⟨Nat.lt_of_lt_of_le h.lt k.size, h.le, fun a b ha hb => (World.cell?_of_block (w := W) (k.block g h.lt hs)).trans (h.c a b ha hb), fun j => (World.frozen?_of_block (w := W) (k.block g h.lt hs)).trans (h.f j)⟩
theorem Tb.drew {W : World} {g n : Nat} {M : Om.T} (h : Tb W g n M) : Tb W.drew g n M := ⟨h.lt, h.le, h.c, h.f⟩
theorem Tb.set {W : World} {g n : Nat} {M : Om.T} (h : Tb W g n M) {a b : Nat} (ha : a < n) (hb : b < n) (v : Bool) : Tb (W.setCell ⟨g, a * 40 + b, none⟩ (.bool v)) g n (fun x y => if x = a ∧ y = b then v else M x y) := by
  have hn := h.le
  refine ⟨by simpa [World.setCell] using h.lt, h.le, fun x y hx hy => ?_, fun j => by simpa using h.f j⟩
  by_cases e : x = a ∧ y = b
  · obtain ⟨rfl, rfl⟩ := e
    rw [if_pos ⟨rfl, rfl⟩]
    have := h.c x y hx hy
    simp [go_sem, this]
  · rw [if_neg e]
    have := h.c x y hx hy
    rw [World.cell?_setCell_other]
    · exact this
    · intro e2
      have e3 : a * 40 + b = x * 40 + y := by injection e2
      exact e ⟨by omega, by omega⟩
theorem Tb.congr {W : World} {g n : Nat} {M N : Om.T} (h : Tb W g n M) (e : ∀ a b, a < n → b < n → M a b = N a b) : Tb W g n N :=
  ⟨h.lt, h.le, fun a b ha hb => by rw [← e a b ha hb]; exact h.c a b ha hb, h.f⟩
theorem Tb.less {W : World} {g m n : Nat} {M : Om.T} (h : Tb W g m M) (e : n ≤ m) : Tb W g n M :=
  ⟨h.lt, Nat.le_trans e h.le, fun a b ha hb => h.c a b (by omega) (by omega), h.f⟩

set_option maxHeartbeats 1600000 in
set_option maxRecDepth 100000 in
theorem follow_any (g n : Nat) (M : Om.T) (w : World) (h : Tb w g n M) :
    Calls Tryz.prog 107 #[.pointer (some ⟨g, 0, none⟩), .int .i64 n] w fun e w' => e = .returned (.tuple #[]) ∧ Tb w' g n (Om.cl n M) ∧ Kp (· = g) w w' := by
  have hn := h.le
  go_enter Tryz.func107, Tryz.ntmps107
  go_wp2
  go_loopw [9] (fun i W => ∃ k : Nat, k ≤ n ∧ i = .int .i64 k ∧ Kp (· = g) w W ∧ Tb W g n (fun a b => M a b || (decide (a = b) && decide (a < k)))) (fun i _ => n - (intOf i).toNat)
  case atStart => exact ⟨0, Nat.zero_le _, rfl, Kp.refl _ _, h.congr fun a b _ _ => by simp⟩
  case round =>
    obtain ⟨k, hk, rfl, hW, hT⟩ := hrel
    by_cases hlt : k < n
    · have c0 := hT.c k k (by omega) (by omega)
      have f0 := hT.f (k * 40 + k)
      go_wp2
      refine ⟨⟨k + 1, hlt, by go_num, hW.set rfl _, ?_⟩, by simp [intOf]; omega⟩
      refine (hT.set (by omega) (by omega) true).congr fun a b ha hb => ?_
      by_cases e : a = k ∧ b = k
      · obtain ⟨rfl, rfl⟩ := e
        simp
      · rw [if_neg e]
        by_cases e2 : a = b
        · subst e2
          simp
          congr 1
          rw [Bool.eq_iff_iff]; simp; omega
        · simp [e2]
    · have ek : k = n := by omega
      subst ek
      have HT := Lib.hid hT
      have HW := Lib.hid hW
      clear hT hW h
      go_wp2
      go_loopw [20] (fun i W => ∃ j : Nat, j ≤ k ∧ i = .int .i64 j ∧ Kp (· = g) w W ∧ Tb W g k (Om.fw (Om.dg k M) j)) (fun i _ => k - (intOf i).toNat)
      case atStart => exact ⟨0, Nat.zero_le _, rfl, HW.out, HT.out⟩
      case round =>
        obtain ⟨j, hj, rfl, hW, hT⟩ := hrel
        by_cases hlt : j < k
        · have HN : Hid (∀ N, N = Om.fw (Om.dg k M) j → Om.fw (Om.dg k M) (j + 1) = Om.stp N j) := fun N h => by rw [h]; rfl
          generalize Om.fw (Om.dg k M) j = N at hT HN
          have HT2 := Lib.hid hT
          have HW2 := Lib.hid hW
          clear hT hW
          go_wp2
          go_loopw [24] (fun i W => ∃ a : Nat, a ≤ k ∧ i = .int .i64 a ∧ Kp (· = g) w W ∧ Tb W g k (Om.sq N j a 0)) (fun i _ => k - (intOf i).toNat)
          case atStart => exact ⟨0, Nat.zero_le _, rfl, HW2.out, by rw [Om.sq_0]; exact HT2.out⟩
          case round =>
            obtain ⟨a, ha, rfl, hW, hT⟩ := hrel
            by_cases hlta : a < k
            · have HT3 := Lib.hid hT
              have HW3 := Lib.hid hW
              clear hT hW
              go_wp2
              go_loopw [28] (fun i W => ∃ b : Nat, b ≤ k ∧ i = .int .i64 b ∧ Kp (· = g) w W ∧ Tb W g k (Om.sq N j a b)) (fun i _ => k - (intOf i).toNat)
              case atStart => exact ⟨0, Nat.zero_le _, rfl, HW3.out, HT3.out⟩
              case round =>
                obtain ⟨b, hb, rfl, hW, hT⟩ := hrel
                by_cases hltb : b < k
                · have c0 := hT.drew.c a b hlta hltb
                  have c1 := hT.drew.c a j hlta hlt
                  have c2 := hT.drew.c j b hlt hltb
                  have f0 := hT.f (a * 40 + b)
                  rw [Om.sq_here] at c0
                  rw [Om.sq_col] at c1
                  rw [Om.sq_row] at c2
                  have HS : Hid (Om.stp N j a b = (N a b || (N a j && N j b))) := rfl
                  have HTb := Lib.hid hT
                  have HWb := Lib.hid hW
                  clear hT hW
                  generalize N a b = x at c0 HS
                  generalize N a j = y at c1 HS
                  generalize N j b = z at c2 HS
                  have fin : ∀ v, v = (x || (y && z)) → Tb (wr.setCell ⟨g, a * 40 + b, none⟩ (.bool v)).drew g k (Om.sq N j a (b + 1)) := fun v hv => by
                    rw [Om.sq_next, HS.out, ← hv]
                    exact (HTb.out.set hlta hltb v).drew
                  have HF := Lib.hid fin
                  clear fin HS
                  cases x <;> cases y <;> cases z
                  all_goals (go_wp2; go_region; go_wp2)
                  all_goals exact ⟨⟨b + 1, hltb, by go_num, (HWb.out.set rfl _).drew, HF.out _ rfl⟩, by simp [intOf]; omega⟩
                · have eb : b = k := by omega
                  subst eb
                  go_wp2
                  exact ⟨⟨a + 1, hlta, by go_num, hW, hT.congr fun x y hx hy => by unfold Om.sq; by_cases e : x < a ∨ (x = a ∧ y < b); · rw [if_pos e, if_pos (by omega)]
                                                                                   · rw [if_neg e, if_neg (by omega)]⟩, by simp [intOf]; omega⟩
            · have ea : a = k := by omega
              subst ea
              go_wp2
              exact ⟨⟨j + 1, hlt, by go_num, hW, hT.congr fun x y hx hy => by rw [HN.out _ rfl]; unfold Om.sq; rw [if_pos (.inl hx)]⟩, by simp [intOf]; omega⟩
        · have ej : j = k := by omega
          subst ej
          go_wp2
          exact bodyPost_end (results_none rfl _ _ _) rfl ⟨rfl, hT, hW⟩
end Go.Proofs.YthijccmiemlilaaGreatDoor.Ord
namespace Go.Proofs.YthijccmiemlilaaGreatDoor.Ord
open Go.RowKit Go.Sort

abbrev E := Int × Int
/-- Edges in a row. -/
structure Er (W : World) (b o : Nat) (l : List E) : Prop where
  lt : b < W.heap.size
  c0 : ∀ i (hi : i < l.length), W.cell? ⟨b, o + i * 2, none⟩ = some (.int .i64 l[i].1)
  c1 : ∀ i (hi : i < l.length), W.cell? ⟨b, o + i * 2 + 1, none⟩ = some (.int .i64 l[i].2)
theorem Er.on {W W' : World} {b o : Nat} {l : List E} (h : Er W b o l) (k : Below W.heap.size W W') : Er W' b o l :=
  ⟨Nat.lt_of_lt_of_le h.lt k.size, fun i hi => (k.cell h.lt).trans (h.c0 i hi), fun i hi => (k.cell h.lt).trans (h.c1 i hi)⟩
structure Es (W : World) (v : Value) (l : List E) : Prop where
  is : (l = [] ∧ ∃ A c, v = .slice A 0 c) ∨ ∃ b o c, v = .slice (some ⟨b, o, none⟩) l.length c ∧ l.length ≤ c ∧ Er W b o l
theorem Es.on {W W' : World} {v : Value} {l : List E} (h : Es W v l) (k : Below W.heap.size W W') : Es W' v l :=
  ⟨h.is.imp id fun ⟨b, o, c, h1, h2, h3⟩ => ⟨b, o, c, h1, h2, h3.on k⟩⟩
theorem es_len {W : World} {v : Value} {l : List E} (h : Es W v l) : ∃ A c, v = .slice A l.length c := by
  rcases h.is with ⟨rfl, A, c, rfl⟩ | ⟨b, o, c, rfl, _⟩
  · exact ⟨A, c, rfl⟩
  · exact ⟨_, c, rfl⟩
theorem es_row {W : World} {A : Option Addr} {n c : Nat} {l : List E} (h : Es W (.slice A n c) l) (h0 : 0 < l.length) : ∃ b o, A = some ⟨b, o, none⟩ ∧ Er W b o l := by
  rcases h.is with ⟨rfl, _⟩ | ⟨b, o, c', h1, _, h3⟩
  · simp at h0
  · cases h1; exact ⟨b, o, rfl, h3⟩
/-- Lists of edges in a row. -/
structure El (W : World) (lb : Nat) (Ls : List (List E)) : Prop where
  lt : lb < W.heap.size
  c : ∀ i (hi : i < Ls.length), ∃ A c, W.cell? ⟨lb, i, none⟩ = some (.slice A Ls[i].length c) ∧ Es W (.slice A Ls[i].length c) Ls[i]
theorem El.on {W W' : World} {lb : Nat} {Ls : List (List E)} (h : El W lb Ls) (k : Below W.heap.size W W') : El W' lb Ls :=
  ⟨Nat.lt_of_lt_of_le h.lt k.size, fun i hi => by obtain ⟨A, c, h1, h2⟩ := h.c i hi; exact ⟨A, c, (k.cell h.lt).trans h1, h2.on k⟩⟩
/-- All numbers of edges are below n. -/
def Rn (n : Nat) (l : List E) : Prop := ∀ e ∈ l, 0 ≤ e.1 ∧ e.1 < n ∧ 0 ≤ e.2 ∧ e.2 < n
/-- The table of edges. -/
def et (l : List E) : Om.T := fun a b => decide (((a : Int), (b : Int)) ∈ l)
theorem et_nil : et [] = fun _ _ => false := by funext a b; simp [et]
theorem et_snoc (l : List E) (x y : Nat) : et (l ++ [((x : Int), (y : Int))]) = fun a b => if a = x ∧ b = y then true else et l a b := by
  funext a b
  unfold et
  by_cases h : a = x ∧ b = y
  · obtain ⟨rfl, rfl⟩ := h; simp
  · rw [if_neg h]
    congr 1
    rw [List.mem_append]
    apply propext
    constructor
    · rintro (h1 | h1)
      · exact h1
      · simp at h1; exact absurd (by omega) h
    · exact .inl
theorem nat_of {z : Int} {n : Nat} (h0 : 0 ≤ z) (h1 : z < n) : ∃ k : Nat, z = k ∧ k < n := ⟨z.toNat, by omega, by omega⟩
theorem zc75 : Tryz.zeroCells171 = Array.replicate 1600 (.bool false) := by kernel_rfl
theorem tb_new (w : World) : Tb (w.alloc (.cells Tryz.zeroCells171 171)) w.heap.size 40 (et []) := by
  refine ⟨by simp, Nat.le_refl _, fun a b ha hb => ?_, fun j => by simp⟩
  rw [zc75, et_nil]
  have : a * 40 + b < 1600 := by omega
  have e : (w.alloc (.cells (Array.replicate 1600 (.bool false)) 171)).heap[w.heap.size]? = some (.cells (Array.replicate 1600 (.bool false)) 171) := by show (w.heap.push _)[w.heap.size]? = _; simp
  unfold World.cell?
  rw [e]
  simp [this]
theorem bA1 (w : World) (A : Obj) : Below w.heap.size w (w.alloc A) := (Below.refl _ _).alloc (Nat.le_refl _) _
theorem take_flat (Ls : List (List E)) (i : Nat) (hi : i < Ls.length) : (Ls.take (i + 1)).flatten = (Ls.take i).flatten ++ Ls[i] := by
  rw [List.take_succ_eq_append_getElem hi, List.flatten_append]; simp
theorem take_one (l : List E) (j : Nat) (hj : j < l.length) : l.take (j + 1) = l.take j ++ [l[j]] := List.take_succ_eq_append_getElem hj
set_option maxHeartbeats 1600000 in
set_option maxRecDepth 100000 in
theorem edges_any (lb c0 : Nat) (Ls : List (List E)) (w : World) (h : El w lb Ls) (hr : ∀ l ∈ Ls, Rn 40 l) (hn : ∀ l ∈ Ls, l.length ≤ 1000000) (hm : Ls.length ≤ 10) :
    Calls Tryz.prog 77 #[.slice (some ⟨lb, 0, none⟩) Ls.length c0] w fun e w' => ∃ g, e = .returned (.pointer (some ⟨g, 0, none⟩)) ∧ w.heap.size ≤ g ∧ Tb w' g 40 (et Ls.flatten) ∧ Below w.heap.size w w' := by
  have HT0 := Lib.hid (tb_new w)
  have HB0 := Lib.hid (bA1 w (.cells Tryz.zeroCells171 171))
  have HL := Lib.hid h
  have HR := Lib.hid hr
  have HN := Lib.hid hn
  clear h hr hn
  go_enter Tryz.func77, Tryz.ntmps77
  go_wp2
  go_loopw [10] (fun i W => ∃ k : Nat, k ≤ Ls.length ∧ i = .int .i64 k ∧ Below w.heap.size w W ∧ Tb W w.heap.size 40 (et (Ls.take k).flatten)) (fun i _ => Ls.length - (intOf i).toNat)
  case atStart => exact ⟨0, Nat.zero_le _, rfl, HB0.out, by simpa using HT0.out⟩
  case round =>
    obtain ⟨k, hk, rfl, hW, hT⟩ := hrel
    by_cases hlt : k < Ls.length
    · obtain ⟨A, c, hc', hE⟩ := HL.out.c k hlt
      have hc := (hW.cell HL.out.lt).trans hc'
      have hR := HR.out Ls[k] (List.getElem_mem hlt)
      have hN := HN.out Ls[k] (List.getElem_mem hlt)
      have HF := Lib.hid (take_flat Ls k hlt)
      have HW := Lib.hid hW
      have HT := Lib.hid hT
      have HE := Lib.hid hE
      have HRk := Lib.hid hR
      generalize Ls[k] = l at hc HE HRk hN HF
      generalize (Ls.take k).flatten = D at HT HF
      clear hW hT hE hR hc'
      go_wp2
      go_loopw [16] (fun i W => ∃ j : Nat, j ≤ l.length ∧ i = .int .i64 j ∧ Below w.heap.size w W ∧ Tb W w.heap.size 40 (et (D ++ l.take j))) (fun i _ => l.length - (intOf i).toNat)
      case atStart => exact ⟨0, Nat.zero_le _, rfl, HW.out, by simpa using HT.out⟩
      case round =>
        obtain ⟨j, hj, rfl, hW, hT⟩ := hrel
        by_cases hltj : j < l.length
        · obtain ⟨b, o, rfl, hEr⟩ := es_row (HE.out.on hW) (by omega)
          have c0 := hEr.c0 j hltj
          have c1 := hEr.c1 j hltj
          have hx := HRk.out l[j] (List.getElem_mem hltj)
          have HTk := Lib.hid (take_one l j hltj)
          generalize l[j] = e at c0 c1 hx HTk
          obtain ⟨e1, e2⟩ := e
          obtain ⟨x, rfl, hx1⟩ := nat_of hx.1 hx.2.1
          obtain ⟨y, rfl, hy1⟩ := nat_of hx.2.2.1 hx.2.2.2
          dsimp only at c0 c1
          have hb := bA1 wr (.cells #[.int .i64 x, .int .i64 y] 135)
          have hT1 := hT.on hb
          have d0 := hT1.drew.c x y hx1 hy1
          have f0 := hT1.f (x * 40 + y)
          have HT1 := Lib.hid (hT1.set hx1 hy1 true).drew
          rw [← et_snoc, List.append_assoc, ← HTk.out] at HT1
          have HW1 := Lib.hid (((bon hW hb).setCell (p := ⟨w.heap.size, x * 40 + y, none⟩) (Nat.le_refl _) (.bool true)).drew)
          clear hT hT1 hb hEr hx HTk hW
          go_wp2
          go_region
          go_wp2
          exact ⟨⟨j + 1, hltj, by go_num, HW1.out, HT1.out⟩, by simp [intOf]; omega⟩
        · have ej : j = l.length := by omega
          subst ej
          rw [List.take_of_length_le (Nat.le_refl _), ← HF.out] at hT
          go_wp2
          exact ⟨⟨k + 1, hlt, by go_num, hW, hT⟩, by simp [intOf]; omega⟩
    · have ek : k = Ls.length := by omega
      subst ek
      rw [List.take_of_length_le (Nat.le_refl _)] at hT
      have HW := Lib.hid hW
      have HT := Lib.hid hT
      clear hW hT
      go_wp2
      go_ret
      exact ⟨_, rfl, Nat.le_refl _, HT.out, HW.out⟩
end Go.Proofs.YthijccmiemlilaaGreatDoor.Ord
