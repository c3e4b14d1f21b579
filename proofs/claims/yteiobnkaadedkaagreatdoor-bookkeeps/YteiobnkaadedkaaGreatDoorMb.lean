/- A disk of the program, in memory; the walks of its small functions. -/
import Derived.Test.YteiobnkaadedkaaGreatDoorMa
import Derived.Test.YteiobnkaadedkaaGreatDoorProg
import Derived.WalkKit
import Derived.OwnWalk
import Derived.BigCall
import Derived.Deep.Slices
import Derived.ChangeSame
import Derived.Lib.Hide
import Derived.Lib.QuietBelow
import Derived.WideShapes
import Derived.WalkSpells
import Derived.WalkLawsBesides
import Derived.Deep.QuietTactic
import Derived.BigQuiet
namespace Go.Proofs.YteiobnkaadedkaaGreatDoor
open Go.RowKit Go.Sort

theorem ret_bool {a b : Bool} (h : a = b) : Ending.returned (.bool a) = .returned (.bool b) := by rw [h]
/-- A file that is there: as it is, and as it is safe. -/
structure Ent where
  now : List UInt8
  sf : Option (List UInt8)
  deriving Inhabited
def pv (e : Ent) : Value := .agg #[.string ⟨e.now.toArray⟩, .string ⟨(e.sf.getD []).toArray⟩, .bool e.sf.isSome]
def nl (e : Ent) : Nat := e.now.length
/-- Nothing that was there has turned but X. -/
structure Kp (X : Nat → Prop) (w w' : World) : Prop where
  os : w'.os = w.os
  tape : w'.tape = w.tape
  output : w'.output = w.output
  size : w.heap.size ≤ w'.heap.size
  block : ∀ k, k < w.heap.size → ¬ X k → w'.heap[k]? = w.heap[k]?
theorem Kp.refl (X : Nat → Prop) (w : World) : Kp X w w := ⟨rfl, rfl, rfl, Nat.le_refl _, fun _ _ _ => rfl⟩
theorem Kp.trans {X Y : Nat → Prop} {a b c : World} (h : Kp X a b) (k : Kp Y b c) (hY : ∀ i, i < a.heap.size → Y i → X i) : Kp X a c :=
  ⟨k.os.trans h.os, k.tape.trans h.tape, k.output.trans h.output, Nat.le_trans h.size k.size, fun i hi hx => (k.block i (Nat.lt_of_lt_of_le hi h.size) fun hy => hx (hY i hi hy)).trans (h.block i hi hx)⟩
theorem Kp.of {X : Nat → Prop} {w w' : World} (h : Below w.heap.size w w') : Kp X w w' := ⟨h.os, h.tape, h.output, h.size, fun k hk _ => h.block k hk⟩
theorem Kp.set {X : Nat → Prop} {a w : World} (h : Kp X a w) {p : Addr} (hp : X p.block) (u : Value) : Kp X a (w.setCell p u) :=
  ⟨h.os, h.tape, h.output, by simpa using h.size, fun k hk hx => (Below.heap_setCell w p u k (fun e => hx (e ▸ hp))).trans (h.block k hk hx)⟩
theorem Kp.alloc {X : Nat → Prop} {a w : World} (h : Kp X a w) (o : Obj) : Kp X a (w.alloc o) :=
  h.trans (Kp.of (X := X) ((Below.refl _ _).alloc (Nat.le_refl _) _)) (fun _ _ h => h)
theorem Kp.below {X : Nat → Prop} {B : Nat} {w w' : World} (h : Kp X w w') (hB : B ≤ w.heap.size) (hX : ∀ k, k < B → ¬ X k) : Below B w w' :=
  ⟨h.os, h.tape, h.output, h.size, fun k hk => h.block k (by omega) (hX k hk)⟩
theorem Kp.grown {X : Nat → Prop} {w w' : World} {row : Option Nat} (h : w.grownBy w' row) (hr : ∀ k, row = some k → X k) : Kp X w w' :=
  ⟨h.os, h.tape, h.output, h.size, fun k hk hx => h.block k hk fun e => hx (hr k e.symm)⟩

abbrev dko (mb : Option Nat) (n : Int) (e : Bool) (c : Int) (bd : Bool) (r : Int) : Obj := .cells #[.map mb, .int .i64 n, .bool e, .int .i64 c, .bool bd, .int .i64 r] 26 (0, 0)
/-- A disk: its files, its power, its room. -/
structure PD (w : World) (b : Nat) (mb : Option Nat) (L : Kv Ent) (e : Bool) (c : Int) (bd : Bool) (r : Int) : Prop where
  blk : w.heap[b]? = some (dko mb (tot nl L : Int) e c bd r)
  nil : mb = none → L = []
  map : ∀ m, mb = some m → w.ownsMap Tryz.prog 9 Rv m L.length (toD pv L)
  srt : Srt L
/-- Its blocks. -/
def DX (b : Nat) (mb : Option Nat) (k : Nat) : Prop := k = b ∨ mb = some k
structure Dc (w : World) (b : Nat) (mb : Option Nat) (n : Int) (e : Bool) (c : Int) (bd : Bool) (r : Int) : Prop where
  lt : b < w.heap.size
  c0 : w.cell? ⟨b, 0, none⟩ = some (.map mb)
  c1 : w.cell? ⟨b, 1, none⟩ = some (.int .i64 n)
  c2 : w.cell? ⟨b, 2, none⟩ = some (.bool e)
  c3 : w.cell? ⟨b, 3, none⟩ = some (.int .i64 c)
  c4 : w.cell? ⟨b, 4, none⟩ = some (.bool bd)
  c5 : w.cell? ⟨b, 5, none⟩ = some (.int .i64 r)
  f0 : w.frozen? ⟨b, 0, none⟩ = false
  f1 : w.frozen? ⟨b, 1, none⟩ = false
  f2 : w.frozen? ⟨b, 2, none⟩ = false
  f3 : w.frozen? ⟨b, 3, none⟩ = false
  f4 : w.frozen? ⟨b, 4, none⟩ = false
  f5 : w.frozen? ⟨b, 5, none⟩ = false
theorem dc_of {w : World} {b : Nat} {mb : Option Nat} {n : Int} {e : Bool} {c : Int} {bd : Bool} {r : Int} (h : w.heap[b]? = some (dko mb n e c bd r)) : Dc w b mb n e c bd r :=
  ⟨(Array.getElem?_eq_some_iff.1 h).1, by simp [World.cell?, h], by simp [World.cell?, h], by simp [World.cell?, h], by simp [World.cell?, h], by simp [World.cell?, h], by simp [World.cell?, h], by simp [World.frozen?, h], by simp [World.frozen?, h], by simp [World.frozen?, h], by simp [World.frozen?, h], by simp [World.frozen?, h], by simp [World.frozen?, h]⟩
theorem heap_set {w : World} {b i : Nat} {cs : Array Value} {t : TypeId} {u : Value} (h : w.heap[b]? = some (.cells cs t (0, 0))) : (w.setCell ⟨b, i, none⟩ u).heap[b]? = some (.cells (cs.setIfInBounds i u) t (0, 0)) := heap_setCell_same w b i cs t u h

theorem on_any (b : Nat) (mb : Option Nat) (n : Int) (e : Bool) (c : Int) (bd : Bool) (r : Int) (w : World) (h : Dc w b mb n e c bd r) : Calls Tryz.prog 80 #[.pointer (some ⟨b, 0, none⟩)] w fun x w' => x = .returned (.bool (!e || decide (0 < c))) ∧ w' = w := by
  obtain ⟨hlt, c0, c1, c2, c3, c4, c5, f0, f1, f2, f3, f4, f5⟩ := h
  cases e with
  | false =>
    go_enter Tryz.func80, Tryz.ntmps80
    go_wp2
    go_ret
    exact ⟨rfl, rfl⟩
  | true =>
    go_enter Tryz.func80, Tryz.ntmps80
    go_wp2
    all_goals go_ret
    all_goals exact ⟨ret_bool (by simp_all), rfl⟩
theorem named_any (s : List UInt8) (w : World) : Calls Tryz.prog 75 #[.string ⟨s.toArray⟩] w fun x w' => x = .returned (.bool (decide (1 ≤ s.length) && decide (s.length ≤ 80))) ∧ w' = w := by
  go_enter Tryz.func75, Tryz.ntmps75
  go_wp2
  all_goals go_ret
  all_goals exact ⟨ret_bool (by rw [Bool.eq_iff_iff]; simp only [Bool.and_eq_true, decide_eq_true_eq, reduceCtorEq, false_iff]; omega), rfl⟩
theorem settled_any (s : List UInt8) (w : World) : Calls Tryz.prog 45 #[.string ⟨s.toArray⟩] w fun x w' => x = .returned (pv ⟨s, some s⟩) ∧ Below w.heap.size w w' := by
  go_enter Tryz.func45, Tryz.ntmps45
  go_wp2
  exact bodyPost_ret (v := pv ⟨s, some s⟩) (by simp [results, Tryz.results45, go_sem]; rfl) rfl ⟨rfl, (Below.refl _ _).alloc (Nat.le_refl _) _⟩
end Go.Proofs.YteiobnkaadedkaaGreatDoor
