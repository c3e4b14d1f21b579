/- Plain mathematics of terms as texts: how they are read, and written. -/
import Derived.Test.YtlldfmnoidndmaaGreatDoorDa
import Derived.Test.YtlldfmnoidndmaaGreatDoorVx
import Derived.Lib.SlTrimSet
namespace Go.Proofs.YtlldfmnoidndmaaGreatDoor

/-- What is nothing around a term. -/
def bls : List UInt8 := [32, 9, 10]
/-- A byte that may stand first in a name. -/
def pby (c : UInt8) : Bool := (decide (97 ≤ c.toNat) && decide (c.toNat ≤ 122)) || (decide (48 ≤ c.toNat) && decide (c.toNat ≤ 57))
def nby (c : UInt8) : Bool := pby c || decide (c.toNat = 43) || decide (c.toNat = 45) || decide (c.toNat = 46)
/-- A package's name. -/
def nmo (s : List UInt8) : Bool := decide (2 ≤ s.length) && decide (s.length ≤ 24) && (match s with | [] => false | c :: _ => pby c) && s.all nby
/-- The signs, by their numbers. -/
def sgt : Nat → List UInt8
  | 1 => [60, 60]
  | 2 => [60, 61]
  | 3 => [61]
  | 4 => [62, 61]
  | 5 => [62, 62]
  | _ => []
/-- The first sign, from the k-th on, that a text begins with; what is left. -/
def cutF (s : List UInt8) (k : Nat) : Nat × List UInt8 := if (sgt k).isPrefixOf s then (k, s.drop (sgt k).length) else (0, s)
def cutS (s : List UInt8) : Nat × List UInt8 :=
  if (sgt 1).isPrefixOf s then (1, s.drop 2) else if (sgt 2).isPrefixOf s then (2, s.drop 2) else if (sgt 3).isPrefixOf s then (3, s.drop 1) else if (sgt 4).isPrefixOf s then (4, s.drop 2) else if (sgt 5).isPrefixOf s then (5, s.drop 2) else (0, s)
/-- A version, as it is written. -/
def rdV (s : List UInt8) : Option (Int × List UInt8 × List UInt8) := match Vm.pv s with
  | some (e, u, r) => if Vm.pt e u r = s then some (e, u, r) else none
  | none => none
/-- Its end cut off. -/
def cutE (b : List UInt8) : List UInt8 := if b.getLast? = some 41 then b.dropLast else b
/-- What stands behind a name. -/
def rdB (n b : List UInt8) : Option Tm :=
  match rdV (Lib.trimS (cutS (cutE b)).2 bls) with
  | some (e, u, r) => if b.getLast? = some 41 ∧ (cutS (cutE b)).1 ≠ 0 then some ⟨n, ((cutS (cutE b)).1 : Int), e, u, r⟩ else none
  | none => none
/-- A term without blanks at its ends. -/
def rdT (t : List UInt8) : Option Tm := match Vm.fc 40 t with
  | none => if nmo (Lib.trimRightS t bls) = true then some ⟨Lib.trimRightS t bls, 0, 0, [], []⟩ else none
  | some (a, b) => if nmo (Lib.trimRightS a bls) = true then rdB (Lib.trimRightS a bls) b else none
/-- A term. -/
def rd (s : List UInt8) : Option Tm := rdT (Lib.trimS s bls)

/-- A text cut at each of a byte. -/
def sp (c : UInt8) : List UInt8 → List (List UInt8)
  | [] => [[]]
  | x :: t => if x = c then [] :: sp c t else match sp c t with
    | [] => [[x]]
    | y :: ys => (x :: y) :: ys
theorem sp_ne (c : UInt8) (l : List UInt8) : ∃ y ys, sp c l = y :: ys := by
  induction l with
  | nil => exact ⟨_, _, rfl⟩
  | cons x t ih =>
    obtain ⟨y, ys, h⟩ := ih
    unfold sp
    split
    · exact ⟨_, _, rfl⟩
    · rw [h]; exact ⟨_, _, rfl⟩
theorem sp_none {c : UInt8} {l : List UInt8} (h : Vm.fc c l = none) : sp c l = [l] := by
  induction l with
  | nil => rfl
  | cons x t ih =>
    unfold Vm.fc at h
    by_cases e : x = c
    · rw [if_pos e] at h; cases h
    · rw [if_neg e] at h
      cases ht : Vm.fc c t with
      | none => unfold sp; rw [if_neg e, ih ht]
      | some p => rw [ht] at h; cases h
theorem sp_some {c : UInt8} {l a b : List UInt8} (h : Vm.fc c l = some (a, b)) : sp c l = a :: sp c b := by
  induction l generalizing a with
  | nil => unfold Vm.fc at h; cases h
  | cons x t ih =>
    unfold Vm.fc at h
    by_cases e : x = c
    · rw [if_pos e] at h; cases h; rw [sp, if_pos e]
    · rw [if_neg e] at h
      cases ht : Vm.fc c t with
      | none => rw [ht] at h; cases h
      | some p =>
        obtain ⟨a', b'⟩ := p
        rw [ht] at h; cases h
        rw [sp, if_neg e, ih ht]

/-- Pieces of one of some. -/
def grp (i : Nat) (l : List UInt8) : List (Nat × List UInt8) := (sp 124 l).map fun x => (i, x)
def pcl : Nat → List (List UInt8) → List (Nat × List UInt8)
  | _, [] => []
  | i, x :: xs => grp i x ++ pcl (i + 1) xs
/-- All pieces of a text. -/
def pcs (s : List UInt8) : List (Nat × List UInt8) := pcl 0 (sp 44 s)

/-- A term laid into the i-th list. -/
def put (L : List (List Tm)) (i : Nat) (t : Tm) : List (List Tm) := if i = L.length then L ++ [[t]] else L.set i (L[i]?.getD [] ++ [t])
/-- All pieces read: 3: one is no term; 4: too many. -/
def goT : Nat → List (List Tm) → List (Nat × List UInt8) → Except Int (List (List Tm))
  | _, L, [] => .ok L
  | n, L, (i, x) :: ps => match rd x with
    | none => .error 3
    | some t => if n = 30 then .error 4 else goT (n + 1) (put L i t) ps
/-- What a text asks for. -/
def rdA (s : List UInt8) : Except Int (List (List Tm)) := if Lib.trimS s bls = [] then .ok [] else goT 0 [] (pcs s)

/-- The fact that is asked. -/
theorem rdA_fact : rdA [97, 97, 32, 40, 62, 61, 32, 49, 46, 48, 41, 32, 124, 32, 98, 98, 44, 32, 99, 99] = .ok [[⟨[97, 97], 4, 0, [49, 46, 48], []⟩, ⟨[98, 98], 0, 0, [], []⟩], [⟨[99, 99], 0, 0, [], []⟩]] := by
  rfl

end Go.Proofs.YtlldfmnoidndmaaGreatDoor
