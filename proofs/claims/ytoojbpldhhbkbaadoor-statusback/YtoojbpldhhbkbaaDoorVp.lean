/- Plain mathematics of versions as texts. -/
import Derived.Test.YtoojbpldhhbkbaaDoorVm
import Derived.Lib.ItoaNum
import Derived.Lib.Bytealg
import Derived.Lib.LastIndexByte
namespace Go.Proofs.YtoojbpldhhbkbaaDoor
namespace Vm

/-- How a version is written. -/
def pe (e : Int) : List UInt8 := if e = 0 then [] else Lib.itoa e ++ [58]
def pr (r : List UInt8) : List UInt8 := if r = [] then [] else 45 :: r
def pt (e : Int) (u r : List UInt8) : List UInt8 := pe e ++ u ++ pr r

/-- A byte that may stand in a part, m being the signs that may. -/
def ok1 (m : List UInt8) (c : UInt8) : Bool := dg c || lr c || m.contains c
def sgn : List UInt8 := [46, 43, 126]
def us (e : Int) (r : List UInt8) : List UInt8 := (if 0 < e then sgn ++ [58] else sgn) ++ (if r = [] then [] else [45])
def ft (e : Int) (u r : List UInt8) : Bool := decide (u.length ≤ 40) && decide (r.length ≤ 40) && decide ((pt e u r).length ≤ 40)
def hd (u : List UInt8) : Bool := match u with | [] => false | c :: _ => dg c
def rt (e : Int) (u r : List UInt8) : Bool := decide (0 ≤ e) && decide (e < 1000000000) && ft e u r && hd u && u.all (ok1 (us e r)) && r.all (ok1 sgn)

theorem idx_neg (m : List UInt8) (c : UInt8) : decide (Lib.indexByte m c < 0) = !m.contains c := by
  induction m with
  | nil => simp [Lib.indexByte]
  | cons b m ih =>
    have hge := Lib.indexByte_ge m c
    unfold Lib.indexByte
    by_cases h : b = c
    · subst h; simp
    · have h' : ¬ c = b := fun e => h e.symm
      simp only [beq_iff_eq, h, if_false, List.contains_cons]
      rw [show (c == b) = false from by simpa using h', Bool.false_or, ← ih]
      by_cases h1 : Lib.indexByte m c = -1
      · simp [h1]
      · have h2 : ¬ Lib.indexByte m c < 0 := by omega
        have h3 : ¬ Lib.indexByte m c + 1 < 0 := by omega
        simp [h1, h2, h3]

/-! ### Cuts -/

/-- A text cut at a byte's first place. -/
def fc (c : UInt8) : List UInt8 → Option (List UInt8 × List UInt8)
  | [] => none
  | b :: l => if b = c then some ([], l) else match fc c l with
    | none => none
    | some (x, y) => some (b :: x, y)
/-- .. at its last one. -/
def lc (c : UInt8) : List UInt8 → Option (List UInt8 × List UInt8)
  | [] => none
  | b :: l => match lc c l with
    | some (x, y) => some (b :: x, y)
    | none => if b = c then some ([], l) else none

theorem fc_idx (c : UInt8) (l : List UInt8) : (Lib.indexByte l c = -1 ∧ fc c l = none) ∨ ∃ k : Nat, k < l.length ∧ Lib.indexByte l c = k ∧ fc c l = some (l.take k, l.drop (k + 1)) := by
  induction l with
  | nil => left; exact ⟨rfl, rfl⟩
  | cons b l ih =>
    unfold Lib.indexByte fc
    by_cases h : b = c
    · right; exact ⟨0, by simp, by simp [h], by simp [h]⟩
    · rcases ih with ⟨h1, h2⟩ | ⟨k, hk, h1, h2⟩
      · left; simp [h, h1, h2]
      · right
        refine ⟨k + 1, by simpa using hk, ?_, by simp [h, h2]⟩
        have h3 : ¬ (k : Int) = -1 := by omega
        simp [h, h1, h3]

theorem lc_none (c : UInt8) (l : List UInt8) (h : ∀ x ∈ l, x ≠ c) : lc c l = none := by
  induction l with
  | nil => rfl
  | cons b l ih =>
    unfold lc
    rw [ih (fun x hx => h x (List.mem_cons_of_mem _ hx))]
    simp [h b (List.mem_cons_self ..)]
theorem lc_at (c : UInt8) (l : List UInt8) (i : Nat) (hi : i < l.length) (h1 : l[i] = c) (h2 : ∀ j (hj : j < l.length), i < j → l[j] ≠ c) : lc c l = some (l.take i, l.drop (i + 1)) := by
  induction l generalizing i with
  | nil => simp at hi
  | cons b l ih =>
    unfold lc
    cases i with
    | zero =>
      rw [lc_none c l (fun x hx => by
        obtain ⟨j, hj, rfl⟩ := List.getElem_of_mem hx
        exact h2 (j + 1) (by simpa using hj) (by omega))]
      simp at h1
      simp [h1]
    | succ i =>
      rw [ih i (by simpa using hi) (by simpa using h1) (fun j hj h => h2 (j + 1) (by simpa using hj) (by omega))]
      simp
theorem lc_idx (c : UInt8) (l : List UInt8) : (Lib.lastIndexByte ⟨l.toArray⟩ c.toNat = -1 ∧ lc c l = none) ∨ ∃ k : Nat, k < l.length ∧ Lib.lastIndexByte ⟨l.toArray⟩ c.toNat = k ∧ lc c l = some (l.take k, l.drop (k + 1)) := by
  have get : ∀ j (hj : j < l.length), ((ByteArray.mk l.toArray).data[j]!) = l[j] := fun j hj => by simp [hj]
  rcases Lib.lastIdx_spec ⟨l.toArray⟩ c.toNat (ByteArray.mk l.toArray).size with ⟨h1, h2⟩ | ⟨i, hi, h1, h2, h3⟩
  · left
    refine ⟨h1, lc_none c l (fun x hx => ?_)⟩
    obtain ⟨j, hj, rfl⟩ := List.getElem_of_mem hx
    intro e
    have := h2 j hj
    rw [get j hj, e] at this
    exact this rfl
  · right
    refine ⟨i, hi, h1, lc_at c l i hi ?_ (fun j hj h e => ?_)⟩
    · rw [get i hi] at h2
      exact UInt8.toNat_inj.1 (by omega)
    · have := h3 j h hj
      rw [get j hj, e] at this
      exact this rfl

/-- The epoch that a text is. -/
def pep (s : List UInt8) : Option Nat :=
  if s = [] ∨ 9 < s.length ∨ (s.headD 0 = 48 ∧ s ≠ [48]) then none else if s.all dg = true then some (vl 0 s) else none

theorem vl_snoc (l : List UInt8) (c : UInt8) : vl 0 (l ++ [c]) = 10 * vl 0 l + (c.toNat - 48) := by
  unfold vl; rw [List.foldl_append]; rfl
theorem take_snoc (l : List UInt8) (k : Nat) (h : k < l.length) : l.take (k + 1) = l.take k ++ [l[k]] := by
  rw [List.take_succ_eq_append_getElem h]
theorem vl_take (l : List UInt8) (k : Nat) (h : k < l.length) : vl 0 (l.take (k + 1)) = 10 * vl 0 (l.take k) + (l[k].toNat - 48) := by
  rw [take_snoc l k h, vl_snoc]
theorem vl_take_lt (l : List UInt8) (k : Nat) (hk : k ≤ 9) (h : ∀ j (hj : j < l.length), j < k → dg l[j] = true) : vl 0 (l.take k) < 1000000000 := by
  have h1 := vl_lt (l.take k) (fun c hc => by
    obtain ⟨j, hj, rfl⟩ := List.getElem_of_mem hc
    simp at hj
    rw [List.getElem_take]
    exact h j (by omega) (by omega))
  have h2 : (l.take k).length ≤ 9 := by simp; omega
  have h3 : 10 ^ (l.take k).length ≤ 10 ^ 9 := Nat.pow_le_pow_right (by omega) h2
  have h4 : (10 : Nat) ^ 9 = 1000000000 := by decide
  omega

/-- The version that a text is. -/
def pv (s : List UInt8) : Option (Int × List UInt8 × List UInt8) :=
  if 40 < s.length then none else
  match (match fc 58 s with
    | none => some ((0 : Int), s)
    | some (x, y) => match pep x with
      | none => none
      | some n => some ((n : Int), y)) with
  | none => none
  | some (e, y) => match lc 45 y with
    | none => if rt e y [] = true then some (e, y, []) else none
    | some (u, r) => if r = [] then none else if rt e u r = true then some (e, u, r) else none

end Vm
end Go.Proofs.YtoojbpldhhbkbaaDoor
