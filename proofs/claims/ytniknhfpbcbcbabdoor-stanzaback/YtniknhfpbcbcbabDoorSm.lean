/- Plain mathematics of stanzas: small letters, names, lines, fields, texts. -/
import Derived.Lib.Bytealg
import Derived.Lib.Split
import Derived.Lib.SplitLaws
import Derived.Lib.SlTrimSet
namespace Go.Proofs.YtniknhfpbcbcbabDoor
namespace Sm

def sm (c : UInt8) : UInt8 := if 65 ≤ c.toNat ∧ c.toNat ≤ 90 then c + 32 else c
def small (l : List UInt8) : List UInt8 := l.map sm
def bl (c : UInt8) : Bool := c == 32 || c == 9
def tl (l : List UInt8) : List UInt8 := l.dropWhile bl
def tr (l : List UInt8) : List UInt8 := (l.reverse.dropWhile bl).reverse
def nb (c : UInt8) : Bool := decide (33 ≤ c.toNat) && decide (c.toNat ≤ 126) && !(c == 58)
def hok (s : List UInt8) : Bool := match s with | [] => false | c :: _ => !(c == 35) && !(c == 45)
def nok (s : List UInt8) : Bool := hok s && decide (s.length ≤ 24) && s.all nb
def cok (c : UInt8) : Bool := (decide (32 ≤ c.toNat) || c == 9) && !(c == 127)
def lok (s : List UInt8) : Bool := s.all cok && (tr (tl s) == s)

/-- A text cut at line feeds. -/
def spl : List UInt8 → List (List UInt8)
  | [] => [[]]
  | c :: t => if c = 10 then [] :: spl t else match spl t with
    | [] => [[c]]
    | x :: r => (c :: x) :: r
/-- .. lines behind the first one. -/
def mok (ls : List (List UInt8)) : Bool := ls.all fun y => !(y == []) && lok y
def vok (v : List UInt8) : Bool := match spl v with | [] => true | x :: r => lok x && mok r
def ln (x : List UInt8) : List UInt8 := 32 :: ((if x.head? = some 46 then [46] else []) ++ (x ++ [10]))
def l0 (x : List UInt8) : List UInt8 := (if x = [] then [] else 32 :: x) ++ [10]
def vt (v : List UInt8) : List UInt8 := match spl v with | [] => [] | x :: r => l0 x ++ r.flatMap ln
abbrev F := List UInt8 × List UInt8
def ft (f : F) : List UInt8 := f.1 ++ (58 :: vt f.2)
def txt (l : List F) : List UInt8 := l.flatMap ft
/-- Where the first field of a name stands. -/
def fnd (l : List F) (s : List UInt8) : Option Nat := l.findIdx? fun f => small f.1 == small s
def gets (l : List F) (s : List UInt8) : Option (List UInt8) := (fnd l s).map fun i => (l.getD i ([], [])).2
/-- A field among those ahead of it. -/
def fok (l : List F) (f : F) : Bool := nok f.1 && vok f.2 && (fnd l f.1).isNone
def foks (l : List F) : Bool := (List.range l.length).all fun j => fok (l.take j) (l.getD j ([], []))
def rgt (l : List F) : Bool := decide (1 ≤ l.length) && decide (l.length ≤ 40) && foks l && decide ((txt l).length ≤ 4000)

theorem foks_yes {l : List F} (h : ∀ j (hj : j < l.length), fok (l.take j) l[j] = true) : foks l = true := by
  unfold foks; rw [List.all_eq_true]
  intro j hj
  have hj' : j < l.length := by simpa using hj
  rw [show l.getD j ([], []) = l[j] from by simp [List.getD, hj']]
  exact h j hj'
theorem foks_no {l : List F} (k : Nat) (hk : k < l.length) (h : fok (l.take k) l[k] = false) : foks l = false := by
  unfold foks; rw [List.all_eq_false]
  exact ⟨k, by simpa using hk, by rw [show l.getD k ([], []) = l[k] from by simp [List.getD, hk], h]; simp⟩

theorem sm_hi {c : UInt8} (h1 : 65 ≤ c.toNat) (h2 : c.toNat ≤ 90) : (sm c).toNat = c.toNat + 32 := by
  unfold sm; rw [if_pos ⟨h1, h2⟩]
  rw [UInt8.toNat_add]
  show (c.toNat + 32) % 256 = _
  omega
theorem sm_lo {c : UInt8} (h : ¬ (65 ≤ c.toNat ∧ c.toNat ≤ 90)) : sm c = c := by unfold sm; rw [if_neg h]

theorem fc_spl (l : List UInt8) : (Lib.indexByte l 10 = -1 ∧ spl l = [l]) ∨ ∃ k : Nat, k < l.length ∧ Lib.indexByte l 10 = k ∧ spl l = l.take k :: spl (l.drop (k + 1)) := by
  induction l with
  | nil => left; exact ⟨rfl, rfl⟩
  | cons c t ih =>
    by_cases hc : c = 10
    · right; subst hc
      exact ⟨0, by simp, by simp [Lib.indexByte], by simp [spl]⟩
    · rcases ih with ⟨h1, h2⟩ | ⟨k, hk, h1, h2⟩
      · left
        refine ⟨?_, ?_⟩
        · unfold Lib.indexByte; simp [hc, h1]
        · unfold spl; rw [if_neg hc, h2]
      · right
        refine ⟨k + 1, by simp; omega, ?_, ?_⟩
        · unfold Lib.indexByte; simp [hc, h1]
        · conv => lhs; unfold spl
          rw [if_neg hc, h2]; simp
theorem spl_ne (l : List UInt8) : spl l ≠ [] := by
  rcases fc_spl l with ⟨_, h⟩ | ⟨k, _, _, h⟩ <;> rw [h] <;> simp
theorem spl_len (l : List UInt8) : ∀ x ∈ spl l, x.length ≤ l.length := by
  induction l with
  | nil => intro x hx; simp [spl] at hx; simp [hx]
  | cons c t ih =>
    intro x hx
    unfold spl at hx
    split at hx
    · rcases List.mem_cons.1 hx with rfl | hx
      · simp
      · have := ih x hx; simp; omega
    · split at hx
      · simp at hx; simp [hx]
      · rename_i y r hy
        rcases List.mem_cons.1 hx with rfl | hx
        · have := ih y (by rw [hy]; simp); simpa using this
        · have := ih x (by rw [hy]; simp [hx]); simp; omega
end Sm
end Go.Proofs.YtniknhfpbcbcbabDoor
