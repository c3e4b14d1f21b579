/- What is met, as the mathematics of Needs has it; sorted lists of the same members. -/
import Derived.Test.YthijccmiemlilaaGreatDoorA8
import Derived.Test.YthijccmiemlilaaGreatDoorA7
import Derived.Test.YthijccmiemlilaaGreatDoorKq
namespace Go.Proofs.YthijccmiemlilaaGreatDoor
open Go.RowKit Go.Sort

/-- Who works; what one asks for. -/
def ndW (l : List Kn) (j : Nat) : Bool := wk (l.getD j default)
def ndL (l : List Kn) (i : Nat) : List (List Tm) := (l.getD i default).p.D ++ (l.getD i default).p.A
def ndA (l : List Kn) (i : Nat) : List (Nat → Bool) := (ndL l i).map fun x j => on1 (l.getD j default).p.o x
theorem met_all (O : List Ofr) (l : List (List Tm)) : (met O l).2 = l.all fun x => x.any (tm O) := by
  unfold met
  cases h : l.findIdx? (fun x => !(x.any (tm O))) with
  | none =>
    rw [List.findIdx?_eq_none_iff] at h
    symm
    show (l.all fun x => x.any (tm O)) = true
    rw [List.all_eq_true]
    intro x hx
    have := h x hx
    simpa using this
  | some i =>
    rw [List.findIdx?_eq_some_iff_getElem] at h
    obtain ⟨hi, h1, _⟩ := h
    symm
    show (l.all fun x => x.any (tm O)) = false
    rw [List.all_eq_false]
    exact ⟨l[i], List.getElem_mem hi, by simpa using h1⟩
theorem any_swap {α β : Type} (p : α → β → Bool) (l : List α) (m : List β) : (l.any fun x => m.any fun y => p x y) = m.any fun y => l.any fun x => p x y := by
  rw [Bool.eq_iff_iff]
  simp only [List.any_eq_true]
  constructor
  · rintro ⟨x, hx, y, hy, h⟩; exact ⟨y, hy, x, hx, h⟩
  · rintro ⟨y, hy, x, hx, h⟩; exact ⟨x, hx, y, hy, h⟩
theorem tm_sel (l : List Kn) (f : Nat → Bool) (x : List Tm) : x.any (tm ((sel l f l.length).map (·.p.o))) = (List.range l.length).any fun j => f j && on1 (l.getD j default).p.o x := by
  have e : (tm ((sel l f l.length).map (·.p.o))) = fun t => (List.range l.length).any fun i => f i && om t (l.getD i default).p.o := by
    funext t
    exact sel_any l f t
  rw [e, any_swap]
  congr 1
  funext j
  unfold on1
  cases f j <;> simp
theorem met_mt (l : List Kn) (G : Nat → Bool) (i : Nat) : (met ((sel l (fun j => ndW l j && !G j) l.length).map (·.p.o)) (ndL l i)).2 = Nds.mt l.length (ndW l) (ndA l) G i := by
  rw [met_all]
  unfold Nds.mt ndA
  rw [List.all_map]
  congr 1
  funext x
  rw [tm_sel]
  rfl
theorem asq_ask (l : List Kn) (i j : Nat) : asq (l.getD j default).p.o (ndL l i) = Nds.ask (ndA l) i j := by
  unfold asq Nds.ask ndA
  rw [List.any_map]
  rfl
/-- Rising lists of the same members are the same. -/
theorem rising_same : ∀ {a b : List Nat}, a.Pairwise (· < ·) → b.Pairwise (· < ·) → (∀ i, i ∈ a ↔ i ∈ b) → a = b
  | [], [], _, _, _ => rfl
  | [], y :: b, _, _, h => by have := (h y).2 (by simp); cases this
  | x :: a, [], _, _, h => by have := (h x).1 (by simp); cases this
  | x :: a, y :: b, ha, hb, h => by
    rw [List.pairwise_cons] at ha hb
    have hxy : x = y := by
      rcases List.mem_cons.1 ((h x).1 (by simp)) with e | h1
      · exact e
      · rcases List.mem_cons.1 ((h y).2 (by simp)) with e | h2
        · exact e.symm
        · have h3 := hb.1 x h1
          have h4 := ha.1 y h2
          omega
    subst hxy
    rw [rising_same ha.2 hb.2 (fun i => ?_)]
    constructor
    · intro hi
      rcases List.mem_cons.1 ((h i).1 (List.mem_cons_of_mem _ hi)) with e | h1
      · subst e; exact absurd (ha.1 i hi) (Nat.lt_irrefl _)
      · exact h1
    · intro hi
      rcases List.mem_cons.1 ((h i).2 (List.mem_cons_of_mem _ hi)) with e | h1
      · subst e; exact absurd (hb.1 i hi) (Nat.lt_irrefl _)
      · exact h1
end Go.Proofs.YthijccmiemlilaaGreatDoor
