/- The law of Line. -/
import Derived.Test.YthijccmiemlilaaGreatDoorXLd
namespace Go.Proofs.YthijccmiemlilaaGreatDoor.Ord
open Go.RowKit Go.Sort

/-- What the line is. -/
def li (n : Int) (l l' : List E) : List Nat := match ro2 n l l' with
  | .ok => lin (Om.cl n.toNat (et (l ++ l'))) (et l') n.toNat
  | _ => []
theorem li_ok {n : Nat} {l l' : List E} (h : ro2 n l l' = .ok) : li n l l' = lin (Om.cl n (et (l ++ l'))) (et l') n := by unfold li; rw [h]; rfl
theorem li_no {n : Int} {l l' : List E} (h : ro2 n l l' ≠ .ok) : li n l l' = [] := by
  unfold li
  rcases e : ro2 n l l' with _ | _ | i
  · exact absurd e h
  · rfl
  · rfl
theorem ro2_both {n : Int} {l l' : List E} (h : ro2 n l l' = .ok) : ∃ k : Nat, n = k ∧ k ≤ 40 ∧ roL k l = .ok ∧ roL k l' = .ok := by
  obtain ⟨r1, r2⟩ := ro2_ok h
  obtain ⟨k, rfl, hk, hr1⟩ := ro_ok r1
  obtain ⟨k', hk', _, hr2⟩ := ro_ok r2
  have e : k' = k := by omega
  subst e
  exact ⟨k', rfl, hk, hr1, hr2⟩
theorem li_len (n : Int) (l l' : List E) : (li n l l').length ≤ 40 := by
  by_cases h : ro2 n l l' = .ok
  · obtain ⟨k, rfl, hk, _, _⟩ := ro2_both h
    rw [li_ok h, (lin_all (cl_wy _ _) _).1]
    exact hk
  · rw [li_no h]; simp
theorem rline_any (n : Int) (A A' : Option Addr) (c c' : Nat) (l l' : List E) (w : World) (hl : l.length ≤ 20000) (hl' : l'.length ≤ 20000) (h : Es w (.slice A l.length c) l) (h' : Es w (.slice A' l'.length c') l') (hA : A = none → c = 0) (hA' : A' = none → c' = 0) (hF : Fi w) : Calls Tryz.prog 57 #[.int .i64 n, .slice A l.length c, .slice A' l'.length c'] w fun e w' => ∃ v, e = .returned (.tuple #[v, fv (ro2 n l l')]) ∧ Iw w' w.heap.size v (li n l l') ∧ Below w.heap.size w w' := by
  by_cases hr : ro2 n l l' = .ok
  · obtain ⟨k, rfl, hk, h1, h2⟩ := ro2_both hr
    rw [hr, li_ok hr]
    exact rline_in k A A' c c' l l' w hk hl hl' h h' hA hA' hF h1 h2
  · rw [li_no hr]
    by_cases h1 : ro n l = .ok
    · have e : ro2 n l l' = ro n l' := by unfold ro2; rw [h1]
      rw [e] at hr ⊢
      refine (rline_no2 n A A' c c' l l' w (by omega) (by omega) h h' hF h1 hr).mono ?_
      rintro e w1 ⟨rfl, b1⟩
      exact ⟨_, rfl, World.ownsRow_nil _ _ _ _, b1⟩
    · have e : ro2 n l l' = ro n l := by
        unfold ro2
        split
        · rename_i h2; exact absurd h2 h1
        · rfl
      rw [e]
      refine (rline_no1 n A A' c l'.length c' l w (by omega) h hF h1).mono ?_
      rintro e w1 ⟨rfl, b1⟩
      exact ⟨_, rfl, World.ownsRow_nil _ _ _ _, b1⟩
theorem pline_any (n : Int) (A A' : Option Addr) (c c' : Nat) (l l' : List E) (w : World) (hl : l.length ≤ 1000000) (hl' : l'.length ≤ 1000000) (h : Es w (.slice A l.length c) l) (h' : Es w (.slice A' l'.length c') l') : Calls Tryz.prog 56 #[.int .i64 n, .slice A l.length c, .slice A' l'.length c'] w fun e w' => ∃ v u, e = .returned (.tuple #[v, u]) ∧ Iw w' w.heap.size v (li n l l') ∧ Ev w' (ro2 n l l') u ∧ Below w.heap.size w w' := by
  by_cases hr : ro2 n l l' = .ok
  · obtain ⟨k, rfl, hk, h1, h2⟩ := ro2_both hr
    rw [hr, li_ok hr]
    refine (Line_ok k A A' c c' l l' w hk hl hl' h h' h1 h2).mono ?_
    rintro e w1 ⟨v, rfl, i1, b1⟩
    exact ⟨v, _, rfl, i1, rfl, b1⟩
  · refine (Line_no n A A' c c' l l' w hl hl' h h' hr).mono ?_
    rintro e w1 ⟨v, rfl, i1, b1⟩
    rw [li_no hr]
    exact ⟨_, v, rfl, World.ownsRow_nil _ _ _ _, i1, b1⟩
end Go.Proofs.YthijccmiemlilaaGreatDoor.Ord
