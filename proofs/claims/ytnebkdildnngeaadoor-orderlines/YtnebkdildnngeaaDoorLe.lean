/- The law of Line. -/
import Derived.Test.YtnebkdildnngeaaDoorLd
namespace Go.Proofs.YtnebkdildnngeaaDoor
open Go.RowKit Go.Sort

/-- What the line is. -/
def li (n : Int) (l l' : List E) : List Nat := match ro2 n l l' with
  | .ok => lin (Om.cl n.toNat (et (l ++ l'))) (et l') n.toNat
  | _ => []
theorem li_ok {n : Nat} {l l' : List E} (h : ro2 n l l' = .ok) : li n l l' = lin (Om.cl n (et (l ++ l'))) (et l') n := by unfold li; rw [h]; rfl
theorem li_no {n : Int} {l l' : List E} (h : ro2 n l l' ≠ .ok) : li n l l' = [] := by
  unfold li
  rcases e : ro2 n l l' with _ | _ | i
  · exact absurd e h
  · rfl
  · rfl
theorem ro2_both {n : Int} {l l' : List E} (h : ro2 n l l' = .ok) : ∃ k : Nat, n = k ∧ k ≤ 40 ∧ roL k l = .ok ∧ roL k l' = .ok := by
  obtain ⟨r1, r2⟩ := ro2_ok h
  obtain ⟨k, rfl, hk, hr1⟩ := ro_ok r1
  obtain ⟨k', hk', _, hr2⟩ := ro_ok r2
  have e : k' = k := by omega
  subst e
  exact ⟨k', rfl, hk, hr1, hr2⟩
theorem li_len (n : Int) (l l' : List E) : (li n l l').length ≤ 40 := by
  by_cases h : ro2 n l l' = .ok
  · obtain ⟨k, rfl, hk, _, _⟩ := ro2_both h
    rw [li_ok h, (lin_all (cl_wy _ _) _).1]
    exact hk
  · rw [li_no h]; simp
theorem rline_any (n : Int) (A A' : Option Addr) (c c' : Nat) (l l' : List E) (w : World) (hl : l.length ≤ 60) (hl' : l'.length ≤ 60) (h : Es w (.slice A l.length c) l) (h' : Es w (.slice A' l'.length c') l') (hA : A = none → c = 0) (hA' : A' = none → c' = 0) (hF : Fi w) : Calls Tryd.prog 10 #[.int .i64 n, .slice A l.length c, .slice A' l'.length c'] w fun e w' => ∃ v, e = .returned (.tuple #[v, fv (ro2 n l l')]) ∧ Iw w' w.heap.size v (li n l l') ∧ Below w.heap.size w w' := by
  by_cases hr : ro2 n l l' = .ok
  · obtain ⟨k, rfl, hk, h1, h2⟩ := ro2_both hr
    rw [hr, li_ok hr]
    exact rline_in k A A' c c' l l' w hk hl hl' h h' hA hA' hF h1 h2
  · rw [li_no hr]
    by_cases h1 : ro n l = .ok
    · have e : ro2 n l l' = ro n l' := by unfold ro2; rw [h1]
      rw [e] at hr ⊢
      refine (rline_no2 n A A' c c' l l' w (by omega) (by omega) h h' hF h1 hr).mono ?_
      rintro e w1 ⟨rfl, b1⟩
      exact ⟨_, rfl, World.ownsRow_nil _ _ _ _, b1⟩
    · have e : ro2 n l l' = ro n l := by
        unfold ro2
        split
        · rename_i h2; exact absurd h2 h1
        · rfl
      rw [e]
      refine (rline_no1 n A A' c l'.length c' l w (by omega) h hF h1).mono ?_
      rintro e w1 ⟨rfl, b1⟩
      exact ⟨_, rfl, World.ownsRow_nil _ _ _ _, b1⟩
theorem pline_any (n : Int) (A A' : Option Addr) (c c' : Nat) (l l' : List E) (w : World) (hl : l.length ≤ 1000000) (hl' : l'.length ≤ 1000000) (h : Es w (.slice A l.length c) l) (h' : Es w (.slice A' l'.length c') l') : Calls Tryd.prog 11 #[.int .i64 n, .slice A l.length c, .slice A' l'.length c'] w fun e w' => ∃ v u, e = .returned (.tuple #[v, u]) ∧ Iw w' w.heap.size v (li n l l') ∧ Ev w' (ro2 n l l') u ∧ Below w.heap.size w w' := by
  by_cases hr : ro2 n l l' = .ok
  · obtain ⟨k, rfl, hk, h1, h2⟩ := ro2_both hr
    rw [hr, li_ok hr]
    refine (Line_ok k A A' c c' l l' w hk hl hl' h h' h1 h2).mono ?_
    rintro e w1 ⟨v, rfl, i1, b1⟩
    exact ⟨v, _, rfl, i1, rfl, b1⟩
  · refine (Line_no n A A' c c' l l' w hl hl' h h' hr).mono ?_
    rintro e w1 ⟨v, rfl, i1, b1⟩
    rw [li_no hr]
    exact ⟨_, v, rfl, World.ownsRow_nil _ _ _ _, i1, b1⟩
set_option maxHeartbeats 1600000 in
set_option maxRecDepth 100000 in
theorem lawLines (n : Int) (A A' : Option Addr) (c c' : Nat) (l l' : List E) (w : World) (h : Es w (.slice A l.length c) l) (h' : Es w (.slice A' l'.length c') l') (hA : A = none → c = 0) (hA' : A' = none → c' = 0) (hF : Fi w) (hE : ErrT w) : Calls Tryd.prog 4 #[.int .i64 n, .slice A l.length c, .slice A' l'.length c'] w fun e w' => e = .returned (.bool true) ∧ Below w.heap.size w w' := by
  by_cases hl1 : 60 < l.length
  · go_enter Tryd.func4, Tryd.ntmps4
    go_wp2
    go_ret
    exact ⟨rfl, Below.refl _ _⟩
  have hl2 : ¬ (60 : Int) < (l.length : Int) := by omega
  by_cases hl1' : 60 < l'.length
  · go_enter Tryd.func4, Tryd.ntmps4
    go_wp2
    go_ret
    exact ⟨rfl, Below.refl _ _⟩
  have hl2' : ¬ (60 : Int) < (l'.length : Int) := by omega
  have cR := rline_any n A A' c c' l l' w (by omega) (by omega) h h' hA hA' hF
  have HES := Lib.hid h
  have HES' := Lib.hid h'
  have HER := Lib.hid hE
  have hRl := li_len n l l'
  have HP : Hid (∀ W v v', Es W v l → Es W v' l' → Calls Tryd.prog 11 #[.int .i64 n, v, v'] W fun e w' => ∃ v u, e = .returned (.tuple #[v, u]) ∧ Iw w' W.heap.size v (li n l l') ∧ Ev w' (ro2 n l l') u ∧ Below W.heap.size W w') := fun W v v' hv hv' => by
    obtain ⟨B1, d1, rfl⟩ := es_len hv
    obtain ⟨B2, d2, rfl⟩ := es_len hv'
    exact pline_any n B1 B2 d1 d2 l l' W (by omega) (by omega) hv hv'
  have HI : Hid (∀ W u, ErrT W → Ev W (ro2 n l l') u → Calls Tryd.prog 8 #[u, fv (ro2 n l l')] W fun x w' => x = .returned (.bool true) ∧ Below W.heap.size W w') := fun W u => is_any (ro2 n l l') u W
  have HL : Hid (∀ W, Es W (.slice A l.length c) l → Calls Tryd.prog 7 #[.slice A l.length c] W fun e w' => ∃ v, e = .returned v ∧ Es w' v l ∧ Below W.heap.size W w') := fun W h => ledges_any A c l W (by omega) h
  have HL' : Hid (∀ W, Es W (.slice A' l'.length c') l' → Calls Tryd.prog 7 #[.slice A' l'.length c'] W fun e w' => ∃ v, e = .returned v ∧ Es w' v l' ∧ Below W.heap.size W w') := fun W h => ledges_any A' c' l' W (by omega) h
  generalize li n l l' = R at cR hRl HP
  generalize ro2 n l l' = r at cR HP HI
  clear h h' hF hE hA hA'
  obtain ⟨x, y, hxy⟩ : ∃ x y, fau r = (x, y) := ⟨_, _, rfl⟩
  have efv : fv r = .agg #[.int .i64 x, .int .i64 y] := by unfold fv; rw [hxy]
  rw [efv] at cR HI
  clear efv hxy
  go_enter Tryd.func4, Tryd.ntmps4
  go_wp2_with fail
  refine cR.mono ?_
  rintro e w1 ⟨v1, rfl, hR1, b1⟩
  have b2 := bA1 w1 (.cells #[.int .i64 x, .int .i64 y] 26)
  have bb2 := bon b1 b2
  have HR1 := Lib.hid (own_on hR1 b2)
  have cL := HL.out _ (HES.out.on bb2)
  obtain ⟨R1, R2, rfl⟩ := iw_sl hR1
  clear hR1 cR HL b1
  go_wp2_with fail
  refine cL.mono ?_
  rintro e w3 ⟨v3, rfl, hE3, b3⟩
  have cL' := HL'.out _ (HES'.out.on (bon bb2 b3))
  clear cL HL'
  go_wp2_with fail
  refine cL'.mono ?_
  rintro e w3' ⟨v3', rfl, hE3', b3'⟩
  have cP := HP.out _ _ _ (hE3.on b3') hE3'
  clear cL' hE3 hE3' HP
  go_wp2_with fail
  refine cP.mono ?_
  rintro e w4 ⟨v4, u4, rfl, hR4, hE4, b4⟩
  have b24 := bon (bon b3 b3') b4
  have bw4 := bon bb2 b24
  have cI := HI.out _ _ (HER.out.on bw4) hE4
  have q0 : w4.cell? ⟨w1.heap.size, 0, none⟩ = some (.int .i64 x) := by rw [b24.cell (by simp)]; simp
  have q1 : w4.cell? ⟨w1.heap.size, 1, none⟩ = some (.int .i64 y) := by rw [b24.cell (by simp)]; simp
  have HR14 := Lib.hid (own_on HR1.out b24)
  have HR4 := Lib.hid hR4
  have HB4 := Lib.hid bw4
  obtain ⟨P1, P2, rfl⟩ := iw_sl hR4
  clear cP HR1 hR4 b24 bw4 b3 b3' b4 hE4 HI bb2 b2
  go_wp2_with fail
  refine cI.mono ?_
  rintro e w5 ⟨rfl, b5⟩
  have cS := same_any _ _ R w5 (by omega) (iw_is (own_on HR4.out b5)) (iw_is (own_on HR14.out b5))
  have HB5 := Lib.hid (bon HB4.out b5)
  clear cI HR14 HR4 HB4 b5 q0 q1
  go_wp2_with fail
  refine cS.mono ?_
  rintro e w6 ⟨rfl, b6⟩
  go_wp2_with fail
  go_ret
  exact ⟨rfl, bon HB5.out b6⟩
end Go.Proofs.YtnebkdildnngeaaDoor
