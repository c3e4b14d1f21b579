/- The keeper's first look at a book: noted. -/
import Derived.Test.YteiobnkaadedkaaGreatDoorKe
namespace Go.Proofs.YteiobnkaadedkaaGreatDoor
open Go.RowKit Go.Sort Go.Maps

theorem KJ.base {w w1 W : World} {b d n lo hi : Nat} {A : Bk} {dn e : Bool} (h : KJ w1 b d n A dn e lo hi W) (hb : Below w.heap.size w w1) : KJ w b d n A dn e lo hi W := by
  obtain ⟨c, pm, ns, P, N, mb, L, hX⟩ := h
  have hs := hb.size
  exact ⟨c, pm, ns, P, N, mb, L, hb.trans (hX.bl.mono hs), hX.bj, hX.pg, hX.sf, hX.hc, fun k hk => Nat.le_trans hs (hX.hx k hk), hX.hz, hX.hs⟩
/-- A row of texts is none of the book's blocks. -/
theorem KJ.row {w W : World} {b d n lo hi g : Nat} {A : Bk} {dn e : Bool} {cs : Array Value} {fz : Nat × Nat} (h : KJ w b d n A dn e lo hi W) (hg : W.heap[g]? = some (.cells cs 9 fz)) : KJ w b d n A dn e g (g + 1) W := by
  obtain ⟨c, pm, ns, P, N, mb, L, hX⟩ := h
  refine ⟨c, pm, ns, P, N, mb, L, hX.bl, hX.bj, hX.pg, hX.sf, hX.hc, hX.hx, fun k hk => ?_, (Array.getElem?_eq_some_iff.1 hg).1⟩
  have : k ≠ g := fun e1 => by
    subst e1
    rcases hk with (rfl | rfl | ⟨i, hi, rfl⟩) | (rfl | hk)
    · rw [hX.bj.bk.blk] at hg; cases hg
    · obtain ⟨es, cl, h1, _⟩ := hX.bj.bk.lp; rw [h1] at hg; cases hg
    · obtain ⟨es, cl, h1, _⟩ := hX.bj.bk.ln i hi; rw [h1] at hg; cases hg
    · rw [hX.bj.pd.blk] at hg; cases hg
    · obtain ⟨es, cl, h1, _⟩ := hX.bj.pd.map k hk; rw [h1] at hg; cases hg
  omega
set_option maxHeartbeats 4000000 in
set_option maxRecDepth 100000 in
theorem noted_any (w : World) : Calls Tryz.prog 18 #[] w fun x w' => x = .returned (.bool true) ∧ Below w.heap.size w w' := by
  have cO := kj_new w
  go_enter Tryz.func18, Tryz.ntmps18
  go_wp2_with fail
  refine cO.mono ?_
  rintro x w1 ⟨b, rfl, hJ⟩
  have cS := kj_set hJ (by omega) (k := [97]) (s := [120, 32, 121]) (by decide)
  clear cO
  go_wp2_with fail
  refine cS.mono ?_
  rintro x w2 hS
  obtain ⟨rfl, hJ2⟩ : x = .returned .nilIface ∧ KJ w b w.heap.size 1 [([97], [120, 32, 121])] false false 0 0 w2 := by
    rcases hS.is with h | ⟨h, _⟩
    · exact h
    · cases h
  have cT := kj_start hJ2 (z := 0) (by omega)
  clear cS hS hJ hJ2
  go_wp2_with fail
  refine cT.mono ?_
  rintro x w3 ⟨rfl, _, hJ3⟩
  have cP := kj_open hJ3 (by omega)
  clear cT
  go_wp2_with fail
  refine cP.mono ?_
  rintro x w4 ⟨c, rfl, hb4, hJ4⟩
  have cG := bo_get hJ4.bo (k := [97]) (by simp)
  rw [show txt [97] [([97], [120, 32, 121])] = [120, 32, 121] from rfl] at cG
  clear cP hb4 hJ3
  go_wp2_with fail
  refine cG.mono ?_
  rintro x w5 ⟨rfl, hb5⟩
  have cN := bo_names (hJ4.up hb5).bo (by omega)
  clear cG
  go_wp2_with fail
  refine cN.mono ?_
  rintro x w6 ⟨v, rfl, hT, hb6⟩
  obtain ⟨g, cp, rfl⟩ := txo_sl hT
  have HB := Lib.hid ((hJ4.up hb5).up hb6).bl
  clear cN hT hb6 hb5 hJ4
  go_wp2_with fail
  go_ret
  exact ⟨rfl, HB.out⟩
end Go.Proofs.YteiobnkaadedkaaGreatDoor
