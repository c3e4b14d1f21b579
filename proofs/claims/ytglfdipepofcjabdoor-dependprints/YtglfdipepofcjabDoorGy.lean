/- What is listed: the table of powers of ten, the table of signs. -/
import Derived.Test.YtglfdipepofcjabDoorCards
import Derived.Test.YtglfdipepofcjabDoorTie
import Derived.Test.YtglfdipepofcjabDoorTd
import Derived.ProofKit
import Derived.OpenShut
import Derived.Lay
import Derived.SevenTiedAt
import Derived.Stop.Joined
import Derived.Lib.SmallJoins
import Derived.Lib.LaidTab
import Derived.Lib.ItoaNum
namespace Go.Proofs.YtglfdipepofcjabDoor
open Go.ChangeShapes Go.WideShapes Go.ChangeAt Go.RowKit Go.Joins

theorem pow_eq {H : Type} : (Rows.laid_internal_strconv_uint64pow10 : DataW H) = Lib.tabData .u64 Lib.pow10Tab := by kernel_rfl
theorem pow_ty : ∃ g t e, Tryd.prog.globalNamed "internal/strconv.uint64pow10" = some g ∧ (Tryd.prog.globals[g]?).map (·.type) = some t ∧ Tryd.prog.underlying t = some (.array 20 e) ∧ Tryd.prog.underlying e = some (.int .u64) ∧ Tryd.prog.cellsOf e = 1 ∧ Tryd.prog.cellsOf t = 20 := ⟨_, _, 202, rfl, rfl, by kernel_rfl, by kernel_rfl, by kernel_rfl, by kernel_rfl⟩
theorem tab_of {W : World} {g : Nat} {t : TypeId} {cs : Array Value} {fuel : Nat} {p : List MemPlace} {sp : Nat → Bool} {held : Bool} {enc : TypeId × Value → Unit} {b : Nat}
    (hg : Tryd.prog.globalNamed "internal/strconv.uint64pow10" = some g) (ht : (Tryd.prog.globals[g]?).map (·.type) = some t) (hv : W.var? Tryd.prog "internal/strconv.uint64pow10" = some cs) (hd : DataW.trod enc Tryd.prog W b sp held fuel t cs.toList = some (Rows.laid_internal_strconv_uint64pow10, p)) :
    Lib.TabIs Tryd.prog W "internal/strconv.uint64pow10" .u64 Lib.pow10Tab := by
  obtain ⟨g', t', e', h1, h2, h3, h4, h5, h6⟩ := pow_ty
  obtain rfl := Option.some.inj (h1.symm.trans hg)
  obtain rfl := Option.some.inj (h2.symm.trans ht)
  rw [pow_eq] at hd
  unfold Lib.TabIs
  rw [hv, ← Lib.cells_of_tab h3 h4 h5 h6 hd]

/-- An array of strings that reads as texts holds them, cell for cell. -/
theorem strs_of {H : Type} {enc : TypeId × Value → H} {P : Program} {w : World} {base : Nat} {sp : Nat → Bool} {held : Bool} {fuel : Nat} {t e : TypeId} {n : Nat} {cs : List Value} {zs : List (List UInt8)} {p : List MemPlace}
    (ht : P.underlying t = some (.array n e)) (he : P.underlying e = some .string) (hce : P.cellsOf e = 1) (hct : P.cellsOf t = n)
    (h : DataW.trod enc P w base sp held fuel t cs = some (.agg (zs.map fun z => .lit (.string z)), p)) : cs = zs.map fun z => Value.string ⟨z.toArray⟩ := by
  cases fuel with
  | zero => simp [DataW.trod] at h
  | succ fuel =>
    simp only [DataW.trod, ht, hce, hct, Nat.mul_one] at h
    split at h
    · rename_i hl
      obtain ⟨xs, hm, hx⟩ := Option.map_eq_some_iff.1 h
      have hxs : xs.map (·.1) = zs.map fun z => (DataW.lit (.string z) : DataW H) := by
        have := congrArg Prod.fst hx
        simpa using this
      have hxl : xs.length = n := by simpa using Lib.mapM_length hm
      have hzl : zs.length = n := by
        have := congrArg List.length hxs
        simp at this
        omega
      apply List.ext_getElem?
      intro i
      by_cases hi : i < n
      · obtain ⟨b, hb, hf⟩ := Lib.mapM_at hm i i (by simp [hi])
        obtain ⟨z, hc, hz, _⟩ := DataW.trod_string he hf
        have h1 : cs[i]? = some (.string z) := by
          have := congrArg (·[0]?) hc
          simpa [List.getElem?_take, List.getElem?_drop] using this
        have h2 : (xs.map (·.1))[i]? = some b.1 := by simp [hb]
        rw [hxs] at h2
        rw [h1]
        have h3 : ∃ y, zs[i]? = some y ∧ (DataW.lit (.string y) : DataW H) = b.1 := by simpa using h2
        obtain ⟨y, hy, e⟩ := h3
        rw [List.getElem?_map, hy, Option.map_some]
        rw [hz] at e
        simp at e
        rw [e]
      · rw [List.getElem?_eq_none (by omega), List.getElem?_eq_none (by simp; omega)]
    · cases h

theorem sign_ty : ∃ t e, Tryd.prog.globalNamed "stevedore/depend.signs" = some 0 ∧ (Tryd.prog.globals[0]?).map (·.type) = some t ∧ Tryd.prog.underlying t = some (.array 6 e) ∧ Tryd.prog.underlying e = some .string ∧ Tryd.prog.cellsOf e = 1 ∧ Tryd.prog.cellsOf t = 6 := ⟨_, 9, by kernel_rfl, rfl, by kernel_rfl, by kernel_rfl, by kernel_rfl, by kernel_rfl⟩
theorem sign_eq {H : Type} : (Rows.laid_stevedore_depend_signs : DataW H) = .agg (([[], [60, 60], [60, 61], [61], [62, 61], [62, 62]] : List (List UInt8)).map fun z => .lit (.string z)) := rfl
theorem sg_of {W : World} {g : Nat} {t : TypeId} {cs : Array Value} {fuel : Nat} {p : List MemPlace} {sp : Nat → Bool} {held : Bool} {enc : TypeId × Value → Unit} {b : Nat}
    (hg : Tryd.prog.globalNamed "stevedore/depend.signs" = some g) (ht : (Tryd.prog.globals[g]?).map (·.type) = some t) (hv : W.var? Tryd.prog "stevedore/depend.signs" = some cs) (hd : DataW.trod enc Tryd.prog W b sp held fuel t cs.toList = some (Rows.laid_stevedore_depend_signs, p)) : Sg W := by
  obtain ⟨t', e', h1, h2, h3, h4, h5, h6⟩ := sign_ty
  obtain rfl := Option.some.inj (h1.symm.trans hg)
  obtain rfl := Option.some.inj (h2.symm.trans ht)
  rw [sign_eq] at hd
  have hcs := strs_of h3 h4 h5 h6 hd
  have cell : ∀ i, W.cell? ⟨0, i, none⟩ = cs.toList[i]? := fun i => by simpa using World.var?_cell h1 hv i
  have at' : ∀ i, i < 6 → W.cell? ⟨0, i, none⟩ = some (.string ⟨(sgt i).toArray⟩) := fun i hi => by
    rw [cell, hcs]
    match i, hi with
    | 0, _ => rfl
    | 1, _ => rfl
    | 2, _ => rfl
    | 3, _ => rfl
    | 4, _ => rfl
    | 5, _ => rfl
  exact ⟨block_lt_of_cell (at' 0 (by omega)), at'⟩

end Go.Proofs.YtglfdipepofcjabDoor
