/- What the rows and cards of this seat share: versions that come in, opened and shut; the table of powers of ten out of what is listed. -/
import Derived.Test.YtkefdlcionkbdaaDoorCards
import Derived.Test.YtkefdlcionkbdaaDoorTie
import Derived.ProofKit
import Derived.OpenShut
import Derived.Lay
import Derived.SevenTiedAt
import Derived.Stop.Joined
import Derived.Lib.SmallJoins
import Derived.Lib.LaidTab
import Derived.Lib.ItoaNum
namespace Go.Proofs.YtkefdlcionkbdaaDoor
open Go.ChangeShapes Go.WideShapes Go.ChangeAt Go.RowKit Go.Joins

theorem own : ownKnob Tryd.prog.godebug = none := by kernel_rfl
theorem cells23 : Tryd.prog.cellsOf 23 = 3 := by kernel_rfl

set_option maxRecDepth 100000 in
/-- A version that comes in, opened. -/
theorem open_ver {H : Type} {enc : TypeId × Value → H} {W : World} {base b0 : Nat} {r : Reach} {spare : Nat → Bool} {held : Bool} {v : Value} {d : DataW H} {p : List MemPlace}
    (hv : Value.okWide Tryd.prog W r b0 23 v) (h : DataW.Trod enc Tryd.prog W base spare held 23 v d p) :
    ∃ (e : Int) (u x : List UInt8), v = .agg #[.int .i64 e, .string ⟨u.toArray⟩, .string ⟨x.toArray⟩] ∧ d = .agg [.lit (.int .i64 e), .lit (.string u), .lit (.string x)] ∧ p = [] ∧ (Lit.int .i64 e).wf = true ∧ u.length ≤ maxLen ∧ x.length ≤ maxLen := by
  obtain ⟨c0, c1, c2, y0, y1, y2, m, rfl, rfl, rfl, h0, h1, h2⟩ := open_agg3 Tryd.underlying23 (by kernel_rfl) cells23 hv h
  obtain ⟨e, e0, rfl, we⟩ := DataW.trod_int Tryd.underlying3 h0
  obtain ⟨u, e1, rfl, wu⟩ := DataW.trod_string Tryd.underlying9 h1
  obtain ⟨x, e2, rfl, wx⟩ := DataW.trod_string Tryd.underlying9 h2
  simp at e0 e1 e2
  subst e0 e1 e2
  exact ⟨e, u.data.toList, x.data.toList, rfl, rfl, rfl, we, wu, wx⟩

set_option maxRecDepth 100000 in
/-- .. and shut. -/
theorem shut_ver {H : Type} {enc : TypeId × Value → H} {W : World} {base : Nat} {spare : Nat → Bool} {held : Bool} {e : Int} {u x : List UInt8} (we : (Lit.int .i64 e).wf = true) (wu : u.length ≤ maxLen) (wx : x.length ≤ maxLen) :
    DataW.Trod enc Tryd.prog W base spare held 23 (.agg #[.int .i64 e, .string ⟨u.toArray⟩, .string ⟨x.toArray⟩]) (.agg [.lit (.int .i64 e), .lit (.string u), .lit (.string x)]) [] :=
  shut_agg3 (y0 := (.lit (.int .i64 e), [])) (y1 := (.lit (.string u), [])) (y2 := (.lit (.string x), [])) Tryd.underlying23 (by kernel_rfl) cells23
    ⟨1, by simp [DataW.trod, Tryd.underlying3, we]⟩ ⟨1, by simp [DataW.trod, Tryd.underlying9, ByteArray.size, wu]⟩ ⟨1, by simp [DataW.trod, Tryd.underlying9, ByteArray.size, wx]⟩

theorem pow_eq {H : Type} : (Rows.laid_internal_strconv_uint64pow10 : DataW H) = Lib.tabData .u64 Lib.pow10Tab := by kernel_rfl
theorem pow_ty : ∃ g t, Tryd.prog.globalNamed "internal/strconv.uint64pow10" = some g ∧ (Tryd.prog.globals[g]?).map (·.type) = some t ∧ Tryd.prog.underlying t = some (.array 20 84) ∧ Tryd.prog.cellsOf t = 20 := ⟨_, _, rfl, rfl, by kernel_rfl, by kernel_rfl⟩
theorem cells84 : Tryd.prog.cellsOf 84 = 1 := by kernel_rfl

theorem tab_of {W : World} {g : Nat} {t : TypeId} {cs : Array Value} {fuel : Nat} {p : List MemPlace} {sp : Nat → Bool} {held : Bool} {enc : TypeId × Value → Unit} {b : Nat}
    (hg : Tryd.prog.globalNamed "internal/strconv.uint64pow10" = some g) (ht : (Tryd.prog.globals[g]?).map (·.type) = some t) (hv : W.var? Tryd.prog "internal/strconv.uint64pow10" = some cs) (hd : DataW.trod enc Tryd.prog W b sp held fuel t cs.toList = some (Rows.laid_internal_strconv_uint64pow10, p)) :
    Lib.TabIs Tryd.prog W "internal/strconv.uint64pow10" .u64 Lib.pow10Tab := by
  obtain ⟨g', t', h1, h2, h3, h4⟩ := pow_ty
  obtain rfl := Option.some.inj (h1.symm.trans hg)
  obtain rfl := Option.some.inj (h2.symm.trans ht)
  rw [pow_eq] at hd
  unfold Lib.TabIs
  rw [hv, ← Lib.cells_of_tab h3 Tryd.underlying84 cells84 h4 hd]

end Go.Proofs.YtkefdlcionkbdaaDoor
