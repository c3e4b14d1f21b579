/- The walks of a disk's functions that touch its files. -/
import Derived.Test.YtppogjjhippefaaGreatDoorMx
import Derived.Test.YtppogjjhippefaaGreatDoorSh
import Derived.BigRegion
import Derived.ChangeAlike
import Derived.StringKeys
namespace Go.Proofs.YtppogjjhippefaaGreatDoor.Dsk
open Go.RowKit Go.Sort Go.Maps

theorem law9 : Keyed Tryz.prog 9 := string_keyed Tryz.underlying9
theorem key9 (s : List UInt8) (h : s.length ≤ 1000000) : keyOf Tryz.prog 9 (.string ⟨s.toArray⟩) = some (.string s) := by
  have := Go.WideMaps.keyOf_string_mk (P := Tryz.prog) (k := 9) Tryz.underlying9 (s := ⟨s.toArray⟩) (by simp [ByteArray.size]; unfold maxLen; omega)
  simpa using this
theorem zero73 (w : World) : (zeroValue 120).run Tryz.prog w = .ok (.agg #[.string ⟨#[]⟩, .string ⟨#[]⟩, .bool false]) w := by kernel_rfl
def zent : Ent := ⟨[], none⟩
theorem zent_pv : pv zent = .agg #[.string ⟨#[]⟩, .string ⟨#[]⟩, .bool false] := rfl
/-- What lies at a key, of none nothing. -/
def ent (k : List UInt8) (L : Kv Ent) : Ent := (lkL k L).getD zent
theorem look_own {w : World} {m : Nat} {n : Nat} {L : Kv Ent} (h : w.ownsMap Tryz.prog 9 Rv m n (toD pv L)) (k : List UInt8) (hk : k.length ≤ 1000000) :
    (Instr.lookup 29 (.map (some m)) (.string ⟨k.toArray⟩) false).run Tryz.prog w = .ok (pv (ent k L)) w ∧ (Instr.lookup 29 (.map (some m)) (.string ⟨k.toArray⟩) true).run Tryz.prog w = .ok (.tuple #[pv (ent k L), .bool (lkL k L).isSome]) w := by
  have hat : ∀ v ps, Rv v = some ((toD pv L).atKey (.string k) (.held (pv zent)), ps) → v = pv (ent k L) := fun v ps hv => by
    rw [toD_at] at hv
    unfold ent
    cases hl : lkL k L with
    | none => rw [hl] at hv; simpa [Rv] using congrArg (fun o => o.map Prod.fst) hv
    | some a => rw [hl] at hv; simpa [Rv] using congrArg (fun o => o.map Prod.fst) hv
  constructor
  · obtain ⟨v, ps, h1, h2⟩ := h.lookup law9 Tryz.underlying29 (zero73 w) (zd := .held (pv zent)) (zp := []) rfl (key9 k hk)
    rw [h1, hat v ps h2]
  · obtain ⟨v, ps, h1, h2⟩ := h.look_ok law9 Tryz.underlying29 (zero73 w) (zd := .held (pv zent)) (zp := []) rfl (key9 k hk)
    rw [h1, hat v ps h2, toD_has]
theorem look_nil' (w : World) (k : List UInt8) (hk : k.length ≤ 1000000) (c : Bool) :
    (Instr.lookup 29 (.map none) (.string ⟨k.toArray⟩) c).run Tryz.prog w = .ok (if c then .tuple #[pv zent, .bool false] else pv zent) w :=
  Maps.look_nil c law9 Tryz.underlying29 (zero73 w) (key9 k hk)
end Go.Proofs.YtppogjjhippefaaGreatDoor.Dsk
