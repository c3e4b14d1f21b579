/- The walks of Get, either side. -/
import Derived.Test.YtniknhfpbcbcbabDoorSe
namespace Go.Proofs.YtniknhfpbcbcbabDoor
open Go.RowKit Go.Shelf Go.Sort

theorem clone_any (l : List UInt8) (w : World) (hl : l.length ≤ 1000000) : Calls Tryd.prog 40 #[.string ⟨l.toArray⟩] w fun e w' => e = .returned (.string ⟨l.toArray⟩) ∧ Below w.heap.size w w' := by
  go_enter Tryd.func40, Tryd.ntmps40
  go_wp2_with fail
  refine (Tryd.stringslite_Clone ⟨l.toArray⟩ _ (by have : (ByteArray.mk l.toArray).size = l.length := by simp [ByteArray.size]
                                                   omega)).mono ?_
  rintro e w' ⟨rfl, hb⟩
  go_wp2
  go_ret
  exact ⟨rfl, hb⟩

def getVal : Option (List UInt8) → Value
  | none => .tuple #[.string ⟨#[]⟩, .bool false]
  | some v => .tuple #[.string ⟨v.toArray⟩, .bool true]

theorem fnd_lt {l : List Sm.F} {s : List UInt8} {i : Nat} (h : Sm.fnd l s = some i) : i < l.length := by
  unfold Sm.fnd at h; rw [List.findIdx?_eq_some_iff_getElem] at h; exact h.1
theorem gets_some {l : List Sm.F} {s : List UInt8} {i : Nat} (h : Sm.fnd l s = some i) : Sm.gets l s = some (l[i]'(fnd_lt h)).2 := by
  unfold Sm.gets; rw [h]; simp [List.getD, fnd_lt h]
theorem gets_none {l : List Sm.F} {s : List UInt8} (h : Sm.fnd l s = none) : Sm.gets l s = none := by unfold Sm.gets; rw [h]; rfl

set_option maxHeartbeats 1600000 in
set_option maxRecDepth 100000 in
theorem get_any (v : Value) (l : List Sm.F) (n : List UInt8) (w : World) (h : Sl w v l) (hz : Sz l) (hn : n.length ≤ 1000000) :
    Calls Tryd.prog 12 #[v, .string ⟨n.toArray⟩] w fun e w' => e = .returned (getVal (Sm.gets l n)) ∧ Below w.heap.size w w' := by
  have cF := fun W hW => find_any v l n W hW hz hn
  cases hf : Sm.fnd l n with
  | none =>
    rw [hf] at cF
    rw [gets_none hf]
    have HS := Lib.hid h
    have HF := Lib.hid cF
    clear h cF hf hz
    go_enter Tryd.func12, Tryd.ntmps12
    go_wp2_with fail
    refine (HF.out _ HS.out).mono ?_
    rintro e w1 ⟨rfl, b1⟩
    rw [show ix none = -1 from rfl]
    go_wp2
    go_ret2
    exact ⟨rfl, b1⟩
  | some i =>
    rw [hf] at cF
    have hi := fnd_lt hf
    rw [show Sm.gets l n = some l[i].2 from gets_some hf]
    have hsz := hz.s l[i] (List.getElem_mem hi)
    have hln := hz.n
    rcases h.is with ⟨rfl, _⟩ | ⟨b, o, c, rfl, hlc, hfl⟩
    · simp at hi
    have HS := Lib.hid h
    have HF := Lib.hid cF
    have HL := Lib.hid hfl
    clear h cF hf hz hfl
    go_enter Tryd.func12, Tryd.ntmps12
    go_wp2_with fail
    refine (HF.out _ HS.out).mono ?_
    rintro e w1 ⟨rfl, b1⟩
    rw [show ix (some i) = (i : Int) from rfl]
    have c1 := (HL.out.on b1).c1 i hi
    go_wp2_with fail
    refine (clone_any l[i].2 _ (by omega)).mono ?_
    rintro e w2 ⟨rfl, b2⟩
    go_wp2
    go_ret2
    exact ⟨rfl, onn b1 b2⟩

end Go.Proofs.YtniknhfpbcbcbabDoor
