/- The walks of Get, either side. -/
import Derived.Test.YtniknhfpbcbcbaaDoorSe
namespace Go.Proofs.YtniknhfpbcbcbaaDoor
open Go.RowKit Go.Shelf Go.Sort

theorem clone_any (l : List UInt8) (w : World) (hl : l.length ≤ 1000000) : Calls Tryd.prog 44 #[.string ⟨l.toArray⟩] w fun e w' => e = .returned (.string ⟨l.toArray⟩) ∧ Below w.heap.size w w' := by
  go_enter Tryd.func44, Tryd.ntmps44
  go_wp2_with fail
  refine (Tryd.stringslite_Clone ⟨l.toArray⟩ _ (by have : (ByteArray.mk l.toArray).size = l.length := by simp [ByteArray.size]
                                                   omega)).mono ?_
  rintro e w' ⟨rfl, hb⟩
  go_wp2
  go_ret
  exact ⟨rfl, hb⟩

def getVal : Option (List UInt8) → Value
  | none => .tuple #[.string ⟨#[]⟩, .bool false]
  | some v => .tuple #[.string ⟨v.toArray⟩, .bool true]

theorem fnd_lt {l : List Sm.F} {s : List UInt8} {i : Nat} (h : Sm.fnd l s = some i) : i < l.length := by
  unfold Sm.fnd at h; rw [List.findIdx?_eq_some_iff_getElem] at h; exact h.1
theorem gets_some {l : List Sm.F} {s : List UInt8} {i : Nat} (h : Sm.fnd l s = some i) : Sm.gets l s = some (l[i]'(fnd_lt h)).2 := by
  unfold Sm.gets; rw [h]; simp [List.getD, fnd_lt h]
theorem gets_none {l : List Sm.F} {s : List UInt8} (h : Sm.fnd l s = none) : Sm.gets l s = none := by unfold Sm.gets; rw [h]; rfl

set_option maxHeartbeats 1600000 in
set_option maxRecDepth 100000 in
theorem get_any (v : Value) (l : List Sm.F) (n : List UInt8) (w : World) (h : Sl w v l) (hz : Sz l) (hn : n.length ≤ 1000000) :
    Calls Tryd.prog 33 #[v, .string ⟨n.toArray⟩] w fun e w' => e = .returned (getVal (Sm.gets l n)) ∧ Below w.heap.size w w' := by
  have cF := fun W hW => find_any v l n W hW hz hn
  cases hf : Sm.fnd l n with
  | none =>
    rw [hf] at cF
    rw [gets_none hf]
    have HS := Lib.hid h
    have HF := Lib.hid cF
    clear h cF hf hz
    go_enter Tryd.func33, Tryd.ntmps33
    go_wp2_with fail
    refine (HF.out _ HS.out).mono ?_
    rintro e w1 ⟨rfl, b1⟩
    rw [show ix none = -1 from rfl]
    go_wp2
    go_ret2
    exact ⟨rfl, b1⟩
  | some i =>
    rw [hf] at cF
    have hi := fnd_lt hf
    rw [show Sm.gets l n = some l[i].2 from gets_some hf]
    have hsz := hz.s l[i] (List.getElem_mem hi)
    have hln := hz.n
    rcases h.is with ⟨rfl, _⟩ | ⟨b, o, c, rfl, hlc, hfl⟩
    · simp at hi
    have HS := Lib.hid h
    have HF := Lib.hid cF
    have HL := Lib.hid hfl
    clear h cF hf hz hfl
    go_enter Tryd.func33, Tryd.ntmps33
    go_wp2_with fail
    refine (HF.out _ HS.out).mono ?_
    rintro e w1 ⟨rfl, b1⟩
    rw [show ix (some i) = (i : Int) from rfl]
    have c1 := (HL.out.on b1).c1 i hi
    go_wp2_with fail
    refine (clone_any l[i].2 _ (by omega)).mono ?_
    rintro e w2 ⟨rfl, b2⟩
    go_wp2
    go_ret2
    exact ⟨rfl, onn b1 b2⟩

set_option maxHeartbeats 1600000 in
set_option maxRecDepth 100000 in
theorem xget_row (b o c : Nat) (l : List Sm.F) (n : List UInt8) (w : World) (h : Fl w b o l) (hz : Sz l) (hn : n.length ≤ 1000000) :
    Calls Tryd.prog 32 #[.slice (some ⟨b, o, none⟩) l.length c, .string ⟨n.toArray⟩] w fun e w' => e = .returned (getVal (Sm.gets l n)) ∧ Below w.heap.size w w' := by
  obtain ⟨r, hr⟩ : ∃ r, r = Sm.gets l n := ⟨_, rfl⟩
  have HR := Lib.hid hr
  rw [← hr]
  clear hr
  have hln := hz.n
  have HZ := Lib.hid hz
  clear hz
  go_enter Tryd.func32, Tryd.ntmps32
  go_wp2
  go_loopw [10] (fun i W => ∃ k : Nat, k ≤ l.length ∧ i = .int .i64 k ∧ Below w.heap.size w W ∧ Hid (∀ j (hj : j < l.length), j < k → (Sm.small l[j].1 == Sm.small n) = false)) (fun i _ => l.length - (intOf i).toNat)
  case atStart => exact ⟨0, Nat.zero_le _, rfl, Below.refl _ _, fun j _ h => absurd h (Nat.not_lt_zero _)⟩
  case round =>
    obtain ⟨k, hk, rfl, hW, HP⟩ := hrel
    by_cases hlt : k < l.length
    · have hF := h.on hW
      have c0 := hF.c0 k hlt
      have c1 := hF.c1 k hlt
      have hfs := HZ.out.s l[k] (List.getElem_mem hlt)
      have bA : Below w.heap.size w (wr.alloc (.cells #[.string ⟨l[k].1.toArray⟩, .string ⟨l[k].2.toArray⟩] 92)) := hW.alloc hW.size _
      go_wp2_with fail
      refine (xsmall_any l[k].1 _ (by omega)).mono ?_
      rintro e w1 ⟨rfl, b1⟩
      have d1 : w1.cell? ⟨wr.heap.size, 1, none⟩ = some (.string ⟨l[k].2.toArray⟩) := by rw [b1.cell (by simp)]; simp
      go_wp2_with fail
      refine (xsmall_any n _ hn).mono ?_
      rintro e w2 ⟨rfl, b2⟩
      have d2 : w2.cell? ⟨wr.heap.size, 1, none⟩ = some (.string ⟨l[k].2.toArray⟩) := by rw [b2.cell (block_lt_of_cell d1)]; exact d1
      cases hq : (Sm.small l[k].1 == Sm.small n) with
      | true =>
        have HF : Hid (r = some l[k].2) := by
          show r = _
          rw [HR.out]
          exact gets_some (i := k) (fi_some k hlt hq (fun j hj h => HP.out j hj h))
        go_wp2_with fail
        go_ret2
        exact ⟨by rw [HF.out]; rfl, onn (onn bA b1) b2⟩
      | false =>
        have HN : Hid (∀ j (hj : j < l.length), j < k + 1 → (Sm.small l[j].1 == Sm.small n) = false) := fun j hj h => by
          by_cases e : j = k
          · subst e; exact hq
          · exact HP.out j hj (by omega)
        go_wp2_with fail
        exact ⟨⟨k + 1, hlt, by go_num, onn (onn bA b1) b2, HN⟩, by simp [intOf]; omega⟩
    · go_wp2
      go_ret2
      exact ⟨by rw [HR.out, gets_none (fi_none (fun j hj => HP.out j hj (by omega)))]; rfl, hW⟩
theorem xget_nil (A : Option Addr) (c : Nat) (n : List UInt8) (w : World) :
    Calls Tryd.prog 32 #[.slice A 0 c, .string ⟨n.toArray⟩] w fun e w' => e = .returned (getVal none) ∧ w' = w := by
  go_enter Tryd.func32, Tryd.ntmps32
  go_wp2
  refine wp_loop_rounds 1 ?_
  rw [rounds_succ]
  go_wp2
  go_ret2
  exact ⟨rfl, rfl⟩
theorem xget_any (v : Value) (l : List Sm.F) (n : List UInt8) (w : World) (h : Sl w v l) (hz : Sz l) (hn : n.length ≤ 1000000) :
    Calls Tryd.prog 32 #[v, .string ⟨n.toArray⟩] w fun e w' => e = .returned (getVal (Sm.gets l n)) ∧ Below w.heap.size w w' := by
  rcases h.is with ⟨rfl, A, c, rfl⟩ | ⟨b, o, c, rfl, _, hf⟩
  · exact (xget_nil A c n w).mono fun _ _ ⟨he, hw⟩ => ⟨he, by rw [hw]; exact Below.refl _ _⟩
  · exact xget_row b o c l n w hf hz hn

end Go.Proofs.YtniknhfpbcbcbaaDoor
