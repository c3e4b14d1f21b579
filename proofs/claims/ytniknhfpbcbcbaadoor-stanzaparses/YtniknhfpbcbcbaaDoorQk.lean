/- Pieces of the reference: Get with long values, Split as a row, trims. -/
import Derived.Test.YtniknhfpbcbcbaaDoorQj
namespace Go.Proofs.YtniknhfpbcbcbaaDoor
open Go.RowKit Go.Shelf Go.Sort

theorem tl_app_no {a : List UInt8} {c : UInt8} (h : Sm.bl c = false) : Sm.tl (a ++ [c]) = Sm.tl a ++ [c] := by
  induction a with
  | nil => show Sm.tl [c] = [c]; exact tl_cons_no h
  | cons x a ih =>
    cases hx : Sm.bl x with
    | true => rw [List.cons_append, tl_cons_bl hx, tl_cons_bl hx, ih]
    | false => rw [List.cons_append, tl_cons_no hx, tl_cons_no hx]; rfl
theorem tl_app_bl {a : List UInt8} {c : UInt8} (h : Sm.bl c = true) : Sm.tl (a ++ [c]) = Sm.tl a ++ (if Sm.tl a = [] then [] else [c]) := by
  induction a with
  | nil => show Sm.tl [c] = [] ++ _; rw [tl_cons_bl h]; rfl
  | cons x a ih =>
    cases hx : Sm.bl x with
    | true => rw [List.cons_append, tl_cons_bl hx, tl_cons_bl hx, ih]
    | false => rw [List.cons_append, tl_cons_no hx, tl_cons_no hx]; simp
theorem trim_comm (l : List UInt8) : Sm.tl (Sm.tr l) = Sm.tr (Sm.tl l) := by
  generalize hn : l.length = n
  induction n generalizing l with
  | zero => rw [List.length_eq_zero_iff.1 hn]; rfl
  | succ n ih =>
    rcases List.eq_nil_or_concat l with rfl | ⟨p, c, rfl⟩
    · rfl
    · rw [List.concat_eq_append] at *
      have hp : p.length = n := by simpa using hn
      cases hc : Sm.bl c with
      | true =>
        rw [tr_app_bl hc, ih p hp, tl_app_bl hc]
        split
        · simp
        · rw [tr_app_bl hc]
      | false => rw [tr_app_no hc, tl_app_no hc, tr_app_no hc]
theorem xtrims (l : List UInt8) (w : World) (hl : l.length ≤ 1000000) : Calls Tryd.prog 74 #[.string ⟨l.toArray⟩] w fun e w' => e = .returned (.string ⟨(Lib.trimS l [32, 9]).toArray⟩) ∧ w' = w := by
  have := xtrim_any l w hl
  rw [← trim_comm, ← trimS_eq] at this
  exact this

set_option maxHeartbeats 1600000 in
set_option maxRecDepth 100000 in
theorem xgetq_row (b o c : Nat) (l : List Sm.F) (n : List UInt8) (w : World) (h : Fl w b o l) (hz : Nm l) (hn : n.length ≤ 1000000) :
    Calls Tryd.prog 32 #[.slice (some ⟨b, o, none⟩) l.length c, .string ⟨n.toArray⟩] w fun e w' => e = .returned (getVal (Sm.gets l n)) ∧ Below w.heap.size w w' := by
  obtain ⟨r, hr⟩ : ∃ r, r = Sm.gets l n := ⟨_, rfl⟩
  have HR := Lib.hid hr
  rw [← hr]
  clear hr
  have hln := hz.n
  have HZ := Lib.hid hz
  clear hz
  go_enter Tryd.func32, Tryd.ntmps32
  go_wp2
  go_loopw [10] (fun i W => ∃ k : Nat, k ≤ l.length ∧ i = .int .i64 k ∧ Below w.heap.size w W ∧ Hid (∀ j (hj : j < l.length), j < k → (Sm.small l[j].1 == Sm.small n) = false)) (fun i _ => l.length - (intOf i).toNat)
  case atStart => exact ⟨0, Nat.zero_le _, rfl, Below.refl _ _, fun j _ h => absurd h (Nat.not_lt_zero _)⟩
  case round =>
    obtain ⟨k, hk, rfl, hW, HP⟩ := hrel
    by_cases hlt : k < l.length
    · have hF := h.on hW
      have c0 := hF.c0 k hlt
      have c1 := hF.c1 k hlt
      have hfs := HZ.out.s l[k] (List.getElem_mem hlt)
      have bA : Below w.heap.size w (wr.alloc (.cells #[.string ⟨l[k].1.toArray⟩, .string ⟨l[k].2.toArray⟩] 92)) := hW.alloc hW.size _
      go_wp2_with fail
      refine (xsmall_any l[k].1 _ (by omega)).mono ?_
      rintro e w1 ⟨rfl, b1⟩
      have d1 : w1.cell? ⟨wr.heap.size, 1, none⟩ = some (.string ⟨l[k].2.toArray⟩) := by rw [b1.cell (by simp)]; simp
      go_wp2_with fail
      refine (xsmall_any n _ hn).mono ?_
      rintro e w2 ⟨rfl, b2⟩
      have d2 : w2.cell? ⟨wr.heap.size, 1, none⟩ = some (.string ⟨l[k].2.toArray⟩) := by rw [b2.cell (block_lt_of_cell d1)]; exact d1
      cases hq : (Sm.small l[k].1 == Sm.small n) with
      | true =>
        have HF : Hid (r = some l[k].2) := by
          show r = _
          rw [HR.out]
          exact gets_some (i := k) (fi_some k hlt hq (fun j hj h => HP.out j hj h))
        go_wp2_with fail
        go_ret2
        exact ⟨by rw [HF.out]; rfl, onn (onn bA b1) b2⟩
      | false =>
        have HN : Hid (∀ j (hj : j < l.length), j < k + 1 → (Sm.small l[j].1 == Sm.small n) = false) := fun j hj h => by
          by_cases e : j = k
          · subst e; exact hq
          · exact HP.out j hj (by omega)
        go_wp2_with fail
        exact ⟨⟨k + 1, hlt, by go_num, onn (onn bA b1) b2, HN⟩, by simp [intOf]; omega⟩
    · go_wp2
      go_ret2
      exact ⟨by rw [HR.out, gets_none (fi_none (fun j hj => HP.out j hj (by omega)))]; rfl, hW⟩
theorem xgetq_any (v : Value) (l : List Sm.F) (n : List UInt8) (w : World) (h : Sl w v l) (hz : Nm l) (hn : n.length ≤ 1000000) :
    Calls Tryd.prog 32 #[v, .string ⟨n.toArray⟩] w fun e w' => e = .returned (getVal (Sm.gets l n)) ∧ Below w.heap.size w w' := by
  rcases h.is with ⟨rfl, A, c, rfl⟩ | ⟨b, o, c, rfl, _, hf⟩
  · exact (xget_nil A c n w).mono fun _ _ ⟨he, hw⟩ => ⟨he, by rw [hw]; exact Below.refl _ _⟩
  · exact xgetq_row b o c l n w hf hz hn

theorem split_own (v : List UInt8) (w : World) (hm : MaxL w) (hl : v.length ≤ 1500) :
    Calls Tryd.prog 72 #[.string ⟨v.toArray⟩, .string ⟨#[10]⟩] w fun e w' => e = .returned (.slice (some ⟨w.heap.size, 0, none⟩) (Sm.spl v).length (Sm.spl v).length) ∧ Below w.heap.size w w' ∧ w'.ownsRow w.heap.size 9 1 (.slice (some ⟨w.heap.size, 0, none⟩) (Sm.spl v).length (Sm.spl v).length) (Sm.spl v).length (strs (Sm.spl v)) := by
  obtain ⟨m, hm⟩ := hm.out
  refine (Tryd.strings_Split ⟨v.toArray⟩ ⟨#[10]⟩ m w (by simp [ByteArray.size]; omega) hm (by decide)).mono ?_
  rintro e w' ⟨rfl, rfl⟩
  rw [split_n, split_eq]
  have hsn := (Sm.spl_sum v).2
  refine ⟨rfl, (Below.refl _ _).alloc (Nat.le_refl _) _, by simp [strs], Or.inr ⟨w.heap.size, _, _, rfl, Nat.le_refl _, new_block0 _ _, Nat.le_refl _, ?_, by simp, ?_⟩⟩
  · unfold maxLen; omega
  · simp [strs]; rw [List.take_of_length_le (by simp)]; rfl
theorem infoStr : (Tryd.prog.info? 9).map (fun i => (i.zero, i.size, i.bytes)) = some (some (.string ⟨#[]⟩), 1, 16) := by kernel_rfl
end Go.Proofs.YtniknhfpbcbcbaaDoor
