/- find over fields whose values may be long; the walk of begin. -/
import Derived.Test.YtfoangkkagijcaaGreatDoorQc
namespace Go.Proofs.YtfoangkkagijcaaGreatDoor.Stz
open Go.RowKit Go.Shelf Go.Sort

/-- Names short enough. -/
structure Nm (l : List Sm.F) : Prop where
  n : l.length ≤ 60
  s : ∀ f ∈ l, f.1.length ≤ 100

set_option maxHeartbeats 1600000 in
set_option maxRecDepth 100000 in
theorem idxq_any (b o c : Nat) (l : List Sm.F) (s : List UInt8) (p : Nat) (w : World) (h : Fl w b o l) (hz : Nm l) (hp : w.cell? ⟨p, 0, none⟩ = some (.string ⟨s.toArray⟩)) :
    Calls Tryz.prog 178 #[.slice (some ⟨b, o, none⟩) l.length c, .func (Fn.func 179) #[] #[.pointer (some ⟨p, 0, none⟩)]] w fun e w' => e = .returned (.int .i64 (ix (l.findIdx? fun f => Sm.small f.1 == s))) ∧ Below w.heap.size w w' := by
  obtain ⟨r, hr⟩ : ∃ r, r = ix (l.findIdx? fun f => Sm.small f.1 == s) := ⟨_, rfl⟩
  have HR := Lib.hid hr
  rw [← hr]
  clear hr
  have hn := hz.n
  have HZ := Lib.hid hz
  clear hz
  go_enter Tryz.func178, Tryz.ntmps178
  go_wp2
  go_loopw [8] (fun i W => ∃ k : Nat, k ≤ l.length ∧ i = .int .i64 k ∧ Below w.heap.size w W ∧ Hid (∀ j (hj : j < l.length), j < k → (Sm.small l[j].1 == s) = false)) (fun i _ => l.length - (intOf i).toNat)
  case atStart => exact ⟨0, Nat.zero_le _, rfl, Below.refl _ _, fun j _ h => absurd h (Nat.not_lt_zero _)⟩
  case round =>
    obtain ⟨k, hk, rfl, hW, HP⟩ := hrel
    by_cases hlt : k < l.length
    · have hF := h.on hW
      have c0 := hF.c0 k hlt
      have c1 := hF.c1 k hlt
      have hpk := hp
      rw [← hW.cell (block_lt_of_cell hp)] at hpk
      have hfs := HZ.out.s l[k] (List.getElem_mem hlt)
      have cC := clos_any l[k] s p wr hpk (by omega)
      cases hq : (Sm.small l[k].1 == s) with
      | true =>
        rw [hq] at cC
        have HF : Hid (r = k) := by show r = _; rw [HR.out, fi_some k hlt hq (fun j hj h => HP.out j hj h)]; rfl
        go_wp2_with fail
        refine cC.mono ?_
        rintro e w1 ⟨rfl, b1⟩
        go_wp2_with fail
        go_ret
        exact ⟨ret_int HF.out.symm, onn hW b1⟩
      | false =>
        rw [hq] at cC
        have HN : Hid (∀ j (hj : j < l.length), j < k + 1 → (Sm.small l[j].1 == s) = false) := fun j hj h => by
          by_cases e : j = k
          · subst e; exact hq
          · exact HP.out j hj (by omega)
        go_wp2_with fail
        refine cC.mono ?_
        rintro e w1 ⟨rfl, b1⟩
        go_wp2_with fail
        exact ⟨⟨k + 1, hlt, by go_num, onn hW b1, HN⟩, by simp [intOf]; omega⟩
    · go_wp2
      go_ret
      exact ⟨ret_int (by rw [HR.out, fi_none (fun j hj => HP.out j hj (by omega))]; rfl), hW⟩

theorem idxq_sl (v : Value) (l : List Sm.F) (s : List UInt8) (p : Nat) (w : World) (h : Sl w v l) (hz : Nm l) (hp : w.cell? ⟨p, 0, none⟩ = some (.string ⟨s.toArray⟩)) :
    Calls Tryz.prog 178 #[v, .func (Fn.func 179) #[] #[.pointer (some ⟨p, 0, none⟩)]] w fun e w' => e = .returned (.int .i64 (ix (l.findIdx? fun f => Sm.small f.1 == s))) ∧ Below w.heap.size w w' := by
  rcases h.is with ⟨rfl, A, c, rfl⟩ | ⟨b, o, c, rfl, _, hf⟩
  · exact (idxf_nil A c p w).mono fun _ _ ⟨he, hw⟩ => ⟨he, by rw [hw]; exact Below.refl _ _⟩
  · exact idxq_any b o c l s p w hf hz hp

set_option maxHeartbeats 1600000 in
set_option maxRecDepth 100000 in
theorem finq_any (v : Value) (l : List Sm.F) (n : List UInt8) (w : World) (h : Sl w v l) (hz : Nm l) (hn : n.length ≤ 1000000) :
    Calls Tryz.prog 138 #[v, .string ⟨n.toArray⟩] w fun e w' => e = .returned (.int .i64 (ix (Sm.fnd l n))) ∧ Below w.heap.size w w' := by
  have HZ := Lib.hid hz
  have HS := Lib.hid h
  clear hz h
  go_enter Tryz.func138, Tryz.ntmps138
  go_wp2_with fail
  refine (small_any n _ hn).mono ?_
  rintro e w1 ⟨rfl, b1⟩
  have b2 : Below w1.heap.size w1 (w1.alloc (.cells #[.string ⟨(Sm.small n).toArray⟩] 9)) := (Below.refl _ _).alloc (Nat.le_refl _) _
  have hc : (w1.alloc (.cells #[.string ⟨(Sm.small n).toArray⟩] 9)).cell? ⟨w1.heap.size, 0, none⟩ = some (.string ⟨(Sm.small n).toArray⟩) := by simp
  go_wp2_with fail
  refine (idxq_sl v l (Sm.small n) w1.heap.size _ (HS.out.on (onn b1 b2)) HZ.out hc).mono ?_
  rintro e w3 ⟨rfl, b3⟩
  go_wp2
  go_ret
  exact ⟨rfl, onn (onn b1 b2) b3⟩


theorem fcl_get (l : List Sm.F) : ∀ i (hi : i < l.length), (fcl l)[i * 2]? = some (.string ⟨l[i].1.toArray⟩) ∧ (fcl l)[i * 2 + 1]? = some (.string ⟨l[i].2.toArray⟩) := by
  induction l with
  | nil => intro i hi; simp at hi
  | cons f l ih =>
    intro i hi
    cases i with
    | zero => exact ⟨rfl, rfl⟩
    | succ i =>
      have := ih i (by simpa using hi)
      have e : fcl (f :: l) = [.string ⟨f.1.toArray⟩, .string ⟨f.2.toArray⟩] ++ fcl l := rfl
      rw [e]
      constructor
      · rw [List.getElem?_append_right (by simp; omega), show (i + 1) * 2 - [Value.string ⟨f.1.toArray⟩, .string ⟨f.2.toArray⟩].length = i * 2 from by simp; omega]; exact this.1
      · rw [List.getElem?_append_right (by simp; omega), show (i + 1) * 2 + 1 - [Value.string ⟨f.1.toArray⟩, .string ⟨f.2.toArray⟩].length = i * 2 + 1 from by simp; omega]; exact this.2
/-- Fields that are owned, as a list that is handed in. -/
theorem sl_owned {W : World} {C : Nat} {A : Value} {l : List Sm.F} (h : W.ownsRow C 52 2 A l.length (fcl l)) : Sl W A l := by
  rcases h.2 with ⟨rfl, h0⟩ | ⟨g, cap, c, rfl, h1, h2, h3, h4, h5, h6⟩
  · exact ⟨Or.inl ⟨List.length_eq_zero_iff.1 h0, _, _, rfl⟩⟩
  · exact ⟨Or.inr ⟨g, 0, cap, rfl, h3, (h.lt g rfl).2, fun i hi => by rw [Nat.zero_add, h.cellAt _ (by omega)]; exact (fcl_get l i hi).1, fun i hi => by rw [Nat.zero_add, h.cellAt _ (by omega)]; exact (fcl_get l i hi).2⟩⟩

section
variable {B C r : Nat} {S A V : Value} {out : List (List Sm.F)} {vs : List Value} {cur : List Sm.F} {val : List UInt8} {w0 W : World}
theorem Rd.bxA (h : Rd B C r S A V out vs cur val w0 W) {W' : World} (hg : W.grownBy W' A.ownBlock) : W'.heap[r]? = some (.cells #[S, A, V] 170 (0, 0)) := by
  rw [hg.block r h.lt (fun e => row_ne h.hA h.bx (by decide) e.symm)]; exact h.bx
theorem Rd.appAC (h : Rd B C r S A V out vs cur val w0 W) {W' : World} (hg : W.grownBy W' A.ownBlock) : W'.cell? ⟨r, 1, none⟩ = some A ∧ W'.frozen? ⟨r, 1, none⟩ = false :=
  ⟨by rw [Lib.cell_of_heap (h.bxA hg)]; rfl, Lib.frozen_of_heap (h.bxA hg) 1⟩
/-- Behind an append to the fields, their slice stored. -/
theorem Rd.appA (h : Rd B C r S A V out vs cur val w0 W) {W' : World} {A' : Value} {f : Sm.F} (hg : W.grownBy W' A.ownBlock) (hA' : W'.ownsRow C 52 2 A' (cur.length + 1) (fcl cur ++ [.string ⟨f.1.toArray⟩, .string ⟨f.2.toArray⟩])) :
    Rd B C r S A' V out vs (cur ++ [f]) val w0 (W'.setCell ⟨r, 1, none⟩ A') := by
  have bx := h.bxA hg
  have kp : ∀ {b e sz n : Nat} {v : Value} {xs : List Value}, e ≠ 170 → W'.ownsRow b e sz v n xs → (W'.setCell ⟨r, 1, none⟩ A').ownsRow b e sz v n xs := fun he h1 => ownsRow_setCell_other h1 (row_ne h1 bx (Ne.symm he)) _
  have ek : fcl cur ++ [.string ⟨f.1.toArray⟩, .string ⟨f.2.toArray⟩] = fcl (cur ++ [f]) := by rw [fcl_app]; rfl
  rw [ek] at hA'
  refine ⟨by simp [World.setCell, Array.getElem?_modify, bx], h.rB, kp (by decide) (h.hV.kept hg (rows_ne h.hV h.hA (by decide))), by simpa using kp (by decide) hA', kp (by decide) (h.hS.kept hg (rows_ne h.hS h.hA (by decide))), h.CB, by simpa [World.setCell] using Nat.le_trans h.Cs hg.size, (h.be.grown hg (Nat.le_trans h.CB h.Cs) (fun k e => Nat.le_trans h.CB (h.hA.lt k e).1)).setCell h.rB _, h.ol, fun i hi hj => ⟨kp (by decide) ((h.ov i hi hj).1.kept hg ?_), (h.ov i hi hj).2⟩⟩
  cases hv : vs[i].ownBlock with
  | none => exact Or.inl rfl
  | some g =>
    right
    intro e
    have h1 := (h.ov i hi hj).2 g hv
    have h2 := (h.hA.lt g e.symm).1
    omega
end
end Go.Proofs.YtfoangkkagijcaaGreatDoor.Stz
