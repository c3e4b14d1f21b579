/- The walk of endStanza. -/
import Derived.Test.YtfoangkkagijcaaGreatDoorQb
import Derived.Deep.AppendLies
import Derived.Deep.RegionLaw
namespace Go.Proofs.YtfoangkkagijcaaGreatDoor.Stz
open Go.RowKit Go.Shelf Go.Sort

theorem infoS : (Tryz.prog.info? 31).map (fun i => (i.zero, i.size, i.bytes)) = some (some (.slice none 0 0), 1, 24) := by kernel_rfl
theorem infoF : (Tryz.prog.info? 52).map (fun i => (i.zero, i.size, i.bytes)) = some (some (.agg #[.string ⟨#[]⟩, .string ⟨#[]⟩]), 2, 32) := by kernel_rfl

section
variable {B C r : Nat} {S A V : Value} {out : List (List Sm.F)} {vs : List Value} {cur : List Sm.F} {val : List UInt8} {w0 W : World}
/-- The fields' slice, let go: a stanza that has none. -/
theorem Rd.letgo (h : Rd B C r S A V out vs cur val w0 W) : Rd B W.heap.size r S (.slice none 0 0) V out vs [] val w0 (W.setCell ⟨r, 1, none⟩ (.slice none 0 0)) := by
  have kp : ∀ {b e sz n : Nat} {v : Value} {xs : List Value}, e ≠ 170 → W.ownsRow b e sz v n xs → (W.setCell ⟨r, 1, none⟩ (.slice none 0 0)).ownsRow b e sz v n xs := fun he h1 => ownsRow_setCell_other h1 (row_ne h1 h.bx (Ne.symm he)) _
  exact ⟨by simp [World.setCell, Array.getElem?_modify, h.bx], h.rB, kp (by decide) h.hV, World.ownsRow_nil _ _ _ _, kp (by decide) h.hS, Nat.le_trans h.CB h.Cs, by simp [World.setCell], h.be.setCell h.rB _, h.ol, fun i hi hj => ⟨kp (by decide) (h.ov i hi hj).1, fun g e => Nat.lt_of_lt_of_le ((h.ov i hi hj).2 g e) h.Cs⟩⟩

/-- The fields handed over, and let go. -/
theorem Rd.hand (h : Rd B C r S A V out vs cur val w0 W) {W' : World} {S' : Value} (hg : W.grownBy W' S.ownBlock) (hS' : W'.ownsRow B 31 1 S' (vs.length + 1) (vs ++ [A])) :
    Rd B (W'.setCell ⟨r, 0, none⟩ S').heap.size r S' (.slice none 0 0) V (out ++ [cur]) (vs ++ [A]) [] val w0 ((W'.setCell ⟨r, 0, none⟩ S').setCell ⟨r, 1, none⟩ (.slice none 0 0)) := by
  have bx : W'.heap[r]? = some (.cells #[S, A, V] 170 (0, 0)) := by
    rw [hg.block r h.lt (fun e => row_ne h.hS h.bx (by decide) e.symm)]; exact h.bx
  have bx2 : (W'.setCell ⟨r, 0, none⟩ S').heap[r]? = some (.cells #[S', A, V] 170 (0, 0)) := by simp [World.setCell, Array.getElem?_modify, bx]
  have kp : ∀ {b e sz n : Nat} {v : Value} {xs : List Value}, e ≠ 170 → W'.ownsRow b e sz v n xs → ((W'.setCell ⟨r, 0, none⟩ S').setCell ⟨r, 1, none⟩ (.slice none 0 0)).ownsRow b e sz v n xs := fun he h1 =>
    ownsRow_setCell_other (ownsRow_setCell_other h1 (row_ne h1 bx (Ne.symm he)) _) (row_ne h1 bx (Ne.symm he)) _
  have hA := h.hA.kept hg (rows_ne h.hA h.hS (by decide))
  have hsz : (W'.setCell ⟨r, 0, none⟩ S').heap.size = W'.heap.size := by simp [World.setCell]
  refine ⟨by simp [World.setCell, Array.getElem?_modify, bx], h.rB, kp (by decide) (h.hV.kept hg (rows_ne h.hV h.hS (by decide))), World.ownsRow_nil _ _ _ _, by simpa using kp (by decide) hS', ?_, by simp [World.setCell], ?_, by simp [h.ol], ?_⟩
  · rw [hsz]; exact Nat.le_trans (Nat.le_trans h.CB h.Cs) hg.size
  · exact ((h.be.grown hg (Nat.le_trans h.CB h.Cs) (fun k e => (h.hS.lt k e).1)).setCell h.rB _).setCell h.rB _
  · intro i hi hj
    rw [hsz]
    by_cases hil : i < vs.length
    · have hol := h.ol
      rw [List.getElem_append_left hil, List.getElem_append_left (by omega)]
      have := h.ov i hil (by omega)
      exact ⟨kp (by decide) (this.1.kept hg (rows_ne this.1 h.hS (by decide))), fun g e => Nat.lt_of_lt_of_le (Nat.lt_of_lt_of_le (this.2 g e) h.Cs) hg.size⟩
    · have hol := h.ol
      have hie : i = vs.length := by simp at hi; omega
      subst hie
      rw [List.getElem_append_right (Nat.le_refl _), List.getElem_append_right (by omega)]
      simp only [Nat.sub_self, hol, List.getElem_cons_zero]
      exact ⟨kp (by decide) (Go.Joins.ownsRow_le hA h.CB), fun g e => (hA.lt g e).2⟩
end

theorem new_block (w : World) (o : Obj) : (w.alloc o).drew.heap[w.heap.size]? = some o := by
  show (w.heap.push o)[w.heap.size]? = some o
  simp
theorem Rd.handC {B C r : Nat} {S A V : Value} {out : List (List Sm.F)} {vs : List Value} {cur : List Sm.F} {val : List UInt8} {w0 W : World} (h : Rd B C r S A V out vs cur val w0 W) {W' : World} (hg : W.grownBy W' S.ownBlock) :
    W'.cell? ⟨r, 0, none⟩ = some S ∧ W'.frozen? ⟨r, 0, none⟩ = false ∧ W'.cell? ⟨r, 1, none⟩ = some A ∧ W'.frozen? ⟨r, 1, none⟩ = false := by
  have bx : W'.heap[r]? = some (.cells #[S, A, V] 170 (0, 0)) := by
    rw [hg.block r h.lt (fun e => row_ne h.hS h.bx (by decide) e.symm)]; exact h.bx
  exact ⟨by rw [Lib.cell_of_heap bx]; rfl, Lib.frozen_of_heap bx 0, by rw [Lib.cell_of_heap bx]; rfl, Lib.frozen_of_heap bx 1⟩

/-- A stanza's end, among the stanzas. -/
def endO (out : List (List Sm.F)) (cur : List Sm.F) : List (List Sm.F) := if cur = [] then out else out ++ [cur]

set_option maxHeartbeats 3200000 in
set_option maxRecDepth 100000 in
theorem endS_any {B C r : Nat} {S A V : Value} {out : List (List Sm.F)} {vs : List Value} {cur : List Sm.F} {val : List UInt8} {w0 W : World} (h : Rd B C r S A V out vs cur val w0 W) (hp : cur.length ≤ 100) (hv : val.length ≤ 1000000) (ho : out.length ≤ 1000000) :
    Calls Tryz.prog 147 #[.pointer (some ⟨r, 0, none⟩)] W fun e w' => e = .returned (.tuple #[]) ∧ ∃ C' S' V' vs', Rd B C' r S' (.slice none 0 0) V' (endO out (setL cur val)) vs' [] [] w0 w' := by
  have HR := Lib.hid h
  clear h
  obtain ⟨cu, hcu0⟩ : ∃ cu, cu = setL cur val := ⟨_, rfl⟩
  rw [← hcu0]
  have HCU := Lib.hid hcu0
  clear hcu0
  obtain ⟨i0, hi, hz0, hz1, hz2⟩ := info_parts infoS
  go_enter Tryz.func147, Tryz.ntmps147
  go_wp2_with fail
  refine (endF_any HR.out hp hv).mono ?_
  rintro e w1 ⟨rfl, V1, R1⟩
  have c1 := R1.c1
  have c0 := R1.c0
  have f0 := R1.fz 0
  have f1 := R1.fz 1
  rw [← HCU.out] at R1
  clear HCU
  obtain ⟨X, cA, rfl⟩ := isSlice R1.hA
  by_cases hcn : cu = []
  · subst hcn
    have HN := Lib.hid R1.letgo
    simp only [List.length_nil] at c1
    clear R1 HR
    go_wp2_with fail
    go_end0
    exact ⟨rfl, _, _, _, _, HN.out⟩
  · have hen : endO out cu = out ++ [cu] := by unfold endO; rw [if_neg hcn]
    have HEN := Lib.hid hen
    have hcl : 0 < cu.length := List.length_pos_iff.2 hcn
    clear hen hcn
    have RA := R1.on ((Below.refl _ _).alloc (Nat.le_refl _) (.cells #[.slice X cu.length cA] 31))
    have R2 := RA.drew
    have ra0 := RA.c0
    have ra1 := RA.c1
    have raf0 := RA.fz 0
    have raf1 := RA.fz 1
    have hol := R1.ol
    have hB : B ≤ w1.heap.size := Nat.le_trans R1.CB R1.Cs
    have H2 := Lib.hid R2
    have h0 := R2.c0
    have h1' := R2.c1
    have f0' := R2.fz 0
    have f1' := R2.fz 1
    clear R1 R2 RA HR
    go_wp2_with fail
    have hnb := World.news_of_block (new_block w1 (.cells #[.slice X cu.length cA] 31))
    have HNB := Lib.hid hnb
    clear hnb
    go_region_law (refine step_append_lies _ rfl _ _ 111 rfl B 31 i0 (.slice none 0 0) 1 24 Tryz.underlying111 hi hz0 hz1 hz2 rfl (by decide) _ _ _ rfl H2.out.hS ⟨w1.heap.size, 0, none⟩ 1 1 [.slice X cu.length cA] rfl rfl HNB.out (by intro u hu; simp at hu; subst hu; rfl) (by decide) (by unfold maxLen; omega) (by omega) (by simp; omega) _ rfl ?_; intro g cp w2 hown hgrow _ _; obtain ⟨q0, qf0, q1, qf1⟩ := H2.out.handC hgrow)
    all_goals have HH := Lib.hid (H2.out.hand (S' := .slice (some ⟨g, 0, none⟩) (out.length + 1) cp) hgrow (by simpa [hol] using hown))
    all_goals clear hown hgrow
    all_goals go_wp2_with fail
    all_goals go_end0
    all_goals exact ⟨rfl, by rw [HEN.out]; exact ⟨_, _, _, _, HH.out⟩⟩
end Go.Proofs.YtfoangkkagijcaaGreatDoor.Stz
