/- A book: Tidy walked. -/
import Derived.Test.YteiobnkaadedkaaGreatDoorBr
namespace Go.Proofs.YteiobnkaadedkaaGreatDoor
open Go.RowKit Go.Sort Go.Maps

theorem clear_run {w : World} {m : Nat} {M : Bk} (h : Lm w m M) : ∃ w', (∀ ty, (Builtin.clear_ #[64] ty #[.map (some m)]).run Tryz.prog w = .ok (.tuple #[]) w') ∧ Lm w' m [] ∧ Kp (fun k => k = m) w w' := by
  obtain ⟨es, clock, hb, F, hs, hD⟩ := h
  have h1 : ∀ ty, (Builtin.clear_ #[64] ty #[.map (some m)]).run Tryz.prog w = .ok (.tuple #[]) { w with heap := w.heap.setIfInBounds m (.map #[] clock) } := fun ty => by
    simp [Builtin.clear_, run_underlying Tryz.underlying64, MapKept.run_getObj_map hb, MapKept.run_setObj_map _ hb, Result.andThen]
  have h2 := MapKept.heap_set (o' := .map #[] clock) hb
  refine ⟨_, h1, ⟨#[], clock, h2.1, ⟨by simp, MapKept.stamped_empty clock, by simp⟩, Nat.zero_le _, rfl⟩, ⟨rfl, rfl, rfl, by simp, fun k _ hx => h2.2 k hx⟩⟩
/-- The sheets, some of them empty. -/
def tN (N : Nat → Bk) (j : Nat) : Nat → Bk := fun i => if i < j then [] else N i
/-- The files, and what power is left, when some are gone. -/
def td (e : Bool) (L : Kv Ent) (c : Int) : Nat → Kv Ent × Int
  | 0 => (L, c)
  | j + 1 => (rL (td e L c j).1 e (td e L c j).2 (shF j), tc (td e L c j).1 e (td e L c j).2 (shF j))
theorem rL_srt {L : Kv Ent} (h : Srt L) (e : Bool) (c : Int) (k : List UInt8) : Srt (rL L e c k) := by unfold rL; split; exact h.del k; exact h
theorem rL_le {L : Kv Ent} (h : Srt L) (e : Bool) (c : Int) (k : List UInt8) : tot nl (rL L e c k) ≤ tot nl L ∧ (rL L e c k).length ≤ L.length := by
  unfold rL
  split
  · have := tot_del nl k h
    exact ⟨by omega, len_del k⟩
  · exact ⟨Nat.le_refl _, Nat.le_refl _⟩
theorem tc_le {L : Kv Ent} {e : Bool} {c : Int} {k : List UInt8} (h : c ≤ 9223372036854775807) : tc L e c k ≤ 9223372036854775807 := by
  unfold tc chg; repeat' split
  all_goals omega
theorem td_all {L : Kv Ent} (h : Srt L) (e : Bool) {c : Int} (hc : c ≤ 9223372036854775807) : ∀ j, Srt (td e L c j).1 ∧ tot nl (td e L c j).1 ≤ tot nl L ∧ (td e L c j).1.length ≤ L.length ∧ (td e L c j).2 ≤ 9223372036854775807
  | 0 => ⟨h, Nat.le_refl _, Nat.le_refl _, hc⟩
  | j + 1 => by
    obtain ⟨h1, h2, h3, h4⟩ := td_all h e hc j
    have h5 := rL_le h1 e (td e L c j).2 (shF j)
    exact ⟨rL_srt h1 _ _ _, Nat.le_trans h5.1 h2, Nat.le_trans h5.2 h3, tc_le h4⟩
section
variable {w w' W : World} {b d pm a : Nat} {ns : Nat → Nat} {dn : Bool} {P A : Bk} {N : Nat → Bk} {mb mb' : Option Nat} {L : Kv Ent} {e : Bool} {c : Int}
/-- Another page. -/
theorem BJ.setp (h : BJ w b d pm ns dn P N mb L e c) (hm : Lm w a A) (h1 : ¬ BX b pm ns a) (h2 : ¬ DX d mb a) : BJ (w.setCell ⟨b, 1, none⟩ (.map (some a))) b d a ns dn A N mb L e c := by
  have keep : ∀ {j : Nat} {M : Bk}, Lm w j M → Lm (w.setCell ⟨b, 1, none⟩ (.map (some a))) j M := fun {j M} hl => lm_on hl (Below.heap_setCell _ _ _ _ (lm_ne_b hl h.bk.blk))
  refine ⟨⟨set_p h.bk.blk _, keep hm, fun j hj => keep (h.bk.ln j hj), h.bk.ne, fun j hj e1 => h1 (.inr (.inr ⟨j, hj, e1.symm⟩))⟩, h.pd.on fun k hk hx => Below.heap_setCell _ _ _ _ (fun e1 => h.sp b (.inl rfl) (by have e1 : k = b := e1; exact e1 ▸ hx)), fun k hk => ?_⟩
  rcases hk with hk | hk | hk
  · exact h.sp k (.inl hk)
  · rw [hk]; exact h2
  · exact h.sp k (.inr (.inr hk))
/-- A sheet that is emptied. -/
theorem BJ.clr (h : BJ w b d pm ns dn P N mb L e c) {i : Nat} (hi : i < 37) (hm : Lm w' (ns i) []) (hk : Kp (fun k => k = ns i) w w') : BJ w' b d pm ns dn P (upd N i []) mb L e c := by
  have hnb := lm_ne_b (h.bk.ln i hi) h.bk.blk
  refine ⟨⟨(hk.block b (Array.getElem?_eq_some_iff.1 h.bk.blk).1 (fun e1 => hnb e1.symm)).trans h.bk.blk, lm_on h.bk.lp (hk.block _ h.bk.lp.lt (fun e1 => h.bk.np i hi e1.symm)), fun j hj => ?_, h.bk.ne, h.bk.np⟩, h.pd.on fun k hk' hx => hk.block k hk' (fun e1 => h.sp (ns i) (.inr (.inr ⟨i, hi, rfl⟩)) (e1 ▸ hx)), h.sp⟩
  by_cases e1 : j = i
  · subst e1; rw [upd_same]; exact hm
  · rw [upd_other _ _ e1]; exact lm_on (h.bk.ln j hj) (hk.block _ (h.bk.ln j hj).lt (h.bk.ne j i hj hi e1))
theorem upd_tN (N : Nat → Bk) (j : Nat) : upd (tN N j) j [] = tN N (j + 1) := by
  funext i
  unfold upd tN
  by_cases e1 : i = j
  · rw [if_pos e1, if_pos (by omega)]
  · rw [if_neg e1]
    by_cases e2 : i < j
    · rw [if_pos e2, if_pos (by omega)]
    · rw [if_neg e2, if_neg (by omega)]
/-- Tidy under way. -/
structure TJ (w : World) (b d pm a : Nat) (ns : Nat → Nat) (dn : Bool) (A : Bk) (N : Nat → Bk) (mb : Option Nat) (L : Kv Ent) (e : Bool) (c : Int) (W : World) : Prop where
  is : ∃ mb', BJ W b d a ns dn A N mb' L e c ∧ Fr w mb mb'
  kp : Kp (fun k => BX b pm ns k ∨ DX d mb k) w W
  ha : w.heap.size ≤ a
theorem TJ.sx (h : TJ w b d pm a ns dn A N mb L e c W) : Sx w b d pm ns dn A N mb L e c W := by
  obtain ⟨⟨mb', h1, h2⟩, h3, h4⟩ := h
  refine ⟨⟨a, ns, mb', h1, h2, fun k hk => ?_⟩, h3⟩
  rcases hk with hk | hk | hk
  · exact .inl (.inl hk)
  · rw [hk]; exact .inr h4
  · exact .inl (.inr (.inr hk))
theorem fr_dx (h : Fr w mb mb') {k : Nat} (hk : k < w.heap.size) (hx : DX d mb' k) : DX d mb k := by
  rcases hx with hx | hx
  · exact .inl hx
  · rcases h k hx with h4 | h4
    · exact .inr h4
    · omega
end
end Go.Proofs.YteiobnkaadedkaaGreatDoor
