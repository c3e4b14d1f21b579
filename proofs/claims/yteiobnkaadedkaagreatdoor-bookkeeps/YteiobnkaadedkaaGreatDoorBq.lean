/- A book: Set walked. -/
import Derived.Test.YteiobnkaadedkaaGreatDoorBo
import Derived.Test.YteiobnkaadedkaaGreatDoorBp
namespace Go.Proofs.YteiobnkaadedkaaGreatDoor
open Go.RowKit Go.Sort Go.Maps

/-- What Set, or Tidy, has left. -/
structure Sx (w : World) (b d pm : Nat) (ns : Nat → Nat) (dn : Bool) (P : Bk) (N : Nat → Bk) (mb : Option Nat) (L : Kv Ent) (e : Bool) (c : Int) (w' : World) : Prop where
  is : ∃ pm' ns' mb', BJ w' b d pm' ns' dn P N mb' L e c ∧ Fr w mb mb' ∧ ∀ k, BX b pm' ns' k → BX b pm ns k ∨ w.heap.size ≤ k
  kp : Kp (fun k => BX b pm ns k ∨ DX d mb k) w w'
section
variable {w w' : World} {b d pm : Nat} {ns : Nat → Nat} {dn dn' : Bool} {P : Bk} {N : Nat → Bk} {mb : Option Nat} {L : Kv Ent} {e : Bool} {c : Int}
theorem kp_bd {X : Nat → Prop} (h : Kp (BD b d mb) w w') (hX : ∀ k, BD b d mb k → X k) : Kp X w w' := h.mono hX
theorem bd_bx (k : Nat) (h : BD b d mb k) : BX b pm ns k ∨ DX d mb k := by
  rcases h with h | h
  · exact .inl (.inl h)
  · exact .inr h
theorem Sx.same (h : BJ w' b d pm ns dn P N mb L e c) (hk : Below w.heap.size w w') : Sx w b d pm ns dn P N mb L e c w' := ⟨⟨pm, ns, mb, h, Fr.refl _ _, fun _ hx => .inl hx⟩, Kp.of hk⟩
theorem Sx.kx (h : Kx w b d pm ns dn P N mb L e c w') : Sx w b d pm ns dn P N mb L e c w' := by
  obtain ⟨⟨mb', h1, h2⟩, h3⟩ := h
  exact ⟨⟨pm, ns, mb', h1, h2, fun _ hx => .inl hx⟩, h3.mono bd_bx⟩
theorem Sx.below {w1 : World} (hk : Below w.heap.size w w1) (h : Sx w1 b d pm ns dn P N mb L e c w') : Sx w b d pm ns dn P N mb L e c w' := by
  obtain ⟨⟨pm', ns', mb', h1, h2, h3⟩, h4⟩ := h
  refine ⟨⟨pm', ns', mb', h1, fun m hm => ?_, fun k hx => ?_⟩, (Kp.of hk).t h4⟩
  · rcases h2 m hm with h5 | h5
    · exact .inl h5
    · exact .inr (Nat.le_trans hk.size h5)
  · rcases h3 k hx with h5 | h5
    · exact .inl h5
    · exact .inr (Nat.le_trans hk.size h5)
/-- Another sheet. -/
theorem BJ.setn (h : BJ w b d pm ns dn P N mb L e c) {i m : Nat} {M : Bk} (hi : i < 37) (hm : Lm w m M) (h1 : ¬ BX b pm ns m) (h2 : ¬ DX d mb m) : BJ (w.setCell ⟨b, 2 + i, none⟩ (.map (some m))) b d pm (updM ns i m) dn P (upd N i M) mb L e c := by
  have keep : ∀ {j : Nat} {M : Bk}, Lm w j M → Lm (w.setCell ⟨b, 2 + i, none⟩ (.map (some m))) j M := fun {j M} hl => lm_on hl (Below.heap_setCell _ _ _ _ (lm_ne_b hl h.bk.blk))
  refine ⟨⟨?_, keep h.bk.lp, fun j hj => ?_, fun j k hj hk hne => ?_, fun j hj => ?_⟩, h.pd.on fun k hk hx => Below.heap_setCell _ _ _ _ (fun e1 => h.sp b (.inl rfl) (by have e1 : k = b := e1; exact e1 ▸ hx)), fun k hk => ?_⟩
  · rw [set_n h.bk.blk hi]
    refine congrArg some (bko_congr fun j hj => ?_)
    unfold updO updM
    split <;> rfl
  · by_cases e1 : j = i
    · subst e1; rw [updM_same, upd_same]; exact keep hm
    · rw [updM_other _ _ e1, upd_other _ _ e1]; exact keep (h.bk.ln j hj)
  · by_cases e1 : j = i
    · subst e1
      rw [updM_same, updM_other _ _ (fun e2 => hne e2.symm)]
      exact fun e2 => h1 (.inr (.inr ⟨k, hk, e2⟩))
    · rw [updM_other _ _ e1]
      by_cases e2 : k = i
      · subst e2; rw [updM_same]; exact fun e3 => h1 (.inr (.inr ⟨j, hj, e3.symm⟩))
      · rw [updM_other _ _ e2]; exact h.bk.ne j k hj hk hne
  · by_cases e1 : j = i
    · subst e1; rw [updM_same]; exact fun e2 => h1 (.inr (.inl e2))
    · rw [updM_other _ _ e1]; exact h.bk.np j hj
  · rcases hk with hk | hk | ⟨j, hj, hk⟩
    · exact h.sp k (.inl hk)
    · exact h.sp k (.inr (.inl hk))
    · by_cases e1 : j = i
      · subst e1; rw [updM_same] at hk; rw [hk]; exact h2
      · rw [updM_other _ _ e1] at hk; exact h.sp k (.inr (.inr ⟨j, hj, hk⟩))
/-- A new sheet that is kept comes in its place. -/
theorem Sx.sheet {w1 : World} (h : Kx w1 b d pm ns dn P N mb L e c w') {i m : Nat} {M : Bk} (hi : i < 37) (hb : Below w.heap.size w w1) (hm : Lm w1 m M) (hmn : w.heap.size ≤ m) (hB : BK w b d pm ns dn' P N) (hD : ∀ x, mb = some x → x < w.heap.size) (hd : d < w.heap.size) :
    Sx w b d pm ns dn P (upd N i M) mb L e c (w'.setCell ⟨b, 2 + i, none⟩ (.map (some m))) := by
  obtain ⟨⟨mb', h1, h2⟩, h3⟩ := h
  have hml := hm.lt
  have hbx := bx_lt hB
  have hnX : ¬ BX b pm ns m := fun hx => by have := hbx m hx; omega
  have hnD : ¬ DX d mb m := fun hx => by
    rcases hx with hx | hx
    · omega
    · have := hD m hx; omega
  have hnB : ¬ BD b d mb m := fun hx => by
    rcases hx with hx | hx
    · exact hnX (.inl hx)
    · exact hnD hx
  have hm' : Lm w' m M := lm_on hm (h3.block m hml hnB)
  have hnD' : ¬ DX d mb' m := fun hx => by
    rcases hx with hx | hx
    · exact hnD (.inl hx)
    · rcases h2 m hx with h4 | h4
      · exact hnD (.inr h4)
      · omega
  refine ⟨⟨pm, updM ns i m, mb', h1.setn hi hm' hnX hnD', fun x hx => ?_, fun k hk => ?_⟩, ?_⟩
  · rcases h2 x hx with h4 | h4
    · exact .inl h4
    · exact .inr (Nat.le_trans hb.size h4)
  · rcases hk with hk | hk | ⟨j, hj, hk⟩
    · exact .inl (.inl hk)
    · exact .inl (.inr (.inl hk))
    · by_cases e1 : j = i
      · subst e1; rw [updM_same] at hk; rw [hk]; exact .inr hmn
      · rw [updM_other _ _ e1] at hk; exact .inl (.inr (.inr ⟨j, hj, hk⟩))
  · exact ((Kp.of hb).t (h3.mono bd_bx)).set (p := ⟨b, 2 + i, none⟩) (.inl (.inl rfl)) _
end
end Go.Proofs.YteiobnkaadedkaaGreatDoor
