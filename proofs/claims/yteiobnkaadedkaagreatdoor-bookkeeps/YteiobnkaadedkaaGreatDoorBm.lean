/- A book: Names, keep walked. -/
import Derived.Test.YteiobnkaadedkaaGreatDoorBl
namespace Go.Proofs.YteiobnkaadedkaaGreatDoor
open Go.RowKit Go.Sort Go.Maps

set_option maxRecDepth 100000 in
theorem bnames_any (b d pm : Nat) (ns : Nat → Nat) (dn : Bool) (A P : Bk) (N : Nat → Bk) (w : World) (h : BK w b d pm ns dn P N) (hG : Gp P N) (hA : Srt A) (hl : A.length ≤ 1000) (ho : ∀ x, lkL x A = ov P N x) (hat : ∀ i, i < 37 → ∀ x t, lkL x (N i) = some t → shf x = i) :
    Calls Tryz.prog 16 #[.pointer (some ⟨b, 0, none⟩)] w fun x w' => ∃ v, x = .returned v ∧ Txo w' v (A.map (·.1)) ∧ Below w.heap.size w w' := by
  have cA := all_any b d pm ns dn A P N w h hG hA ho hat
  have HA := Lib.hid hA
  clear h hG ho hat hA
  go_enter Tryz.func16, Tryz.ntmps16
  go_wp2_with fail
  refine cA.mono ?_
  rintro x w1 ⟨rfl, hm, b1⟩
  have cK := keys_any w.heap.size A w1 hm HA.out (by omega)
  clear cA
  go_wp2_with fail
  refine cK.mono ?_
  rintro x w2 ⟨rfl, cS⟩
  clear cK
  go_wp2_with fail
  refine cS.mono ?_
  rintro x w3 ⟨v, rfl, hT, b3⟩
  obtain ⟨B, c, rfl⟩ := txo_sl hT
  rw [List.length_map] at hT
  clear cS
  go_wp2
  go_ret
  exact ⟨_, rfl, hT, b1.trans (b3.mono b1.size)⟩
/-- What keep leaves of files, and tells. -/
def k1L (L : Kv Ent) (s : List UInt8) : Kv Ent := putL frF ⟨s, (ent frF L).sf⟩ L
def k2L (L : Kv Ent) (s : List UInt8) : Kv Ent := putL frF ⟨s, some s⟩ (k1L L s)
def k3L (L : Kv Ent) (f s : List UInt8) : Kv Ent := putL f ⟨s, some s⟩ (delL frF (k2L L s))
def pw3 (e : Bool) (c : Int) : Bool := pwr e c && pwr e (chg e c) && pwr e (chg e (chg e c))
def ch3 (e : Bool) (c : Int) : Int := chg e (chg e (chg e c))
def kL (L : Kv Ent) (e : Bool) (c : Int) (f s : List UInt8) : Kv Ent := if pwr e c = true then (if pwr e (chg e c) = true then (if pwr e (chg e (chg e c)) = true then k3L L f s else k2L L s) else k1L L s) else L
def kcd (e : Bool) (c : Int) : Int := if pw3 e c = true then 0 else 14
theorem chg_no {e : Bool} {c : Int} (h : pwr e c = false) : chg e c = c := by
  unfold pwr at h
  unfold chg
  cases e with
  | false => cases h
  | true => rw [if_neg]; simp at h; omega
theorem ent_put {L : Kv Ent} (h : Srt L) (k : List UInt8) (a : Ent) : ent k (putL k a L) = a := by
  unfold ent; rw [lk_put_same h]; rfl
theorem w_true {L : Kv Ent} {e : Bool} {c : Int} {s : List UInt8} (h : pwr e c = true) : wcd L e c false 0 frF s = 0 ∧ wL L e c false 0 frF s = k1L L s ∧ wc e c frF = chg e c := by
  have h1 : nok frF = true := by decide
  have h2 : fit L frF s false 0 = true := rfl
  unfold wcd wL wc k1L
  rw [h1, h, h2]
  simp
theorem w_false {L : Kv Ent} {e : Bool} {c : Int} {s : List UInt8} (h : pwr e c = false) : wcd L e c false 0 frF s = 14 ∧ wL L e c false 0 frF s = L ∧ wc e c frF = c := by
  have h1 : nok frF = true := by decide
  unfold wcd wL wc
  rw [h1, h, chg_no h]
  simp
theorem s_true {L : Kv Ent} (hS : Srt L) {e : Bool} {c : Int} {s : List UInt8} (h : pwr e c = true) : tcd (k1L L s) e c frF = 0 ∧ sL (k1L L s) e c frF = k2L L s ∧ tc (k1L L s) e c frF = chg e c := by
  have h1 : lkL frF (k1L L s) = some ⟨s, (ent frF L).sf⟩ := lk_put_same hS _ _
  have h2 : (ent frF (k1L L s)).now = s := by unfold ent; rw [h1]; rfl
  unfold tcd sL tc k2L
  rw [h1, h, h2]
  simp
theorem s_false {L : Kv Ent} (hS : Srt L) {e : Bool} {c : Int} {s : List UInt8} (h : pwr e c = false) : tcd (k1L L s) e c frF = 14 ∧ sL (k1L L s) e c frF = k1L L s ∧ tc (k1L L s) e c frF = c := by
  have h1 : lkL frF (k1L L s) = some ⟨s, (ent frF L).sf⟩ := lk_put_same hS _ _
  unfold tcd sL tc
  rw [h1, h, chg_no h]
  simp
theorem m_true {L : Kv Ent} (hS : Srt L) {e : Bool} {c : Int} {f s : List UInt8} (hf : nok f = true) (h : pwr e c = true) : mcd (k2L L s) e c frF f = 0 ∧ mL (k2L L s) e c frF f = k3L L f s ∧ mc (k2L L s) e c frF f = chg e c := by
  have h1 : lkL frF (k2L L s) = some ⟨s, some s⟩ := lk_put_same (hS.put _ _) _ _
  have h2 : ent frF (k2L L s) = ⟨s, some s⟩ := by unfold ent; rw [h1]; rfl
  unfold mcd mL mc tcd tc k3L
  rw [h1, h, h2, hf]
  simp
theorem m_false {L : Kv Ent} (hS : Srt L) {e : Bool} {c : Int} {f s : List UInt8} (hf : nok f = true) (h : pwr e c = false) : mcd (k2L L s) e c frF f = 14 ∧ mL (k2L L s) e c frF f = k2L L s ∧ mc (k2L L s) e c frF f = c := by
  have h1 : lkL frF (k2L L s) = some ⟨s, some s⟩ := lk_put_same (hS.put _ _) _ _
  unfold mcd mL mc tcd tc
  rw [h1, h, chg_no h, hf]
  simp
theorem k_tot {L : Kv Ent} (hS : Srt L) (s : List UInt8) : tot nl (k1L L s) ≤ tot nl L + s.length ∧ tot nl (k2L L s) ≤ tot nl L + s.length ∧ (k1L L s).length ≤ L.length + 1 ∧ (k2L L s).length ≤ L.length + 1 := by
  have h1 := tot_put nl frF ⟨s, (ent frF L).sf⟩ hS
  have h2 := tot_put nl frF ⟨s, some s⟩ (hS.put frF ⟨s, (ent frF L).sf⟩)
  have h3 : olen nl frF (k1L L s) = s.length := by unfold olen; rw [show lkL frF (k1L L s) = some ⟨s, (ent frF L).sf⟩ from lk_put_same hS _ _]; rfl
  have h4 := len_put L frF ⟨s, (ent frF L).sf⟩
  have h5 := len_put_there (hS.put frF ⟨s, (ent frF L).sf⟩) (a := ⟨s, some s⟩) (lk_put_same hS frF ⟨s, (ent frF L).sf⟩)
  unfold k2L
  unfold k1L at h3 ⊢
  have e1 : nl ⟨s, (ent frF L).sf⟩ = s.length := rfl
  have e2 : nl ⟨s, some s⟩ = s.length := rfl
  omega
/-- A book and its disk. -/
structure BJ (w : World) (b d pm : Nat) (ns : Nat → Nat) (dn : Bool) (P : Bk) (N : Nat → Bk) (mb : Option Nat) (L : Kv Ent) (e : Bool) (c : Int) : Prop where
  bk : BK w b d pm ns dn P N
  pd : PD w d mb L e c false 0
  sp : ∀ k, BX b pm ns k → ¬ DX d mb k
/-- The blocks of a book's head and of its disk. -/
def BD (b d : Nat) (mb : Option Nat) (k : Nat) : Prop := k = b ∨ DX d mb k
/-- The disk's files lie where they lay, or anew. -/
def Fr (w : World) (mb mb' : Option Nat) : Prop := ∀ m, mb' = some m → mb = some m ∨ w.heap.size ≤ m
theorem Fr.refl (w : World) (mb : Option Nat) : Fr w mb mb := fun _ h => .inl h
theorem Fr.trans {w w' : World} {a b c : Option Nat} (h : Fr w a b) (k : Fr w' b c) (hz : w.heap.size ≤ w'.heap.size) : Fr w a c := fun m hm => by
  rcases k m hm with h1 | h1
  · exact h m h1
  · exact .inr (Nat.le_trans hz h1)
theorem bx_lt {w : World} {b d pm : Nat} {ns : Nat → Nat} {dn : Bool} {P : Bk} {N : Nat → Bk} (h : BK w b d pm ns dn P N) : ∀ k, BX b pm ns k → k < w.heap.size := fun k hk => by
  rcases hk with rfl | rfl | ⟨i, hi, rfl⟩
  · exact (Array.getElem?_eq_some_iff.1 h.blk).1
  · exact h.lp.lt
  · exact (h.ln i hi).lt
section
variable {w w' : World} {b d pm : Nat} {ns : Nat → Nat} {dn : Bool} {P : Bk} {N : Nat → Bk} {mb mb' : Option Nat} {L L' : Kv Ent} {e e' : Bool} {c c' : Int}
theorem BJ.up (h : BJ w b d pm ns dn P N mb L e c) (hk : Below w.heap.size w w') : BJ w' b d pm ns dn P N mb L e c := ⟨h.bk.up hk, h.pd.up hk, h.sp⟩
theorem sep_fr (hb : BK w b d pm ns dn P N) (hs : ∀ k, BX b pm ns k → ¬ DX d mb k) (hf : Fr w mb mb') : ∀ k, BX b pm ns k → ¬ DX d mb' k := fun k hk hx => by
  rcases hx with hx | hx
  · exact hs k hk (.inl hx)
  · rcases hf k hx with h1 | h1
    · exact hs k hk (.inr h1)
    · have := bx_lt hb k hk; omega
/-- The disk has done something. -/
theorem BJ.po (h : BJ w b d pm ns dn P N mb L e c) (hp : Po d mb L' e' c' false 0 w w') : ∃ mb', BJ w' b d pm ns dn P N mb' L' e' c' ∧ Fr w mb mb' ∧ Kp (BD b d mb) w w' := by
  obtain ⟨⟨mb', h1, h2⟩, h3⟩ := hp
  exact ⟨mb', ⟨h.bk.on fun k hk hx => h3.block k hk (h.sp k hx), h1, sep_fr h.bk h.sp h2⟩, h2, h3.mono fun _ hk => .inr hk⟩
/-- What a step has left. -/
structure Kx (w : World) (b d pm : Nat) (ns : Nat → Nat) (dn : Bool) (P : Bk) (N : Nat → Bk) (mb : Option Nat) (L : Kv Ent) (e : Bool) (c : Int) (w' : World) : Prop where
  is : ∃ mb', BJ w' b d pm ns dn P N mb' L e c ∧ Fr w mb mb'
  kp : Kp (BD b d mb) w w'
theorem Kx.of (h : BJ w b d pm ns dn P N mb L e c) (hp : Po d mb L' e' c' false 0 w w') : Kx w b d pm ns dn P N mb L' e' c' w' := by
  obtain ⟨mb', h1, h2, h3⟩ := h.po hp
  exact ⟨⟨mb', h1, h2⟩, h3⟩
theorem Kx.trans {w1 : World} (hk : Kp (BD b d mb) w w1) (hf : Fr w mb mb') (h : Kx w1 b d pm ns dn P N mb' L e c w') : Kx w b d pm ns dn P N mb L e c w' := by
  obtain ⟨⟨mb2, h1, h2⟩, h3⟩ := h
  refine ⟨⟨mb2, h1, hf.trans h2 hk.size⟩, hk.trans h3 fun i hi hx => ?_⟩
  rcases hx with hx | hx | hx
  · exact .inl hx
  · exact .inr (.inl hx)
  · rcases hf i hx with h4 | h4
    · exact .inr (.inr h4)
    · omega
theorem Kx.same (h : BJ w' b d pm ns dn P N mb L e c) (hk : Kp (BD b d mb) w w') : Kx w b d pm ns dn P N mb L e c w' := ⟨⟨mb, h, Fr.refl _ _⟩, hk⟩
/-- A book that is down. -/
theorem BJ.fall (h : BJ w b d pm ns dn P N mb L e c) (hb : w'.heap[b]? = some (bko (some d) (some pm) (fun i => some (ns i)) true)) (hk : Kp (fun k => k = b) w w') : BJ w' b d pm ns true P N mb L e c := by
  refine ⟨⟨hb, lm_on h.bk.lp (hk.block _ h.bk.lp.lt (lm_ne_b h.bk.lp h.bk.blk)), fun i hi => lm_on (h.bk.ln i hi) (hk.block _ (h.bk.ln i hi).lt (lm_ne_b (h.bk.ln i hi) h.bk.blk)), h.bk.ne, h.bk.np⟩, h.pd.on fun k hk' hx => hk.block k hk' (fun e1 => h.sp b (.inl rfl) (e1 ▸ hx)), h.sp⟩
end
end Go.Proofs.YteiobnkaadedkaaGreatDoor
