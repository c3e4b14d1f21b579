/- Both disks beside one another. -/
import Derived.Test.YtjllnhdampjieaaDoorNf
import Derived.Test.YtjllnhdampjieaaDoorSq
namespace Go.Proofs.YtjllnhdampjieaaDoor
open Go.RowKit Go.Sort Go.Maps

/-- Power, and room, told by either. -/
structure Pwl (e : Bool) (c lf : Int) : Prop where
  is : (e = true ∧ c = lf ∧ 0 ≤ lf) ∨ (e = false ∧ lf = -1)
structure Rml (bd : Bool) (r bt : Int) : Prop where
  is : (bd = true ∧ r = bt ∧ 0 ≤ bt) ∨ (bd = false ∧ bt = -1)
theorem Pwl.pwr {e : Bool} {c lf : Int} (h : Pwl e c lf) : pwr e c = decide (lf ≠ 0) := by
  unfold Go.Proofs.YtjllnhdampjieaaDoor.pwr
  rcases h.is with ⟨rfl, rfl, h2⟩ | ⟨rfl, rfl⟩
  · rw [Bool.eq_iff_iff]; simp; omega
  · rfl
theorem Pwl.chg {e : Bool} {c lf : Int} (h : Pwl e c lf) : Pwl e (chg e c) (rch lf) := by
  unfold Go.Proofs.YtjllnhdampjieaaDoor.chg rch
  rcases h.is with ⟨rfl, rfl, h2⟩ | ⟨rfl, rfl⟩
  · refine ⟨.inl ⟨rfl, ?_, ?_⟩⟩
    · by_cases h0 : 0 < c
      · rw [if_pos ⟨rfl, h0⟩, if_pos h0]
      · rw [if_neg (fun h => h0 h.2), if_neg h0]
    · split <;> omega
  · exact ⟨.inr ⟨rfl, by rw [if_neg (by omega)]⟩⟩
theorem Rml.fit {bd : Bool} {r bt : Int} (h : Rml bd r bt) (L : Kv Ent) (k s : List UInt8) : fit L k s bd r = rfit L k s bt := by
  unfold Go.Proofs.YtjllnhdampjieaaDoor.fit rfit
  rcases h.is with ⟨rfl, rfl, h2⟩ | ⟨rfl, rfl⟩
  · rw [Bool.eq_iff_iff]; simp; omega
  · simp
theorem pw_cut (n : Int) : Pwl (decide (0 ≤ n)) n (max n (-1)) := by
  by_cases h : 0 ≤ n
  · exact ⟨.inl ⟨by simpa using h, by omega, by omega⟩⟩
  · exact ⟨.inr ⟨by simpa using h, by omega⟩⟩
theorem rm_cut (n : Int) : Rml (decide (0 ≤ n)) n (max n (-1)) := by
  by_cases h : 0 ≤ n
  · exact ⟨.inl ⟨by simpa using h, by omega, by omega⟩⟩
  · exact ⟨.inr ⟨by simpa using h, by omega⟩⟩
/-- What is known of both. -/
structure Jn (i : Nat) (L : Kv Ent) (e : Bool) (c : Int) (bd : Bool) (r lf bt : Int) : Prop where
  pw : Pwl e c lf
  rm : Rml bd r bt
  bn : Bn 200 L
  len : L.length ≤ i
  ky : ∀ k a, lkL k L = some a → k.length ≤ 100
  c1 : c ≤ 9223372036854775807
  l1 : lf ≤ 9223372036854775807
structure JX (w : World) (b c i : Nat) (mb : Option Nat) (m : Nat) (K : Kv Rx) (L : Kv Ent) (e : Bool) (cc : Int) (bd : Bool) (r lf bt : Int) (W : World) : Prop where
  bl : Below w.heap.size w W
  hb : w.heap.size ≤ b
  hc : w.heap.size ≤ c
  pd : PD W b mb L e cc bd r
  rd : RD W c m K L lf bt
  ne : mb ≠ some m
  hm : w.heap.size ≤ m
  hmb : ∀ x, mb = some x → w.heap.size ≤ x
  jn : Jn i L e cc bd r lf bt
structure J (w : World) (b c i : Nat) (W : World) : Prop where
  is : ∃ (mb : Option Nat) (m : Nat) (K : Kv Rx) (L : Kv Ent) (e : Bool) (cc : Int) (bd : Bool) (r lf bt : Int), JX w b c i mb m K L e cc bd r lf bt W
/-- Cells of a box that is no disk's are kept. -/
def F29 (W W' : World) : Prop := ∀ (k : Nat) (cs : Array Value), W.heap[k]? = some (.cells cs 29 (0, 0)) → W'.heap[k]? = some (.cells cs 29 (0, 0))
section
variable {w W W2 W3 : World} {b c i m : Nat} {mb : Option Nat} {K : Kv Rx} {L L' : Kv Ent} {e : Bool} {cc cc' : Int} {bd : Bool} {r lf bt lf' bt' r' : Int} {e' bd' : Bool}
theorem F29.below (h : Below W.heap.size W W2) : F29 W W2 := fun k _cs hk => (h.block k (Array.getElem?_eq_some_iff.1 hk).1).trans hk
theorem F29.trans (h : F29 W W2) (h' : F29 W2 W3) : F29 W W3 := fun k cs hk => h' k cs (h k cs hk)
theorem pd_not29 (h : PD W b mb L e cc bd r) {k : Nat} {cs : Array Value} (hk : W.heap[k]? = some (.cells cs 29 (0, 0))) : ¬ DX b mb k := fun hx => by
  rcases hx with rfl | hx
  · rw [h.blk] at hk; cases hk
  · obtain ⟨es, cl, h1, _⟩ := h.map k hx
    rw [h1] at hk; cases hk
theorem rd_not29 (h : RD W c m K L lf bt) {k : Nat} {cs : Array Value} (hk : W.heap[k]? = some (.cells cs 29 (0, 0))) : ¬ RX c m k := fun hx => by
  rcases hx with rfl | rfl
  · rw [h.blk] at hk; cases hk
  · obtain ⟨es, cl, h1, _⟩ := h.map
    rw [h1] at hk; cases hk
theorem pd_rd (hp : PD W b mb L e cc bd r) (hr : RD W c m K L' lf bt) (hne : mb ≠ some m) : (¬ DX b mb c ∧ ¬ DX b mb m) ∧ (¬ RX c m b ∧ ∀ x, mb = some x → ¬ RX c m x) := by
  have h1 : b ≠ c := fun h => by have := hp.blk; rw [h, hr.blk] at this; cases this
  have h2 : m ≠ b := ne_map hp.blk hr.map
  have h3 : ∀ x, mb = some x → x ≠ c := fun x hx h => by
    obtain ⟨es, cl, h4, _⟩ := hp.map x hx
    rw [h, hr.blk] at h4; cases h4
  refine ⟨⟨fun h => ?_, fun h => ?_⟩, fun h => ?_, fun x hx h => ?_⟩
  · rcases h with h | h
    · exact h1 h.symm
    · exact h3 c h rfl
  · rcases h with h | h
    · exact h2 h
    · exact hne h
  · rcases h with h | h
    · exact h1 h
    · exact h2 h.symm
  · rcases h with h | h
    · exact h3 x hx h
    · subst h; exact hne hx
/-- The program's disk has done something. -/
theorem JX.prog (h : JX w b c i mb m K L e cc bd r lf bt W) (hp : Po b mb L' e' cc' bd' r' W W2) : F29 W W2 ∧ Below w.heap.size w W2 ∧ RD W2 c m K L lf bt ∧ ∃ mb', PD W2 b mb' L' e' cc' bd' r' ∧ mb' ≠ some m ∧ ∀ x, mb' = some x → w.heap.size ≤ x := by
  obtain ⟨⟨mb', h1, h2⟩, h3⟩ := hp
  obtain ⟨⟨h4, h5⟩, _⟩ := pd_rd h.pd h.rd h.ne
  refine ⟨fun k cs hk => (h3.block k (Array.getElem?_eq_some_iff.1 hk).1 (pd_not29 h.pd hk)).trans hk, h.bl.trans (h3.below h.bl.size fun k hk hx => ?_), h.rd.kp h3 h.pd.nob h4 h5, mb', h1, fun hx => ?_, fun x hx => ?_⟩
  · rcases hx with hx | hx
    · have := h.hb; omega
    · have := h.hmb k hx; omega
  · rcases h2 m hx with h6 | h6
    · exact h.ne h6
    · have := h.rd.map.lt; omega
  · rcases h2 x hx with h6 | h6
    · exact h.hmb x h6
    · have := h.bl.size; omega
/-- The reference's has done something, too. -/
theorem j_ref (hb : w.heap.size ≤ b) (hc : w.heap.size ≤ c) (hm : w.heap.size ≤ m) (hbl : Below w.heap.size w W2) (hp : PD W2 b mb L' e cc bd r) (hr : RD W2 c m K L lf bt) (hne : mb ≠ some m) (hmb : ∀ x, mb = some x → w.heap.size ≤ x) (ho : Ro c m L' lf' bt' W2 W3) (hj : Jn i L' e cc bd r lf' bt') : F29 W2 W3 ∧ J w b c i W3 := by
  obtain ⟨⟨m', K', h1, h2⟩, h3⟩ := ho
  obtain ⟨_, h4, h5⟩ := pd_rd hp hr hne
  refine ⟨fun k cs hk => (h3.block k (Array.getElem?_eq_some_iff.1 hk).1 (rd_not29 hr hk)).trans hk, mb, m', K', L', e, cc, bd, r, lf', bt', hbl.trans (h3.below hbl.size fun k hk hx => ?_), hb, hc, hp.on fun k hk hx => h3.block k hk ?_, h1, fun hx => ?_, ?_, hmb, hj⟩
  · rcases hx with hx | hx <;> omega
  · rcases hx with hx | hx
    · subst hx; exact h4
    · exact h5 k hx
  · rcases h2 with h6 | h6
    · subst h6; exact hne hx
    · have := (hp.map m' hx).lt; omega
  · rcases h2 with h6 | h6
    · omega
    · have := hbl.size; omega
theorem JX.up (h : JX w b c i mb m K L e cc bd r lf bt W) (hb : Below W.heap.size W W2) : JX w b c i mb m K L e cc bd r lf bt W2 :=
  ⟨h.bl.trans (hb.mono h.bl.size), h.hb, h.hc, h.pd.up hb, h.rd.up hb, h.ne, h.hm, h.hmb, h.jn⟩
theorem J.up (h : J w b c i W) (hb : Below W.heap.size W W2) : J w b c i W2 := by
  obtain ⟨mb, m, K, L, e, cc, bd, r, lf, bt, hx⟩ := h.is
  exact ⟨mb, m, K, L, e, cc, bd, r, lf, bt, hx.up hb⟩
theorem J.mono {i' : Nat} (h : J w b c i W) (hi : i ≤ i') : J w b c i' W := by
  obtain ⟨mb, m, K, L, e, cc, bd, r, lf, bt, hx⟩ := h.is
  exact ⟨mb, m, K, L, e, cc, bd, r, lf, bt, hx.bl, hx.hb, hx.hc, hx.pd, hx.rd, hx.ne, hx.hm, hx.hmb, ⟨hx.jn.pw, hx.jn.rm, hx.jn.bn, Nat.le_trans hx.jn.len hi, hx.jn.ky, hx.jn.c1, hx.jn.l1⟩⟩
end
theorem chg_le {e : Bool} {c : Int} (h : c ≤ 9223372036854775807) : chg e c ≤ 9223372036854775807 := by unfold chg; split <;> omega
theorem rch_le {c : Int} (h : c ≤ 9223372036854775807) : rch c ≤ 9223372036854775807 := by unfold rch; split <;> omega
/-- Lists that are changed stay short. -/
theorem bn_put {L : Kv Ent} (hS : Srt L) (h : Bn 200 L) {k : List UInt8} {e : Ent} (he : e.now.length ≤ 200 ∧ (e.sf.getD []).length ≤ 200) : Bn 200 (putL k e L) := ⟨fun x a ha => by
  by_cases hx : x = k
  · subst hx; rw [lk_put_same hS] at ha; cases ha; exact he
  · rw [lk_put_other hS hx] at ha; exact h.is x a ha⟩
theorem bn_del {L : Kv Ent} (hS : Srt L) (h : Bn 200 L) (k : List UInt8) : Bn 200 (delL k L) := ⟨fun x a ha => by
  by_cases hx : x = k
  · subst hx; rw [lk_del_same] at ha; cases ha
  · rw [lk_del_other hS hx] at ha; exact h.is x a ha⟩
theorem ky_put {L : Kv Ent} (hS : Srt L) (h : ∀ k a, lkL k L = some a → k.length ≤ 100) {k : List UInt8} (hk : k.length ≤ 100) (e : Ent) : ∀ x a, lkL x (putL k e L) = some a → x.length ≤ 100 := fun x a ha => by
  by_cases hx : x = k
  · subst hx; exact hk
  · rw [lk_put_other hS hx] at ha; exact h x a ha
theorem ky_del {L : Kv Ent} (hS : Srt L) (h : ∀ k a, lkL k L = some a → k.length ≤ 100) (k : List UInt8) : ∀ x a, lkL x (delL k L) = some a → x.length ≤ 100 := fun x a ha => by
  by_cases hx : x = k
  · subst hx; rw [lk_del_same] at ha; cases ha
  · rw [lk_del_other hS hx] at ha; exact h x a ha
theorem ent_bn {L : Kv Ent} (h : Bn 200 L) (k : List UInt8) : (ent k L).now.length ≤ 200 ∧ ((ent k L).sf.getD []).length ≤ 200 := by
  unfold ent
  cases hl : lkL k L with
  | none => exact ⟨by simp [zent], by simp [zent]⟩
  | some a => exact h.is k a hl
theorem Jn.tot {i : Nat} {L : Kv Ent} {e : Bool} {c : Int} {bd : Bool} {r lf bt : Int} (h : Jn i L e c bd r lf bt) (hS : Srt L) (hi : i ≤ 60) : tot nl L ≤ 12000 := by
  have h1 := bn_tot h.bn hS
  have h2 : L.length * 200 ≤ 60 * 200 := Nat.mul_le_mul (by have := h.len; omega) (Nat.le_refl _)
  omega
end Go.Proofs.YtjllnhdampjieaaDoor
