/- The book and the reference beside one another. -/
import Derived.Test.YteiobnkaadedkaaGreatDoorBv
import Derived.Test.YteiobnkaadedkaaGreatDoorBw
import Derived.Test.YteiobnkaadedkaaGreatDoorSq
import Derived.Test.YteiobnkaadedkaaGreatDoorNd
namespace Go.Proofs.YteiobnkaadedkaaGreatDoor
open Go.RowKit Go.Sort Go.Maps

/-- Boxes of notes are kept. -/
def F37 (W W' : World) : Prop := ∀ (k : Nat) (cs : Array Value), W.heap[k]? = some (.cells cs 37 (0, 0)) → W'.heap[k]? = some (.cells cs 37 (0, 0))
structure LX (w : World) (b d c n pm : Nat) (ns : Nat → Nat) (P : Bk) (N : Nat → Bk) (mb : Option Nat) (L : Kv Ent) (A : Bk) (mR : Nat) (K : Kv Rx) (LR : Kv Ent) (W : World) : Prop where
  bl : Below w.heap.size w W
  bj : BJ W b d pm ns false P N mb L false 0
  rd : RD W c mR K LR (-1) (-1)
  pg : Pg A P N n
  df : DF L P N
  rl : ∀ k, (lkL k LR).map Ent.now = lkL k A
  sp : ∀ k, (BX b pm ns k ∨ DX d mb k) → ¬ RX c mR k
  hx : ∀ k, (BX b pm ns k ∨ DX d mb k) → w.heap.size ≤ k
  hr : ∀ k, RX c mR k → w.heap.size ≤ k
/-- The law's state. -/
structure LJ (w : World) (b d c n : Nat) (W : World) : Prop where
  is : ∃ pm ns P N mb L A mR K LR, LX w b d c n pm ns P N mb L A mR K LR W
section
variable {w W W2 W3 : World} {b d c n pm : Nat} {ns : Nat → Nat} {P : Bk} {N : Nat → Bk} {mb : Option Nat} {L : Kv Ent} {A : Bk} {mR : Nat} {K : Kv Rx} {LR : Kv Ent}
theorem F37.below (h : Below W.heap.size W W2) : F37 W W2 := fun k _cs hk => (h.block k (Array.getElem?_eq_some_iff.1 hk).1).trans hk
theorem F37.trans (h : F37 W W2) (h' : F37 W2 W3) : F37 W W3 := fun k cs hk => h' k cs (h k cs hk)
theorem f37_bj (h : BJ W b d pm ns false P N mb L false 0) (hk : Kp (fun k => BX b pm ns k ∨ DX d mb k) W W2) : F37 W W2 := fun k cs hc => by
  refine (hk.block k (Array.getElem?_eq_some_iff.1 hc).1 fun hx => ?_).trans hc
  rcases hx with (rfl | rfl | ⟨i, hi, rfl⟩) | (rfl | hx)
  · rw [h.bk.blk] at hc; cases hc
  · obtain ⟨es, cl, h1, _⟩ := h.bk.lp; rw [h1] at hc; cases hc
  · obtain ⟨es, cl, h1, _⟩ := h.bk.ln i hi; rw [h1] at hc; cases hc
  · rw [h.pd.blk] at hc; cases hc
  · obtain ⟨es, cl, h1, _⟩ := h.pd.map k hx; rw [h1] at hc; cases hc
theorem f37_rd (h : RD W c mR K LR (-1) (-1)) (hk : Kp (RX c mR) W W2) : F37 W W2 := fun k cs hc => by
  refine (hk.block k (Array.getElem?_eq_some_iff.1 hc).1 fun hx => ?_).trans hc
  rcases hx with rfl | rfl
  · rw [h.blk] at hc; cases hc
  · obtain ⟨es, cl, h1, _⟩ := h.map; rw [h1] at hc; cases hc
theorem nob_bj (h : BJ W b d pm ns false P N mb L false 0) : ∀ k, (BX b pm ns k ∨ DX d mb k) → NoB W k := fun k hx => by
  rcases hx with (rfl | rfl | ⟨i, hi, rfl⟩) | hx
  · exact nob_cells h.bk.blk (by decide)
  · exact nob_map h.bk.lp
  · exact nob_map (h.bk.ln i hi)
  · exact h.pd.nob k hx
theorem LX.up (h : LX w b d c n pm ns P N mb L A mR K LR W) (hb : Below W.heap.size W W2) : LX w b d c n pm ns P N mb L A mR K LR W2 :=
  ⟨h.bl.trans (hb.mono h.bl.size), h.bj.up hb, h.rd.up hb, h.pg, h.df, h.rl, h.sp, h.hx, h.hr⟩
theorem LX.mono {n' : Nat} (h : LX w b d c n pm ns P N mb L A mR K LR W) (hn : n ≤ n') : LX w b d c n' pm ns P N mb L A mR K LR W :=
  ⟨h.bl, h.bj, h.rd, h.pg.mono hn, h.df, h.rl, h.sp, h.hx, h.hr⟩
theorem LJ.up (h : LJ w b d c n W) (hb : Below W.heap.size W W2) : LJ w b d c n W2 := by
  obtain ⟨pm, ns, P, N, mb, L, A, mR, K, LR, hx⟩ := h.is
  exact ⟨pm, ns, P, N, mb, L, A, mR, K, LR, hx.up hb⟩
theorem LJ.mono {n' : Nat} (h : LJ w b d c n W) (hn : n ≤ n') : LJ w b d c n' W := by
  obtain ⟨pm, ns, P, N, mb, L, A, mR, K, LR, hx⟩ := h.is
  exact ⟨pm, ns, P, N, mb, L, A, mR, K, LR, hx.mono hn⟩
theorem LJ.bl (h : LJ w b d c n W) : Below w.heap.size w W := by
  obtain ⟨pm, ns, P, N, mb, L, A, mR, K, LR, hx⟩ := h.is
  exact hx.bl
theorem LX.gp (h : LX w b d c n pm ns P N mb L A mR K LR W) (hn : n ≤ 60) : Gp P N := ⟨h.pg.gp, h.pg.gn, by have := h.pg.lp; omega, fun i hi => by have := h.pg.ln i hi; omega⟩
/-- The book has done something: what is left of the rest. -/
theorem LX.book {P' : Bk} {N' : Nat → Bk} {L' : Kv Ent} (h : LX w b d c n pm ns P N mb L A mR K LR W) (hS : Sx W b d pm ns false P' N' mb L' false 0 W2) :
    F37 W W2 ∧ Below w.heap.size w W2 ∧ RD W2 c mR K LR (-1) (-1) ∧ ∃ pm' ns' mb', BJ W2 b d pm' ns' false P' N' mb' L' false 0 ∧ (∀ k, (BX b pm' ns' k ∨ DX d mb' k) → ¬ RX c mR k) ∧ ∀ k, (BX b pm' ns' k ∨ DX d mb' k) → w.heap.size ≤ k := by
  obtain ⟨⟨pm', ns', mb', h1, h2, h3⟩, h4⟩ := hS
  have hrx : ∀ k, RX c mR k → k < W.heap.size := fun k hk => by
    rcases hk with rfl | rfl
    · exact (Array.getElem?_eq_some_iff.1 h.rd.blk).1
    · exact h.rd.map.lt
  have hnew : ∀ k, (BX b pm' ns' k ∨ DX d mb' k) → (BX b pm ns k ∨ DX d mb k) ∨ W.heap.size ≤ k := fun k hk => by
    rcases hk with hk | hk | hk
    · rcases h3 k hk with h5 | h5
      · exact .inl (.inl h5)
      · exact .inr h5
    · exact .inl (.inr (.inl hk))
    · rcases h2 k hk with h5 | h5
      · exact .inl (.inr (.inr h5))
      · exact .inr h5
  refine ⟨f37_bj h.bj h4, h.bl.trans (h4.below h.bl.size fun k hk hx => ?_), h.rd.kp h4 (nob_bj h.bj) (fun hx => h.sp c hx (.inl rfl)) (fun hx => h.sp mR hx (.inr rfl)), pm', ns', mb', h1, fun k hk hr => ?_, fun k hk => ?_⟩
  · have := h.hx k hx; omega
  · rcases hnew k hk with h5 | h5
    · exact h.sp k h5 hr
    · have := hrx k hr; omega
  · rcases hnew k hk with h5 | h5
    · exact h.hx k h5
    · have := h.bl.size; omega
/-- The reference has done something, too. -/
theorem lx_ref {LR' : Kv Ent} {A' : Bk} {n' : Nat} (hbl : Below w.heap.size w W2) (hb : BJ W2 b d pm ns false P N mb L false 0) (hr : RD W2 c mR K LR (-1) (-1)) (hp : Pg A' P N n') (hd : DF L P N) (hsp : ∀ k, (BX b pm ns k ∨ DX d mb k) → ¬ RX c mR k) (hhx : ∀ k, (BX b pm ns k ∨ DX d mb k) → w.heap.size ≤ k) (hhr : ∀ k, RX c mR k → w.heap.size ≤ k)
    (ho : Ro c mR LR' (-1) (-1) W2 W3) (hrl : ∀ k, (lkL k LR').map Ent.now = lkL k A') : F37 W2 W3 ∧ LJ w b d c n' W3 := by
  obtain ⟨⟨m', K', h1, h2⟩, h3⟩ := ho
  have hlt : ∀ k, (BX b pm ns k ∨ DX d mb k) → k < W2.heap.size := fun k hk => by
    rcases hk with hk | rfl | hk
    · exact bx_lt hb.bk k hk
    · exact (Array.getElem?_eq_some_iff.1 hb.pd.blk).1
    · exact (hb.pd.map k hk).lt
  have hrx : ∀ k, RX c m' k → RX c mR k ∨ W2.heap.size ≤ k := fun k hk => by
    rcases hk with hk | hk
    · exact .inl (.inl hk)
    · rcases h2 with h4 | h4
      · exact .inl (.inr (by rw [hk, h4]))
      · exact .inr (by rw [hk]; exact h4)
  refine ⟨f37_rd hr h3, pm, ns, P, N, mb, L, A', m', K', LR', hbl.trans (h3.below hbl.size fun k hk hx => ?_), ⟨hb.bk.on fun k hk hx => h3.block k hk (hsp k (.inl hx)), hb.pd.on fun k hk hx => h3.block k hk (hsp k (.inr hx)), hb.sp⟩, h1, hp, hd, hrl, fun k hk hr' => ?_, hhx, fun k hk => ?_⟩
  · have := hhr k hx; omega
  · rcases hrx k hr' with h4 | h4
    · exact hsp k hk h4
    · have := hlt k hk; omega
  · rcases hrx k hk with h4 | h4
    · exact hhr k h4
    · have := hbl.size; omega
end
end Go.Proofs.YteiobnkaadedkaaGreatDoor
