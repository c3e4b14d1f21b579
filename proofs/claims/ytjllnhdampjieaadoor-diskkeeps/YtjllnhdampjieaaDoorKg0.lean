/- The law DiskKeeps, what it holds in memory. -/
import Derived.Test.YtjllnhdampjieaaDoorKb
import Derived.Test.YtjllnhdampjieaaDoorKd
import Derived.Test.YtjllnhdampjieaaDoorKe
import Derived.Test.YtjllnhdampjieaaDoorKf
namespace Go.Proofs.YtjllnhdampjieaaDoor
open Go.RowKit Go.Sort Go.Maps Go.Shelf

/-- Acts that come in. -/
structure Kcs (W : World) (v : Value) (l : List Kc) : Prop where
  is : (l = [] ∧ ∃ A c, v = .slice A 0 c) ∨ ∃ b o c, v = .slice (some ⟨b, o, none⟩) l.length c ∧ l.length ≤ c ∧ Kcl W b o l
theorem Kcs.sl {W : World} {v : Value} {l : List Kc} (h : Kcs W v l) : ∃ A c, v = .slice A l.length c := by
  rcases h.is with ⟨rfl, A, c, rfl⟩ | ⟨b, o, c, rfl, _⟩
  · exact ⟨A, c, rfl⟩
  · exact ⟨_, c, rfl⟩
/-- The disk of the law, laid behind the world w0. -/
structure KD (w0 W : World) (b : Nat) (mb : Option Nat) (L : Kv Ent) (e : Bool) (c : Int) : Prop where
  pd : PD W b mb L e c false 0
  bl : Below w0.heap.size w0 W
  hb : w0.heap.size ≤ b
  hm : ∀ m, mb = some m → w0.heap.size ≤ m
theorem KD.nd {w0 W : World} {b : Nat} {mb : Option Nat} {L : Kv Ent} {e : Bool} {c : Int} (h : KD w0 W b mb L e c) {k : Nat} (hk : k < w0.heap.size) : ¬ DX b mb k := fun hx => by
  rcases hx with hx | hx
  · have := h.hb; omega
  · have := h.hm _ hx; omega
theorem KD.up {w0 W W' : World} {b : Nat} {mb : Option Nat} {L : Kv Ent} {e : Bool} {c : Int} (h : KD w0 W b mb L e c) (hb : Below W.heap.size W W') : KD w0 W' b mb L e c := ⟨h.pd.up hb, h.bl.trans (hb.mono h.bl.size), h.hb, h.hm⟩
theorem KD.next {w0 W W' : World} {b : Nat} {mb : Option Nat} {L L' : Kv Ent} {e e' : Bool} {c c' : Int} (h : KD w0 W b mb L e c) (hp : Po b mb L' e' c' false 0 W W') : ∃ mb', KD w0 W' b mb' L' e' c' ∧ (∀ m, mb' = some m → mb = some m ∨ W.heap.size ≤ m) ∧ Kp (DX b mb) W W' := by
  obtain ⟨⟨mb', hd, hm⟩, hk⟩ := hp
  refine ⟨mb', ⟨hd, h.bl.trans (hk.below h.bl.size fun k hk' => h.nd hk'), h.hb, fun m e1 => ?_⟩, hm, hk⟩
  rcases hm m e1 with h1 | h1
  · exact h.hm m h1
  · have := h.bl.size; omega
theorem Kcl.up {w0 W : World} {b o : Nat} {l : List Kc} (h : Kcl w0 b o l) (hb : Below w0.heap.size w0 W) : Kcl W b o l :=
  ⟨Nat.lt_of_lt_of_le h.lt hb.size, fun i hi => (hb.cell (p := ⟨b, o + i * 4, none⟩) h.lt).trans (h.c0 i hi), fun i hi => (hb.cell (p := ⟨b, o + i * 4 + 1, none⟩) h.lt).trans (h.c1 i hi), fun i hi => (hb.cell (p := ⟨b, o + i * 4 + 2, none⟩) h.lt).trans (h.c2 i hi), fun i hi => (hb.cell (p := ⟨b, o + i * 4 + 3, none⟩) h.lt).trans (h.c3 i hi)⟩
set_option maxRecDepth 100000 in
theorem acts_nil (b : Nat) (A : Option Addr) (c0 : Nat) (w : World) : Calls Tryd.prog 23 #[.pointer (some ⟨b, 0, none⟩), .slice A 0 c0] w fun x w' => x = .returned (.tuple #[]) ∧ w' = w := by
  go_enter Tryd.func23, Tryd.ntmps23
  go_wp2_with fail
  refine wp_loop_rounds 1 ?_
  rw [rounds_succ]
  go_wp2
  exact bodyPost_end (results_none rfl _ _ _) rfl ⟨rfl, rfl⟩
theorem acts_any {w0 W : World} {b : Nat} {mb : Option Nat} {L : Kv Ent} {e : Bool} {c : Int} (h : KD w0 W b mb L e c) (hK : Kok L) (v : Value) (l : List Kc) (hl : Kcs w0 v l) (hn : l.length ≤ 60) (he : e = true → c ≤ 0) (hc : c ≤ 9223372036854775807) :
    Calls Tryd.prog 23 #[.pointer (some ⟨b, 0, none⟩), v] W fun x W' => x = .returned (.tuple #[]) ∧ Po b mb (kal L e c l) e c false 0 W W' := by
  rcases hl.is with ⟨rfl, A, c0, rfl⟩ | ⟨b0, o0, c0, rfl, _, hk⟩
  · exact (acts_nil b A c0 W).mono fun x W' ⟨h1, h2⟩ => ⟨h1, by rw [h2]; exact Po.same h.pd (Kp.refl _ _)⟩
  · exact acts_row b mb L e c b0 o0 c0 l W h.pd hK (hk.up h.bl) hn he hc (h.nd hk.lt)
theorem Kok.nml {L : Kv Ent} (h : Kok L) : ∀ k ∈ nms L, k.length ≤ 1000 := fun k hk => by
  obtain ⟨a, ha⟩ := nms_mem.1 hk
  obtain ⟨⟨x, rfl, _⟩, _⟩ := h.is k a ((lk_iff h.srt).2 ha)
  simp
theorem Kok.bn1000 {L : Kv Ent} (h : Kok L) : Bn 1000 L := ⟨fun k a ha => by have := h.bn.is k a ha; omega⟩
theorem tx_at' {B : Nat} {W : World} {A : Option Addr} {n c : Nat} {l : List (List UInt8)} (h : Tx B W (.slice A n c) l) (j : Nat) (hj : j < l.length) : ∃ nb, A = some ⟨nb, 0, none⟩ ∧ nb < W.heap.size ∧ B ≤ nb ∧ W.cell? ⟨nb, j, none⟩ = some (.string ⟨l[j].toArray⟩) := by
  rcases h.is with ⟨rfl, _⟩ | ⟨b, c', h1, h0, h2, h3⟩
  · exact absurd hj (Nat.not_lt_zero _)
  · cases h1; exact ⟨b, rfl, h2, h0, h3 j hj⟩
end Go.Proofs.YtjllnhdampjieaaDoor
