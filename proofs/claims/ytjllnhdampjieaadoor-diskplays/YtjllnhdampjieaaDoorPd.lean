/- The walk of the law DiskPlays. -/
import Derived.Test.YtjllnhdampjieaaDoorPc
import Derived.Deep.CutRange
import Derived.Deep.CutBlock
namespace Go.Proofs.YtjllnhdampjieaaDoor
open Go.RowKit Go.Sort Go.Maps

/-- An act. -/
structure Ac where
  t : Int
  n : Int
  f : List UInt8
  o : List UInt8
  deriving Inhabited
structure Acl (W : World) (b o : Nat) (l : List Ac) : Prop where
  lt : b < W.heap.size
  c0 : ∀ i (hi : i < l.length), W.cell? ⟨b, o + i * 4, none⟩ = some (.int .i64 l[i].t)
  c1 : ∀ i (hi : i < l.length), W.cell? ⟨b, o + i * 4 + 1, none⟩ = some (.int .i64 l[i].n)
  c2 : ∀ i (hi : i < l.length), W.cell? ⟨b, o + i * 4 + 2, none⟩ = some (.string ⟨l[i].f.toArray⟩)
  c3 : ∀ i (hi : i < l.length), W.cell? ⟨b, o + i * 4 + 3, none⟩ = some (.string ⟨l[i].o.toArray⟩)
abbrev aco (x : Ac) : Obj := .cells #[.int .i64 x.t, .int .i64 x.n, .string ⟨x.f.toArray⟩, .string ⟨x.o.toArray⟩] 29 (0, 0)
theorem J.bl {w W : World} {b c i : Nat} (h : J w b c i W) : Below w.heap.size w W := by
  obtain ⟨mb, m, K, L, e, cc, bd, r, lf, bt, hx⟩ := h.is
  exact hx.bl
theorem J.start (w : World) : Calls Tryd.prog 5 #[] (w.alloc (dko none 0 false 0 false 0)) fun x w' => x = .returned (.pointer (some ⟨w.heap.size + 2, 0, none⟩)) ∧ J w w.heap.size (w.heap.size + 2) 0 w' := by
  have h0 := newdisk_any (w.alloc (dko none 0 false 0 false 0))
  rw [World.size_alloc] at h0
  refine h0.mono fun x w' ⟨hx, hrd, hb⟩ => ⟨hx, none, w.heap.size + 1, [], [], false, 0, false, 0, -1, -1, ?_, Nat.le_refl _, by omega, ⟨(hb.block _ (by omega)).trans (nb0 _ _), fun _ => rfl, fun _ h => (by cases h), Srt.nil⟩, hrd, (by simp), by omega, (fun _ h => by cases h), ?_⟩
  · exact ((Below.refl _ _).alloc (Nat.le_refl _) _).trans (hb.mono (by omega))
  · exact ⟨⟨.inr ⟨rfl, rfl⟩⟩, ⟨.inr ⟨rfl, rfl⟩⟩, ⟨fun k a h => by cases h⟩, Nat.le_refl _, fun k a h => (by cases h), by omega, by omega⟩

theorem wpOp_want {P : Program} {ops : Array Oper} {Q : Exit → Act → World → Prop} {i : Nat} {o : Oper} {K : Act → World → Prop} {a : Act} {w : World} (hi : ops[i]? = some o) (hg : Region.wanted o (yielded ops a.tmps) = true) (h : o.wp P a w K Q) : wpOp P ops Q i K a w := by
  unfold wpOp
  simp only [hi]
  rw [if_pos hg]
  exact .inl h
theorem take_d {P : Program} {md : Region.Mode} {ops : Array Oper} {Q : Exit → Act → World → Prop} {S : World → Prop} {i : Nat} {oi : Oper} {v : Value} {fuel : Nat} {listed : Array Bool} {a : Act} {w : World} (d : Option Nat) (hi : ops[i]? = some oi) (hd : oi.dst = d)
    (hs : Region.noSelect ops = true) (hf : Region.free md ops listed i = true) (hr : (Region.ready md ops listed).contains i = true)
    (hQ : ∀ c a w, Q (.panic c) (a.put d v) w → Q (.panic c) a w) (hy : YieldsIf P ops S oi v a) (hS : S w)
    (h : wpAnyH P md ops Q S fuel (listed.setIfInBounds i true) (a.put d v) w) : wpAnyH P md ops Q S (fuel + 1) listed a w := by
  subst hd
  exact wpAnyH_take hi hs hf hr hQ hy hS h
theorem tx_sl {B : Nat} {W : World} {v : Value} {l : List (List UInt8)} (h : Tx B W v l) : ∃ A c, v = .slice A l.length c := by
  rcases h.is with ⟨rfl, rfl⟩ | ⟨b, c, rfl, _⟩
  · exact ⟨none, 0, rfl⟩
  · exact ⟨_, c, rfl⟩
theorem fld50 (x : Rx) (W : World) : Sem.run Tryd.prog (Instr.field 50 (rvv x) 0) W = .ok (.string ⟨x.now.toArray⟩) W := by unfold rvv; kernel_rfl
theorem tx_at {B : Nat} {W : World} {A : Option Addr} {n c : Nat} {l : List (List UInt8)} (h : Tx B W (.slice A n c) l) (j : Nat) (hj : j < l.length) : ∃ nb, A = some ⟨nb, 0, none⟩ ∧ nb < W.heap.size ∧ W.cell? ⟨nb, j, none⟩ = some (.string ⟨l[j].toArray⟩) := by
  rcases h.is with ⟨rfl, _⟩ | ⟨b, c', h1, _, h2, h3⟩
  · exact absurd hj (Nat.not_lt_zero _)
  · cases h1; exact ⟨b, rfl, h2, h3 j hj⟩
/-- What a round holds behind an act. -/
structure Cu (w : World) (b c i bx : Nat) (x : Ac) (W : World) : Prop where
  j : J w b c i W
  x : W.heap[bx]? = some (aco x)
/-- What the drawn regions read. -/
structure Xs (bx : Nat) (x : Ac) (W : World) : Prop where
  x : W.heap[bx]? = some (aco x)
theorem Xs.c {bx : Nat} {x : Ac} {W : World} (h : Xs bx x W) : W.cell? ⟨bx, 0, none⟩ = some (.int .i64 x.t) ∧ W.cell? ⟨bx, 1, none⟩ = some (.int .i64 x.n) ∧ W.cell? ⟨bx, 2, none⟩ = some (.string ⟨x.f.toArray⟩) ∧ W.cell? ⟨bx, 3, none⟩ = some (.string ⟨x.o.toArray⟩) :=
  ⟨by simp [World.cell?, h.x], by simp [World.cell?, h.x], by simp [World.cell?, h.x], by simp [World.cell?, h.x]⟩
end Go.Proofs.YtjllnhdampjieaaDoor
