/- What the law ShelfOwns needs of a round. -/
import Derived.Test.YtlldfmnoidndmaaGreatDoorQv
import Derived.Test.YtlldfmnoidndmaaGreatDoorQf
import Derived.Test.YtlldfmnoidndmaaGreatDoorQw
import Derived.Test.YtlldfmnoidndmaaGreatDoorJa
import Derived.Deep.MidRow
namespace Go.Proofs.YtlldfmnoidndmaaGreatDoor.Dsk
open Go.RowKit Go.Sort Go.Maps

theorem aok_nd {p : Pck} (h : aok p = true) : (p.F.map (·.1)).Nodup := by
  refine List.pairwise_iff_getElem.2 fun i j hi hj hij e => ?_
  rw [List.length_map] at hi hj
  have h1 := (aok_pth h hj).2
  rw [List.any_eq_false] at h1
  have h2 := h1 p.F[i] (List.mem_take_iff_getElem.2 ⟨i, by omega, rfl⟩)
  simp only [List.getElem_map] at e
  unfold csh at h2
  rw [e] at h2
  simp at h2
theorem aok_name {p : Pck} (h : aok p = true) : p.o.n ≠ [] ∧ p.o.n.length ≤ 24 := by
  unfold aok rok nmo at h
  simp only [Bool.and_eq_true, decide_eq_true_eq] at h
  refine ⟨fun e => ?_, h.1.1.1.1.2⟩
  have := h.1.1.1.1.1
  rw [e] at this
  simp at this
theorem aok_set {p : Pck} (h : aok p = true) : ∀ x ∈ p.S, x.length ≤ 900 := fun x hx => by
  unfold aok rok pths at h
  simp only [Bool.and_eq_true, decide_eq_true_eq, List.all_eq_true] at h
  obtain ⟨i, hi, rfl⟩ := List.getElem_of_mem hx
  have h1 := h.1.2.2.2.2.2.2.2.2.2.1.2 i (List.mem_range.2 hi)
  rw [pki_at hi] at h1
  unfold pth at h1
  simp only [Bool.and_eq_true, decide_eq_true_eq] at h1
  have := h1.1.1.2
  omega
/-- A round of the law. -/
structure Stp (L : Kv Ent) (p : Pck) (tk : List UInt8 → Bool) (L2 : Kv Ent) : Prop where
  iv : Iv L2
  ln : L2.length ≤ L.length + 60
  fr : ∀ (i : Nat) (m : List UInt8), ¬ Clr L2 p.o.n tk p.F i m
  ag : putG L2 p.o.n p.S p.F [] = L2
  o : ∀ f ∈ p.F, (ent ([111, 47] ++ f.1) L2).now = p.o.n
  d : ∀ f ∈ p.F, ¬ f.1 ∈ p.S → ∃ e, lkL ([100, 47] ++ f.1) L2 = some e ∧ e.now = f.2
theorem put_step {L : Kv Ent} (hI : Iv L) {p : Pck} (hok : aok p = true) (hp : Pg p) {tk : List UInt8 → Bool} (hc : Clr L p.o.n tk p.F (-1) []) : Stp L p tk (putG L p.o.n p.S p.F []) := by
  obtain ⟨hn, hnl⟩ := aok_name hok
  have hnd := aok_nd hok
  have hfr := clr_free hI.sd.s hc
  have hpl : Pl L p.o.n p.S p.F (p.F.map (cmg L p.S)) (putG L p.o.n p.S p.F []) := by
    unfold putG
    rw [cml_nil]
    exact put_pl hI.sd hn p.S ⟨hnd, by simp⟩
  have hlen : (putG L p.o.n p.S p.F []).length ≤ L.length + 60 := by
    unfold putG ptG clL
    have hl := aok_len hok
    have h1 := lays_all (n := p.o.n) (SS := p.S) hI.sd.s hI.gd (by omega) (p.F.zip (cml L p.S p.F [])).reverse (fun x hx => aok_file hok hp (List.of_mem_zip (List.mem_reverse.1 hx)).1)
    have h2 := (csts_all h1.1 p.F (pts ((p.F.zip (cml L p.S p.F [])).reverse.foldl (layF p.o.n p.S) L) p.o.n)).2.2
    have h3 : (p.F.zip (cml L p.S p.F [])).reverse.length ≤ 20 := by rw [List.length_reverse, List.length_zip]; omega
    have h4 := h1.2.2.2
    omega
  generalize putG L p.o.n p.S p.F [] = L2 at hpl hlen ⊢
  have hfr2 := Pl.free hI.sd.s hpl hfr
  refine ⟨hpl.iv hI hfr hn (by omega) (fun f hf => (aok_file hok hp hf).2) (fun f hf => ⟨_, zip_mem hf, rfl⟩), hlen, fun i m h => free_clr hpl.sd.s hfr2 h, put_again hpl hn hnd, fun f hf => ?_, fun f hf hs => ?_⟩
  · rw [ent_lk (hpl.fo f hf)]
  · have h1 := hpl.fd _ (zip_mem (L := L) (SS := p.S) hf)
    dsimp only at h1
    have h2 : cmg L p.S f = true := by
      unfold cmg
      rw [if_neg]
      rw [List.contains_iff_mem]
      exact hs
    rw [if_pos h2] at h1
    exact ⟨_, h1, rfl⟩
/-- What a number picks. -/
def pkf (x y : Int) : Int := if 0 ≤ x then x % y else (IntKind.u64.wrap x).tmod y
set_option maxRecDepth 100000 in
theorem pick_fn (x y : Int) (w : World) (hx : -9223372036854775808 ≤ x) (hx' : x ≤ 9223372036854775807) (hy : 0 < y) (hy' : y ≤ 9223372036854775807) : Calls Tryz.prog 26 #[.int .i64 x, .int .i64 y] w fun e w' => e = .returned (.int .i64 (pkf x y)) ∧ w' = w := by
  have e2 : ∀ z : Int, wrap64 (z % y) = z % y := fun z => by
    have h1 := Int.emod_nonneg z (show y ≠ 0 by omega)
    have h2 := Int.emod_lt_of_pos z hy
    unfold wrap64
    omega
  by_cases h0 : 0 ≤ x
  · have e1 := e2 x
    have hp : pkf x y = x % y := if_pos h0
    rw [hp]
    clear hp
    go_enter Tryz.func26, Tryz.ntmps26
    go_wp2
    go_ret
    exact ⟨by simp [e1], rfl⟩
  · have hw : 0 ≤ IntKind.u64.wrap x := by unfold IntKind.wrap; simp [IntKind.signed, IntKind.bits]; omega
    have h1 := Int.tmod_nonneg y hw
    have h2 := Int.tmod_lt_of_pos (IntKind.u64.wrap x) hy
    have e1 : wrap64 ((IntKind.u64.wrap x).tmod y) = (IntKind.u64.wrap x).tmod y := by unfold wrap64; omega
    have hp : pkf x y = (IntKind.u64.wrap x).tmod y := if_neg h0
    rw [hp]
    clear h1 h2 hw hp
    go_enter Tryz.func26, Tryz.ntmps26
    go_wp2
    go_ret
    exact ⟨by simp, rfl⟩
theorem pkf_nat (x : Int) (y : Nat) (hy : 0 < y) : ∃ r : Nat, r < y ∧ pkf x y = r := by
  unfold pkf
  split
  · have h1 := Int.emod_nonneg x (show (y : Int) ≠ 0 by omega)
    have h2 := Int.emod_lt_of_pos x (show (0 : Int) < y by omega)
    exact ⟨(x % y).toNat, by omega, by omega⟩
  · have hw : 0 ≤ IntKind.u64.wrap x := by unfold IntKind.wrap; simp [IntKind.signed, IntKind.bits]; omega
    have h1 := Int.tmod_nonneg (y : Int) hw
    have h2 := Int.tmod_lt_of_pos (IntKind.u64.wrap x) (show (0 : Int) < y by omega)
    exact ⟨((IntKind.u64.wrap x).tmod y).toNat, by omega, by omega⟩
/-- Packages in a row. -/
structure PR (W : World) (v : Value) (l : List Pck) : Prop where
  is : (l = [] ∧ ∃ A c, v = .slice A 0 c) ∨ ∃ b o c, v = .slice (some ⟨b, o, none⟩) l.length c ∧ l.length ≤ c ∧ b < W.heap.size ∧ ∀ i (hi : i < l.length), ∃ vD vA vG vB vR vP vS vL vF, Pc W b (o + i * 13) l[i] vD vA vG vB vR vP vS vL vF ∧ Pz W l[i] vD vA vG vB vR vP vS vL vF
/-- Numbers in a row. -/
structure IR (W : World) (v : Value) (l : List Int) : Prop where
  is : (l = [] ∧ ∃ A c, v = .slice A 0 c) ∨ ∃ b o c, v = .slice (some ⟨b, o, none⟩) l.length c ∧ l.length ≤ c ∧ b < W.heap.size ∧ ∀ i (hi : i < l.length), W.cell? ⟨b, o + i, none⟩ = some (.int .i64 l[i])
set_option maxRecDepth 100000 in
theorem tk22 (b : Nat) (y : Bool) (m : List UInt8) (W : World) (h : W.cell? ⟨b, 0, none⟩ = some (.bool y)) : Calls Tryz.prog 22 #[.string ⟨m.toArray⟩, .pointer (some ⟨b, 0, none⟩)] W fun e w' => e = .returned (.bool y) ∧ Below W.heap.size W w' := by
  have hl : b < W.heap.size := block_lt_of_cell h
  go_enter Tryz.func22, Tryz.ntmps22
  go_wp2
  go_ret
  exact ⟨rfl, Below.refl _ _⟩
theorem may22 (b : Nat) (y : Bool) (m : List UInt8) (W : World) (h : W.cell? ⟨b, 0, none⟩ = some (.bool y)) : Calls Tryz.prog 46 #[.func (.func 22) #[] #[.pointer (some ⟨b, 0, none⟩)], .string ⟨m.toArray⟩] W fun e w' => e = .returned (.bool y) ∧ Below W.heap.size W w' :=
  may_any 22 (enters_of Tryz.func22 (by kernel_rfl) rfl) (.pointer (some ⟨b, 0, none⟩)) m y W fun V hV => tk22 b y m V ((hV.cell (p := ⟨b, 0, none⟩) (block_lt_of_cell h)).trans h)
theorem pc_range {W : World} {b o : Nat} {p : Pck} {vD vA vG vB vR vP vS vL vF : Value} (h : Pc W b o p vD vA vG vB vR vP vS vL vF) : W.rangeAt b o [.string ⟨p.o.n.toArray⟩, .int .i64 p.o.e, .string ⟨p.o.u.toArray⟩, .string ⟨p.o.r.toArray⟩, vD, vA, vG, vB, vR, vP, vS, vL, vF] := fun j v hj =>
  match j, hj with
  | 0, e => by cases e; exact h.c0
  | 1, e => by cases e; exact h.c1
  | 2, e => by cases e; exact h.c2
  | 3, e => by cases e; exact h.c3
  | 4, e => by cases e; exact h.c4
  | 5, e => by cases e; exact h.c5
  | 6, e => by cases e; exact h.c6
  | 7, e => by cases e; exact h.c7
  | 8, e => by cases e; exact h.c8
  | 9, e => by cases e; exact h.c9
  | 10, e => by cases e; exact h.c10
  | 11, e => by cases e; exact h.c11
  | 12, e => by cases e; exact h.c12
  | j + 13, e => by simp at e
theorem wpList_load_midg {ops : Array Oper} {rest : List Oper} {op : Oper} {a : Act} {w : World} {Q : Exit → Act → World → Prop} (hw : Region.wanted op (yielded ops a.tmps) = true) (ty : TypeId) (x : Operand) (ho : op.op = .load ty x)
    (b o : Nat) (hx : a.eval x = .pointer (some ⟨b, o, none⟩)) (cs : List Value) (d : TypeDesc) (hc : w.rangeAt b o cs)
    (hu : Tryz.prog.underlying ty = some d) (hd : d.isRow = true) (hi : (Tryz.prog.info? ty).map (·.size) = some cs.length)
    (h : wpList Tryz.prog ops Q rest (a.put op.dst (.agg cs.toArray)) w) : wpList Tryz.prog ops Q (op :: rest) a w :=
  BigFrame.wpList_want hw fun _ hK => wp_load_mid ty x ho b o hx cs d hc hu hd hi (hK _ _ h)
theorem may_up {b : Nat} {y : Bool} {V1 Y V : World} (h : V1.cell? ⟨b, 0, none⟩ = some (.bool y)) (hY : Below V1.heap.size V1 Y) (m : List UInt8) (hV : Below Y.heap.size Y V) : Calls Tryz.prog 46 #[.func (.func 22) #[] #[.pointer (some ⟨b, 0, none⟩)], .string ⟨m.toArray⟩] V fun e w' => e = .returned (.bool y) ∧ Below V.heap.size V w' := by
  refine may22 b y m V ?_
  have hb := hY.trans (hV.mono hY.size)
  exact (hb.cell (p := ⟨b, 0, none⟩) (block_lt_of_cell h)).trans h
end Go.Proofs.YtlldfmnoidndmaaGreatDoor.Dsk
