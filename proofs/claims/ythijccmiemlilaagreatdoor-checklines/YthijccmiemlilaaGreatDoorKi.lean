/- The walks of the closure of Configure, and of Configure. -/
import Derived.Test.YthijccmiemlilaaGreatDoorKh
import Derived.Deep.OwnRows
namespace Go.Proofs.YthijccmiemlilaaGreatDoor
open Go.RowKit Go.Sort

/-- Numbers in a row, a slice of them. -/
structure Ir (W : World) (b o : Nat) (l : List Int) : Prop where
  lt : b < W.heap.size
  c : ∀ i (hi : i < l.length), W.cell? ⟨b, o + i, none⟩ = some (.int .i64 l[i])
structure Is (W : World) (v : Value) (l : List Int) : Prop where
  is : (l = [] ∧ ∃ A c, v = .slice A 0 c) ∨ ∃ b o c, v = .slice (some ⟨b, o, none⟩) l.length c ∧ Ir W b o l
theorem Is.on {W w' : World} {v : Value} {l : List Int} (h : Is W v l) (k : Below W.heap.size W w') : Is w' v l := by
  rcases h.is with h | ⟨b, o, c, h1, h3⟩
  · exact ⟨Or.inl h⟩
  · exact ⟨Or.inr ⟨b, o, c, h1, Nat.lt_of_lt_of_le h3.lt k.size, fun i hi => by rw [k.cell (p := ⟨b, _, none⟩) h3.lt]; exact h3.c i hi⟩⟩
theorem Is.sl {W : World} {v : Value} {l : List Int} (h : Is W v l) : ∃ A c, v = .slice A l.length c := by
  rcases h.is with ⟨rfl, A, c, rfl⟩ | ⟨b, o, c, rfl, _⟩
  · exact ⟨A, c, rfl⟩
  · exact ⟨_, c, rfl⟩
theorem Is.at' {W : World} {A : Option Addr} {n c : Nat} {l : List Int} (h : Is W (.slice A n c) l) (k : Nat) (hk : k < l.length) : ∃ b o, A = some ⟨b, o, none⟩ ∧ W.cell? ⟨b, o + k, none⟩ = some (.int .i64 l[k]) := by
  rcases h.is with ⟨rfl, _⟩ | ⟨b, o, c', e, hf⟩
  · simp at hk
  · cases e; exact ⟨b, o, rfl, hf.c k hk⟩
theorem info4 : (Tryz.prog.info? 4).map (fun i => (i.zero, i.size, i.bytes)) = some (some (.bool false), 1, 1) := by kernel_rfl
theorem mk92 (n : Nat) (hn : n ≤ 1000) (W : World) : (Instr.makeSlice 92 (.int .i64 (n : Int)) (.int .i64 (n : Int))).run Tryz.prog W = .ok (.slice (some ⟨W.heap.size, 0, none⟩) n n) (W.alloc (.cells (madeCells #[.bool false] n) 4)) :=
  run_make_row' 92 4 (.bool false) 1 Tryz.underlying92 info4 rfl .i64 .i64 n (by omega) (by omega) W
theorem wpList_mk {P : Program} {W W' : World} {t : TypeId} {n : Nat} {v : Value} (hrun : (Instr.makeSlice t (.int .i64 (n : Int)) (.int .i64 (n : Int))).run P W = .ok v W') {ops : Array Oper} {rest : List Oper} {o : Oper} {a : Act} {Q : Exit → Act → World → Prop} (hg : o.guard = none) (x y : Operand) (hop : o.op = Op.makeSlice t x y) (hx : a.eval x = .int .i64 n) (hy : a.eval y = .int .i64 n) (K : wpList P ops Q rest (a.put o.dst v) W') : wpList P ops Q (o :: rest) a W := by
  refine wpList_plain hg fun K hK' => ?_
  unfold Oper.wp
  simp [execOp, hop, hx, hy, hrun, Result.andThen]
  exact hK' _ _ (by assumption)
set_option maxHeartbeats 3200000 in
set_option maxRecDepth 100000 in
theorem clo41 (l : List Kn) (ab : Nat → Bool) (n a a' g b o c : Nat) (w : World) (hn : n < l.length) (ha : w.cell? ⟨a, 0, none⟩ = some (.slice (some ⟨g, 0, none⟩) l.length l.length)) (hr : w.rowIs g 4 l.length (fun j => .bool (ab j))) (ha' : w.cell? ⟨a', 0, none⟩ = some (.slice (some ⟨b, o, none⟩) l.length c)) (hl : Kl w b o l) :
    Calls Tryz.prog 41 #[.int .i64 n, .pointer (some ⟨a, 0, none⟩), .pointer (some ⟨a', 0, none⟩)] w fun e w' => e = .returned (.bool (ab n || wk (l.getD n default))) ∧ Below w.heap.size w w' := by
  obtain ⟨vW, vT, vD, vA, vG, vB, vR, vP, vS, vL, vF, kc, kz⟩ := hl.c n hn
  obtain ⟨⟨a1, a2, a3, rfl⟩, ⟨b1, b2, b3, rfl⟩, ⟨c1, c2, c3, rfl⟩, ⟨d1, d2, d3, rfl⟩, ⟨e1, e2, e3, rfl⟩, ⟨f1, f2, f3, rfl⟩, ⟨g1, g2, g3, rfl⟩, ⟨i1, i2, i3, rfl⟩, ⟨j1, j2, j3, rfl⟩, ⟨l1, l2, l3, rfl⟩, ⟨m1, m2, m3, rfl⟩⟩ := kz.k11
  have hra := kc.range
  have hc := hr.cell hn
  rw [show l.getD n default = l[n] from by simp [List.getD, hn]]
  have HC := Lib.hid (fun W => works_any l[n] (.slice a1 a2 a3) (.slice b1 b2 b3) (.slice c1 c2 c3) (.slice d1 d2 d3) (.slice e1 e2 e3) (.slice f1 f2 f3) (.slice g1 g2 g3) (.slice i1 i2 i3) (.slice j1 j2 j3) (.slice l1 l2 l3) (.slice m1 m2 m3) W kz.k11)
  generalize l[n] = x at hra HC ⊢
  clear kc kz hr
  cases hab : ab n with
  | true =>
    rw [hab] at hc
    clear hab
    go_enter Tryz.func41, Tryz.ntmps41
    go_wp2_with fail
    go_ret
    exact ⟨rfl, Below.refl _ _⟩
  | false =>
    rw [hab] at hc
    rw [Bool.false_or]
    generalize wk x = y at HC ⊢
    clear hab
    go_enter Tryz.func41, Tryz.ntmps41
    go_upto_region 1 with fail
    refine wp_region_lit ?_
    refine wpList_plain rfl fun K hK => ?_
    unfold Oper.wp
    simp [go_sem, ha]
    refine hK _ _ ?_
    clear hK K
    refine wpList_plain rfl fun K hK => ?_
    unfold Oper.wp
    simp [go_sem]
    refine hK _ _ ?_
    clear hK K
    refine wpList_plain rfl fun K hK => ?_
    unfold Oper.wp
    simp [go_sem, hn]
    refine hK _ _ ?_
    clear hK K
    refine wpList_plain rfl fun K hK => ?_
    unfold Oper.wp
    simp [go_sem, hc]
    refine hK _ _ ?_
    clear hK K
    refine wpList_plain rfl fun K hK => ?_
    unfold Oper.wp
    simp [go_sem]
    refine hK _ _ ?_
    clear hK K
    refine BigFrame.wpList_want (by kernel_rfl) fun K hK => ?_
    unfold Oper.wp
    simp [go_sem, ha']
    refine hK _ _ ?_
    clear hK K
    refine BigFrame.wpList_want (by kernel_rfl) fun K hK => ?_
    unfold Oper.wp
    simp [go_sem]
    refine hK _ _ ?_
    clear hK K
    refine BigFrame.wpList_want (by kernel_rfl) fun K hK => ?_
    unfold Oper.wp
    simp [go_sem, hn]
    refine hK _ _ ?_
    clear hK K
    refine wpList_load_midg (by kernel_rfl) 60 _ rfl b (o + n * 20) rfl _ _ hra Tryz.underlying60 rfl (by kernel_rfl) ?_
    go_frame
    go_wp2_with fail
    refine (HC.out _).mono ?_
    rintro z w1 ⟨rfl, b1⟩
    go_wp2_with fail
    go_ret
    exact ⟨rfl, b1⟩
/-- Who is about to; whom Configure counts; what it tells. -/
def abt (l : List Kn) (ws : List Int) (j : Nat) : Bool := ws.contains (j : Int) && ms (l.getD j default)
def cff (l : List Kn) (ws : List Int) (j : Nat) : Bool := abt l ws j || wk (l.getD j default)
def cfE (l : List Kn) (m : Int) (ws : List Int) : Int × Int := if m < 0 ∨ (l.length : Int) ≤ m then (2, -1) else if ms (l.getD m.toNat default) then msE (met ((sel l (cff l ws) l.length).map (·.p.o)) (l.getD m.toNat default).p.D) else (6, -1)
theorem abt_nil (l : List Kn) (j : Nat) : abt l [] j = false := rfl
theorem abt_up (l : List Kn) (ws : List Int) (x : Int) (j : Nat) : abt l (ws ++ [x]) j = if (j : Int) = x then ms (l.getD j default) else abt l ws j := by
  unfold abt
  by_cases h : (j : Int) = x
  · rw [if_pos h]
    have : (ws ++ [x]).contains (j : Int) = true := by simp [h]
    rw [this, Bool.true_and]
  · rw [if_neg h]
    have : (ws ++ [x]).contains (j : Int) = ws.contains (j : Int) := by
      rw [Bool.eq_iff_iff]; simp [h]
    rw [this]
end Go.Proofs.YthijccmiemlilaaGreatDoor
