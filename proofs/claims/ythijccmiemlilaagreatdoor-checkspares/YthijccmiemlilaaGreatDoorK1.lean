/- Errors; the walks of missing, and of the closures of Unpack and Configure. -/
import Derived.Test.YthijccmiemlilaaGreatDoorKf
import Derived.Test.YthijccmiemlilaaGreatDoorA5
import Derived.BigFrame
import Derived.Deep.OwnRows
namespace Go.Proofs.YthijccmiemlilaaGreatDoor
open Go.RowKit Go.Sort

/-- An error: its number, and its place (-1: none). -/
structure ErrIs (W : World) (v : Value) (c pl : Int) : Prop where
  is : (c = 0 ∧ pl = -1 ∧ v = .nilIface) ∨ (pl = -1 ∧ v = .iface 40 (.int .i64 c)) ∨ ∃ b, v = .iface 84 (.pointer (some ⟨b, 0, none⟩)) ∧ W.cell? ⟨b, 0, none⟩ = some (.int .i64 c) ∧ W.cell? ⟨b, 1, none⟩ = some (.int .i64 pl)
theorem ErrIs.on {W W' : World} {v : Value} {c pl : Int} (h : ErrIs W v c pl) (k : Below W.heap.size W W') : ErrIs W' v c pl := by
  rcases h.is with h | h | ⟨b, h1, h2, h3⟩
  · exact ⟨.inl h⟩
  · exact ⟨.inr (.inl h)⟩
  · exact ⟨.inr (.inr ⟨b, h1, by rw [k.cell (block_lt_of_cell h2)]; exact h2, by rw [k.cell (block_lt_of_cell h3)]; exact h3⟩)⟩
theorem isE_any {v : Value} {c pl : Int} (w : World) (h : ErrIs w v c pl) (hE : ErrT w) : Calls Tryz.prog 8 #[v, .agg #[.int .i64 c, .int .i64 pl]] w fun x w' => x = .returned (.bool true) ∧ Below w.heap.size w w' := by
  rcases h.is with ⟨rfl, rfl, rfl⟩ | ⟨rfl, rfl⟩ | ⟨b, rfl, h2, h3⟩
  · exact is_nil w
  · exact is_errno c w hE
  · exact is_at c pl b w hE h2 h3
/-- What is told of what is missing. -/
def msE (r : Int × Bool) : Int × Int := if r.2 then (0, -1) else (7, r.1)
/-- An error that is told, or none. -/
structure MsV (W : World) (r : Int × Bool) (v : Value) : Prop where
  is : (r.2 = true ∧ v = .nilIface) ∨ (r.2 = false ∧ ∃ b, v = .iface 84 (.pointer (some ⟨b, 0, none⟩)) ∧ W.cell? ⟨b, 0, none⟩ = some (.int .i64 7) ∧ W.cell? ⟨b, 1, none⟩ = some (.int .i64 r.1))
theorem MsV.err {W : World} {r : Int × Bool} {v : Value} (h : MsV W r v) : ErrIs W v (msE r).1 (msE r).2 := by
  unfold msE
  rcases h.is with ⟨h1, rfl⟩ | ⟨h1, b, rfl, h2, h3⟩
  · rw [if_pos h1]; exact ⟨.inl ⟨rfl, rfl, rfl⟩⟩
  · rw [if_neg (by rw [h1]; simp)]; exact ⟨.inr (.inr ⟨b, rfl, h2, h3⟩)⟩
set_option maxHeartbeats 1600000 in
set_option maxRecDepth 100000 in
theorem missing_any (v vO : Value) (l : List (List Tm)) (O : List Ofr) (w : World) (hl : As w v l) (hn : l.length ≤ 1000) (hv : Os' w vO O) (hO : ∀ o ∈ O, Oh o) (hk : O.length ≤ 1000) (hS : ∀ x ∈ l, x.length ≤ 40 ∧ ∀ t ∈ x, Sh t) :
    Calls Tryz.prog 32 #[v, vO] w fun e w' => ∃ z, e = .returned z ∧ MsV w' (met O l) z ∧ Below w.heap.size w w' := by
  have cM := met_any v vO l O w hl hn hv hO hk hS
  obtain ⟨A1, n1, rfl⟩ := hl.sl
  obtain ⟨A2, n2, rfl⟩ := hv.sl
  generalize met O l = r at cM ⊢
  clear hl hv hO hS
  go_enter Tryz.func32, Tryz.ntmps32
  go_wp2_with fail
  refine cM.mono ?_
  rintro x w1 ⟨rfl, b1⟩
  obtain ⟨r1, r2⟩ := r
  have hbn := bon b1 (b1c w1 (.cells #[.int .i64 7, .int .i64 r1] 85))
  cases r2 with
  | true =>
    go_wp2_with fail
    go_ret
    exact ⟨_, rfl, ⟨.inl ⟨rfl, rfl⟩⟩, b1⟩
  | false =>
    go_wp2_with fail
    go_ret
    exact ⟨_, rfl, ⟨.inr ⟨rfl, w1.heap.size, rfl, by simp, by simp⟩⟩, hbn⟩
/-- Whom Unpack counts. -/
def uf (l : List Kn) (p : Pck) (i : Nat) : Bool := !((l.getD i default).p.o.n == p.o.n) && wk (l.getD i default)
set_option maxHeartbeats 3200000 in
set_option maxRecDepth 100000 in
theorem clo30 (l : List Kn) (p : Pck) (n a g b o c : Nat) (w : World) (hn : n < l.length) (ha : w.cell? ⟨a, 0, none⟩ = some (.slice (some ⟨b, o, none⟩) l.length c)) (hl : Kl w b o l) (hg : w.cell? ⟨g, 0, none⟩ = some (.string ⟨p.o.n.toArray⟩)) :
    Calls Tryz.prog 30 #[.int .i64 n, .pointer (some ⟨a, 0, none⟩), .pointer (some ⟨g, 0, none⟩)] w fun e w' => e = .returned (.bool (uf l p n)) ∧ Below w.heap.size w w' := by
  obtain ⟨vW, vT, vD, vA, vG, vB, vR, vP, vS, vL, vF, kc, kz⟩ := hl.c n hn
  obtain ⟨⟨a1, a2, a3, rfl⟩, ⟨b1, b2, b3, rfl⟩, ⟨c1, c2, c3, rfl⟩, ⟨d1, d2, d3, rfl⟩, ⟨e1, e2, e3, rfl⟩, ⟨f1, f2, f3, rfl⟩, ⟨g1, g2, g3, rfl⟩, ⟨i1, i2, i3, rfl⟩, ⟨j1, j2, j3, rfl⟩, ⟨l1, l2, l3, rfl⟩, ⟨m1, m2, m3, rfl⟩⟩ := kz.k11
  have hra := kc.range
  have k7 := kc.c7
  have hbl : b < w.heap.size := hl.lt
  have hal : a < w.heap.size := block_lt_of_cell ha
  have hgl : g < w.heap.size := block_lt_of_cell hg
  have hS : Below w.heap.size w w.drew := (Below.refl _ _).drew
  have HC := Lib.hid (fun W => works_any l[n] (.slice a1 a2 a3) (.slice b1 b2 b3) (.slice c1 c2 c3) (.slice d1 d2 d3) (.slice e1 e2 e3) (.slice f1 f2 f3) (.slice g1 g2 g3) (.slice i1 i2 i3) (.slice j1 j2 j3) (.slice l1 l2 l3) (.slice m1 m2 m3) W kz.k11)
  obtain ⟨r, hr⟩ : ∃ r, r = uf l p n := ⟨_, rfl⟩
  rw [← hr]
  have hr2 : r = (!(l[n].p.o.n == p.o.n) && wk l[n]) := by rw [hr]; unfold uf; simp [List.getD, hn]
  clear hr kc kz
  generalize l[n] = x at hra k7 HC hr2
  cases hq : (x.p.o.n == p.o.n) with
  | true =>
    have HR : Hid (r = false) := by show _ = _; rw [hr2, hq]; rfl
    clear hr2 HC
    go_enter Tryz.func30, Tryz.ntmps30
    go_upto_region 1 with fail
    refine wp_region_held (S := fun V => Below w.heap.size w V) (by kernel_rfl) ?_
    refine take_d (some 5) (i := 0) (v := .slice (some ⟨b, o, none⟩) l.length c) rfl rfl (by kernel_rfl) (by kernel_rfl) (by kernel_rfl) (fun _ _ _ h => h) (.inl ⟨by kernel_rfl, fun w' hw => by simp [go_sem, (hw.cell (p := ⟨a, 0, none⟩) hal).trans ha]⟩) hS ?_
    refine take_d (some 6) (i := 1) (v := .int .i64 n) rfl rfl (by kernel_rfl) (by kernel_rfl) (by kernel_rfl) (fun _ _ _ h => h) (.inl ⟨by kernel_rfl, fun w' hw => by simp [go_sem]⟩) hS ?_
    refine take_d (some 7) (i := 2) (v := .pointer (some ⟨b, o + n * 20, none⟩)) rfl rfl (by kernel_rfl) (by kernel_rfl) (by kernel_rfl) (fun _ _ _ h => h) (.inl ⟨by kernel_rfl, fun w' hw => by simp [go_sem, hn]⟩) hS ?_
    refine take_d (some 8) (i := 3) (v := .pointer (some ⟨b, o + n * 20 + 7, none⟩)) rfl rfl (by kernel_rfl) (by kernel_rfl) (by kernel_rfl) (fun _ _ _ h => h) (.inl ⟨by kernel_rfl, fun w' hw => by simp [go_sem]⟩) hS ?_
    refine take_d (some 9) (i := 4) (v := .pointer (some ⟨b, o + n * 20 + 7, none⟩)) rfl rfl (by kernel_rfl) (by kernel_rfl) (by kernel_rfl) (fun _ _ _ h => h) (.inl ⟨by kernel_rfl, fun w' hw => by simp [go_sem]⟩) hS ?_
    refine take_d (some 10) (i := 5) (v := .string ⟨x.p.o.n.toArray⟩) rfl rfl (by kernel_rfl) (by kernel_rfl) (by kernel_rfl) (fun _ _ _ h => h) (.inl ⟨by kernel_rfl, fun w' hw => by simp [go_sem, (hw.cell (p := ⟨b, o + n * 20 + 7, none⟩) hbl).trans k7]⟩) hS ?_
    refine take_d (some 11) (i := 6) (v := .pointer (some ⟨g, 0, none⟩)) rfl rfl (by kernel_rfl) (by kernel_rfl) (by kernel_rfl) (fun _ _ _ h => h) (.inl ⟨by kernel_rfl, fun w' hw => by simp [go_sem]⟩) hS ?_
    refine take_d (some 12) (i := 7) (v := .string ⟨p.o.n.toArray⟩) rfl rfl (by kernel_rfl) (by kernel_rfl) (by kernel_rfl) (fun _ _ _ h => h) (.inl ⟨by kernel_rfl, fun w' hw => by simp [go_sem, (hw.cell (p := ⟨g, 0, none⟩) hgl).trans hg]⟩) hS ?_
    refine take_d (some 13) (i := 8) (v := .bool false) rfl rfl (by kernel_rfl) (by kernel_rfl) (by kernel_rfl) (fun _ _ _ h => h) (.inl ⟨by kernel_rfl, fun w' hw => by simp [go_sem, hq]⟩) hS ?_
    refine take_d (some 14) (i := 9) (v := .bool false) rfl rfl (by kernel_rfl) (by kernel_rfl) (by kernel_rfl) (fun _ _ _ h => h) (.inl ⟨by kernel_rfl, fun w' hw => by simp [go_sem]⟩) hS ?_
    refine take_d (some 15) (i := 10) (v := undef) rfl rfl (by kernel_rfl) (by kernel_rfl) (by kernel_rfl) (fun _ _ _ h => h) (.inr ⟨by kernel_rfl, rfl⟩) hS ?_
    refine take_d (some 16) (i := 11) (v := undef) rfl rfl (by kernel_rfl) (by kernel_rfl) (by kernel_rfl) (fun _ _ _ h => h) (.inr ⟨by kernel_rfl, rfl⟩) hS ?_
    refine take_d (some 17) (i := 12) (v := undef) rfl rfl (by kernel_rfl) (by kernel_rfl) (by kernel_rfl) (fun _ _ _ h => h) (.inr ⟨by kernel_rfl, rfl⟩) hS ?_
    refine take_d (some 18) (i := 13) (v := undef) rfl rfl (by kernel_rfl) (by kernel_rfl) (by kernel_rfl) (fun _ _ _ h => h) (.inr ⟨by kernel_rfl, rfl⟩) hS ?_
    refine take_d (some 19) (i := 14) (v := undef) rfl rfl (by kernel_rfl) (by kernel_rfl) (by kernel_rfl) (fun _ _ _ h => h) (.inr ⟨by kernel_rfl, rfl⟩) hS ?_
    refine take_d (some 20) (i := 15) (v := .bool false) rfl rfl (by kernel_rfl) (by kernel_rfl) (by kernel_rfl) (fun _ _ _ h => h) (.inl ⟨by kernel_rfl, fun w' hw => by simp [go_sem]⟩) hS ?_
    refine take_d (some 4) (i := 16) (v := .bool false) rfl rfl (by kernel_rfl) (by kernel_rfl) (by kernel_rfl) (fun _ _ _ h => h) (.inl ⟨by kernel_rfl, fun w' hw => by simp [go_sem]⟩) hS ?_
    refine wpAnyH_done (by kernel_rfl) ?_ _
    simp only [Act.put, List.setIfInBounds_toArray, List.set_cons_succ, List.set_cons_zero]
    go_wp2_with fail
    go_ret
    exact ⟨ret_bool HR.out.symm, hS⟩
  | false =>
    obtain ⟨y, hy⟩ : ∃ y, wk x = y := ⟨_, rfl⟩
    have HR : Hid (r = y) := by show _ = _; rw [hr2, hq, hy]; rfl
    rw [hy] at HC
    clear hr2 hy
    go_enter Tryz.func30, Tryz.ntmps30
    go_upto_region 1 with fail
    refine wp_region_held (S := fun V => Below w.heap.size w V) (by kernel_rfl) ?_
    refine take_d (some 5) (i := 0) (v := .slice (some ⟨b, o, none⟩) l.length c) rfl rfl (by kernel_rfl) (by kernel_rfl) (by kernel_rfl) (fun _ _ _ h => h) (.inl ⟨by kernel_rfl, fun w' hw => by simp [go_sem, (hw.cell (p := ⟨a, 0, none⟩) hal).trans ha]⟩) hS ?_
    refine take_d (some 6) (i := 1) (v := .int .i64 n) rfl rfl (by kernel_rfl) (by kernel_rfl) (by kernel_rfl) (fun _ _ _ h => h) (.inl ⟨by kernel_rfl, fun w' hw => by simp [go_sem]⟩) hS ?_
    refine take_d (some 7) (i := 2) (v := .pointer (some ⟨b, o + n * 20, none⟩)) rfl rfl (by kernel_rfl) (by kernel_rfl) (by kernel_rfl) (fun _ _ _ h => h) (.inl ⟨by kernel_rfl, fun w' hw => by simp [go_sem, hn]⟩) hS ?_
    refine take_d (some 8) (i := 3) (v := .pointer (some ⟨b, o + n * 20 + 7, none⟩)) rfl rfl (by kernel_rfl) (by kernel_rfl) (by kernel_rfl) (fun _ _ _ h => h) (.inl ⟨by kernel_rfl, fun w' hw => by simp [go_sem]⟩) hS ?_
    refine take_d (some 9) (i := 4) (v := .pointer (some ⟨b, o + n * 20 + 7, none⟩)) rfl rfl (by kernel_rfl) (by kernel_rfl) (by kernel_rfl) (fun _ _ _ h => h) (.inl ⟨by kernel_rfl, fun w' hw => by simp [go_sem]⟩) hS ?_
    refine take_d (some 10) (i := 5) (v := .string ⟨x.p.o.n.toArray⟩) rfl rfl (by kernel_rfl) (by kernel_rfl) (by kernel_rfl) (fun _ _ _ h => h) (.inl ⟨by kernel_rfl, fun w' hw => by simp [go_sem, (hw.cell (p := ⟨b, o + n * 20 + 7, none⟩) hbl).trans k7]⟩) hS ?_
    refine take_d (some 11) (i := 6) (v := .pointer (some ⟨g, 0, none⟩)) rfl rfl (by kernel_rfl) (by kernel_rfl) (by kernel_rfl) (fun _ _ _ h => h) (.inl ⟨by kernel_rfl, fun w' hw => by simp [go_sem]⟩) hS ?_
    refine take_d (some 12) (i := 7) (v := .string ⟨p.o.n.toArray⟩) rfl rfl (by kernel_rfl) (by kernel_rfl) (by kernel_rfl) (fun _ _ _ h => h) (.inl ⟨by kernel_rfl, fun w' hw => by simp [go_sem, (hw.cell (p := ⟨g, 0, none⟩) hgl).trans hg]⟩) hS ?_
    refine take_d (some 13) (i := 8) (v := .bool true) rfl rfl (by kernel_rfl) (by kernel_rfl) (by kernel_rfl) (fun _ _ _ h => h) (.inl ⟨by kernel_rfl, fun w' hw => by simp [go_sem, hq]⟩) hS ?_
    refine take_d (some 14) (i := 9) (v := .bool true) rfl rfl (by kernel_rfl) (by kernel_rfl) (by kernel_rfl) (fun _ _ _ h => h) (.inl ⟨by kernel_rfl, fun w' hw => by simp [go_sem]⟩) hS ?_
    refine take_d (some 15) (i := 10) (v := .slice (some ⟨b, o, none⟩) l.length c) rfl rfl (by kernel_rfl) (by kernel_rfl) (by kernel_rfl) (fun _ _ _ h => h) (.inl ⟨by kernel_rfl, fun w' hw => by simp [go_sem, (hw.cell (p := ⟨a, 0, none⟩) hal).trans ha]⟩) hS ?_
    refine take_d (some 16) (i := 11) (v := .int .i64 n) rfl rfl (by kernel_rfl) (by kernel_rfl) (by kernel_rfl) (fun _ _ _ h => h) (.inl ⟨by kernel_rfl, fun w' hw => by simp [go_sem]⟩) hS ?_
    refine take_d (some 17) (i := 12) (v := .pointer (some ⟨b, o + n * 20, none⟩)) rfl rfl (by kernel_rfl) (by kernel_rfl) (by kernel_rfl) (fun _ _ _ h => h) (.inl ⟨by kernel_rfl, fun w' hw => by simp [go_sem, hn]⟩) hS ?_
    simp only [Act.put, List.setIfInBounds_toArray, List.set_cons_succ, List.set_cons_zero]
    refine take_d (some 18) (i := 13) rfl rfl (by kernel_rfl) (by kernel_rfl) (by kernel_rfl) (fun _ _ _ h => h) (yieldsIf_load_mid (by kernel_rfl) 60 _ rfl b (o + n * 20) rfl _ _ (fun V hV j v hv => by rw [hV.cell (p := ⟨b, o + n * 20 + j, none⟩) hbl]; exact hra j v hv) Tryz.underlying60 rfl (by kernel_rfl)) hS ?_
    simp only [Act.put, List.setIfInBounds_toArray, List.set_cons_succ, List.set_cons_zero]
    refine wpAnyH_all (rs := [14]) (by kernel_rfl) (by simp) fun j hj => ?_
    obtain rfl : j = 14 := by simpa using hj
    refine wpOp_want rfl (by kernel_rfl) ?_
    unfold Oper.wp
    simp [go_sem]
    refine (HC.out _).mono ?_
    rintro z V1 ⟨rfl, bV⟩
    have hS1 := bon hS bV
    refine ⟨hS1, ?_⟩
    refine take_d (some 20) (i := 15) (v := .bool y) rfl rfl (by kernel_rfl) (by kernel_rfl) (by kernel_rfl) (fun _ _ _ h => h) (.inl ⟨by kernel_rfl, fun w' hw => by simp [go_sem]⟩) hS1 ?_
    refine take_d (some 4) (i := 16) (v := .bool y) rfl rfl (by kernel_rfl) (by kernel_rfl) (by kernel_rfl) (fun _ _ _ h => h) (.inl ⟨by kernel_rfl, fun w' hw => by simp [go_sem]⟩) hS1 ?_
    refine wpAnyH_done (by kernel_rfl) ?_ _
    simp only [Act.put, List.setIfInBounds_toArray, List.set_cons_succ, List.set_cons_zero]
    go_wp2_with fail
    go_ret
    exact ⟨ret_bool HR.out.symm, hS1⟩
end Go.Proofs.YthijccmiemlilaaGreatDoor
namespace Go.Proofs.YthijccmiemlilaaGreatDoor
open Go.RowKit Go.Sort

theorem wpList_load_midg {ops : Array Oper} {rest : List Oper} {op : Oper} {a : Act} {w : World} {Q : Exit → Act → World → Prop} (hw : Region.wanted op (yielded ops a.tmps) = true) (ty : TypeId) (x : Operand) (ho : op.op = .load ty x)
    (b o : Nat) (hx : a.eval x = .pointer (some ⟨b, o, none⟩)) (cs : List Value) (d : TypeDesc) (hc : w.rangeAt b o cs)
    (hu : Tryz.prog.underlying ty = some d) (hd : d.isRow = true) (hi : (Tryz.prog.info? ty).map (·.size) = some cs.length)
    (h : wpList Tryz.prog ops Q rest (a.put op.dst (.agg cs.toArray)) w) : wpList Tryz.prog ops Q (op :: rest) a w :=
  BigFrame.wpList_want hw fun _ hK => wp_load_mid ty x ho b o hx cs d hc hu hd hi (hK _ _ h)
/-- Is it held? What is missing? Who may not stand beside it? -/
def hdB (p : Pck) (k : Kn) : Bool := k.p.o.n == p.o.n && k.hd
def upM (l : List Kn) (p : Pck) : Int × Bool := met ((sel l (uf l p) l.length).map (·.p.o)) p.A
def upF (p : Pck) (k : Kn) : Bool := !(k.p.o.n == p.o.n) && hf k && !(bs k p == 0)
def upE (l : List Kn) (p : Pck) : Int × Int := if l.any (hdB p) then (6, -1) else if (upM l p).2 then (match l.findIdx? (upF p) with
  | some i => (bs (l.getD i default) p, (i : Int))
  | none => (0, -1)) else (7, (upM l p).1)
theorem sel_oh {l : List Kn} {f : Nat → Bool} (h : ∀ k ∈ l, Sok k.p) : ∀ o ∈ (sel l f l.length).map (·.p.o), Oh o := fun o ho => by
  obtain ⟨k, hk, rfl⟩ := List.mem_map.1 ho
  unfold sel at hk
  obtain ⟨i, hi, rfl⟩ := List.mem_map.1 hk
  have hi2 := (List.mem_filter.1 hi).1
  rw [List.mem_range] at hi2
  rw [show l.getD i default = l[i] from by simp [List.getD, hi2]]
  exact (h _ (List.getElem_mem hi2)).oh
set_option maxHeartbeats 6400000 in
set_option maxRecDepth 100000 in
theorem unpack_any (v : Value) (l : List Kn) (p : Pck) (uD uA uG uB uR uP uS uL uF : Value) (w : World) (hl : Ks w v l) (hp : Pz w p uD uA uG uB uR uP uS uL uF) (hn : l.length ≤ 1000) (hSo : ∀ k ∈ l, Sok k.p) (hop : Sok p) : Calls Tryz.prog 9 #[v, pkv p.o.n p.o.e p.o.u p.o.r uD uA uG uB uR uP uS uL uF] w fun x w' => ∃ z, x = .returned z ∧ ErrIs w' z (upE l p).1 (upE l p).2 ∧ Below w.heap.size w w' := by
  obtain ⟨A, c, rfl⟩ := hl.sl
  obtain ⟨d4, d5, rfl⟩ := hp.D.sl
  obtain ⟨a4, a5, rfl⟩ := hp.A.sl
  obtain ⟨g4, g5, rfl⟩ := hp.G.sl
  obtain ⟨b4, b5, rfl⟩ := hp.B.sl
  obtain ⟨r4, r5, rfl⟩ := hp.R.sl
  obtain ⟨p4, p5, rfl⟩ := hp.P.sl
  obtain ⟨s4, s5, rfl⟩ := hp.S.sl
  obtain ⟨l4, l5, rfl⟩ := hp.L.sl
  obtain ⟨f4, f5, rfl⟩ := hp.F.sl
  obtain ⟨E, hE⟩ : ∃ E, E = upE l p := ⟨_, rfl⟩
  have HE := Lib.hid hE
  rw [← hE]
  clear hE
  obtain ⟨w2, hw2⟩ : ∃ w2, w2 = (w.alloc (.cells #[.slice A l.length c] 32)).alloc (pko p.o.n p.o.e p.o.u p.o.r (.slice d4 p.D.length d5) (.slice a4 p.A.length a5) (.slice g4 p.G.length g5) (.slice b4 p.B.length b5) (.slice r4 p.R.length r5) (.slice p4 p.o.P.length p5) (.slice s4 p.S.length s5) (.slice l4 p.L.length l5) (.slice f4 p.F.length f5)) := ⟨_, rfl⟩
  have hb2 : Below w.heap.size w w2 := by rw [hw2]; exact b2c _ _ _
  have hPB : Pb w2 (w.heap.size + 1) p (.slice d4 p.D.length d5) (.slice a4 p.A.length a5) (.slice g4 p.G.length g5) (.slice b4 p.B.length b5) (.slice r4 p.R.length r5) (.slice p4 p.o.P.length p5) (.slice s4 p.S.length s5) (.slice l4 p.L.length l5) (.slice f4 p.F.length f5) := by
    have h := pb_new (w.alloc (.cells #[.slice A l.length c] 32)) p (.slice d4 p.D.length d5) (.slice a4 p.A.length a5) (.slice g4 p.G.length g5) (.slice b4 p.B.length b5) (.slice r4 p.R.length r5) (.slice p4 p.o.P.length p5) (.slice s4 p.S.length s5) (.slice l4 p.L.length l5) (.slice f4 p.F.length f5)
    rw [World.size_alloc] at h
    rw [hw2]
    exact h
  have hcA : w2.cell? ⟨w.heap.size, 0, none⟩ = some (.slice A l.length c) := by
    rw [hw2, World.cell?_alloc_lt _ _ ⟨w.heap.size, _, none⟩ (by simp)]
    simp
  have HL := Lib.hid (hl.on hb2)
  have HP := Lib.hid (hp.on hb2)
  have HSo := Lib.hid hSo
  have HOP := Lib.hid hop
  have HB := Lib.hid hb2
  have HPB := Lib.hid hPB
  have HCA := Lib.hid hcA
  clear hl hp hSo hop hb2 hPB hcA
  go_enter Tryz.func9, Tryz.ntmps9
  have q0 := HCA.out
  go_upto_region 1 with fail
  rw [← hw2]
  clear hw2
  go_wp2_with fail
  go_loopw [14] (fun i W => ∃ k : Nat, k ≤ l.length ∧ i = .int .i64 k ∧ Below w2.heap.size w2 W ∧ Hid (∀ j (hj : j < l.length), j < k → hdB p l[j] = false)) (fun i _ => l.length - (intOf i).toNat)
  case atStart => exact ⟨0, Nat.zero_le _, rfl, Below.refl _ _, fun j _ h => absurd h (Nat.not_lt_zero _)⟩
  case round =>
    obtain ⟨k, hk, rfl, hW, HN⟩ := hrel
    clear q0
    by_cases hlt : k < l.length
    · obtain ⟨b, o, rfl, vW, vT, vD, vA, vG, vB, vR, vP, vS, vL, vF, kc, kz⟩ := (HL.out.on hW).at' k hlt
      obtain ⟨⟨a1, a2, a3, rfl⟩, ⟨b1, b2, b3, rfl⟩, ⟨c1, c2, c3, rfl⟩, ⟨d1, d2, d3, rfl⟩, ⟨e1, e2, e3, rfl⟩, ⟨f1, f2, f3, rfl⟩, ⟨g1, g2, g3, rfl⟩, ⟨i1, i2, i3, rfl⟩, ⟨j1, j2, j3, rfl⟩, ⟨l1, l2, l3, rfl⟩, ⟨m1, m2, m3, rfl⟩⟩ := kz.k11
      have hra := kc.range
      obtain ⟨y, hy⟩ : ∃ y, hdB p l[k] = y := ⟨_, rfl⟩
      have HY := Lib.hid hy
      have hy2 : (l[k].p.o.n == p.o.n && l[k].hd) = y := hy
      clear kc kz hy
      generalize l[k] = x at hra hy2
      have hbx := b1c wr (kno 60 x (.slice a1 a2 a3) (.slice b1 b2 b3) (.slice c1 c2 c3) (.slice d1 d2 d3) (.slice e1 e2 e3) (.slice f1 f2 f3) (.slice g1 g2 g3) (.slice i1 i2 i3) (.slice j1 j2 j3) (.slice l1 l2 l3) (.slice m1 m2 m3))
      have hK2 := k20_new wr 60 x (.slice a1 a2 a3) (.slice b1 b2 b3) (.slice c1 c2 c3) (.slice d1 d2 d3) (.slice e1 e2 e3) (.slice f1 f2 f3) (.slice g1 g2 g3) (.slice i1 i2 i3) (.slice j1 j2 j3) (.slice l1 l2 l3) (.slice m1 m2 m3)
      have p0 := (HPB.out.on (bon hW hbx)).c0
      have k4 := hK2.c4
      have k7 := hK2.c7
      have hW1 := bon hW hbx
      clear hK2
      go_upto_region 3 with fail
      refine wp_region_lit ?_
      refine wpList_plain rfl fun K hK => ?_
      unfold Oper.wp
      simp [go_sem, hlt]
      refine hK _ _ ?_
      clear hK K
      refine wpList_load_mid rfl 60 _ rfl b (o + k * 20) rfl _ _ hra Tryz.underlying60 rfl (by kernel_rfl) ?_
      refine wpList_plain rfl fun K hK => ?_
      unfold Oper.wp
      simp [go_sem]
      refine hK _ _ ?_
      clear hK K
      refine wpList_store_new rfl 60 _ _ rfl _ _ rfl rfl (by kernel_rfl) (by rfl) (by first | rfl | simp [Value.oneCell']) ?_
      go_frame
      cases hq : (x.p.o.n == p.o.n) with
      | false =>
        obtain rfl : y = false := by rw [← hy2, hq]; rfl
        have HN1 : Hid (∀ j (hj : j < l.length), j < k + 1 → hdB p l[j] = false) := fun j hj h => by
          by_cases e : j = k
          · subst e; exact HY.out
          · exact HN.out j hj (by omega)
        clear hy2
        go_wp2_with fail
        exact ⟨⟨k + 1, hlt, by go_num, hW1, HN1⟩, by simp [intOf]; omega⟩
      | true =>
        rw [hq, Bool.true_and] at hy2
        rw [hy2] at k4
        cases y with
        | false =>
          have HN1 : Hid (∀ j (hj : j < l.length), j < k + 1 → hdB p l[j] = false) := fun j hj h => by
            by_cases e : j = k
            · subst e; exact HY.out
            · exact HN.out j hj (by omega)
          clear hy2
          go_wp2_with fail
          exact ⟨⟨k + 1, hlt, by go_num, hW1, HN1⟩, by simp [intOf]; omega⟩
        | true =>
          have HG : Hid (E = (6, -1)) := by
            show _ = _
            rw [HE.out]; unfold upE; rw [any_yes k hlt HY.out]; rfl
          clear hy2
          go_wp2_with fail
          go_ret
          exact ⟨_, rfl, ⟨.inr (.inl (by rw [HG.out]; exact ⟨rfl, rfl⟩))⟩, bon HB.out hW1⟩
    · have HH : Hid (l.any (hdB p) = false) := any_no (fun j hj => HN.out j hj (by omega))
      clear HN
      obtain ⟨tA1, tA2⟩ := tla_parts HOP.out.A
      have hlO : ((sel l (uf l p) l.length).map (·.p.o)).length ≤ 1000 := by rw [List.length_map]; have := sel_le l (uf l p) l.length; omega
      have cO := offers_any 30 f30 (.pointer (some ⟨w.heap.size, 0, none⟩)) (.pointer (some ⟨w.heap.size + 1, 0, none⟩)) (.slice A l.length c) l (uf l p) wr (HL.out.on hW) hn (fun i hi W hWW => by
        have hWx := bon hW hWW
        rcases (HL.out.on hWx).is with ⟨h, _⟩ | ⟨b, o, c', e, hf⟩
        · rw [h] at hi; simp at hi
        · cases e
          exact clo30 l p i _ _ b o c W hi (by rw [hWx.cell (block_lt_of_cell HCA.out)]; exact HCA.out) hf (HPB.out.on hWx).c0)
      have HO1 := Lib.hid (sel_oh (f := uf l p) HSo.out)
      have HUM : Hid (upM l p = met ((sel l (uf l p) l.length).map (·.p.o)) p.A) := rfl
      generalize (sel l (uf l p) l.length).map (·.p.o) = O at cO hlO HO1 HUM
      have q1 : wr.cell? ⟨w.heap.size, 0, none⟩ = some (.slice A l.length c) := by rw [hW.cell (block_lt_of_cell HCA.out)]; exact HCA.out
      generalize wr = wA at *
      go_wp2_with fail
      refine cO.mono ?_
      rintro z wB ⟨S, rfl, hOs, bB⟩
      have hWB := bon hW bB
      have cM := missing_any (.slice a4 p.A.length a5) S p.A O wB ((HP.out.on hWB).A) (by omega) hOs HO1.out hlO tA2
      rw [← HUM.out] at cM
      have q2 := (HPB.out.on hWB).c5
      obtain ⟨S1, S2, hS⟩ := hOs.sl
      rw [hS] at cM ⊢
      clear cO hOs q1 hS
      go_wp2_with fail
      refine cM.mono ?_
      rintro z wC ⟨v, rfl, hMs, bC⟩
      have hWC := bon hWB bC
      clear cM q2
      rcases hMs.is with ⟨hm2, rfl⟩ | ⟨hm2, b7, rfl, hm3, hm4⟩
      · have HM2 := Lib.hid hm2
        have q3 : wC.cell? ⟨w.heap.size, 0, none⟩ = some (.slice A l.length c) := by rw [hWC.cell (block_lt_of_cell HCA.out)]; exact HCA.out
        clear hMs hm2 bC hWB bB
        go_wp2_with fail
        go_loopw [43] (fun i W => ∃ k : Nat, k ≤ l.length ∧ i = .int .i64 k ∧ Below w2.heap.size w2 W ∧ Hid (∀ j (hj : j < l.length), j < k → upF p l[j] = false)) (fun i _ => l.length - (intOf i).toNat)
        case atStart => exact ⟨0, Nat.zero_le _, rfl, hWC, fun j _ h => absurd h (Nat.not_lt_zero _)⟩
        case round =>
          obtain ⟨k, hk, rfl, hV, HN⟩ := hrel
          clear q3
          by_cases hlt : k < l.length
          · obtain ⟨b, o, rfl, vW, vT, vD, vA, vG, vB, vR, vP, vS, vL, vF, kc, kz⟩ := (HL.out.on hV).at' k hlt
            obtain ⟨⟨a1, a2, a3, rfl⟩, ⟨b1, b2, b3, rfl⟩, ⟨c1, c2, c3, rfl⟩, ⟨d1, d2, d3, rfl⟩, ⟨e1, e2, e3, rfl⟩, ⟨f1, f2, f3, rfl⟩, ⟨g1, g2, g3, rfl⟩, ⟨i1, i2, i3, rfl⟩, ⟨j1, j2, j3, rfl⟩, ⟨l1, l2, l3, rfl⟩, ⟨m1, m2, m3, rfl⟩⟩ := kz.k11
            have hra := kc.range
            have hSk := HSo.out l[k] (List.getElem_mem hlt)
            have HHit : Hid (upF p l[k] = true → E = (bs l[k] p, (k : Int))) := fun h => by
              show _ = _
              rw [HE.out]; unfold upE
              rw [if_neg (by rw [HH.out]; simp), if_pos HM2.out, fi_yes k hlt h (fun j hj h => HN.out j hj h)]
              simp [List.getD, hlt]
            have HNo : Hid (upF p l[k] = false → ∀ j (hj : j < l.length), j < k + 1 → upF p l[j] = false) := fun hh j hj h => by
              by_cases e : j = k
              · subst e; exact hh
              · exact HN.out j hj (by omega)
            have HZ := Lib.hid kz
            clear kc kz
            generalize l[k] = x at hra hSk HHit HNo HZ
            have hbx := b1c wr (kno 60 x (.slice a1 a2 a3) (.slice b1 b2 b3) (.slice c1 c2 c3) (.slice d1 d2 d3) (.slice e1 e2 e3) (.slice f1 f2 f3) (.slice g1 g2 g3) (.slice i1 i2 i3) (.slice j1 j2 j3) (.slice l1 l2 l3) (.slice m1 m2 m3))
            have hK2 := k20_new wr 60 x (.slice a1 a2 a3) (.slice b1 b2 b3) (.slice c1 c2 c3) (.slice d1 d2 d3) (.slice e1 e2 e3) (.slice f1 f2 f3) (.slice g1 g2 g3) (.slice i1 i2 i3) (.slice j1 j2 j3) (.slice l1 l2 l3) (.slice m1 m2 m3)
            have hV1 := bon hV hbx
            have HK2 := Lib.hid hK2
            have p0 := (HPB.out.on hV1).c0
            have k7 := hK2.c7
            have M33 : Hid (∀ W, Calls Tryz.prog 33 #[knv x (.slice a1 a2 a3) (.slice b1 b2 b3) (.slice c1 c2 c3) (.slice d1 d2 d3) (.slice e1 e2 e3) (.slice f1 f2 f3) (.slice g1 g2 g3) (.slice i1 i2 i3) (.slice j1 j2 j3) (.slice l1 l2 l3) (.slice m1 m2 m3)] W fun e w' => e = .returned (.bool (hf x)) ∧ Below W.heap.size W w') := fun W => hasf_any x _ _ _ _ _ _ _ _ _ _ _ W HZ.out.k11
            have M34 : Hid (∀ W, Below w2.heap.size w2 W → Below wr.heap.size wr W → Calls Tryz.prog 34 #[knv x (.slice a1 a2 a3) (.slice b1 b2 b3) (.slice c1 c2 c3) (.slice d1 d2 d3) (.slice e1 e2 e3) (.slice f1 f2 f3) (.slice g1 g2 g3) (.slice i1 i2 i3) (.slice j1 j2 j3) (.slice l1 l2 l3) (.slice m1 m2 m3), pkv p.o.n p.o.e p.o.u p.o.r (.slice d4 p.D.length d5) (.slice a4 p.A.length a5) (.slice g4 p.G.length g5) (.slice b4 p.B.length b5) (.slice r4 p.R.length r5) (.slice p4 p.o.P.length p5) (.slice s4 p.S.length s5) (.slice l4 p.L.length l5) (.slice f4 p.F.length f5)] W fun e w' => e = .returned (.int .i64 (bs x p)) ∧ Below W.heap.size W w') := fun W h1 h2 => beside_any x _ _ _ _ _ _ _ _ _ _ _ p _ _ _ _ _ _ _ _ _ W (HZ.out.on h2) (HP.out.on h1) hSk HOP.out
            obtain ⟨yb, hyb⟩ : ∃ y, bs x p = y := ⟨_, rfl⟩
            obtain ⟨yf, hyf⟩ : ∃ y, hf x = y := ⟨_, rfl⟩
            rw [hyb] at M34 HHit
            rw [hyf] at M33
            have HYB := Lib.hid hyb
            have HYF := Lib.hid hyf
            clear hK2 hSk hyb hyf
            generalize wr = wD at *
            go_upto_region 13 with fail
            refine wp_region_lit ?_
            refine wpList_plain rfl fun K hK => ?_
            unfold Oper.wp
            simp [go_sem]
            refine hK _ _ ?_
            clear hK K
            refine wpList_plain rfl fun K hK => ?_
            unfold Oper.wp
            simp [go_sem, hlt]
            refine hK _ _ ?_
            clear hK K
            refine wpList_load_mid rfl 60 _ rfl b (o + k * 20) rfl _ _ hra Tryz.underlying60 rfl (by kernel_rfl) ?_
            refine wpList_plain rfl fun K hK => ?_
            unfold Oper.wp
            simp [go_sem]
            refine hK _ _ ?_
            clear hK K
            refine wpList_plain rfl fun K hK => ?_
            unfold Oper.wp
            simp [go_sem]
            refine hK _ _ ?_
            clear hK K
            refine wpList_store_new rfl 60 _ _ rfl _ _ rfl rfl (by kernel_rfl) (by rfl) (by first | rfl | simp [Value.oneCell']) ?_
            go_frame
            cases hq : (x.p.o.n == p.o.n) with
            | true =>
              have HN1 := Lib.hid (HNo.out (by unfold upF; rw [hq]; rfl))
              go_wp2_with fail
              exact ⟨⟨k + 1, hlt, by go_num, hV1, HN1⟩, by simp [intOf]; omega⟩
            | false =>
              go_upto_region 14 with fail
              refine wp_region_lit ?_
              refine wpList_plain rfl fun K hK => ?_
              unfold Oper.wp
              simp [go_sem]
              refine hK _ _ ?_
              clear hK K
              refine wpList_plain rfl fun K hK => ?_
              unfold Oper.wp
              simp [go_sem]
              refine hK _ _ ?_
              clear hK K
              refine wpList_plain rfl fun K hK => ?_
              unfold Oper.wp
              simp [go_sem, k7]
              refine hK _ _ ?_
              clear hK K
              refine wpList_plain rfl fun K hK => ?_
              unfold Oper.wp
              simp [go_sem]
              refine hK _ _ ?_
              clear hK K
              refine wpList_plain rfl fun K hK => ?_
              unfold Oper.wp
              simp [go_sem, p0]
              refine hK _ _ ?_
              clear hK K
              refine wpList_plain rfl fun K hK => ?_
              unfold Oper.wp
              simp [go_sem, hq]
              refine hK _ _ ?_
              clear hK K
              refine wpList_plain rfl fun K hK => ?_
              unfold Oper.wp
              simp [go_sem]
              refine hK _ _ ?_
              clear hK K
              refine wpList_load_midg (by kernel_rfl) 60 _ rfl wD.heap.size 0 rfl _ _ HK2.out.range Tryz.underlying60 rfl (by kernel_rfl) ?_
              go_frame
              go_wp2_with fail
              refine (M33.out _).mono ?_
              rintro z wE ⟨rfl, bE⟩
              have hV2 := bon hV1 bE
              have HK3 := Lib.hid (HK2.out.on bE)
              clear k7 p0
              cases yf with
              | false =>
                have HN1 := Lib.hid (HNo.out (by unfold upF; rw [hq, HYF.out]; rfl))
                go_wp2_with fail
                exact ⟨⟨k + 1, hlt, by go_num, hV2, HN1⟩, by simp [intOf]; omega⟩
              | true =>
                go_upto_region 15 with fail
                refine wp_region_lit ?_
                refine wpList_load_mid rfl 60 _ rfl wD.heap.size 0 rfl _ _ HK3.out.range Tryz.underlying60 rfl (by kernel_rfl) ?_
                go_frame
                refine wpList_load_mid rfl 30 _ rfl (w.heap.size + 1) 0 rfl _ _ (HPB.out.on hV2).range Tryz.underlying30 rfl (by kernel_rfl) ?_
                go_frame
                go_wp2_with fail
                refine (M34.out _ hV2 (bon hbx bE)).mono ?_
                rintro z wF ⟨rfl, bF⟩
                have hV3 := bon hV2 bF
                cases hb0 : (yb == 0) with
                | true =>
                  have HN1 := Lib.hid (HNo.out (by unfold upF; rw [HYB.out, hb0]; simp))
                  have hb1 : yb = 0 := by simpa using hb0
                  subst hb1
                  clear hb0
                  go_wp2_with fail
                  exact ⟨⟨k + 1, hlt, by go_num, hV3, HN1⟩, by simp [intOf]; omega⟩
                | false =>
                  have HG := Lib.hid (HHit.out (by unfold upF; rw [hq, HYF.out, HYB.out, hb0]; rfl))
                  have hbz := bon hV3 (b1c wF (.cells #[.int .i64 yb, .int .i64 k] 85))
                  go_wp2_with fail
                  go_ret
                  exact ⟨_, rfl, ⟨.inr (.inr ⟨wF.heap.size, rfl, by rw [HG.out]; simp, by rw [HG.out]; simp⟩)⟩, bon HB.out hbz⟩
          · have HG : Hid (E = (0, -1)) := by
              show _ = _
              rw [HE.out]; unfold upE
              rw [if_neg (by rw [HH.out]; simp), if_pos HM2.out, fi_no (fun j hj => HN.out j hj (by omega))]
            go_wp2_with fail
            go_ret
            exact ⟨_, rfl, ⟨.inl (by rw [HG.out]; exact ⟨rfl, rfl, rfl⟩)⟩, bon HB.out hV⟩
      · have HG : Hid (E = (7, (upM l p).1)) := by
          show _ = _
          rw [HE.out]; unfold upE
          rw [if_neg (by rw [HH.out]; simp), if_neg (by rw [hm2]; simp)]
        clear hm2 hMs
        go_wp2_with fail
        go_ret
        exact ⟨_, rfl, ⟨.inr (.inr ⟨b7, rfl, by rw [HG.out]; exact hm3, by rw [HG.out]; exact hm4⟩)⟩, bon HB.out hWC⟩
end Go.Proofs.YthijccmiemlilaaGreatDoor
namespace Go.Proofs.YthijccmiemlilaaGreatDoor
open Go.RowKit Go.Sort

/-- Numbers in a row, a slice of them. -/
structure Ir (W : World) (b o : Nat) (l : List Int) : Prop where
  lt : b < W.heap.size
  c : ∀ i (hi : i < l.length), W.cell? ⟨b, o + i, none⟩ = some (.int .i64 l[i])
structure Is (W : World) (v : Value) (l : List Int) : Prop where
  is : (l = [] ∧ ∃ A c, v = .slice A 0 c) ∨ ∃ b o c, v = .slice (some ⟨b, o, none⟩) l.length c ∧ Ir W b o l
theorem Is.on {W w' : World} {v : Value} {l : List Int} (h : Is W v l) (k : Below W.heap.size W w') : Is w' v l := by
  rcases h.is with h | ⟨b, o, c, h1, h3⟩
  · exact ⟨Or.inl h⟩
  · exact ⟨Or.inr ⟨b, o, c, h1, Nat.lt_of_lt_of_le h3.lt k.size, fun i hi => by rw [k.cell (p := ⟨b, _, none⟩) h3.lt]; exact h3.c i hi⟩⟩
theorem Is.sl {W : World} {v : Value} {l : List Int} (h : Is W v l) : ∃ A c, v = .slice A l.length c := by
  rcases h.is with ⟨rfl, A, c, rfl⟩ | ⟨b, o, c, rfl, _⟩
  · exact ⟨A, c, rfl⟩
  · exact ⟨_, c, rfl⟩
theorem Is.at' {W : World} {A : Option Addr} {n c : Nat} {l : List Int} (h : Is W (.slice A n c) l) (k : Nat) (hk : k < l.length) : ∃ b o, A = some ⟨b, o, none⟩ ∧ W.cell? ⟨b, o + k, none⟩ = some (.int .i64 l[k]) := by
  rcases h.is with ⟨rfl, _⟩ | ⟨b, o, c', e, hf⟩
  · simp at hk
  · cases e; exact ⟨b, o, rfl, hf.c k hk⟩
theorem info4 : (Tryz.prog.info? 4).map (fun i => (i.zero, i.size, i.bytes)) = some (some (.bool false), 1, 1) := by kernel_rfl
theorem mk92 (n : Nat) (hn : n ≤ 1000) (W : World) : (Instr.makeSlice 92 (.int .i64 (n : Int)) (.int .i64 (n : Int))).run Tryz.prog W = .ok (.slice (some ⟨W.heap.size, 0, none⟩) n n) (W.alloc (.cells (madeCells #[.bool false] n) 4)) :=
  run_make_row' 92 4 (.bool false) 1 Tryz.underlying92 info4 rfl .i64 .i64 n (by omega) (by omega) W
theorem wpList_mk {P : Program} {W W' : World} {t : TypeId} {n : Nat} {v : Value} (hrun : (Instr.makeSlice t (.int .i64 (n : Int)) (.int .i64 (n : Int))).run P W = .ok v W') {ops : Array Oper} {rest : List Oper} {o : Oper} {a : Act} {Q : Exit → Act → World → Prop} (hg : o.guard = none) (x y : Operand) (hop : o.op = Op.makeSlice t x y) (hx : a.eval x = .int .i64 n) (hy : a.eval y = .int .i64 n) (K : wpList P ops Q rest (a.put o.dst v) W') : wpList P ops Q (o :: rest) a W := by
  refine wpList_plain hg fun K hK' => ?_
  unfold Oper.wp
  simp [execOp, hop, hx, hy, hrun, Result.andThen]
  exact hK' _ _ (by assumption)
set_option maxHeartbeats 3200000 in
set_option maxRecDepth 100000 in
theorem clo41 (l : List Kn) (ab : Nat → Bool) (n a a' g b o c : Nat) (w : World) (hn : n < l.length) (ha : w.cell? ⟨a, 0, none⟩ = some (.slice (some ⟨g, 0, none⟩) l.length l.length)) (hr : w.rowIs g 4 l.length (fun j => .bool (ab j))) (ha' : w.cell? ⟨a', 0, none⟩ = some (.slice (some ⟨b, o, none⟩) l.length c)) (hl : Kl w b o l) :
    Calls Tryz.prog 41 #[.int .i64 n, .pointer (some ⟨a, 0, none⟩), .pointer (some ⟨a', 0, none⟩)] w fun e w' => e = .returned (.bool (ab n || wk (l.getD n default))) ∧ Below w.heap.size w w' := by
  obtain ⟨vW, vT, vD, vA, vG, vB, vR, vP, vS, vL, vF, kc, kz⟩ := hl.c n hn
  obtain ⟨⟨a1, a2, a3, rfl⟩, ⟨b1, b2, b3, rfl⟩, ⟨c1, c2, c3, rfl⟩, ⟨d1, d2, d3, rfl⟩, ⟨e1, e2, e3, rfl⟩, ⟨f1, f2, f3, rfl⟩, ⟨g1, g2, g3, rfl⟩, ⟨i1, i2, i3, rfl⟩, ⟨j1, j2, j3, rfl⟩, ⟨l1, l2, l3, rfl⟩, ⟨m1, m2, m3, rfl⟩⟩ := kz.k11
  have hra := kc.range
  have hc := hr.cell hn
  rw [show l.getD n default = l[n] from by simp [List.getD, hn]]
  have HC := Lib.hid (fun W => works_any l[n] (.slice a1 a2 a3) (.slice b1 b2 b3) (.slice c1 c2 c3) (.slice d1 d2 d3) (.slice e1 e2 e3) (.slice f1 f2 f3) (.slice g1 g2 g3) (.slice i1 i2 i3) (.slice j1 j2 j3) (.slice l1 l2 l3) (.slice m1 m2 m3) W kz.k11)
  generalize l[n] = x at hra HC ⊢
  clear kc kz hr
  cases hab : ab n with
  | true =>
    rw [hab] at hc
    clear hab
    go_enter Tryz.func41, Tryz.ntmps41
    go_wp2_with fail
    go_ret
    exact ⟨rfl, Below.refl _ _⟩
  | false =>
    rw [hab] at hc
    rw [Bool.false_or]
    generalize wk x = y at HC ⊢
    clear hab
    go_enter Tryz.func41, Tryz.ntmps41
    go_upto_region 1 with fail
    refine wp_region_lit ?_
    refine wpList_plain rfl fun K hK => ?_
    unfold Oper.wp
    simp [go_sem, ha]
    refine hK _ _ ?_
    clear hK K
    refine wpList_plain rfl fun K hK => ?_
    unfold Oper.wp
    simp [go_sem]
    refine hK _ _ ?_
    clear hK K
    refine wpList_plain rfl fun K hK => ?_
    unfold Oper.wp
    simp [go_sem, hn]
    refine hK _ _ ?_
    clear hK K
    refine wpList_plain rfl fun K hK => ?_
    unfold Oper.wp
    simp [go_sem, hc]
    refine hK _ _ ?_
    clear hK K
    refine wpList_plain rfl fun K hK => ?_
    unfold Oper.wp
    simp [go_sem]
    refine hK _ _ ?_
    clear hK K
    refine BigFrame.wpList_want (by kernel_rfl) fun K hK => ?_
    unfold Oper.wp
    simp [go_sem, ha']
    refine hK _ _ ?_
    clear hK K
    refine BigFrame.wpList_want (by kernel_rfl) fun K hK => ?_
    unfold Oper.wp
    simp [go_sem]
    refine hK _ _ ?_
    clear hK K
    refine BigFrame.wpList_want (by kernel_rfl) fun K hK => ?_
    unfold Oper.wp
    simp [go_sem, hn]
    refine hK _ _ ?_
    clear hK K
    refine wpList_load_midg (by kernel_rfl) 60 _ rfl b (o + n * 20) rfl _ _ hra Tryz.underlying60 rfl (by kernel_rfl) ?_
    go_frame
    go_wp2_with fail
    refine (HC.out _).mono ?_
    rintro z w1 ⟨rfl, b1⟩
    go_wp2_with fail
    go_ret
    exact ⟨rfl, b1⟩
/-- Who is about to; whom Configure counts; what it tells. -/
def abt (l : List Kn) (ws : List Int) (j : Nat) : Bool := ws.contains (j : Int) && ms (l.getD j default)
def cff (l : List Kn) (ws : List Int) (j : Nat) : Bool := abt l ws j || wk (l.getD j default)
def cfE (l : List Kn) (m : Int) (ws : List Int) : Int × Int := if m < 0 ∨ (l.length : Int) ≤ m then (2, -1) else if ms (l.getD m.toNat default) then msE (met ((sel l (cff l ws) l.length).map (·.p.o)) (l.getD m.toNat default).p.D) else (6, -1)
theorem abt_nil (l : List Kn) (j : Nat) : abt l [] j = false := rfl
theorem abt_up (l : List Kn) (ws : List Int) (x : Int) (j : Nat) : abt l (ws ++ [x]) j = if (j : Int) = x then ms (l.getD j default) else abt l ws j := by
  unfold abt
  by_cases h : (j : Int) = x
  · rw [if_pos h]
    have : (ws ++ [x]).contains (j : Int) = true := by simp [h]
    rw [this, Bool.true_and]
  · rw [if_neg h]
    have : (ws ++ [x]).contains (j : Int) = ws.contains (j : Int) := by
      rw [Bool.eq_iff_iff]; simp [h]
    rw [this]
end Go.Proofs.YthijccmiemlilaaGreatDoor
