/- Errors; the walks of missing, and of the closures of Unpack and Configure. -/
import Derived.Test.YthijccmiemlilaaGreatDoorKf
import Derived.Test.YthijccmiemlilaaGreatDoorA5
import Derived.BigFrame
namespace Go.Proofs.YthijccmiemlilaaGreatDoor
open Go.RowKit Go.Sort

/-- An error: its number, and its place (-1: none). -/
structure ErrIs (W : World) (v : Value) (c pl : Int) : Prop where
  is : (c = 0 ∧ pl = -1 ∧ v = .nilIface) ∨ (pl = -1 ∧ v = .iface 40 (.int .i64 c)) ∨ ∃ b, v = .iface 84 (.pointer (some ⟨b, 0, none⟩)) ∧ W.cell? ⟨b, 0, none⟩ = some (.int .i64 c) ∧ W.cell? ⟨b, 1, none⟩ = some (.int .i64 pl)
theorem ErrIs.on {W W' : World} {v : Value} {c pl : Int} (h : ErrIs W v c pl) (k : Below W.heap.size W W') : ErrIs W' v c pl := by
  rcases h.is with h | h | ⟨b, h1, h2, h3⟩
  · exact ⟨.inl h⟩
  · exact ⟨.inr (.inl h)⟩
  · exact ⟨.inr (.inr ⟨b, h1, by rw [k.cell (block_lt_of_cell h2)]; exact h2, by rw [k.cell (block_lt_of_cell h3)]; exact h3⟩)⟩
theorem isE_any {v : Value} {c pl : Int} (w : World) (h : ErrIs w v c pl) (hE : ErrT w) : Calls Tryz.prog 8 #[v, .agg #[.int .i64 c, .int .i64 pl]] w fun x w' => x = .returned (.bool true) ∧ Below w.heap.size w w' := by
  rcases h.is with ⟨rfl, rfl, rfl⟩ | ⟨rfl, rfl⟩ | ⟨b, rfl, h2, h3⟩
  · exact is_nil w
  · exact is_errno c w hE
  · exact is_at c pl b w hE h2 h3
/-- What is told of what is missing. -/
def msE (r : Int × Bool) : Int × Int := if r.2 then (0, -1) else (7, r.1)
/-- An error that is told, or none. -/
structure MsV (W : World) (r : Int × Bool) (v : Value) : Prop where
  is : (r.2 = true ∧ v = .nilIface) ∨ (r.2 = false ∧ ∃ b, v = .iface 84 (.pointer (some ⟨b, 0, none⟩)) ∧ W.cell? ⟨b, 0, none⟩ = some (.int .i64 7) ∧ W.cell? ⟨b, 1, none⟩ = some (.int .i64 r.1))
theorem MsV.err {W : World} {r : Int × Bool} {v : Value} (h : MsV W r v) : ErrIs W v (msE r).1 (msE r).2 := by
  unfold msE
  rcases h.is with ⟨h1, rfl⟩ | ⟨h1, b, rfl, h2, h3⟩
  · rw [if_pos h1]; exact ⟨.inl ⟨rfl, rfl, rfl⟩⟩
  · rw [if_neg (by rw [h1]; simp)]; exact ⟨.inr (.inr ⟨b, rfl, h2, h3⟩)⟩
set_option maxHeartbeats 1600000 in
set_option maxRecDepth 100000 in
theorem missing_any (v vO : Value) (l : List (List Tm)) (O : List Ofr) (w : World) (hl : As w v l) (hn : l.length ≤ 1000) (hv : Os' w vO O) (hO : ∀ o ∈ O, Oh o) (hk : O.length ≤ 1000) (hS : ∀ x ∈ l, x.length ≤ 40 ∧ ∀ t ∈ x, Sh t) :
    Calls Tryz.prog 32 #[v, vO] w fun e w' => ∃ z, e = .returned z ∧ MsV w' (met O l) z ∧ Below w.heap.size w w' := by
  have cM := met_any v vO l O w hl hn hv hO hk hS
  obtain ⟨A1, n1, rfl⟩ := hl.sl
  obtain ⟨A2, n2, rfl⟩ := hv.sl
  generalize met O l = r at cM ⊢
  clear hl hv hO hS
  go_enter Tryz.func32, Tryz.ntmps32
  go_wp2_with fail
  refine cM.mono ?_
  rintro x w1 ⟨rfl, b1⟩
  obtain ⟨r1, r2⟩ := r
  have hbn := bon b1 (b1c w1 (.cells #[.int .i64 7, .int .i64 r1] 85))
  cases r2 with
  | true =>
    go_wp2_with fail
    go_ret
    exact ⟨_, rfl, ⟨.inl ⟨rfl, rfl⟩⟩, b1⟩
  | false =>
    go_wp2_with fail
    go_ret
    exact ⟨_, rfl, ⟨.inr ⟨rfl, w1.heap.size, rfl, by simp, by simp⟩⟩, hbn⟩
/-- Whom Unpack counts. -/
def uf (l : List Kn) (p : Pck) (i : Nat) : Bool := !((l.getD i default).p.o.n == p.o.n) && wk (l.getD i default)
set_option maxHeartbeats 3200000 in
set_option maxRecDepth 100000 in
theorem clo30 (l : List Kn) (p : Pck) (n a g b o c : Nat) (w : World) (hn : n < l.length) (ha : w.cell? ⟨a, 0, none⟩ = some (.slice (some ⟨b, o, none⟩) l.length c)) (hl : Kl w b o l) (hg : w.cell? ⟨g, 0, none⟩ = some (.string ⟨p.o.n.toArray⟩)) :
    Calls Tryz.prog 30 #[.int .i64 n, .pointer (some ⟨a, 0, none⟩), .pointer (some ⟨g, 0, none⟩)] w fun e w' => e = .returned (.bool (uf l p n)) ∧ Below w.heap.size w w' := by
  obtain ⟨vW, vT, vD, vA, vG, vB, vR, vP, vS, vL, vF, kc, kz⟩ := hl.c n hn
  obtain ⟨⟨a1, a2, a3, rfl⟩, ⟨b1, b2, b3, rfl⟩, ⟨c1, c2, c3, rfl⟩, ⟨d1, d2, d3, rfl⟩, ⟨e1, e2, e3, rfl⟩, ⟨f1, f2, f3, rfl⟩, ⟨g1, g2, g3, rfl⟩, ⟨i1, i2, i3, rfl⟩, ⟨j1, j2, j3, rfl⟩, ⟨l1, l2, l3, rfl⟩, ⟨m1, m2, m3, rfl⟩⟩ := kz.k11
  have hra := kc.range
  have k7 := kc.c7
  have hbl : b < w.heap.size := hl.lt
  have hal : a < w.heap.size := block_lt_of_cell ha
  have hgl : g < w.heap.size := block_lt_of_cell hg
  have hS : Below w.heap.size w w.drew := (Below.refl _ _).drew
  have HC := Lib.hid (fun W => works_any l[n] (.slice a1 a2 a3) (.slice b1 b2 b3) (.slice c1 c2 c3) (.slice d1 d2 d3) (.slice e1 e2 e3) (.slice f1 f2 f3) (.slice g1 g2 g3) (.slice i1 i2 i3) (.slice j1 j2 j3) (.slice l1 l2 l3) (.slice m1 m2 m3) W kz.k11)
  obtain ⟨r, hr⟩ : ∃ r, r = uf l p n := ⟨_, rfl⟩
  rw [← hr]
  have hr2 : r = (!(l[n].p.o.n == p.o.n) && wk l[n]) := by rw [hr]; unfold uf; simp [List.getD, hn]
  clear hr kc kz
  generalize l[n] = x at hra k7 HC hr2
  cases hq : (x.p.o.n == p.o.n) with
  | true =>
    have HR : Hid (r = false) := by show _ = _; rw [hr2, hq]; rfl
    clear hr2 HC
    go_enter Tryz.func30, Tryz.ntmps30
    go_upto_region 1 with fail
    refine wp_region_held (S := fun V => Below w.heap.size w V) (by kernel_rfl) ?_
    refine take_d (some 5) (i := 0) (v := .slice (some ⟨b, o, none⟩) l.length c) rfl rfl (by kernel_rfl) (by kernel_rfl) (by kernel_rfl) (fun _ _ _ h => h) (.inl ⟨by kernel_rfl, fun w' hw => by simp [go_sem, (hw.cell (p := ⟨a, 0, none⟩) hal).trans ha]⟩) hS ?_
    refine take_d (some 6) (i := 1) (v := .int .i64 n) rfl rfl (by kernel_rfl) (by kernel_rfl) (by kernel_rfl) (fun _ _ _ h => h) (.inl ⟨by kernel_rfl, fun w' hw => by simp [go_sem]⟩) hS ?_
    refine take_d (some 7) (i := 2) (v := .pointer (some ⟨b, o + n * 20, none⟩)) rfl rfl (by kernel_rfl) (by kernel_rfl) (by kernel_rfl) (fun _ _ _ h => h) (.inl ⟨by kernel_rfl, fun w' hw => by simp [go_sem, hn]⟩) hS ?_
    refine take_d (some 8) (i := 3) (v := .pointer (some ⟨b, o + n * 20 + 7, none⟩)) rfl rfl (by kernel_rfl) (by kernel_rfl) (by kernel_rfl) (fun _ _ _ h => h) (.inl ⟨by kernel_rfl, fun w' hw => by simp [go_sem]⟩) hS ?_
    refine take_d (some 9) (i := 4) (v := .pointer (some ⟨b, o + n * 20 + 7, none⟩)) rfl rfl (by kernel_rfl) (by kernel_rfl) (by kernel_rfl) (fun _ _ _ h => h) (.inl ⟨by kernel_rfl, fun w' hw => by simp [go_sem]⟩) hS ?_
    refine take_d (some 10) (i := 5) (v := .string ⟨x.p.o.n.toArray⟩) rfl rfl (by kernel_rfl) (by kernel_rfl) (by kernel_rfl) (fun _ _ _ h => h) (.inl ⟨by kernel_rfl, fun w' hw => by simp [go_sem, (hw.cell (p := ⟨b, o + n * 20 + 7, none⟩) hbl).trans k7]⟩) hS ?_
    refine take_d (some 11) (i := 6) (v := .pointer (some ⟨g, 0, none⟩)) rfl rfl (by kernel_rfl) (by kernel_rfl) (by kernel_rfl) (fun _ _ _ h => h) (.inl ⟨by kernel_rfl, fun w' hw => by simp [go_sem]⟩) hS ?_
    refine take_d (some 12) (i := 7) (v := .string ⟨p.o.n.toArray⟩) rfl rfl (by kernel_rfl) (by kernel_rfl) (by kernel_rfl) (fun _ _ _ h => h) (.inl ⟨by kernel_rfl, fun w' hw => by simp [go_sem, (hw.cell (p := ⟨g, 0, none⟩) hgl).trans hg]⟩) hS ?_
    refine take_d (some 13) (i := 8) (v := .bool false) rfl rfl (by kernel_rfl) (by kernel_rfl) (by kernel_rfl) (fun _ _ _ h => h) (.inl ⟨by kernel_rfl, fun w' hw => by simp [go_sem, hq]⟩) hS ?_
    refine take_d (some 14) (i := 9) (v := .bool false) rfl rfl (by kernel_rfl) (by kernel_rfl) (by kernel_rfl) (fun _ _ _ h => h) (.inl ⟨by kernel_rfl, fun w' hw => by simp [go_sem]⟩) hS ?_
    refine take_d (some 15) (i := 10) (v := undef) rfl rfl (by kernel_rfl) (by kernel_rfl) (by kernel_rfl) (fun _ _ _ h => h) (.inr ⟨by kernel_rfl, rfl⟩) hS ?_
    refine take_d (some 16) (i := 11) (v := undef) rfl rfl (by kernel_rfl) (by kernel_rfl) (by kernel_rfl) (fun _ _ _ h => h) (.inr ⟨by kernel_rfl, rfl⟩) hS ?_
    refine take_d (some 17) (i := 12) (v := undef) rfl rfl (by kernel_rfl) (by kernel_rfl) (by kernel_rfl) (fun _ _ _ h => h) (.inr ⟨by kernel_rfl, rfl⟩) hS ?_
    refine take_d (some 18) (i := 13) (v := undef) rfl rfl (by kernel_rfl) (by kernel_rfl) (by kernel_rfl) (fun _ _ _ h => h) (.inr ⟨by kernel_rfl, rfl⟩) hS ?_
    refine take_d (some 19) (i := 14) (v := undef) rfl rfl (by kernel_rfl) (by kernel_rfl) (by kernel_rfl) (fun _ _ _ h => h) (.inr ⟨by kernel_rfl, rfl⟩) hS ?_
    refine take_d (some 20) (i := 15) (v := .bool false) rfl rfl (by kernel_rfl) (by kernel_rfl) (by kernel_rfl) (fun _ _ _ h => h) (.inl ⟨by kernel_rfl, fun w' hw => by simp [go_sem]⟩) hS ?_
    refine take_d (some 4) (i := 16) (v := .bool false) rfl rfl (by kernel_rfl) (by kernel_rfl) (by kernel_rfl) (fun _ _ _ h => h) (.inl ⟨by kernel_rfl, fun w' hw => by simp [go_sem]⟩) hS ?_
    refine wpAnyH_done (by kernel_rfl) ?_ _
    simp only [Act.put, List.setIfInBounds_toArray, List.set_cons_succ, List.set_cons_zero]
    go_wp2_with fail
    go_ret
    exact ⟨ret_bool HR.out.symm, hS⟩
  | false =>
    obtain ⟨y, hy⟩ : ∃ y, wk x = y := ⟨_, rfl⟩
    have HR : Hid (r = y) := by show _ = _; rw [hr2, hq, hy]; rfl
    rw [hy] at HC
    clear hr2 hy
    go_enter Tryz.func30, Tryz.ntmps30
    go_upto_region 1 with fail
    refine wp_region_held (S := fun V => Below w.heap.size w V) (by kernel_rfl) ?_
    refine take_d (some 5) (i := 0) (v := .slice (some ⟨b, o, none⟩) l.length c) rfl rfl (by kernel_rfl) (by kernel_rfl) (by kernel_rfl) (fun _ _ _ h => h) (.inl ⟨by kernel_rfl, fun w' hw => by simp [go_sem, (hw.cell (p := ⟨a, 0, none⟩) hal).trans ha]⟩) hS ?_
    refine take_d (some 6) (i := 1) (v := .int .i64 n) rfl rfl (by kernel_rfl) (by kernel_rfl) (by kernel_rfl) (fun _ _ _ h => h) (.inl ⟨by kernel_rfl, fun w' hw => by simp [go_sem]⟩) hS ?_
    refine take_d (some 7) (i := 2) (v := .pointer (some ⟨b, o + n * 20, none⟩)) rfl rfl (by kernel_rfl) (by kernel_rfl) (by kernel_rfl) (fun _ _ _ h => h) (.inl ⟨by kernel_rfl, fun w' hw => by simp [go_sem, hn]⟩) hS ?_
    refine take_d (some 8) (i := 3) (v := .pointer (some ⟨b, o + n * 20 + 7, none⟩)) rfl rfl (by kernel_rfl) (by kernel_rfl) (by kernel_rfl) (fun _ _ _ h => h) (.inl ⟨by kernel_rfl, fun w' hw => by simp [go_sem]⟩) hS ?_
    refine take_d (some 9) (i := 4) (v := .pointer (some ⟨b, o + n * 20 + 7, none⟩)) rfl rfl (by kernel_rfl) (by kernel_rfl) (by kernel_rfl) (fun _ _ _ h => h) (.inl ⟨by kernel_rfl, fun w' hw => by simp [go_sem]⟩) hS ?_
    refine take_d (some 10) (i := 5) (v := .string ⟨x.p.o.n.toArray⟩) rfl rfl (by kernel_rfl) (by kernel_rfl) (by kernel_rfl) (fun _ _ _ h => h) (.inl ⟨by kernel_rfl, fun w' hw => by simp [go_sem, (hw.cell (p := ⟨b, o + n * 20 + 7, none⟩) hbl).trans k7]⟩) hS ?_
    refine take_d (some 11) (i := 6) (v := .pointer (some ⟨g, 0, none⟩)) rfl rfl (by kernel_rfl) (by kernel_rfl) (by kernel_rfl) (fun _ _ _ h => h) (.inl ⟨by kernel_rfl, fun w' hw => by simp [go_sem]⟩) hS ?_
    refine take_d (some 12) (i := 7) (v := .string ⟨p.o.n.toArray⟩) rfl rfl (by kernel_rfl) (by kernel_rfl) (by kernel_rfl) (fun _ _ _ h => h) (.inl ⟨by kernel_rfl, fun w' hw => by simp [go_sem, (hw.cell (p := ⟨g, 0, none⟩) hgl).trans hg]⟩) hS ?_
    refine take_d (some 13) (i := 8) (v := .bool true) rfl rfl (by kernel_rfl) (by kernel_rfl) (by kernel_rfl) (fun _ _ _ h => h) (.inl ⟨by kernel_rfl, fun w' hw => by simp [go_sem, hq]⟩) hS ?_
    refine take_d (some 14) (i := 9) (v := .bool true) rfl rfl (by kernel_rfl) (by kernel_rfl) (by kernel_rfl) (fun _ _ _ h => h) (.inl ⟨by kernel_rfl, fun w' hw => by simp [go_sem]⟩) hS ?_
    refine take_d (some 15) (i := 10) (v := .slice (some ⟨b, o, none⟩) l.length c) rfl rfl (by kernel_rfl) (by kernel_rfl) (by kernel_rfl) (fun _ _ _ h => h) (.inl ⟨by kernel_rfl, fun w' hw => by simp [go_sem, (hw.cell (p := ⟨a, 0, none⟩) hal).trans ha]⟩) hS ?_
    refine take_d (some 16) (i := 11) (v := .int .i64 n) rfl rfl (by kernel_rfl) (by kernel_rfl) (by kernel_rfl) (fun _ _ _ h => h) (.inl ⟨by kernel_rfl, fun w' hw => by simp [go_sem]⟩) hS ?_
    refine take_d (some 17) (i := 12) (v := .pointer (some ⟨b, o + n * 20, none⟩)) rfl rfl (by kernel_rfl) (by kernel_rfl) (by kernel_rfl) (fun _ _ _ h => h) (.inl ⟨by kernel_rfl, fun w' hw => by simp [go_sem, hn]⟩) hS ?_
    simp only [Act.put, List.setIfInBounds_toArray, List.set_cons_succ, List.set_cons_zero]
    refine take_d (some 18) (i := 13) rfl rfl (by kernel_rfl) (by kernel_rfl) (by kernel_rfl) (fun _ _ _ h => h) (yieldsIf_load_mid (by kernel_rfl) 60 _ rfl b (o + n * 20) rfl _ _ (fun V hV j v hv => by rw [hV.cell (p := ⟨b, o + n * 20 + j, none⟩) hbl]; exact hra j v hv) Tryz.underlying60 rfl (by kernel_rfl)) hS ?_
    simp only [Act.put, List.setIfInBounds_toArray, List.set_cons_succ, List.set_cons_zero]
    refine wpAnyH_all (rs := [14]) (by kernel_rfl) (by simp) fun j hj => ?_
    obtain rfl : j = 14 := by simpa using hj
    refine wpOp_want rfl (by kernel_rfl) ?_
    unfold Oper.wp
    simp [go_sem]
    refine (HC.out _).mono ?_
    rintro z V1 ⟨rfl, bV⟩
    have hS1 := bon hS bV
    refine ⟨hS1, ?_⟩
    refine take_d (some 20) (i := 15) (v := .bool y) rfl rfl (by kernel_rfl) (by kernel_rfl) (by kernel_rfl) (fun _ _ _ h => h) (.inl ⟨by kernel_rfl, fun w' hw => by simp [go_sem]⟩) hS1 ?_
    refine take_d (some 4) (i := 16) (v := .bool y) rfl rfl (by kernel_rfl) (by kernel_rfl) (by kernel_rfl) (fun _ _ _ h => h) (.inl ⟨by kernel_rfl, fun w' hw => by simp [go_sem]⟩) hS1 ?_
    refine wpAnyH_done (by kernel_rfl) ?_ _
    simp only [Act.put, List.setIfInBounds_toArray, List.set_cons_succ, List.set_cons_zero]
    go_wp2_with fail
    go_ret
    exact ⟨ret_bool HR.out.symm, hS1⟩
end Go.Proofs.YthijccmiemlilaaGreatDoor
