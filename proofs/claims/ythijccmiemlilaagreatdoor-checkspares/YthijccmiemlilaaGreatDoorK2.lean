/- The walk of Configure. -/
import Derived.Test.YthijccmiemlilaaGreatDoorK1
namespace Go.Proofs.YthijccmiemlilaaGreatDoor
open Go.RowKit Go.Sort

set_option maxHeartbeats 1600000 in
set_option maxRecDepth 100000 in
theorem conf_out (v vI : Value) (l : List Kn) (m : Int) (ws : List Int) (w : World) (hl : Ks w v l) (hI : Is w vI ws) (hm : m < 0 ∨ (l.length : Int) ≤ m) : Calls Tryz.prog 11 #[v, .int .i64 m, vI] w fun x w' => ∃ z, x = .returned z ∧ ErrIs w' z (cfE l m ws).1 (cfE l m ws).2 ∧ Below w.heap.size w w' := by
  obtain ⟨A, c, rfl⟩ := hl.sl
  obtain ⟨A2, c2, rfl⟩ := hI.sl
  have HG : Hid (cfE l m ws = (2, -1)) := by show _ = _; unfold cfE; rw [if_pos hm]
  have hb := b1c w (.cells #[.slice A l.length c] 32)
  clear hl hI
  rcases hm with h0 | h0
  · go_enter Tryz.func11, Tryz.ntmps11
    go_wp2_with fail
    go_ret
    exact ⟨_, rfl, ⟨.inr (.inl (by rw [HG.out]; exact ⟨rfl, rfl⟩))⟩, hb⟩
  · have h1 : ¬ m < 0 := by omega
    go_enter Tryz.func11, Tryz.ntmps11
    go_wp2_with fail
    go_ret
    exact ⟨_, rfl, ⟨.inr (.inl (by rw [HG.out]; exact ⟨rfl, rfl⟩))⟩, hb⟩
/-- What is left while those that are about to are found. -/
structure CX (w1 : World) (n g : Nat) (A : Option Addr) (c : Nat) (bx : Nat) (f : Nat → Bool) (W : World) : Prop where
  bl : Below w1.heap.size w1 W
  g1 : g = w1.heap.size
  r : W.rowIs g 4 n (fun j => .bool (f j))
  x : W.cell? ⟨g + 1, 0, none⟩ = some (.slice (some ⟨g, 0, none⟩) n n)
theorem CX.on {w1 : World} {n g : Nat} {A : Option Addr} {c bx : Nat} {f : Nat → Bool} {W W' : World} (h : CX w1 n g A c bx f W) (k : Below W.heap.size W W') : CX w1 n g A c bx f W' :=
  ⟨bon h.bl k, h.g1, h.r.of_block (k.block g h.r.lt), by rw [k.cell (block_lt_of_cell h.x)]; exact h.x⟩
theorem CX.put {w1 : World} {n g : Nat} {A : Option Addr} {c bx : Nat} {f f' : Nat → Bool} {W : World} (h : CX w1 n g A c bx f W) (i : Nat) (y : Bool) (hf : ∀ j, j < n → f' j = if j = i then y else f j) : CX w1 n g A c bx f' (W.setCell ⟨g, i, none⟩ (.bool y)) := by
  refine ⟨h.bl.setCell (p := ⟨g, i, none⟩) (by rw [h.g1]; exact Nat.le_refl _) _, h.g1, (h.r.set i (.bool y)).congr (fun j hj => ?_), ?_⟩
  · rw [hf j hj]; split <;> rfl
  · rw [← h.x]
    simp only [World.cell?]
    rw [Below.heap_setCell _ ⟨g, i, none⟩ _ (g + 1) (by show g + 1 ≠ g; omega)]
set_option maxHeartbeats 6400000 in
set_option maxRecDepth 100000 in
theorem conf_in (b o c : Nat) (vI : Value) (l : List Kn) (m : Nat) (ws : List Int) (w : World) (hl : Kl w b o l) (hI : Is w vI ws) (hn : l.length ≤ 1000) (hws : ws.length ≤ 1000) (hm : m < l.length) (hSo : ∀ k ∈ l, Sok k.p) (hO : Oc w) : Calls Tryz.prog 11 #[.slice (some ⟨b, o, none⟩) l.length c, .int .i64 m, vI] w fun x w' => ∃ z, x = .returned z ∧ ErrIs w' z (cfE l m ws).1 (cfE l m ws).2 ∧ Below w.heap.size w w' := by
  obtain ⟨A2, c2, rfl⟩ := hI.sl
  obtain ⟨E, hE⟩ : ∃ E, E = cfE l m ws := ⟨_, rfl⟩
  have HE : Hid (E = if ms l[m] then msE (met ((sel l (cff l ws) l.length).map (·.p.o)) l[m].p.D) else (6, -1)) := by
    show _ = _
    rw [hE]; unfold cfE
    rw [if_neg (by omega), Int.toNat_natCast, show l.getD m default = l[m] from by simp [List.getD, hm]]
  rw [← hE]
  clear hE
  obtain ⟨w2, hw2⟩ : ∃ w2, w2 = w.alloc (.cells #[.slice (some ⟨b, o, none⟩) l.length c] 32) := ⟨_, rfl⟩
  have hb2 : Below w.heap.size w w2 := by rw [hw2]; exact b1c _ _
  have hcA : w2.cell? ⟨w.heap.size, 0, none⟩ = some (.slice (some ⟨b, o, none⟩) l.length c) := by rw [hw2]; simp
  have HL := Lib.hid (hl.on hb2)
  have HI := Lib.hid (hI.on hb2)
  have HO := Lib.hid (hO.on hb2)
  have HSo := Lib.hid hSo
  have HB := Lib.hid hb2
  have HCA := Lib.hid hcA
  obtain ⟨vW, vT, vD, vA, vG, vB, vR, vP, vS, vL, vF, kc, kz⟩ := HL.out.c m hm
  obtain ⟨⟨a1, a2, a3, rfl⟩, ⟨b1, b2, b3, rfl⟩, ⟨c1, c2, c3, rfl⟩, ⟨d1, d2, d3, rfl⟩, ⟨e1, e2, e3, rfl⟩, ⟨f1, f2, f3, rfl⟩, ⟨g1, g2, g3, rfl⟩, ⟨i1, i2, i3, rfl⟩, ⟨j1, j2, j3, rfl⟩, ⟨l1, l2, l3, rfl⟩, ⟨m1, m2, m3, rfl⟩⟩ := kz.k11
  have hra := kc.range
  have hSm := hSo l[m] (List.getElem_mem hm)
  have HZ := Lib.hid kz
  have hD := kc.c11
  have cM := mays_any l[m] (.slice a1 a2 a3) (.slice b1 b2 b3) (.slice c1 c2 c3) (.slice d1 d2 d3) (.slice e1 e2 e3) (.slice f1 f2 f3) (.slice g1 g2 g3) (.slice i1 i2 i3) (.slice j1 j2 j3) (.slice l1 l2 l3) (.slice m1 m2 m3) w2 kz.k11 HO.out
  clear hl hI hO hSo hb2 kc kz
  generalize l[m] = x at HE hra hSm HZ hD cM
  obtain ⟨y, hy⟩ : ∃ y, ms x = y := ⟨_, rfl⟩
  rw [hy] at cM HE
  clear hy
  have hm0 : ¬ (m : Int) < 0 := by omega
  have hm1 : (m : Int) < (l.length : Int) := by omega
  go_enter Tryz.func11, Tryz.ntmps11
  go_upto_region 1 with fail
  rw [← hw2]
  clear hw2
  have q0 := hcA
  go_upto_region 3 with fail
  refine wp_region_lit ?_
  refine wpList_plain rfl fun K hK => ?_
  unfold Oper.wp
  simp [go_sem, q0]
  refine hK _ _ ?_
  clear hK K
  refine wpList_plain rfl fun K hK => ?_
  unfold Oper.wp
  simp [go_sem]
  refine hK _ _ ?_
  clear hK K
  refine wpList_plain rfl fun K hK => ?_
  unfold Oper.wp
  simp [go_sem, hm]
  refine hK _ _ ?_
  clear hK K
  refine wpList_load_mid rfl 60 _ rfl b (o + m * 20) rfl _ _ hra Tryz.underlying60 rfl (by kernel_rfl) ?_
  go_frame
  go_wp2_with fail
  refine cM.mono ?_
  rintro z w1 ⟨rfl, b1'⟩
  clear cM q0
  cases y with
  | false =>
    have HG : Hid (E = (6, -1)) := HE.out
    go_wp2_with fail
    go_ret
    exact ⟨_, rfl, ⟨.inr (.inl (by rw [HG.out]; exact ⟨rfl, rfl⟩))⟩, bon HB.out b1'⟩
  | true =>
    have HG : Hid (E = msE (met ((sel l (cff l ws) l.length).map (·.p.o)) x.p.D)) := HE.out
    have q1 : w1.cell? ⟨w.heap.size, 0, none⟩ = some (.slice (some ⟨b, o, none⟩) l.length c) := by rw [b1'.cell (block_lt_of_cell HCA.out)]; exact HCA.out
    have hwl : w.heap.size < w1.heap.size := Nat.lt_of_lt_of_le (block_lt_of_cell HCA.out) b1'.size
    clear HE
    go_wp2_with (at_make; refine wpList_mk (mk92 l.length hn w1) rfl _ _ rfl rfl rfl ?_)
    have hX0 : CX w1 l.length w1.heap.size none 0 0 (abt l []) ((w1.alloc (.cells (madeCells #[.bool false] l.length) 4)).alloc (.cells #[.slice (some ⟨w1.heap.size, 0, none⟩) l.length l.length] 92)) := by
      refine ⟨b2c _ _ _, rfl, ((World.rowIs_made w1 (.bool false) l.length 4).congr (fun j _ => by rw [abt_nil])).alloc _, ?_⟩
      rw [show w1.heap.size + 1 = (w1.alloc (.cells (madeCells #[.bool false] l.length) 4)).heap.size from by rw [World.size_alloc]]
      simp
    have HX0 := Lib.hid hX0
    generalize (w1.alloc (.cells (madeCells #[.bool false] l.length) 4)).alloc (.cells #[.slice (some ⟨w1.heap.size, 0, none⟩) l.length l.length] 92) = w3 at HX0 ⊢
    clear hX0 q1
    go_loopw [31] (fun i W => ∃ k : Nat, k ≤ ws.length ∧ i = .int .i64 k ∧ CX w1 l.length w1.heap.size none 0 0 (abt l (ws.take k)) W) (fun i _ => ws.length - (intOf i).toNat)
    case atStart => exact ⟨0, Nat.zero_le _, rfl, by rw [List.take_zero]; exact HX0.out⟩
    case round =>
      obtain ⟨k, hk, rfl, hX⟩ := hrel
      by_cases hlt : k < ws.length
      · obtain ⟨b8, o8, rfl, hc8⟩ := (HI.out.on (bon b1' hX.bl)).at' k hlt
        have HT : Hid (ws.take (k + 1) = ws.take k ++ [ws[k]]) := List.take_succ_eq_append_getElem hlt
        generalize ws[k] = z at hc8 HT
        by_cases hz : 0 ≤ z ∧ z < (l.length : Int)
        · obtain ⟨j, rfl⟩ : ∃ j : Nat, z = j := ⟨z.toNat, by omega⟩
          obtain ⟨vW, vT, vD, vA, vG, vB, vR, vP, vS, vL, vF, kc, kz⟩ := (HL.out.on (bon b1' hX.bl)).c j (by omega)
          obtain ⟨⟨a_1, a_2, a_3, rfl⟩, ⟨b_1, b_2, b_3, rfl⟩, ⟨c_1, c_2, c_3, rfl⟩, ⟨d_1, d_2, d_3, rfl⟩, ⟨e_1, e_2, e_3, rfl⟩, ⟨f_1, f_2, f_3, rfl⟩, ⟨g_1, g_2, g_3, rfl⟩, ⟨i_1, i_2, i_3, rfl⟩, ⟨j_1, j_2, j_3, rfl⟩, ⟨l_1, l_2, l_3, rfl⟩, ⟨m_1, m_2, m_3, rfl⟩⟩ := kz.k11
          have hrj := kc.range
          have hjl : j < l.length := by omega
          have q2 : wr.cell? ⟨w.heap.size, 0, none⟩ = some (.slice (some ⟨b, o, none⟩) l.length c) := by rw [(bon b1' hX.bl).cell (block_lt_of_cell HCA.out)]; exact HCA.out
          have q3 := hX.x
          have hbl : b < w1.heap.size := Nat.lt_of_lt_of_le HL.out.lt b1'.size
          have HTj : Hid (∀ i, i < l.length → abt l (ws.take (k + 1)) i = if i = j then ms l[j] else abt l (ws.take k) i) := fun i hi => by
            show _ = _
            rw [HT.out, abt_up]
            by_cases e : i = j
            · subst e
              rw [if_pos rfl, if_pos rfl]
              simp [List.getD, hi]
            · rw [if_neg (by omega), if_neg e]
          have cMj := mays_any l[j] (.slice a_1 a_2 a_3) (.slice b_1 b_2 b_3) (.slice c_1 c_2 c_3) (.slice d_1 d_2 d_3) (.slice e_1 e_2 e_3) (.slice f_1 f_2 f_3) (.slice g_1 g_2 g_3) (.slice i_1 i_2 i_3) (.slice j_1 j_2 j_3) (.slice l_1 l_2 l_3) (.slice m_1 m_2 m_3) wr.drew kz.k11 ((HO.out.on (bon b1' hX.bl)).on (Below.refl _ _).drew)
          clear kc kz HT
          generalize ws.take k = ws0 at *
          generalize l[j] = xj at hrj HTj cMj
          obtain ⟨yj, hyj⟩ : ∃ y, ms xj = y := ⟨_, rfl⟩
          rw [hyj] at HTj cMj
          have h0j : (0 : Int) ≤ (j : Int) := by omega
          have h1j : (j : Int) < (l.length : Int) := by omega
          have hS : wr.drew.cell? ⟨w1.heap.size + 1, 0, none⟩ = some (.slice (some ⟨w1.heap.size, 0, none⟩) l.length l.length) ∧ wr.drew.cell? ⟨w.heap.size, 0, none⟩ = some (.slice (some ⟨b, o, none⟩) l.length c) ∧ wr.drew.rangeAt b (o + j * 20) [.int .i64 xj.st, .int .i64 xj.e, .string ⟨xj.u.toArray⟩, .string ⟨xj.r.toArray⟩, .bool xj.hd, .slice a_1 a_2 a_3, .slice b_1 b_2 b_3, .string ⟨xj.p.o.n.toArray⟩, .int .i64 xj.p.o.e, .string ⟨xj.p.o.u.toArray⟩, .string ⟨xj.p.o.r.toArray⟩, .slice c_1 c_2 c_3, .slice d_1 d_2 d_3, .slice e_1 e_2 e_3, .slice f_1 f_2 f_3, .slice g_1 g_2 g_3, .slice i_1 i_2 i_3, .slice j_1 j_2 j_3, .slice l_1 l_2 l_3, .slice m_1 m_2 m_3] := ⟨q3, q2, hrj⟩
          have HX := Lib.hid hX
          clear hX hyj hz
          go_upto_region 10 with fail
          refine wp_region_held (S := fun V => V.cell? ⟨w1.heap.size + 1, 0, none⟩ = some (.slice (some ⟨w1.heap.size, 0, none⟩) l.length l.length) ∧ V.cell? ⟨w.heap.size, 0, none⟩ = some (.slice (some ⟨b, o, none⟩) l.length c) ∧ V.rangeAt b (o + j * 20) [.int .i64 xj.st, .int .i64 xj.e, .string ⟨xj.u.toArray⟩, .string ⟨xj.r.toArray⟩, .bool xj.hd, .slice a_1 a_2 a_3, .slice b_1 b_2 b_3, .string ⟨xj.p.o.n.toArray⟩, .int .i64 xj.p.o.e, .string ⟨xj.p.o.u.toArray⟩, .string ⟨xj.p.o.r.toArray⟩, .slice c_1 c_2 c_3, .slice d_1 d_2 d_3, .slice e_1 e_2 e_3, .slice f_1 f_2 f_3, .slice g_1 g_2 g_3, .slice i_1 i_2 i_3, .slice j_1 j_2 j_3, .slice l_1 l_2 l_3, .slice m_1 m_2 m_3]) (by kernel_rfl) ?_
          refine take_d (some 43) (i := 0) (v := .slice (some ⟨w1.heap.size, 0, none⟩) l.length l.length) rfl rfl (by kernel_rfl) (by kernel_rfl) (by kernel_rfl) (fun _ _ _ h => h) (.inl ⟨by kernel_rfl, fun w' hw => by simp [go_sem, hw.1]⟩) hS ?_
          refine take_d (some 44) (i := 1) (v := .int .i64 j) rfl rfl (by kernel_rfl) (by kernel_rfl) (by kernel_rfl) (fun _ _ _ h => h) (.inl ⟨by kernel_rfl, fun w' hw => by simp [go_sem]⟩) hS ?_
          refine take_d (some 45) (i := 2) (v := .slice (some ⟨b, o, none⟩) l.length c) rfl rfl (by kernel_rfl) (by kernel_rfl) (by kernel_rfl) (fun _ _ _ h => h) (.inl ⟨by kernel_rfl, fun w' hw => by simp [go_sem, hw.2.1]⟩) hS ?_
          refine take_d (some 46) (i := 3) (v := .int .i64 j) rfl rfl (by kernel_rfl) (by kernel_rfl) (by kernel_rfl) (fun _ _ _ h => h) (.inl ⟨by kernel_rfl, fun w' hw => by simp [go_sem]⟩) hS ?_
          refine take_d (some 47) (i := 4) (v := .pointer (some ⟨b, o + j * 20, none⟩)) rfl rfl (by kernel_rfl) (by kernel_rfl) (by kernel_rfl) (fun _ _ _ h => h) (.inl ⟨by kernel_rfl, fun w' hw => by simp [go_sem, hjl]⟩) hS ?_
          simp only [Act.put, List.setIfInBounds_toArray, List.set_cons_succ, List.set_cons_zero]
          refine take_d (some 48) (i := 5) rfl rfl (by kernel_rfl) (by kernel_rfl) (by kernel_rfl) (fun _ _ _ h => h) (yieldsIf_load_mid (by kernel_rfl) 60 _ rfl b (o + j * 20) rfl _ _ (fun V hV => hV.2.2) Tryz.underlying60 rfl (by kernel_rfl)) hS ?_
          simp only [Act.put, List.setIfInBounds_toArray, List.set_cons_succ, List.set_cons_zero]
          refine wpAnyH_all (rs := [6]) (by kernel_rfl) (by simp) fun i hi => ?_
          obtain rfl : i = 6 := by simpa using hi
          refine wpOp_want rfl (by kernel_rfl) ?_
          unfold Oper.wp
          simp [go_sem]
          refine cMj.mono ?_
          rintro z V1 ⟨rfl, bV⟩
          have hX1 := (HX.out.on (Below.refl _ _).drew).on bV
          have hS1 : V1.cell? ⟨w1.heap.size + 1, 0, none⟩ = some (.slice (some ⟨w1.heap.size, 0, none⟩) l.length l.length) ∧ V1.cell? ⟨w.heap.size, 0, none⟩ = some (.slice (some ⟨b, o, none⟩) l.length c) ∧ V1.rangeAt b (o + j * 20) [.int .i64 xj.st, .int .i64 xj.e, .string ⟨xj.u.toArray⟩, .string ⟨xj.r.toArray⟩, .bool xj.hd, .slice a_1 a_2 a_3, .slice b_1 b_2 b_3, .string ⟨xj.p.o.n.toArray⟩, .int .i64 xj.p.o.e, .string ⟨xj.p.o.u.toArray⟩, .string ⟨xj.p.o.r.toArray⟩, .slice c_1 c_2 c_3, .slice d_1 d_2 d_3, .slice e_1 e_2 e_3, .slice f_1 f_2 f_3, .slice g_1 g_2 g_3, .slice i_1 i_2 i_3, .slice j_1 j_2 j_3, .slice l_1 l_2 l_3, .slice m_1 m_2 m_3] := ⟨by rw [bV.cell (block_lt_of_cell hS.1)]; exact hS.1, by rw [bV.cell (block_lt_of_cell hS.2.1)]; exact hS.2.1, fun i v hv => by rw [bV.cell (p := ⟨b, o + j * 20 + i, none⟩) (block_lt_of_cell (hS.2.2 i v hv))]; exact hS.2.2 i v hv⟩
          have hcj := hX1.r.cell hjl
          have hfj := hX1.r.frozen j
          have hX2 := hX1.put (f' := abt l (ws.take (k + 1))) j yj (fun i hi => HTj.out i hi)
          refine ⟨hS1, ?_⟩
          refine take_d (some 50) (i := 7) (v := .pointer (some ⟨w1.heap.size, j, none⟩)) rfl rfl (by kernel_rfl) (by kernel_rfl) (by kernel_rfl) (fun _ _ _ h => h) (.inl ⟨by kernel_rfl, fun w' hw => by simp [go_sem, hjl]⟩) hS1 ?_
          simp only [Act.put, List.setIfInBounds_toArray, List.set_cons_succ, List.set_cons_zero]
          refine wpAnyH_all (rs := [8]) (by kernel_rfl) (by simp) fun i hi => ?_
          obtain rfl : i = 8 := by simpa using hi
          refine wpOp_want rfl (by kernel_rfl) ?_
          unfold Oper.wp
          simp [go_sem, hcj, hfj]
          refine ⟨⟨?_, ?_, ?_⟩, ?_⟩
          · exact hS1.1
          · exact hS1.2.1
          · intro i v hv
            rw [← hS1.2.2 i v hv]
            simp only [World.cell?]
            rw [Below.heap_setCell _ ⟨w1.heap.size, j, none⟩ _ b (by show b ≠ w1.heap.size; omega)]
          refine wpAnyH_done (by kernel_rfl) ?_ _
          have HX2 := Lib.hid hX2
          generalize V1.setCell ⟨w1.heap.size, j, none⟩ (.bool yj) = V2 at HX2 ⊢
          clear hX1 hS1 hS hcj hfj hX2 hrj q2 q3 cMj
          go_wp2_with fail
          exact ⟨⟨k + 1, hlt, by go_num, HX2.out⟩, by simp [intOf]; omega⟩
        · have HX1 : Hid (CX w1 l.length w1.heap.size none 0 0 (abt l (ws.take (k + 1))) wr) := by
            show CX _ _ _ _ _ _ _ _
            refine ⟨hX.bl, hX.g1, hX.r.congr (fun j hj => ?_), hX.x⟩
            rw [HT.out, abt_up, if_neg (by omega)]
          have q2 : wr.cell? ⟨w.heap.size, 0, none⟩ = some (.slice (some ⟨b, o, none⟩) l.length c) := by rw [(bon b1' hX.bl).cell (block_lt_of_cell HCA.out)]; exact HCA.out
          clear hX
          by_cases h0 : 0 ≤ z
          · have h1 : ¬ z < (l.length : Int) := by omega
            clear hz
            go_wp2_with fail
            exact ⟨⟨k + 1, hlt, by go_num, HX1.out⟩, by simp [intOf]; omega⟩
          · clear hz
            go_wp2_with fail
            exact ⟨⟨k + 1, hlt, by go_num, HX1.out⟩, by simp [intOf]; omega⟩
      · have hke : k = ws.length := by omega
        subst hke
        rw [List.take_length] at hX
        have hwA := bon b1' hX.bl
        have q2 : wr.cell? ⟨w.heap.size, 0, none⟩ = some (.slice (some ⟨b, o, none⟩) l.length c) := by rw [hwA.cell (block_lt_of_cell HCA.out)]; exact HCA.out
        have hcD : wr.cell? ⟨b, o + m * 20 + 11, none⟩ = some (.slice c1 c2 c3) := by rw [hwA.cell (p := ⟨b, o + m * 20 + 11, none⟩) HL.out.lt]; exact hD
        have hbl : b < wr.heap.size := Nat.lt_of_lt_of_le HL.out.lt hwA.size
        have hwL : w.heap.size < wr.heap.size := block_lt_of_cell q2
        obtain ⟨tA1, tA2⟩ := tla_parts hSm.D
        have hlO : ((sel l (cff l ws) l.length).map (·.p.o)).length ≤ 1000 := by rw [List.length_map]; have := sel_le l (cff l ws) l.length; omega
        have HO1 := Lib.hid (sel_oh (f := cff l ws) HSo.out)
        have cO := offers_any 41 f41 (.pointer (some ⟨w1.heap.size + 1, 0, none⟩)) (.pointer (some ⟨w.heap.size, 0, none⟩)) (.slice (some ⟨b, o, none⟩) l.length c) l (cff l ws) wr.drew ⟨.inr ⟨b, o, c, rfl, (HL.out.on hwA).on (Below.refl _ _).drew⟩⟩ hn (fun i hi W hWW => by
          have hXX := (hX.on (Below.refl _ _).drew).on hWW
          have hWx := bon hwA (bon (Below.refl _ _).drew hWW)
          exact clo41 l (abt l ws) i _ _ w1.heap.size b o c W hi hXX.x hXX.r (by rw [hWx.cell (block_lt_of_cell HCA.out)]; exact HCA.out) (HL.out.on hWx))
        generalize (sel l (cff l ws) l.length).map (·.p.o) = O at cO hlO HO1 HG
        have hS : Below wr.heap.size wr wr.drew := (Below.refl _ _).drew
        go_upto_region 12 with fail
        refine wp_region_held (S := fun V => Below wr.heap.size wr V) (by kernel_rfl) ?_
        refine take_d (some 52) (i := 0) (v := .slice (some ⟨b, o, none⟩) l.length c) rfl rfl (by kernel_rfl) (by kernel_rfl) (by kernel_rfl) (fun _ _ _ h => h) (.inl ⟨by kernel_rfl, fun w' hw => by simp [go_sem, (hw.cell (p := ⟨w.heap.size, 0, none⟩) hwL).trans q2]⟩) hS ?_
        refine take_d (some 53) (i := 1) (v := .int .i64 m) rfl rfl (by kernel_rfl) (by kernel_rfl) (by kernel_rfl) (fun _ _ _ h => h) (.inl ⟨by kernel_rfl, fun w' hw => by simp [go_sem]⟩) hS ?_
        refine take_d (some 54) (i := 2) (v := .pointer (some ⟨b, o + m * 20, none⟩)) rfl rfl (by kernel_rfl) (by kernel_rfl) (by kernel_rfl) (fun _ _ _ h => h) (.inl ⟨by kernel_rfl, fun w' hw => by simp [go_sem, hm]⟩) hS ?_
        refine take_d (some 55) (i := 3) (v := .pointer (some ⟨b, o + m * 20 + 7, none⟩)) rfl rfl (by kernel_rfl) (by kernel_rfl) (by kernel_rfl) (fun _ _ _ h => h) (.inl ⟨by kernel_rfl, fun w' hw => by simp [go_sem]⟩) hS ?_
        refine take_d (some 56) (i := 4) (v := .pointer (some ⟨b, o + m * 20 + 7 + 4, none⟩)) rfl rfl (by kernel_rfl) (by kernel_rfl) (by kernel_rfl) (fun _ _ _ h => h) (.inl ⟨by kernel_rfl, fun w' hw => by simp [go_sem]⟩) hS ?_
        refine take_d (some 57) (i := 5) (v := .slice c1 c2 c3) rfl rfl (by kernel_rfl) (by kernel_rfl) (by kernel_rfl) (fun _ _ _ h => h) (.inl ⟨by kernel_rfl, fun w' hw => by simp [go_sem, (hw.cell (p := ⟨b, o + m * 20 + 11, none⟩) hbl).trans hcD]⟩) hS ?_
        simp only [Act.put, List.setIfInBounds_toArray, List.set_cons_succ, List.set_cons_zero]
        refine take_d (some 58) (i := 6) (v := .slice (some ⟨b, o, none⟩) l.length c) rfl rfl (by kernel_rfl) (by kernel_rfl) (by kernel_rfl) (fun _ _ _ h => h) (.inl ⟨by kernel_rfl, fun w' hw => by simp [go_sem, (hw.cell (p := ⟨w.heap.size, 0, none⟩) hwL).trans q2]⟩) hS ?_
        refine take_d (some 59) (i := 7) (v := .func (Fn.func 41) #[] #[.pointer (some ⟨w1.heap.size + 1, 0, none⟩), .pointer (some ⟨w.heap.size, 0, none⟩)]) rfl rfl (by kernel_rfl) (by kernel_rfl) (by kernel_rfl) (fun _ _ _ h => h) (.inl ⟨by kernel_rfl, fun w' hw => by simp [go_sem]⟩) hS ?_
        simp only [Act.put, List.setIfInBounds_toArray, List.set_cons_succ, List.set_cons_zero]
        refine wpAnyH_all (rs := [8]) (by kernel_rfl) (by simp) fun i hi => ?_
        obtain rfl : i = 8 := by simpa using hi
        refine wpOp_want rfl (by kernel_rfl) ?_
        unfold Oper.wp
        simp [go_sem]
        refine cO.mono ?_
        rintro z V1 ⟨S, rfl, hOs, bV⟩
        have hS1 := bon hS bV
        have cMs := missing_any (.slice c1 c2 c3) S x.p.D O V1 ((HZ.out.on (bon hwA hS1)).z.D) (by omega) hOs HO1.out hlO tA2
        obtain ⟨S1, S2, rfl⟩ := hOs.sl
        refine ⟨hS1, ?_⟩
        refine wpAnyH_all (rs := [9]) (by kernel_rfl) (by simp) fun i hi => ?_
        obtain rfl : i = 9 := by simpa using hi
        refine wpOp_want rfl (by kernel_rfl) ?_
        unfold Oper.wp
        simp [go_sem]
        refine cMs.mono ?_
        rintro z V2 ⟨v, rfl, hMs, bV2⟩
        have hS2 := bon hS1 bV2
        have HMs := Lib.hid hMs.err
        have hvz : v = .nilIface ∨ ∃ b7, v = .iface 84 (.pointer (some ⟨b7, 0, none⟩)) := by
          rcases hMs.is with ⟨_, h⟩ | ⟨_, b7, h, _⟩
          · exact .inl h
          · exact .inr ⟨b7, h⟩
        refine ⟨hS2, ?_⟩
        clear cO cMs hMs
        rcases hvz with rfl | ⟨b7, rfl⟩
        · refine take_d (some 6) (i := 10) (v := .nilIface) rfl rfl (by kernel_rfl) (by kernel_rfl) (by kernel_rfl) (fun _ _ _ h => h) (.inl ⟨by kernel_rfl, fun w' hw => by simp [go_sem]⟩) hS2 ?_
          refine wpAnyH_done (by kernel_rfl) ?_ _
          simp only [Act.put, List.setIfInBounds_toArray, List.set_cons_succ, List.set_cons_zero]
          go_wp2_with fail
          go_ret
          exact ⟨_, rfl, by rw [HG.out]; exact HMs.out, bon HB.out (bon hwA hS2)⟩
        · refine take_d (some 6) (i := 10) (v := .iface 84 (.pointer (some ⟨b7, 0, none⟩))) rfl rfl (by kernel_rfl) (by kernel_rfl) (by kernel_rfl) (fun _ _ _ h => h) (.inl ⟨by kernel_rfl, fun w' hw => by simp [go_sem]⟩) hS2 ?_
          refine wpAnyH_done (by kernel_rfl) ?_ _
          simp only [Act.put, List.setIfInBounds_toArray, List.set_cons_succ, List.set_cons_zero]
          go_wp2_with fail
          go_ret
          exact ⟨_, rfl, by rw [HG.out]; exact HMs.out, bon HB.out (bon hwA hS2)⟩
end Go.Proofs.YthijccmiemlilaaGreatDoor
namespace Go.Proofs.YthijccmiemlilaaGreatDoor
open Go.RowKit Go.Sort

theorem con_yes {l : List Int} {n : Int} (k : Nat) (hk : k < l.length) (h : l[k] = n) : l.contains n = true := by
  rw [List.contains_iff_mem, ← h]; exact List.getElem_mem hk
theorem con_no {l : List Int} {n : Int} (h : ∀ j (hj : j < l.length), l[j] ≠ n) : l.contains n = false := by
  rw [← Bool.not_eq_true, List.contains_iff_mem]
  intro hm
  obtain ⟨j, hj, e⟩ := List.getElem_of_mem hm
  exact h j hj e
set_option maxHeartbeats 1600000 in
set_option maxRecDepth 100000 in
theorem holds_row (b o c : Nat) (l : List Int) (n : Int) (w : World) (h : Ir w b o l) (hn : l.length ≤ 1000000) : Calls Tryz.prog 44 #[.slice (some ⟨b, o, none⟩) l.length c, .int .i64 n] w fun e w' => e = .returned (.bool (l.contains n)) ∧ w' = w := by
  obtain ⟨r, hr⟩ : ∃ r, r = l.contains n := ⟨_, rfl⟩
  have HR := Lib.hid hr
  rw [← hr]
  clear hr
  have HF := Lib.hid h
  clear h
  go_enter Tryz.func44, Tryz.ntmps44
  go_wp2
  go_loop [9] (fun i => ∃ k : Nat, k ≤ l.length ∧ i = .int .i64 k ∧ Hid (∀ j (hj : j < l.length), j < k → l[j] ≠ n)) (fun i => l.length - (intOf i).toNat)
  case atStart => exact ⟨0, Nat.zero_le _, rfl, fun j _ h => absurd h (Nat.not_lt_zero _)⟩
  case round =>
    obtain ⟨k, hk, rfl, HP⟩ := hrel
    by_cases hlt : k < l.length
    · have c0 := HF.out.c k hlt
      by_cases he : l[k] = n
      · have HG : Hid (r = true) := by show _ = _; rw [HR.out]; exact con_yes k hlt he
        have he2 : (l[k] == n) = true := by simpa using he
        generalize l[k] = x at c0 he2
        clear he
        go_wp2
        go_ret
        exact ⟨ret_bool HG.out.symm, rfl⟩
      · have HG : Hid (∀ j (hj : j < l.length), j < k + 1 → l[j] ≠ n) := fun j hj h => by
          by_cases e : j = k
          · subst e; exact he
          · exact HP.out j hj (by omega)
        have he2 : (l[k] == n) = false := by simpa using he
        generalize l[k] = x at c0 he2
        clear he
        go_wp2
        exact ⟨⟨k + 1, hlt, by go_num, HG⟩, by simp [intOf]; omega⟩
    · have HG : Hid (r = false) := by show _ = _; rw [HR.out]; exact con_no (fun j hj => HP.out j hj (by omega))
      go_wp2
      go_ret
      exact ⟨ret_bool HG.out.symm, rfl⟩
theorem holds_nil (A : Option Addr) (c : Nat) (n : Int) (w : World) : Calls Tryz.prog 44 #[.slice A 0 c, .int .i64 n] w fun e w' => e = .returned (.bool false) ∧ w' = w := by
  go_enter Tryz.func44, Tryz.ntmps44
  go_wp2
  refine wp_loop_rounds 1 ?_
  rw [rounds_succ]
  go_wp2
  go_ret
  exact ⟨rfl, rfl⟩
theorem holds_any (v : Value) (l : List Int) (n : Int) (w : World) (h : Is w v l) (hn : l.length ≤ 1000000) : Calls Tryz.prog 44 #[v, .int .i64 n] w fun e w' => e = .returned (.bool (l.contains n)) ∧ w' = w := by
  rcases h.is with ⟨rfl, A, c, rfl⟩ | ⟨b, o, c, rfl, hf⟩
  · exact holds_nil A c n w
  · exact holds_row b o c l n w hf hn
/-- Whom working counts. -/
def wf (l : List Kn) (bt : List Int) (i : Nat) : Bool := wk (l.getD i default) && !bt.contains (i : Int)
set_option maxHeartbeats 3200000 in
set_option maxRecDepth 100000 in
theorem working_row (b o c : Nat) (vB : Value) (l : List Kn) (bt : List Int) (w : World) (h : Kl w b o l) (hB : Is w vB bt) (hn : l.length ≤ 1000) (hbt : bt.length ≤ 1000) :
    Calls Tryz.prog 37 #[.slice (some ⟨b, o, none⟩) l.length c, vB] w fun e w' => ∃ S q, e = .returned S ∧ PW w w' S ((sel l (wf l bt) l.length).map (·.p)) q := by
  obtain ⟨A2, cB, rfl⟩ := hB.sl
  have HF := Lib.hid h
  have HI := Lib.hid hB
  clear h hB
  go_enter Tryz.func37, Tryz.ntmps37
  go_wp2_with fail
  go_loopw [5, 10] (fun S i W => ∃ (k : Nat) (r : List (Pck × V9)), k ≤ l.length ∧ i = .int .i64 k ∧ Hid (PW w W S ((sel l (wf l bt) k).map (·.p)) r)) (fun _ i _ => l.length - (intOf i).toNat)
  case atStart => exact ⟨0, [], Nat.zero_le _, rfl, ⟨rfl, World.ownsRow_nil _ _ _ _, fun x hx => (by cases hx), Below.refl _ _⟩⟩
  case round =>
    obtain ⟨k, r, hk, rfl, HOW⟩ := hrel
    have hW := HOW.out.b
    by_cases hlt : k < l.length
    · obtain ⟨vW, vT, vD, vA, vG, vB, vR, vP, vS, vL, vF, kc0, kz⟩ := HF.out.c k hlt
      have kc : Kc wr b (o + k * 20) l[k] vW vT vD vA vG vB vR vP vS vL vF := kc0.on hW
      obtain ⟨⟨a1, a2, a3, rfl⟩, ⟨b1, b2, b3, rfl⟩, ⟨c1, c2, c3, rfl⟩, ⟨d1, d2, d3, rfl⟩, ⟨e1, e2, e3, rfl⟩, ⟨f1, f2, f3, rfl⟩, ⟨g1, g2, g3, rfl⟩, ⟨i1, i2, i3, rfl⟩, ⟨j1, j2, j3, rfl⟩, ⟨l1, l2, l3, rfl⟩, ⟨m1, m2, m3, rfl⟩⟩ := kz.k11
      have hra := kc.range
      have HZ := Lib.hid kz
      have HWF : Hid (wf l bt k = (wk l[k] && !bt.contains (k : Int))) := by show _ = _; unfold wf; simp [List.getD, hlt]
      have HSY := Lib.hid (sel_yes (f := wf l bt) hlt)
      have HSL := Lib.hid (sel_le l (wf l bt) k)
      have cW := xworks_any l[k] (.slice a1 a2 a3) (.slice b1 b2 b3) (.slice c1 c2 c3) (.slice d1 d2 d3) (.slice e1 e2 e3) (.slice f1 f2 f3) (.slice g1 g2 g3) (.slice i1 i2 i3) (.slice j1 j2 j3) (.slice l1 l2 l3) (.slice m1 m2 m3) (wr.alloc (kno 71 l[k] (.slice a1 a2 a3) (.slice b1 b2 b3) (.slice c1 c2 c3) (.slice d1 d2 d3) (.slice e1 e2 e3) (.slice f1 f2 f3) (.slice g1 g2 g3) (.slice i1 i2 i3) (.slice j1 j2 j3) (.slice l1 l2 l3) (.slice m1 m2 m3))) kz.k11
      clear kc kc0 kz
      generalize l[k] = x at hra HZ HSY HWF cW
      have hb1 := b1c wr (kno 71 x (.slice a1 a2 a3) (.slice b1 b2 b3) (.slice c1 c2 c3) (.slice d1 d2 d3) (.slice e1 e2 e3) (.slice f1 f2 f3) (.slice g1 g2 g3) (.slice i1 i2 i3) (.slice j1 j2 j3) (.slice l1 l2 l3) (.slice m1 m2 m3))
      have hK2 := k20_new wr 71 x (.slice a1 a2 a3) (.slice b1 b2 b3) (.slice c1 c2 c3) (.slice d1 d2 d3) (.slice e1 e2 e3) (.slice f1 f2 f3) (.slice g1 g2 g3) (.slice i1 i2 i3) (.slice j1 j2 j3) (.slice l1 l2 l3) (.slice m1 m2 m3)
      have HK2 := Lib.hid hK2
      obtain ⟨y, hy⟩ : ∃ y, wk x = y := ⟨_, rfl⟩
      rw [hy] at cW HWF
      clear hy hK2
      go_upto_region 4 with fail
      refine wp_region_lit ?_
      refine wpList_plain rfl fun K hK => ?_
      unfold Oper.wp
      simp [go_sem]
      refine hK _ _ ?_
      clear hK K
      refine wpList_plain rfl fun K hK => ?_
      unfold Oper.wp
      simp [go_sem, hlt]
      refine hK _ _ ?_
      clear hK K
      refine wpList_load_mid rfl 71 _ rfl b (o + k * 20) rfl _ _ hra Tryz.underlying71 rfl (by kernel_rfl) ?_
      refine wpList_plain rfl fun K hK => ?_
      unfold Oper.wp
      simp [go_sem]
      refine hK _ _ ?_
      clear hK K
      refine wpList_plain rfl fun K hK => ?_
      unfold Oper.wp
      simp [go_sem]
      refine hK _ _ ?_
      clear hK K
      refine wpList_store_new rfl 71 _ _ rfl _ _ rfl rfl (by kernel_rfl) (by rfl) (by first | rfl | simp [Value.oneCell']) ?_
      go_frame
      go_upto_region 5 with fail
      refine wp_region_lit ?_
      refine wpList_load_mid rfl 71 _ rfl wr.heap.size 0 rfl _ _ HK2.out.range Tryz.underlying71 rfl (by kernel_rfl) ?_
      go_frame
      go_wp2_with fail
      refine cW.mono ?_
      rintro e w1 ⟨rfl, bw⟩
      have bw1 := bon hb1 bw
      have HO1 := Lib.hid (HOW.out.on bw1)
      have HK3 := Lib.hid (HK2.out.on bw)
      have hW1 := bon hW bw1
      clear cW HOW hra HK2
      cases y with
      | false =>
        have HO2 : Hid (PW w w1 u5 ((sel l (wf l bt) (k + 1)).map (·.p)) r) := by
          show PW _ _ _ _ _
          rw [sel_no (l := l) (by rw [HWF.out]; rfl)]; exact HO1.out
        clear HSY HWF HO1
        go_wp2_with fail
        exact ⟨⟨k + 1, r, hlt, by go_num, HO2⟩, by simp [intOf]; omega⟩
      | true =>
        have cH := holds_any (.slice A2 bt.length cB) bt (k : Int) w1 (HI.out.on hW1) (by omega)
        obtain ⟨y, hy⟩ : ∃ y, bt.contains (k : Int) = y := ⟨_, rfl⟩
        rw [hy] at cH HWF
        clear hy
        go_wp2_with fail
        refine cH.mono ?_
        rintro e w1' ⟨rfl, hw'⟩
        subst hw'
        clear cH
        cases y with
        | true =>
          have HO2 : Hid (PW w w1' u5 ((sel l (wf l bt) (k + 1)).map (·.p)) r) := by
            show PW _ _ _ _ _
            rw [sel_no (l := l) (by rw [HWF.out]; rfl)]; exact HO1.out
          clear HSY HWF HO1
          go_wp2_with fail
          exact ⟨⟨k + 1, r, hlt, by go_num, HO2⟩, by simp [intOf]; omega⟩
        | false =>
          have HSE := Lib.hid (HSY.out (by rw [HWF.out]; rfl))
          have hr : r.length ≤ 1000 := by have := congrArg List.length HO1.out.m; simp at this; have := HSL.out; omega
          have hsz := HO1.out.b.size
          clear HSY HWF
          go_upto_region 6 with fail
          refine wp_region_lit ?_
          refine wpList_plain rfl fun K hK => ?_
          unfold Oper.wp
          simp [go_sem]
          refine hK _ _ ?_
          clear hK K
          refine wpList_plain rfl fun K hK => ?_
          unfold Oper.wp
          simp [go_sem]
          refine hK _ _ ?_
          clear hK K
          refine wpList_load_mid rfl 30 _ rfl wr.heap.size 7 rfl _ _ HK3.out.pack Tryz.underlying30 rfl (by kernel_rfl) ?_
          go_frame
          go_wp2_with (first | (at_builtin; refine wpList_apG Tryz.underlying88 info30 (by decide) (by decide) (pk13 (x.p, ⟨.slice c1 c2 c3, .slice d1 d2 d3, .slice e1 e2 e3, .slice f1 f2 f3, .slice g1 g2 g3, .slice i1 i2 i3, .slice j1 j2 j3, .slice l1 l2 l3, .slice m1 m2 m3⟩)) rfl (by intro u hu; simp at hu; rcases hu with rfl | rfl | rfl | rfl | rfl | rfl | rfl | rfl | rfl | rfl | rfl | rfl | rfl <;> rfl) HO1.out.o (by omega) hsz rfl _ _ rfl rfl _ rfl rfl ?_; intro g9 c9 w9 hR9 hB9; have HB9 := Lib.hid (hB9 _ (Nat.le_refl _)); have HR9 := Lib.hid hR9; clear hR9 hB9) | fail)
          refine ⟨⟨k + 1, r ++ [(x.p, ⟨.slice c1 c2 c3, .slice d1 d2 d3, .slice e1 e2 e3, .slice f1 f2 f3, .slice g1 g2 g3, .slice i1 i2 i3, .slice j1 j2 j3, .slice l1 l2 l3, .slice m1 m2 m3⟩)], hlt, by go_num, ⟨?_, ?_, ?_, ?_⟩⟩, by simp [intOf]; omega⟩
          · rw [HSE.out, List.map_append, List.map_append, HO1.out.m]; rfl
          · rw [List.length_append, List.flatMap_append]; exact HR9.out
          · intro y hy
            rw [List.mem_append] at hy
            rcases hy with hy | hy
            · exact HO1.out.t y hy
            · rw [List.mem_singleton.1 hy]; exact HZ.out.z
          · exact HO1.out.b.trans HB9.out
    · have hke : k = l.length := by omega
      subst hke
      go_wp2_with fail
      go_ret
      exact ⟨_, r, rfl, HOW.out⟩
theorem working_nil (A : Option Addr) (c : Nat) (vB : Value) (w : World) : Calls Tryz.prog 37 #[.slice A 0 c, vB] w fun e w' => e = .returned (.slice none 0 0) ∧ w' = w := by
  go_enter Tryz.func37, Tryz.ntmps37
  go_wp2
  refine wp_loop_rounds 1 ?_
  rw [rounds_succ]
  go_wp2
  go_ret
  exact ⟨rfl, rfl⟩
theorem working_any (v vB : Value) (l : List Kn) (bt : List Int) (w : World) (h : Ks w v l) (hB : Is w vB bt) (hn : l.length ≤ 1000) (hbt : bt.length ≤ 1000) :
    Calls Tryz.prog 37 #[v, vB] w fun e w' => ∃ S q, e = .returned S ∧ PW w w' S ((sel l (wf l bt) l.length).map (·.p)) q := by
  rcases h.is with ⟨rfl, A, c, rfl⟩ | ⟨b, o, c, rfl, hf⟩
  · exact (working_nil A c vB w).mono fun x w' ⟨h1, h2⟩ => ⟨_, [], h1, by rw [h2]; exact ⟨rfl, World.ownsRow_nil _ _ _ _, fun x hx => (by cases hx), Below.refl _ _⟩⟩
  · exact working_row b o c vB l bt w hf hB hn hbt
end Go.Proofs.YthijccmiemlilaaGreatDoor
