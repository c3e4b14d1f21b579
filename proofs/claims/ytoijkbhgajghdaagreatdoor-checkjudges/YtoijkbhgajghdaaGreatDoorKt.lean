/- The walk of the law CheckJudges. -/
import Derived.Test.YtoijkbhgajghdaaGreatDoorKr
namespace Go.Proofs.YtoijkbhgajghdaaGreatDoor
open Go.RowKit Go.Sort

theorem known_any (v : Value) (l : List Kn) (w : World) (h : Ks w v l) : Calls Tryz.prog 6 #[v] w fun e w' => KnT w l e w' := by
  by_cases hn : l.length ≤ 20
  · rcases h.is with ⟨rfl, A, c, rfl⟩ | ⟨b, o, c, rfl, hf⟩
    · exact known_nil A c w
    · exact known_row b o c l w hf hn
  · obtain ⟨A, c, rfl⟩ := h.sl
    exact known_long A c l w (by omega)
theorem conf_any (v vI : Value) (l : List Kn) (m : Int) (ws : List Int) (w : World) (hl : Ks w v l) (hI : Is w vI ws) (hn : l.length ≤ 20) (hws : ws.length ≤ 30) (hSo : ∀ k ∈ l, Sok k.p) (hO : Oc w) : Calls Tryz.prog 11 #[v, .int .i64 m, vI] w fun x w' => ∃ z, x = .returned z ∧ ErrIs w' z (cfE l m ws).1 (cfE l m ws).2 ∧ Below w.heap.size w w' := by
  by_cases hm : m < 0 ∨ (l.length : Int) ≤ m
  · exact conf_out v vI l m ws w hl hI hm
  · obtain ⟨j, rfl⟩ : ∃ j : Nat, m = j := ⟨m.toNat, by omega⟩
    rcases hl.is with ⟨rfl, A, c, rfl⟩ | ⟨b, o, c, rfl, hf⟩
    · exfalso; simp at hm
    · exact conf_in b o c vI l j ws w hf hI (by omega) (by omega) (by omega) hSo hO
theorem xconf_any (v vI : Value) (l : List Kn) (m : Int) (ws : List Int) (w : World) (hl : Ks w v l) (hI : Is w vI ws) (hn : l.length ≤ 20) (hws : ws.length ≤ 30) (hSo : ∀ k ∈ l, Sok k.p) (hR : Rr w) (hFi : Fi w) : Calls Tryz.prog 12 #[v, .int .i64 m, vI] w fun x w' => x = .returned (.agg #[.int .i64 (cfE l m ws).1, .int .i64 (cfE l m ws).2]) ∧ Below w.heap.size w w' := by
  by_cases hm : m < 0 ∨ (l.length : Int) ≤ m
  · exact xconf_out v vI l m ws w hl hI (by omega) hm
  · obtain ⟨j, rfl⟩ : ∃ j : Nat, m = j := ⟨m.toNat, by omega⟩
    rcases hl.is with ⟨rfl, A, c, rfl⟩ | ⟨b, o, c, rfl, hf⟩
    · exfalso; simp at hm
    · exact xconf_in b o c vI l j ws w hf hI (by omega) (by omega) (by omega) hSo hR hFi
set_option maxHeartbeats 6400000 in
set_option maxRecDepth 100000 in
theorem judges_any (v vI : Value) (l : List Kn) (p : Pck) (uD uA uG uB uR uP uS uL uF : Value) (m : Int) (ws : List Int) (w : World) (hl : Ks w v l) (hp : Pz w p uD uA uG uB uR uP uS uL uF) (hI : Is w vI ws) (hO : Oc w) (hR : Rr w) (hFi : Fi w) (hE : ErrT w) : Calls Tryz.prog 3 #[v, pkv p.o.n p.o.e p.o.u p.o.r uD uA uG uB uR uP uS uL uF, .int .i64 m, vI] w fun x w' => x = .returned (.bool true) ∧ Below w.heap.size w w' := by
  obtain ⟨A, c, rfl⟩ := hl.sl
  obtain ⟨A2, cB, rfl⟩ := hI.sl
  obtain ⟨d4, d5, rfl⟩ := hp.D.sl
  obtain ⟨a4, a5, rfl⟩ := hp.A.sl
  obtain ⟨g4, g5, rfl⟩ := hp.G.sl
  obtain ⟨b4, b5, rfl⟩ := hp.B.sl
  obtain ⟨r4, r5, rfl⟩ := hp.R.sl
  obtain ⟨p4, p5, rfl⟩ := hp.P.sl
  obtain ⟨s4, s5, rfl⟩ := hp.S.sl
  obtain ⟨l4, l5, rfl⟩ := hp.L.sl
  obtain ⟨f4, f5, rfl⟩ := hp.F.sl
  obtain ⟨w2, hw2⟩ : ∃ w2, w2 = w.alloc (pko p.o.n p.o.e p.o.u p.o.r (.slice d4 p.D.length d5) (.slice a4 p.A.length a5) (.slice g4 p.G.length g5) (.slice b4 p.B.length b5) (.slice r4 p.R.length r5) (.slice p4 p.o.P.length p5) (.slice s4 p.S.length s5) (.slice l4 p.L.length l5) (.slice f4 p.F.length f5)) := ⟨_, rfl⟩
  have hb2 : Below w.heap.size w w2 := by rw [hw2]; exact b1c _ _
  have hPB : Pb w2 w.heap.size p (.slice d4 p.D.length d5) (.slice a4 p.A.length a5) (.slice g4 p.G.length g5) (.slice b4 p.B.length b5) (.slice r4 p.R.length r5) (.slice p4 p.o.P.length p5) (.slice s4 p.S.length s5) (.slice l4 p.L.length l5) (.slice f4 p.F.length f5) := by rw [hw2]; exact pb_new w p (.slice d4 p.D.length d5) (.slice a4 p.A.length a5) (.slice g4 p.G.length g5) (.slice b4 p.B.length b5) (.slice r4 p.R.length r5) (.slice p4 p.o.P.length p5) (.slice s4 p.S.length s5) (.slice l4 p.L.length l5) (.slice f4 p.F.length f5)
  have HL := Lib.hid (hl.on hb2)
  have HP := Lib.hid (hp.on hb2)
  have HI := Lib.hid (hI.on hb2)
  have HO := Lib.hid (hO.on hb2)
  have HR := Lib.hid (hR.on hb2)
  have HFi := Lib.hid (hFi.on hb2)
  have HE := Lib.hid (hE.on hb2)
  have HB := Lib.hid hb2
  have HPB := Lib.hid hPB
  have cK := known_any (.slice A l.length c) l w2 (hl.on hb2)
  clear hl hp hI hO hR hFi hE hb2 hPB
  go_enter Tryz.func3, Tryz.ntmps3
  go_upto_region 1 with fail
  rw [← hw2]
  clear hw2
  go_wp2_with fail
  refine cK.mono ?_
  rintro x wA ⟨S, y, rfl, hWA, hS⟩
  have HS := Lib.hid hS
  clear cK hS
  cases y with
  | false =>
    go_wp2_with fail
    go_ret
    exact ⟨rfl, bon HB.out hWA⟩
  | true =>
  obtain ⟨hKs, hn, hSo⟩ : Ks wA S l ∧ l.length ≤ 20 ∧ ∀ k ∈ l, Sok k.p := by first | exact HS.out rfl | exact HS.out trivial
  obtain ⟨S1, S2, rfl⟩ := hKs.sl
  have HKs := Lib.hid hKs
  have HSo := Lib.hid hSo
  have rP := (HPB.out.on hWA).range
  clear hKs hSo HS
  go_upto_region 2 with fail
  refine wp_region_lit ?_
  refine wpList_plain rfl fun K hK => ?_
  unfold Oper.wp
  simp [go_sem]
  refine hK _ _ ?_
  clear hK K
  refine wpList_plain rfl fun K hK => ?_
  unfold Oper.wp
  simp [go_sem]
  refine hK _ _ ?_
  clear hK K
  refine wpList_plain rfl fun K hK => ?_
  unfold Oper.wp
  simp [go_sem]
  refine hK _ _ ?_
  clear hK K
  refine wpList_load_midg (by kernel_rfl) 30 _ rfl w.heap.size 0 rfl _ _ rP Tryz.underlying30 rfl (by kernel_rfl) ?_
  go_frame
  go_wp2_with fail
  refine (says_any p (.slice d4 p.D.length d5) (.slice a4 p.A.length a5) (.slice g4 p.G.length g5) (.slice b4 p.B.length b5) (.slice r4 p.R.length r5) (.slice p4 p.o.P.length p5) (.slice s4 p.S.length s5) (.slice l4 p.L.length l5) (.slice f4 p.F.length f5) wA (HP.out.on hWA)).mono ?_
  rintro x wB ⟨⟨y, rfl, hy⟩, bB⟩
  have hWB := bon hWA bB
  have HY := Lib.hid hy
  clear hy rP
  cases y with
  | false =>
    go_wp2_with fail
    go_ret
    exact ⟨rfl, bon HB.out hWB⟩
  | true =>
  have hop : Sok p := by first | exact HY.out rfl | exact HY.out trivial
  have HOP := Lib.hid hop
  clear HY hop
  by_cases h30 : 30 < ws.length
  · go_wp2_with fail
    go_ret
    exact ⟨rfl, bon HB.out hWB⟩
  have hws : ws.length ≤ 30 := by omega
  have rP := (HPB.out.on hWB).range
  have hpl : w.heap.size < wB.heap.size := block_lt_of_cell (HPB.out.on hWB).c0
  have hS : Below wB.heap.size wB wB.drew := (Below.refl _ _).drew
  have HKB := Lib.hid (HKs.out.on bB)
  obtain ⟨eu, heu⟩ : ∃ e, upE l p = e := ⟨_, rfl⟩
  obtain ⟨ec, hec⟩ : ∃ e, cfE l m ws = e := ⟨_, rfl⟩
  have M9 : Hid (∀ W, Below wB.heap.size wB W → Calls Tryz.prog 9 #[.slice S1 l.length S2, pkv p.o.n p.o.e p.o.u p.o.r (.slice d4 p.D.length d5) (.slice a4 p.A.length a5) (.slice g4 p.G.length g5) (.slice b4 p.B.length b5) (.slice r4 p.R.length r5) (.slice p4 p.o.P.length p5) (.slice s4 p.S.length s5) (.slice l4 p.L.length l5) (.slice f4 p.F.length f5)] W fun x w' => ∃ z, x = .returned z ∧ ErrIs w' z eu.1 eu.2 ∧ Below W.heap.size W w') := fun W hW => by rw [← heu]; exact unpack_any _ l p _ _ _ _ _ _ _ _ _ W (HKB.out.on hW) (HP.out.on (bon hWB hW)) (by omega) HSo.out HOP.out
  have M10 : Hid (∀ W, Below wB.heap.size wB W → Calls Tryz.prog 10 #[.slice A l.length c, pkv p.o.n p.o.e p.o.u p.o.r (.slice d4 p.D.length d5) (.slice a4 p.A.length a5) (.slice g4 p.G.length g5) (.slice b4 p.B.length b5) (.slice r4 p.R.length r5) (.slice p4 p.o.P.length p5) (.slice s4 p.S.length s5) (.slice l4 p.L.length l5) (.slice f4 p.F.length f5)] W fun x w' => x = .returned (.agg #[.int .i64 eu.1, .int .i64 eu.2]) ∧ Below W.heap.size W w') := fun W hW => by rw [← heu]; exact xunpack_any _ l p _ _ _ _ _ _ _ _ _ W (HL.out.on (bon hWB hW)) (HP.out.on (bon hWB hW)) (by omega) HSo.out HOP.out (HFi.out.on (bon hWB hW))
  have M11 : Hid (∀ W, Below wB.heap.size wB W → Calls Tryz.prog 11 #[.slice S1 l.length S2, .int .i64 m, .slice A2 ws.length cB] W fun x w' => ∃ z, x = .returned z ∧ ErrIs w' z ec.1 ec.2 ∧ Below W.heap.size W w') := fun W hW => by rw [← hec]; exact conf_any _ _ l m ws W (HKB.out.on hW) (HI.out.on (bon hWB hW)) hn hws HSo.out (HO.out.on (bon hWB hW))
  have M12 : Hid (∀ W, Below wB.heap.size wB W → Calls Tryz.prog 12 #[.slice A l.length c, .int .i64 m, .slice A2 ws.length cB] W fun x w' => x = .returned (.agg #[.int .i64 ec.1, .int .i64 ec.2]) ∧ Below W.heap.size W w') := fun W hW => by rw [← hec]; exact xconf_any _ _ l m ws W (HL.out.on (bon hWB hW)) (HI.out.on (bon hWB hW)) hn hws HSo.out (HR.out.on (bon hWB hW)) (HFi.out.on (bon hWB hW))
  clear heu hec HKs hws hn
  go_upto_region 4 with fail
  refine wp_region_held (S := fun V => Below wB.heap.size wB V) (by kernel_rfl) ?_
  refine take_d (some 28) (i := 0) (v := .slice S1 l.length S2) rfl rfl (by kernel_rfl) (by kernel_rfl) (by kernel_rfl) (fun _ _ _ h => h) (.inl ⟨by kernel_rfl, fun w' hw => by simp [go_sem]⟩) hS ?_
  refine take_d (some 29) (i := 1) rfl rfl (by kernel_rfl) (by kernel_rfl) (by kernel_rfl) (fun _ _ _ h => h) (yieldsIf_load_mid (by kernel_rfl) 30 _ rfl w.heap.size 0 rfl _ _ (fun V hV j v hv => by rw [hV.cell (p := ⟨w.heap.size, 0 + j, none⟩) hpl]; exact rP j v hv) Tryz.underlying30 rfl (by kernel_rfl)) hS ?_
  refine take_d (some 31) (i := 3) (v := .slice A l.length c) rfl rfl (by kernel_rfl) (by kernel_rfl) (by kernel_rfl) (fun _ _ _ h => h) (.inl ⟨by kernel_rfl, fun w' hw => by simp [go_sem]⟩) hS ?_
  simp only [Act.put, List.setIfInBounds_toArray, List.set_cons_succ, List.set_cons_zero]
  refine take_d (some 32) (i := 4) rfl rfl (by kernel_rfl) (by kernel_rfl) (by kernel_rfl) (fun _ _ _ h => h) (yieldsIf_load_mid (by kernel_rfl) 30 _ rfl w.heap.size 0 rfl _ _ (fun V hV j v hv => by rw [hV.cell (p := ⟨w.heap.size, 0 + j, none⟩) hpl]; exact rP j v hv) Tryz.underlying30 rfl (by kernel_rfl)) hS ?_
  simp only [Act.put, List.setIfInBounds_toArray, List.set_cons_succ, List.set_cons_zero]
  refine wpAnyH_all (rs := [2]) (by kernel_rfl) (by simp) fun i hi => ?_
  obtain rfl : i = 2 := by simpa using hi
  refine wpOp_want rfl (by kernel_rfl) ?_
  unfold Oper.wp
  simp [go_sem]
  refine (M9.out wB.drew hS).mono ?_
  rintro z V1 ⟨v1, rfl, e1, c1⟩
  have hS1 := bon hS c1
  refine ⟨hS1, ?_⟩
  refine wpAnyH_all (rs := [5]) (by kernel_rfl) (by simp) fun i hi => ?_
  obtain rfl : i = 5 := by simpa using hi
  refine wpOp_want rfl (by kernel_rfl) ?_
  unfold Oper.wp
  simp [go_sem]
  refine (M10.out V1 hS1).mono ?_
  rintro z V2 ⟨rfl, c2⟩
  have hS2 := bon hS1 c2
  have e2 := e1.on c2
  refine ⟨hS2, ?_⟩
  refine wpAnyH_all (rs := [6]) (by kernel_rfl) (by simp) fun i hi => ?_
  obtain rfl : i = 6 := by simpa using hi
  refine wpOp_want rfl (by kernel_rfl) ?_
  unfold Oper.wp
  simp [go_sem]
  refine (isE_any V2 e2 (HE.out.on (bon hWB hS2))).mono ?_
  rintro z V3 ⟨rfl, c3⟩
  have hS3 := bon hS2 c3
  refine ⟨hS3, ?_⟩
  refine take_d (some 35) (i := 7) (v := .bool true) rfl rfl (by kernel_rfl) (by kernel_rfl) (by kernel_rfl) (fun _ _ _ h => h) (.inl ⟨by kernel_rfl, fun w' hw => by simp [go_sem]⟩) hS3 ?_
  refine take_d (some 36) (i := 8) (v := .slice S1 l.length S2) rfl rfl (by kernel_rfl) (by kernel_rfl) (by kernel_rfl) (fun _ _ _ h => h) (.inl ⟨by kernel_rfl, fun w' hw => by simp [go_sem]⟩) hS3 ?_
  refine take_d (some 37) (i := 9) (v := .int .i64 m) rfl rfl (by kernel_rfl) (by kernel_rfl) (by kernel_rfl) (fun _ _ _ h => h) (.inl ⟨by kernel_rfl, fun w' hw => by simp [go_sem]⟩) hS3 ?_
  refine take_d (some 38) (i := 10) (v := .slice A2 ws.length cB) rfl rfl (by kernel_rfl) (by kernel_rfl) (by kernel_rfl) (fun _ _ _ h => h) (.inl ⟨by kernel_rfl, fun w' hw => by simp [go_sem]⟩) hS3 ?_
  refine take_d (some 40) (i := 12) (v := .slice A l.length c) rfl rfl (by kernel_rfl) (by kernel_rfl) (by kernel_rfl) (fun _ _ _ h => h) (.inl ⟨by kernel_rfl, fun w' hw => by simp [go_sem]⟩) hS3 ?_
  refine take_d (some 41) (i := 13) (v := .int .i64 m) rfl rfl (by kernel_rfl) (by kernel_rfl) (by kernel_rfl) (fun _ _ _ h => h) (.inl ⟨by kernel_rfl, fun w' hw => by simp [go_sem]⟩) hS3 ?_
  refine take_d (some 42) (i := 14) (v := .slice A2 ws.length cB) rfl rfl (by kernel_rfl) (by kernel_rfl) (by kernel_rfl) (fun _ _ _ h => h) (.inl ⟨by kernel_rfl, fun w' hw => by simp [go_sem]⟩) hS3 ?_
  simp only [Act.put, List.setIfInBounds_toArray, List.set_cons_succ, List.set_cons_zero]
  refine wpAnyH_all (rs := [11]) (by kernel_rfl) (by simp) fun i hi => ?_
  obtain rfl : i = 11 := by simpa using hi
  refine wpOp_want rfl (by kernel_rfl) ?_
  unfold Oper.wp
  simp [go_sem]
  refine (M11.out V3 hS3).mono ?_
  rintro z V4 ⟨v4, rfl, e4, c4⟩
  have hS4 := bon hS3 c4
  refine ⟨hS4, ?_⟩
  refine wpAnyH_all (rs := [15]) (by kernel_rfl) (by simp) fun i hi => ?_
  obtain rfl : i = 15 := by simpa using hi
  refine wpOp_want rfl (by kernel_rfl) ?_
  unfold Oper.wp
  simp [go_sem]
  refine (M12.out V4 hS4).mono ?_
  rintro z V5 ⟨rfl, c5⟩
  have hS5 := bon hS4 c5
  have e5 := e4.on c5
  refine ⟨hS5, ?_⟩
  refine wpAnyH_all (rs := [16]) (by kernel_rfl) (by simp) fun i hi => ?_
  obtain rfl : i = 16 := by simpa using hi
  refine wpOp_want rfl (by kernel_rfl) ?_
  unfold Oper.wp
  simp [go_sem]
  refine (isE_any V5 e5 (HE.out.on (bon hWB hS5))).mono ?_
  rintro z V6 ⟨rfl, c6⟩
  have hS6 := bon hS5 c6
  refine ⟨hS6, ?_⟩
  refine take_d (some 45) (i := 17) (v := .bool true) rfl rfl (by kernel_rfl) (by kernel_rfl) (by kernel_rfl) (fun _ _ _ h => h) (.inl ⟨by kernel_rfl, fun w' hw => by simp [go_sem]⟩) hS6 ?_
  refine take_d (some 8) (i := 18) (v := .bool true) rfl rfl (by kernel_rfl) (by kernel_rfl) (by kernel_rfl) (fun _ _ _ h => h) (.inl ⟨by kernel_rfl, fun w' hw => by simp [go_sem]⟩) hS6 ?_
  refine wpAnyH_done (by kernel_rfl) ?_ _
  simp only [Act.put, List.setIfInBounds_toArray, List.set_cons_succ, List.set_cons_zero]
  go_wp2_with fail
  go_ret
  exact ⟨rfl, bon HB.out (bon hWB hS6)⟩
end Go.Proofs.YtoijkbhgajghdaaGreatDoor
