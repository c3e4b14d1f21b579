/- The walk of record's Fields. -/
import Derived.Test.YtmlmdncepgcimaaGreatDoorZat
import Derived.Test.YtmlmdncepgcimaaGreatDoorYe
import Derived.Test.YtmlmdncepgcimaaGreatDoorZax
namespace Go.Proofs.YtmlmdncepgcimaaGreatDoor
open Go.RowKit Go.Shelf Go.Sort

/-- What a package may say. -/
def addl (p : Pck) : List Fd := [([80, 97, 99, 107, 97, 103, 101], p.o.n), ([86, 101, 114, 115, 105, 111, 110], Vm.pt p.o.e p.o.u p.o.r), ([68, 101, 112, 101, 110, 100, 115], wrA p.D), ([80, 114, 101, 45, 68, 101, 112, 101, 110, 100, 115], wrA p.A), ([67, 111, 110, 102, 108, 105, 99, 116, 115], wrA (sing p.G)), ([66, 114, 101, 97, 107, 115], wrA (sing p.B)), ([82, 101, 112, 108, 97, 99, 101, 115], wrA (sing p.R)), ([80, 114, 111, 118, 105, 100, 101, 115], wrA (sing p.o.P)), ([67, 111, 110, 102, 102, 105, 108, 101, 115], lns p.S), ([84, 114, 105, 103, 103, 101, 114, 115], lns p.L)]
/-- What says nothing is left out. -/
def kp (f : Fd) : List Fd := if f.2 = [] then [] else [f]
def flds (p : Pck) : List Fd := (addl p).flatMap kp
theorem kp_le (f : Fd) : (kp f).length ≤ 1 := by unfold kp; split <;> simp
theorem kps_le : ∀ l : List Fd, (l.flatMap kp).length ≤ l.length
  | [] => by simp
  | f :: l => by
    have := kps_le l
    have := kp_le f
    simp only [List.flatMap_cons, List.length_append, List.length_cons]; omega
/-- The slice in the box. -/
theorem fo_sl {w1 W : World} {fs : List Fd} (h : Fo w1 fs W) : ∃ A c, W.cell? ⟨w1.heap.size, 0, none⟩ = some (.slice A fs.length c) ∧ Stz.Sl W (.slice A fs.length c) fs := by
  obtain ⟨S, h1, h2⟩ := h.is
  have k1 := (cell_blk h1).1
  rcases h2.2 with ⟨rfl, h0⟩ | ⟨g, cap, cur, rfl, _, hg, hc, _⟩
  · refine ⟨none, 0, by rw [k1, h0], ?_⟩
    exact ⟨.inl ⟨List.length_eq_zero_iff.1 h0, none, 0, by rw [h0]⟩⟩
  · refine ⟨some ⟨g, 0, none⟩, cap, k1, ⟨.inr ⟨g, 0, cap, rfl, hc, (Array.getElem?_eq_some_iff.1 hg).1, fun i hi => ?_, fun i hi => ?_⟩⟩⟩
    · rw [show (0 + i * 2) = i * 2 + 0 from by omega, World.ownsRow.cellAt h2 (i * 2 + 0) (by omega), fcs_get fs i 0 hi (by omega)]; rfl
    · rw [show (0 + i * 2 + 1) = i * 2 + 1 from by omega, World.ownsRow.cellAt h2 (i * 2 + 1) (by omega), fcs_get fs i 1 hi (by omega)]; rfl

theorem pb_on {w1 W : World} {fs : List Fd} (h : Fo w1 fs W) {b : Nat} {p : Pck} {vD vA vG vB vR vP vS vL vF : Value} (hB : Pb w1 b p vD vA vG vB vR vP vS vL vF) : Pb W b p vD vA vG vB vR vP vS vL vF := hB.on h.bel
theorem pz_on {w1 W : World} {fs : List Fd} (h : Fo w1 fs W) {p : Pck} {vD vA vG vB vR vP vS vL vF : Value} (hB : Pz w1 p vD vA vG vB vR vP vS vL vF) : Pz W p vD vA vG vB vR vP vS vL vF := hB.on h.bel
/-- What Right told. -/
structure Rk (p : Pck) : Prop where
  n : nmo p.o.n = true
  v : Vm.rt p.o.e p.o.u p.o.r = true
  D : ask p.D = true
  A : ask p.A = true
  G : ask (sing p.G) = true
  B : ask (sing p.B) = true
  R : ask (sing p.R) = true
  P : ask (sing p.o.P) = true
  S : pths p.S = true
  L : pths p.L = true
theorem rk_of {p : Pck} (h : rok p = true) : Rk p := by
  unfold rok at h
  simp only [Bool.and_eq_true] at h
  exact ⟨h.1, h.2.1, h.2.2.1, h.2.2.2.1, h.2.2.2.2.1, h.2.2.2.2.2.1, h.2.2.2.2.2.2.1, h.2.2.2.2.2.2.2.1, h.2.2.2.2.2.2.2.2.2.1, h.2.2.2.2.2.2.2.2.2.2⟩
theorem wrS_le {x : List Tm} (h : ∀ t ∈ x, tok t = true) : (wrS x).length ≤ x.length * 103 := by
  have := jn_le [32, 124, 32] 100 (x.map wrT) (fun y hy => by obtain ⟨t, ht, rfl⟩ := List.mem_map.1 hy; exact wrT_le (h t ht))
  unfold wrS
  simpa using this
theorem wrF_le : ∀ l : List (List Tm), (∀ x ∈ l, x ≠ [] ∧ ∀ t ∈ x, tok t = true) → ((l.map wrS).flatMap fun y => [44, 32] ++ y).length ≤ l.flatten.length * 105
  | [], _ => by simp
  | x :: l, h => by
    have h1 := wrF_le l (fun y hy => h y (List.mem_cons_of_mem _ hy))
    obtain ⟨h2, h3⟩ := h x (List.mem_cons_self ..)
    have h4 := wrS_le h3
    have h5 : 0 < x.length := List.length_pos_iff.2 h2
    simp only [List.map_cons, List.flatMap_cons, List.length_append, List.flatten_cons, List.length_cons, List.length_nil] at h1 ⊢
    omega
theorem wrA_le {l : List (List Tm)} (h : ask l = true) : (wrA l).length ≤ 4000 := by
  unfold ask at h
  simp only [Bool.and_eq_true, List.all_eq_true, decide_eq_true_eq] at h
  have h1 := wrF_le l (fun x hx => ⟨h.1 x hx, fun t ht => h.2.2 t (List.mem_flatten.2 ⟨x, hx, ht⟩)⟩)
  have h2 : (wrA l).length ≤ ((l.map wrS).flatMap fun y => [44, 32] ++ y).length := by
    unfold wrA
    cases l.map wrS with
    | nil => simp [jn]
    | cons x xs => simp only [jn, List.flatMap_cons, List.length_append]; omega
  have h3 := h.2.1
  omega
theorem lns20 {l : List (List UInt8)} (h : pths l = true) (hx : txs l = true) : (lns l).length ≤ 4000 := by
  have h1 := lns_le l (txs_p hx).2
  unfold pths at h
  simp only [Bool.and_eq_true, decide_eq_true_eq] at h
  have h2 := Nat.mul_le_mul h.1 (Nat.le_refl 101)
  omega
theorem pt_len {e : Int} {u r : List UInt8} (h0 : -9223372036854775808 ≤ e) (h1 : e ≤ 9223372036854775807) (hu : u.length ≤ 100) (hr : r.length ≤ 100) : (Vm.pt e u r).length ≤ 4000 := by
  have := Lib.itoa_length_le e h0 h1
  unfold Vm.pt Vm.pe Vm.pr
  simp only [List.length_append]
  split <;> split <;> simp <;> omega
theorem sz_flds {p : Pck} (h : Rk p) (hp : Pg p) : Stz.Sz (flds p) := by
  have hn := hp.n
  have g : ∀ f ∈ addl p, f.1.length ≤ 100 ∧ f.2.length ≤ 4000 := by
    intro f hf
    simp only [addl, List.mem_cons, List.not_mem_nil, or_false] at hf
    rcases hf with rfl | rfl | rfl | rfl | rfl | rfl | rfl | rfl | rfl | rfl
    · exact ⟨by simp, by show p.o.n.length ≤ 4000; omega⟩
    · exact ⟨by simp, pt_len hp.e0 hp.e1 hp.u hp.r⟩
    · exact ⟨by simp, wrA_le h.D⟩
    · exact ⟨by simp, wrA_le h.A⟩
    · exact ⟨by simp, wrA_le h.G⟩
    · exact ⟨by simp, wrA_le h.B⟩
    · exact ⟨by simp, wrA_le h.R⟩
    · exact ⟨by simp, wrA_le h.P⟩
    · exact ⟨by simp, lns20 h.S hp.S⟩
    · exact ⟨by simp, lns20 h.L hp.L⟩
  refine ⟨?_, fun f hf => ?_⟩
  · have := kps_le (addl p)
    show ((addl p).flatMap kp).length ≤ 60
    have h2 : (addl p).length = 10 := rfl
    omega
  · obtain ⟨f', h1, h2⟩ := List.mem_flatMap.1 hf
    unfold kp at h2
    split at h2
    · cases h2
    · rw [List.mem_singleton] at h2; subst h2; exact g f h1

/-- What Fields hands back. -/
def FR (p : Pck) (e : Ending) (w : World) : Prop := ∃ A c, Stz.Sl w (.slice A (flds p).length c) (flds p) ∧ e = .returned (if Stz.Sm.rgt (flds p) = true then .tuple #[.slice A (flds p).length c, .nilIface] else .tuple #[.slice none 0 0, .iface 32 (.int .i64 4)])

set_option maxHeartbeats 12800000 in
set_option maxRecDepth 100000 in
theorem recfields_ok (p : Pck) (vD vA vG vB vR vP vS vL vF : Value) (w : World) (hz : Pz w p vD vA vG vB vR vP vS vL vF) (hp : Pg p) (hk : rok p = true) (hG : Sg w) (hT : Tab w) (hM : MaxN w) : Calls Tryz.prog 11 #[pkv p.o.n p.o.e p.o.u p.o.r vD vA vG vB vR vP vS vL vF] w fun x w' => FR p x w' ∧ Below w.heap.size w w' := by
  have c0 := b1c w (pko p.o.n p.o.e p.o.u p.o.r vD vA vG vB vR vP vS vL vF)
  have cR := recright_any p vD vA vG vB vR vP vS vL vF _ (hz.on c0) hp (tab_on hT c0) (hM.on c0)
  rw [hk] at cR
  have B0 := Lib.hid (pb_new w p vD vA vG vB vR vP vS vL vF)
  have Z0 := Lib.hid (hz.on c0)
  have HT := Lib.hid hT
  have HG := Lib.hid hG
  have HP := Lib.hid hp
  have HK := Lib.hid (rk_of hk)
  have HZ := Lib.hid (sz_flds (rk_of hk) hp)
  obtain ⟨D1, D2, rfl⟩ := as_sl hz.D
  obtain ⟨A1, A2, rfl⟩ := as_sl hz.A
  obtain ⟨G1, G2, rfl⟩ := ts_sl hz.G
  obtain ⟨B1, B2, rfl⟩ := ts_sl hz.B
  obtain ⟨R1, R2, rfl⟩ := ts_sl hz.R
  obtain ⟨P1, P2, rfl⟩ := ts_sl hz.P
  obtain ⟨S1, S2, rfl⟩ := ss_sl hz.S
  obtain ⟨L1, L2, rfl⟩ := ss_sl hz.L
  have b0 := B0.out.c0
  have b1 := B0.out.c1
  have b2 := B0.out.c2
  have b3 := B0.out.c3
  have b4 := B0.out.c4
  have b5 := B0.out.c5
  have b6 := B0.out.c6
  have b7 := B0.out.c7
  have b8 := B0.out.c8
  have b9 := B0.out.c9
  have b10 := B0.out.c10
  have b11 := B0.out.c11
  have b12 := B0.out.c12
  clear hz hp hk hT hM hG
  go_enter Tryz.func11, Tryz.ntmps11
  go_wp2_with fail
  refine cR.mono ?_
  rintro x w1 ⟨rfl, bw⟩
  have cw := bon c0 bw
  have B1' := Lib.hid (B0.out.on bw)
  have Z1 := Lib.hid (Z0.out.on bw)
  clear b0 b1 b2 b3 b4 b5 b6 b7 b8 b9 b10 b11 b12 B0 Z0 cR bw c0
  have F0 : Hid (Fo w1 (((addl p).take 0).flatMap kp) (w1.alloc (.cells #[.slice none 0 0] 31))) := fo_new w1
  have Bk := (pb_on F0.out B1'.out)
  have k1 := Bk.c0
  clear Bk
  have cT := clone2 p.o.n (w1.alloc (.cells #[.slice none 0 0] 31)) (by have := HP.out.n; omega)
  go_wp2_with fail
  refine cT.mono ?_
  rintro x u0 ⟨rfl, bv⟩
  have Fu := Lib.hid (F0.out.on bv)
  clear cT bv F0 k1
  have cA := add_any w1  (((addl p).take 0).flatMap kp) [80, 97, 99, 107, 97, 103, 101] (p.o.n) u0 Fu.out (Nat.le_trans (kps_le ((addl p).take 0)) (by simp [addl]))
  go_wp2_with fail
  refine cA.mono ?_
  rintro x y0 ⟨rfl, hF⟩
  have F1 := Lib.hid (show Fo w1 ((addl p).take 1 |>.flatMap kp) y0 from by have := hF; simpa [addl, kp] using this)
  clear cA Fu hF
  have Bk := (pb_on F1.out B1'.out)
  have k1 := Bk.c1
  have k2 := Bk.c2
  have k3 := Bk.c3
  clear Bk
  have cT := print_any p.o.e p.o.u p.o.r _ HP.out.e0 HP.out.e1 (by have := HP.out.u; omega) (by have := HP.out.r; omega) (tab_on HT.out (bon cw F1.out.bel))
  go_wp2_with fail
  refine cT.mono ?_
  rintro x u1 ⟨rfl, bv⟩
  have Fu := Lib.hid (F1.out.on bv)
  clear cT bv F1 k1 k2 k3
  have cA := add_any w1  (((addl p).take 1).flatMap kp) [86, 101, 114, 115, 105, 111, 110] (Vm.pt p.o.e p.o.u p.o.r) u1 Fu.out (Nat.le_trans (kps_le ((addl p).take 1)) (by simp [addl]))
  go_wp2_with fail
  refine cA.mono ?_
  rintro x y1 ⟨rfl, hF⟩
  have F2 := Lib.hid (show Fo w1 ((addl p).take 2 |>.flatMap kp) y1 from by have := hF; simpa [addl, kp] using this)
  clear cA Fu hF
  have Bk := (pb_on F2.out B1'.out)
  have k1 := Bk.c4
  clear Bk
  have cT := printed_any _ p.D _ (pz_on F2.out Z1.out).D HP.out.D HK.out.D (HG.out.on (bon cw F2.out.bel)) (tab_on HT.out (bon cw F2.out.bel))
  go_wp2_with fail
  refine cT.mono ?_
  rintro x u2 ⟨rfl, bv⟩
  have Fu := Lib.hid (F2.out.on bv)
  clear cT bv F2 k1
  have cA := add_any w1  (((addl p).take 2).flatMap kp) [68, 101, 112, 101, 110, 100, 115] (wrA p.D) u2 Fu.out (Nat.le_trans (kps_le ((addl p).take 2)) (by simp [addl]))
  go_wp2_with fail
  refine cA.mono ?_
  rintro x y2 ⟨rfl, hF⟩
  have F3 := Lib.hid (show Fo w1 ((addl p).take 3 |>.flatMap kp) y2 from by have := hF; simpa [addl, kp] using this)
  clear cA Fu hF
  have Bk := (pb_on F3.out B1'.out)
  have k1 := Bk.c5
  clear Bk
  have cT := printed_any _ p.A _ (pz_on F3.out Z1.out).A HP.out.A HK.out.A (HG.out.on (bon cw F3.out.bel)) (tab_on HT.out (bon cw F3.out.bel))
  go_wp2_with fail
  refine cT.mono ?_
  rintro x u3 ⟨rfl, bv⟩
  have Fu := Lib.hid (F3.out.on bv)
  clear cT bv F3 k1
  have cA := add_any w1  (((addl p).take 3).flatMap kp) [80, 114, 101, 45, 68, 101, 112, 101, 110, 100, 115] (wrA p.A) u3 Fu.out (Nat.le_trans (kps_le ((addl p).take 3)) (by simp [addl]))
  go_wp2_with fail
  refine cA.mono ?_
  rintro x y3 ⟨rfl, hF⟩
  have F4 := Lib.hid (show Fo w1 ((addl p).take 4 |>.flatMap kp) y3 from by have := hF; simpa [addl, kp] using this)
  clear cA Fu hF
  have Bk := (pb_on F4.out B1'.out)
  have k1 := Bk.c6
  clear Bk
  have cT := dsing_any _ p.G _ (pz_on F4.out Z1.out).G (by have := sing_le HP.out.G; omega)
  go_wp2_with fail
  refine cT.mono ?_
  rintro x v4 ⟨S, rfl, hS, bv⟩
  have Fv := Lib.hid (F4.out.on bv)
  clear cT bv F4 k1
  have cT := printed_any S (sing p.G) _ hS HP.out.G HK.out.G (HG.out.on (bon cw Fv.out.bel)) (tab_on HT.out (bon cw Fv.out.bel))
  obtain ⟨X1, X2, rfl⟩ := as_sl hS
  clear hS
  go_wp2_with fail
  refine cT.mono ?_
  rintro x u4 ⟨rfl, bv⟩
  have Fu := Lib.hid (Fv.out.on bv)
  clear cT bv Fv
  have cA := add_any w1  (((addl p).take 4).flatMap kp) [67, 111, 110, 102, 108, 105, 99, 116, 115] (wrA (sing p.G)) u4 Fu.out (Nat.le_trans (kps_le ((addl p).take 4)) (by simp [addl]))
  go_wp2_with fail
  refine cA.mono ?_
  rintro x y4 ⟨rfl, hF⟩
  have F5 := Lib.hid (show Fo w1 ((addl p).take 5 |>.flatMap kp) y4 from by have := hF; simpa [addl, kp] using this)
  clear cA Fu hF
  have Bk := (pb_on F5.out B1'.out)
  have k1 := Bk.c7
  clear Bk
  have cT := dsing_any _ p.B _ (pz_on F5.out Z1.out).B (by have := sing_le HP.out.B; omega)
  go_wp2_with fail
  refine cT.mono ?_
  rintro x v5 ⟨S, rfl, hS, bv⟩
  have Fv := Lib.hid (F5.out.on bv)
  clear cT bv F5 k1
  have cT := printed_any S (sing p.B) _ hS HP.out.B HK.out.B (HG.out.on (bon cw Fv.out.bel)) (tab_on HT.out (bon cw Fv.out.bel))
  obtain ⟨X1, X2, rfl⟩ := as_sl hS
  clear hS
  go_wp2_with fail
  refine cT.mono ?_
  rintro x u5 ⟨rfl, bv⟩
  have Fu := Lib.hid (Fv.out.on bv)
  clear cT bv Fv
  have cA := add_any w1  (((addl p).take 5).flatMap kp) [66, 114, 101, 97, 107, 115] (wrA (sing p.B)) u5 Fu.out (Nat.le_trans (kps_le ((addl p).take 5)) (by simp [addl]))
  go_wp2_with fail
  refine cA.mono ?_
  rintro x y5 ⟨rfl, hF⟩
  have F6 := Lib.hid (show Fo w1 ((addl p).take 6 |>.flatMap kp) y5 from by have := hF; simpa [addl, kp] using this)
  clear cA Fu hF
  have Bk := (pb_on F6.out B1'.out)
  have k1 := Bk.c8
  clear Bk
  have cT := dsing_any _ p.R _ (pz_on F6.out Z1.out).R (by have := sing_le HP.out.R; omega)
  go_wp2_with fail
  refine cT.mono ?_
  rintro x v6 ⟨S, rfl, hS, bv⟩
  have Fv := Lib.hid (F6.out.on bv)
  clear cT bv F6 k1
  have cT := printed_any S (sing p.R) _ hS HP.out.R HK.out.R (HG.out.on (bon cw Fv.out.bel)) (tab_on HT.out (bon cw Fv.out.bel))
  obtain ⟨X1, X2, rfl⟩ := as_sl hS
  clear hS
  go_wp2_with fail
  refine cT.mono ?_
  rintro x u6 ⟨rfl, bv⟩
  have Fu := Lib.hid (Fv.out.on bv)
  clear cT bv Fv
  have cA := add_any w1  (((addl p).take 6).flatMap kp) [82, 101, 112, 108, 97, 99, 101, 115] (wrA (sing p.R)) u6 Fu.out (Nat.le_trans (kps_le ((addl p).take 6)) (by simp [addl]))
  go_wp2_with fail
  refine cA.mono ?_
  rintro x y6 ⟨rfl, hF⟩
  have F7 := Lib.hid (show Fo w1 ((addl p).take 7 |>.flatMap kp) y6 from by have := hF; simpa [addl, kp] using this)
  clear cA Fu hF
  have Bk := (pb_on F7.out B1'.out)
  have k1 := Bk.c9
  clear Bk
  have cT := dsing_any _ p.o.P _ (pz_on F7.out Z1.out).P (by have := sing_le HP.out.P; omega)
  go_wp2_with fail
  refine cT.mono ?_
  rintro x v7 ⟨S, rfl, hS, bv⟩
  have Fv := Lib.hid (F7.out.on bv)
  clear cT bv F7 k1
  have cT := printed_any S (sing p.o.P) _ hS HP.out.P HK.out.P (HG.out.on (bon cw Fv.out.bel)) (tab_on HT.out (bon cw Fv.out.bel))
  obtain ⟨X1, X2, rfl⟩ := as_sl hS
  clear hS
  go_wp2_with fail
  refine cT.mono ?_
  rintro x u7 ⟨rfl, bv⟩
  have Fu := Lib.hid (Fv.out.on bv)
  clear cT bv Fv
  have cA := add_any w1  (((addl p).take 7).flatMap kp) [80, 114, 111, 118, 105, 100, 101, 115] (wrA (sing p.o.P)) u7 Fu.out (Nat.le_trans (kps_le ((addl p).take 7)) (by simp [addl]))
  go_wp2_with fail
  refine cA.mono ?_
  rintro x y7 ⟨rfl, hF⟩
  have F8 := Lib.hid (show Fo w1 ((addl p).take 8 |>.flatMap kp) y7 from by have := hF; simpa [addl, kp] using this)
  clear cA Fu hF
  have Bk := (pb_on F8.out B1'.out)
  have k1 := Bk.c10
  clear Bk
  have cT := lines_any _ p.S _ (pz_on F8.out Z1.out).S HP.out.S
  go_wp2_with fail
  refine cT.mono ?_
  rintro x u8 ⟨rfl, bv⟩
  have Fu := Lib.hid (F8.out.on bv)
  clear cT bv F8 k1
  have cA := add_any w1  (((addl p).take 8).flatMap kp) [67, 111, 110, 102, 102, 105, 108, 101, 115] (lns p.S) u8 Fu.out (Nat.le_trans (kps_le ((addl p).take 8)) (by simp [addl]))
  go_wp2_with fail
  refine cA.mono ?_
  rintro x y8 ⟨rfl, hF⟩
  have F9 := Lib.hid (show Fo w1 ((addl p).take 9 |>.flatMap kp) y8 from by have := hF; simpa [addl, kp] using this)
  clear cA Fu hF
  have Bk := (pb_on F9.out B1'.out)
  have k1 := Bk.c11
  clear Bk
  have cT := lines_any _ p.L _ (pz_on F9.out Z1.out).L HP.out.L
  go_wp2_with fail
  refine cT.mono ?_
  rintro x u9 ⟨rfl, bv⟩
  have Fu := Lib.hid (F9.out.on bv)
  clear cT bv F9 k1
  have cA := add_any w1  (((addl p).take 9).flatMap kp) [84, 114, 105, 103, 103, 101, 114, 115] (lns p.L) u9 Fu.out (Nat.le_trans (kps_le ((addl p).take 9)) (by simp [addl]))
  go_wp2_with fail
  refine cA.mono ?_
  rintro x y9 ⟨rfl, hF⟩
  have F10 := Lib.hid (show Fo w1 ((addl p).take 10 |>.flatMap kp) y9 from by have := hF; simpa [addl, kp] using this)
  clear cA Fu hF
  have hF : Fo w1 (flds p) y9 := F10.out
  have HF := Lib.hid hF
  obtain ⟨A, c, kc, hSl⟩ := fo_sl hF
  have cS := Stz.right_any _ (flds p) y9 hSl HZ.out
  have HSl := Lib.hid hSl
  clear hSl hF F10 HZ HK HP HG HT Z1 B1'
  go_wp2_with fail
  refine cS.mono ?_
  rintro x z ⟨rfl, bz⟩
  have kz : z.cell? ⟨w1.heap.size, 0, none⟩ = some (.slice A (flds p).length c) := by rw [bz.cell (block_lt_of_cell kc)]; exact kc
  have HS2 := Lib.hid (HSl.out.on bz)
  have cz := bon cw (bon HF.out.bel bz)
  clear cS kc HSl HF bz
  cases hy : Stz.Sm.rgt (flds p) with
  | true =>
    go_wp2_with fail
    go_ret2
    exact ⟨⟨A, c, HS2.out, by rw [hy]; rfl⟩, cz⟩
  | false =>
    go_wp2_with fail
    go_ret2
    exact ⟨⟨A, c, HS2.out, by rw [hy]; rfl⟩, cz⟩
end Go.Proofs.YtmlmdncepgcimaaGreatDoor
