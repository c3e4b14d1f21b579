/- The walk of the reference's Fields. -/
import Derived.Test.YtmlmdncepgcimaaGreatDoorYl
import Derived.Test.YtmlmdncepgcimaaGreatDoorZaz
import Derived.Test.YtmlmdncepgcimaaGreatDoorZal
namespace Go.Proofs.YtmlmdncepgcimaaGreatDoor
open Go.RowKit Go.Shelf Go.Sort

/-- What the reference's Fields hands back. -/
def FX (p : Pck) (e : Ending) (w : World) : Prop := ∃ A c, Stz.Sl w (.slice A (flds p).length c) (flds p) ∧ e = .returned (if Stz.Sm.rgt (flds p) = true then .tuple #[.slice A (flds p).length c, .int .i64 0] else .tuple #[.slice none 0 0, .int .i64 4])

set_option maxHeartbeats 12800000 in
set_option maxRecDepth 100000 in
theorem xfields_ok (p : Pck) (vD vA vG vB vR vP vS vL vF : Value) (w : World) (hz : Pz w p vD vA vG vB vR vP vS vL vF) (hp : Pg p) (hk : rok p = true) (hT : Tab w) (hM : MaxN w) : Calls Tryz.prog 10 #[pkv p.o.n p.o.e p.o.u p.o.r vD vA vG vB vR vP vS vL vF] w fun x w' => FX p x w' ∧ Below w.heap.size w w' := by
  have c0 := b1c w (pko p.o.n p.o.e p.o.u p.o.r vD vA vG vB vR vP vS vL vF)
  have cR := xsays_any p vD vA vG vB vR vP vS vL vF _ (hz.on c0) hp (tab_on hT c0)
  rw [hk] at cR
  have B0 := Lib.hid (pb_new w p vD vA vG vB vR vP vS vL vF)
  have Z0 := Lib.hid (hz.on c0)
  have HT := Lib.hid hT
  have HP := Lib.hid hp
  have HK := Lib.hid (rk_of hk)
  have HZ := Lib.hid (sz_flds (rk_of hk) hp)
  obtain ⟨D1, D2, rfl⟩ := as_sl hz.D
  obtain ⟨A1, A2, rfl⟩ := as_sl hz.A
  obtain ⟨G1, G2, rfl⟩ := ts_sl hz.G
  obtain ⟨B1, B2, rfl⟩ := ts_sl hz.B
  obtain ⟨R1, R2, rfl⟩ := ts_sl hz.R
  obtain ⟨P1, P2, rfl⟩ := ts_sl hz.P
  obtain ⟨S1, S2, rfl⟩ := ss_sl hz.S
  obtain ⟨L1, L2, rfl⟩ := ss_sl hz.L
  have b0 := B0.out.c0
  have b1 := B0.out.c1
  have b2 := B0.out.c2
  have b3 := B0.out.c3
  have b4 := B0.out.c4
  have b5 := B0.out.c5
  have b6 := B0.out.c6
  have b7 := B0.out.c7
  have b8 := B0.out.c8
  have b9 := B0.out.c9
  have b10 := B0.out.c10
  have b11 := B0.out.c11
  have b12 := B0.out.c12
  clear hz hp hk hT
  go_enter Tryz.func10, Tryz.ntmps10
  go_wp2_with fail
  refine cR.mono ?_
  rintro x w1 ⟨rfl, bw⟩
  have cw := bon c0 bw
  have B1' := Lib.hid (B0.out.on bw)
  have Z1 := Lib.hid (Z0.out.on bw)
  clear b0 b1 b2 b3 b4 b5 b6 b7 b8 b9 b10 b11 b12 B0 Z0 cR bw c0
  go_wp2_with fail
  have bd := (Below.refl w1.heap.size w1).drew
  have lc := B1'.out.on bd
  have cP := xprint_any p.o.e p.o.u p.o.r w1.drew HP.out.e0 HP.out.e1 (by have := HP.out.u; omega) (by have := HP.out.r; omega) (tab_on HT.out (bon cw bd))
  refine wp_region_held (S := fun W => Pb W w.heap.size p (.slice D1 p.D.length D2) (.slice A1 p.A.length A2) (.slice G1 p.G.length G2) (.slice B1 p.B.length B2) (.slice R1 p.R.length R2) (.slice P1 p.o.P.length P2) (.slice S1 p.S.length S2) (.slice L1 p.L.length L2) vF) (by kernel_rfl) ?_
  refine wpAnyH_take (i := 0) (v := (.pointer (some ⟨w.heap.size, 0, none⟩))) rfl (by kernel_rfl) (by kernel_rfl) (by kernel_rfl) (fun _ _ _ h => h) (.inl ⟨rfl, fun w' _ => by simp [go_sem]⟩) lc ?_
  refine wpAnyH_take (i := 1) (v := (.string ⟨p.o.n.toArray⟩)) rfl (by kernel_rfl) (by kernel_rfl) (by kernel_rfl) (fun _ _ _ h => h) (.inl ⟨rfl, fun w' hw => by have := hw.c0; simp [go_sem, this]⟩) lc ?_
  refine wpAnyH_take (i := 2) (v := (.agg #[.string ⟨#[80, 97, 99, 107, 97, 103, 101]⟩, .string ⟨p.o.n.toArray⟩])) rfl (by kernel_rfl) (by kernel_rfl) (by kernel_rfl) (fun _ _ _ h => h) (.inl ⟨rfl, fun w' hw => by simp [go_sem]⟩) lc ?_
  refine wpAnyH_take (i := 3) (v := (.pointer (some ⟨w.heap.size, 1, none⟩))) rfl (by kernel_rfl) (by kernel_rfl) (by kernel_rfl) (fun _ _ _ h => h) (.inl ⟨rfl, fun w' _ => by simp [go_sem]⟩) lc ?_
  refine wpAnyH_take (i := 4) (v := (.agg #[.int .i64 p.o.e, .string ⟨p.o.u.toArray⟩, .string ⟨p.o.r.toArray⟩])) rfl (by kernel_rfl) (by kernel_rfl) (by kernel_rfl) (fun _ _ _ h => h) (.inl ⟨rfl, fun w' hw => by have h1 := hw.c1; have h2 := hw.c2; have h3 := hw.c3; simp [go_sem, h1, h2, h3]⟩) lc ?_
  refine wpAnyH_all (rs := [5]) (by kernel_rfl) (by simp) fun j hj => ?_
  obtain rfl : j = 5 := by simpa using hj
  refine wpOp_go rfl rfl ?_
  unfold Oper.wp
  simp [go_sem]
  refine cP.mono ?_
  rintro e w2 ⟨rfl, b2⟩
  have lc2 := lc.on b2
  have cw2 := bon (bon cw bd) b2
  have Z2 := Lib.hid ((Z1.out.on bd).on b2)
  clear cP lc b2 bd B1' Z1 cw
  refine ⟨lc2, ?_⟩
  have hb3 := bA1 w2 (.cells #[.string ⟨#[80, 97, 99, 107, 97, 103, 101]⟩, .string ⟨p.o.n.toArray⟩, .string ⟨#[86, 101, 114, 115, 105, 111, 110]⟩, .string ⟨(Vm.pt p.o.e p.o.u p.o.r).toArray⟩] 52)
  have lc3 := lc2.on hb3
  refine wpAnyH_take (i := 6) (v := (.agg #[.string ⟨#[86, 101, 114, 115, 105, 111, 110]⟩, .string ⟨(Vm.pt p.o.e p.o.u p.o.r).toArray⟩])) rfl (by kernel_rfl) (by kernel_rfl) (by kernel_rfl) (fun _ _ _ h => h) (.inl ⟨rfl, fun w' hw => by simp [go_sem]⟩) lc2 ?_
  refine wpAnyH_all (rs := [7]) (by kernel_rfl) (by simp) fun j hj => ?_
  obtain rfl : j = 7 := by simpa using hj
  refine wpOp_go rfl rfl ?_
  unfold Oper.wp
  simp [go_sem]
  refine ⟨lc3, ?_⟩
  refine wpAnyH_all (rs := [8]) (by kernel_rfl) (by simp) fun j hj => ?_
  obtain rfl : j = 8 := by simpa using hj
  refine wpOp_go rfl rfl ?_
  unfold Oper.wp
  simp [go_sem]
  refine ⟨lc3, wpAnyH_done (by kernel_rfl) ?_ _⟩
  clear lc2
  go_wp2_with fail
  have hb4 := bA1 (w2.alloc (.cells #[.string ⟨#[80, 97, 99, 107, 97, 103, 101]⟩, .string ⟨p.o.n.toArray⟩, .string ⟨#[86, 101, 114, 115, 105, 111, 110]⟩, .string ⟨(Vm.pt p.o.e p.o.u p.o.r).toArray⟩] 52)) (.cells #[.string ⟨#[68, 101, 112, 101, 110, 100, 115]⟩, .string ⟨#[80, 114, 101, 45, 68, 101, 112, 101, 110, 100, 115]⟩, .string ⟨#[67, 111, 110, 102, 108, 105, 99, 116, 115]⟩, .string ⟨#[66, 114, 101, 97, 107, 115]⟩, .string ⟨#[82, 101, 112, 108, 97, 99, 101, 115]⟩, .string ⟨#[80, 114, 111, 118, 105, 100, 101, 115]⟩] 9)
  have hd4 := (Below.refl ((w2.alloc (.cells #[.string ⟨#[80, 97, 99, 107, 97, 103, 101]⟩, .string ⟨p.o.n.toArray⟩, .string ⟨#[86, 101, 114, 115, 105, 111, 110]⟩, .string ⟨(Vm.pt p.o.e p.o.u p.o.r).toArray⟩] 52)).alloc (.cells #[.string ⟨#[68, 101, 112, 101, 110, 100, 115]⟩, .string ⟨#[80, 114, 101, 45, 68, 101, 112, 101, 110, 100, 115]⟩, .string ⟨#[67, 111, 110, 102, 108, 105, 99, 116, 115]⟩, .string ⟨#[66, 114, 101, 97, 107, 115]⟩, .string ⟨#[82, 101, 112, 108, 97, 99, 101, 115]⟩, .string ⟨#[80, 114, 111, 118, 105, 100, 101, 115]⟩] 9)).heap.size ((w2.alloc (.cells #[.string ⟨#[80, 97, 99, 107, 97, 103, 101]⟩, .string ⟨p.o.n.toArray⟩, .string ⟨#[86, 101, 114, 115, 105, 111, 110]⟩, .string ⟨(Vm.pt p.o.e p.o.u p.o.r).toArray⟩] 52)).alloc (.cells #[.string ⟨#[68, 101, 112, 101, 110, 100, 115]⟩, .string ⟨#[80, 114, 101, 45, 68, 101, 112, 101, 110, 100, 115]⟩, .string ⟨#[67, 111, 110, 102, 108, 105, 99, 116, 115]⟩, .string ⟨#[66, 114, 101, 97, 107, 115]⟩, .string ⟨#[82, 101, 112, 108, 97, 99, 101, 115]⟩, .string ⟨#[80, 114, 111, 118, 105, 100, 101, 115]⟩] 9))).drew
  have lc4 := (lc3.on hb4).on hd4
  have bw4 := bon (bon hb3 hb4) hd4
  have HW4 := Lib.hid bw4
  have Z4 := Lib.hid (Z2.out.on bw4)
  clear lc3 hb3 hb4 hd4 bw4
  refine wp_region_held (S := fun W => Pb W w.heap.size p (.slice D1 p.D.length D2) (.slice A1 p.A.length A2) (.slice G1 p.G.length G2) (.slice B1 p.B.length B2) (.slice R1 p.R.length R2) (.slice P1 p.o.P.length P2) (.slice S1 p.S.length S2) (.slice L1 p.L.length L2) vF) (by kernel_rfl) ?_
  generalize hw4 : { ((w2.alloc (.cells #[.string ⟨#[80, 97, 99, 107, 97, 103, 101]⟩, .string ⟨p.o.n.toArray⟩, .string ⟨#[86, 101, 114, 115, 105, 111, 110]⟩, .string ⟨(Vm.pt p.o.e p.o.u p.o.r).toArray⟩] 52)).alloc (.cells #[.string ⟨#[68, 101, 112, 101, 110, 100, 115]⟩, .string ⟨#[80, 114, 101, 45, 68, 101, 112, 101, 110, 100, 115]⟩, .string ⟨#[67, 111, 110, 102, 108, 105, 99, 116, 115]⟩, .string ⟨#[66, 114, 101, 97, 107, 115]⟩, .string ⟨#[82, 101, 112, 108, 97, 99, 101, 115]⟩, .string ⟨#[80, 114, 111, 118, 105, 100, 101, 115]⟩] 9)) with drawn := ((w2.alloc (.cells #[.string ⟨#[80, 97, 99, 107, 97, 103, 101]⟩, .string ⟨p.o.n.toArray⟩, .string ⟨#[86, 101, 114, 115, 105, 111, 110]⟩, .string ⟨(Vm.pt p.o.e p.o.u p.o.r).toArray⟩] 52)).alloc (.cells #[.string ⟨#[68, 101, 112, 101, 110, 100, 115]⟩, .string ⟨#[80, 114, 101, 45, 68, 101, 112, 101, 110, 100, 115]⟩, .string ⟨#[67, 111, 110, 102, 108, 105, 99, 116, 115]⟩, .string ⟨#[66, 114, 101, 97, 107, 115]⟩, .string ⟨#[82, 101, 112, 108, 97, 99, 101, 115]⟩, .string ⟨#[80, 114, 111, 118, 105, 100, 101, 115]⟩] 9)).drawn + 1 } = w4
  have lc5 : Pb w4 w.heap.size p (.slice D1 p.D.length D2) (.slice A1 p.A.length A2) (.slice G1 p.G.length G2) (.slice B1 p.B.length B2) (.slice R1 p.R.length R2) (.slice P1 p.o.P.length P2) (.slice S1 p.S.length S2) (.slice L1 p.L.length L2) vF := by rw [← hw4]; exact lc4
  have Z5 : Hid (Pz w4 p (.slice D1 p.D.length D2) (.slice A1 p.A.length A2) (.slice G1 p.G.length G2) (.slice B1 p.B.length B2) (.slice R1 p.R.length R2) (.slice P1 p.o.P.length P2) (.slice S1 p.S.length S2) (.slice L1 p.L.length L2) vF) := by rw [← hw4]; exact Z4
  have H24 : Hid (Below w2.heap.size w2 w4) := by rw [← hw4]; exact HW4
  have hC1 : w4.heap[w2.heap.size]? = some (Obj.cells #[.string ⟨#[80, 97, 99, 107, 97, 103, 101]⟩, .string ⟨p.o.n.toArray⟩, .string ⟨#[86, 101, 114, 115, 105, 111, 110]⟩, .string ⟨(Vm.pt p.o.e p.o.u p.o.r).toArray⟩] 52 (0, 0)) := by rw [← hw4]; exact (kc_below (bA1 (w2.alloc (.cells #[.string ⟨#[80, 97, 99, 107, 97, 103, 101]⟩, .string ⟨p.o.n.toArray⟩, .string ⟨#[86, 101, 114, 115, 105, 111, 110]⟩, .string ⟨(Vm.pt p.o.e p.o.u p.o.r).toArray⟩] 52)) (.cells #[.string ⟨#[68, 101, 112, 101, 110, 100, 115]⟩, .string ⟨#[80, 114, 101, 45, 68, 101, 112, 101, 110, 100, 115]⟩, .string ⟨#[67, 111, 110, 102, 108, 105, 99, 116, 115]⟩, .string ⟨#[66, 114, 101, 97, 107, 115]⟩, .string ⟨#[82, 101, 112, 108, 97, 99, 101, 115]⟩, .string ⟨#[80, 114, 111, 118, 105, 100, 101, 115]⟩] 9))).2 _ _ _ _ (nb0 w2 _)
  have hC2 : w4.heap[w2.heap.size + 1]? = some (Obj.cells #[.string ⟨#[68, 101, 112, 101, 110, 100, 115]⟩, .string ⟨#[80, 114, 101, 45, 68, 101, 112, 101, 110, 100, 115]⟩, .string ⟨#[67, 111, 110, 102, 108, 105, 99, 116, 115]⟩, .string ⟨#[66, 114, 101, 97, 107, 115]⟩, .string ⟨#[82, 101, 112, 108, 97, 99, 101, 115]⟩, .string ⟨#[80, 114, 111, 118, 105, 100, 101, 115]⟩] 9 (0, 0)) := by
    rw [← hw4]
    have := nb0 (w2.alloc (.cells #[.string ⟨#[80, 97, 99, 107, 97, 103, 101]⟩, .string ⟨p.o.n.toArray⟩, .string ⟨#[86, 101, 114, 115, 105, 111, 110]⟩, .string ⟨(Vm.pt p.o.e p.o.u p.o.r).toArray⟩] 52)) (.cells #[.string ⟨#[68, 101, 112, 101, 110, 100, 115]⟩, .string ⟨#[80, 114, 101, 45, 68, 101, 112, 101, 110, 100, 115]⟩, .string ⟨#[67, 111, 110, 102, 108, 105, 99, 116, 115]⟩, .string ⟨#[66, 114, 101, 97, 107, 115]⟩, .string ⟨#[82, 101, 112, 108, 97, 99, 101, 115]⟩, .string ⟨#[80, 114, 111, 118, 105, 100, 101, 115]⟩] 9)
    rwa [show (w2.alloc (.cells #[.string ⟨#[80, 97, 99, 107, 97, 103, 101]⟩, .string ⟨p.o.n.toArray⟩, .string ⟨#[86, 101, 114, 115, 105, 111, 110]⟩, .string ⟨(Vm.pt p.o.e p.o.u p.o.r).toArray⟩] 52)).heap.size = w2.heap.size + 1 from by simp] at this
  have HC1 := Lib.hid hC1
  have HC2 := Lib.hid hC2
  have HW5 : Hid (Below w4.heap.size w4 w4) := Below.refl _ _
  clear lc4 Z4 HW4 hw4 hC1 hC2
  refine wpAnyH_take (i := 0) (v := (.pointer (some ⟨w.heap.size, 4, none⟩))) rfl (by kernel_rfl) (by kernel_rfl) (by kernel_rfl) (fun _ _ _ h => h) (.inl ⟨rfl, fun w' hw => by simp [go_sem]⟩) lc5 ?_
  refine wpAnyH_take (i := 1) (v := (.slice D1 p.D.length D2)) rfl (by kernel_rfl) (by kernel_rfl) (by kernel_rfl) (fun _ _ _ h => h) (.inl ⟨rfl, fun w' hw => by have h1 := hw.c4; simp [go_sem, h1]⟩) lc5 ?_
  refine wpAnyH_take (i := 2) (v := (.pointer (some ⟨w.heap.size, 5, none⟩))) rfl (by kernel_rfl) (by kernel_rfl) (by kernel_rfl) (fun _ _ _ h => h) (.inl ⟨rfl, fun w' hw => by simp [go_sem]⟩) lc5 ?_
  refine wpAnyH_take (i := 3) (v := (.slice A1 p.A.length A2)) rfl (by kernel_rfl) (by kernel_rfl) (by kernel_rfl) (fun _ _ _ h => h) (.inl ⟨rfl, fun w' hw => by have h1 := hw.c5; simp [go_sem, h1]⟩) lc5 ?_
  refine wpAnyH_take (i := 4) (v := (.pointer (some ⟨w.heap.size, 6, none⟩))) rfl (by kernel_rfl) (by kernel_rfl) (by kernel_rfl) (fun _ _ _ h => h) (.inl ⟨rfl, fun w' hw => by simp [go_sem]⟩) lc5 ?_
  refine wpAnyH_take (i := 5) (v := (.slice G1 p.G.length G2)) rfl (by kernel_rfl) (by kernel_rfl) (by kernel_rfl) (fun _ _ _ h => h) (.inl ⟨rfl, fun w' hw => by have h1 := hw.c6; simp [go_sem, h1]⟩) lc5 ?_
  refine wpAnyH_take (i := 7) (v := (.pointer (some ⟨w.heap.size, 7, none⟩))) rfl (by kernel_rfl) (by kernel_rfl) (by kernel_rfl) (fun _ _ _ h => h) (.inl ⟨rfl, fun w' hw => by simp [go_sem]⟩) lc5 ?_
  refine wpAnyH_take (i := 8) (v := (.slice B1 p.B.length B2)) rfl (by kernel_rfl) (by kernel_rfl) (by kernel_rfl) (fun _ _ _ h => h) (.inl ⟨rfl, fun w' hw => by have h1 := hw.c7; simp [go_sem, h1]⟩) lc5 ?_
  refine wpAnyH_take (i := 10) (v := (.pointer (some ⟨w.heap.size, 8, none⟩))) rfl (by kernel_rfl) (by kernel_rfl) (by kernel_rfl) (fun _ _ _ h => h) (.inl ⟨rfl, fun w' hw => by simp [go_sem]⟩) lc5 ?_
  refine wpAnyH_take (i := 11) (v := (.slice R1 p.R.length R2)) rfl (by kernel_rfl) (by kernel_rfl) (by kernel_rfl) (fun _ _ _ h => h) (.inl ⟨rfl, fun w' hw => by have h1 := hw.c8; simp [go_sem, h1]⟩) lc5 ?_
  refine wpAnyH_take (i := 13) (v := (.pointer (some ⟨w.heap.size, 9, none⟩))) rfl (by kernel_rfl) (by kernel_rfl) (by kernel_rfl) (fun _ _ _ h => h) (.inl ⟨rfl, fun w' hw => by simp [go_sem]⟩) lc5 ?_
  refine wpAnyH_take (i := 14) (v := (.slice P1 p.o.P.length P2)) rfl (by kernel_rfl) (by kernel_rfl) (by kernel_rfl) (fun _ _ _ h => h) (.inl ⟨rfl, fun w' hw => by have h1 := hw.c9; simp [go_sem, h1]⟩) lc5 ?_
  refine wpAnyH_take (i := 18) (v := (.int .i64 0)) rfl (by kernel_rfl) (by kernel_rfl) (by kernel_rfl) (fun _ _ _ h => h) (.inl ⟨rfl, fun w' hw => by simp [go_sem]⟩) lc5 ?_
  have cG := xsing_any _ p.G w4 Z5.out.G (by have := sing_le HP.out.G; omega)
  refine wpAnyH_all (rs := [6]) (by kernel_rfl) (by simp) fun j hj => ?_
  obtain rfl : j = 6 := by simpa using hj
  refine wpOp_go rfl rfl ?_
  unfold Oper.wp
  simp [go_sem]
  refine cG.mono ?_
  rintro e w5 ⟨SG, rfl, hSG, b5⟩
  obtain ⟨SG1, SG2, rfl⟩ := as_sl hSG
  have lc6 := lc5.on b5
  refine ⟨lc6, ?_⟩
  have Z6 := Lib.hid (Z5.out.on b5)
  have HW6 := Lib.hid (bon HW5.out b5)
  have HG6 := Lib.hid hSG
  clear cG lc5 Z5 HW5 hSG b5
  have cX := xsing_any _ p.B w5 Z6.out.B (by have := sing_le HP.out.B; omega)
  refine wpAnyH_all (rs := [9]) (by kernel_rfl) (by simp) fun j hj => ?_
  obtain rfl : j = 9 := by simpa using hj
  refine wpOp_go rfl rfl ?_
  unfold Oper.wp
  simp [go_sem]
  refine cX.mono ?_
  rintro e w6 ⟨SB, rfl, hSX, bX⟩
  obtain ⟨SB1, SB2, rfl⟩ := as_sl hSX
  have lc7 := lc6.on bX
  refine ⟨lc7, ?_⟩
  have Z7 := Lib.hid (Z6.out.on bX)
  have HW7 := Lib.hid (bon HW6.out bX)
  have HB7 := Lib.hid hSX
  have HG7 := Lib.hid (HG6.out.on bX)
  clear cX lc6 Z6 HW6 hSX bX HG6
  have cX := xsing_any _ p.R w6 Z7.out.R (by have := sing_le HP.out.R; omega)
  refine wpAnyH_all (rs := [12]) (by kernel_rfl) (by simp) fun j hj => ?_
  obtain rfl : j = 12 := by simpa using hj
  refine wpOp_go rfl rfl ?_
  unfold Oper.wp
  simp [go_sem]
  refine cX.mono ?_
  rintro e w7 ⟨SR, rfl, hSX, bX⟩
  obtain ⟨SR1, SR2, rfl⟩ := as_sl hSX
  have lc8 := lc7.on bX
  refine ⟨lc8, ?_⟩
  have Z8 := Lib.hid (Z7.out.on bX)
  have HW8 := Lib.hid (bon HW7.out bX)
  have HR8 := Lib.hid hSX
  have HG8 := Lib.hid (HG7.out.on bX)
  have HB8 := Lib.hid (HB7.out.on bX)
  clear cX lc7 Z7 HW7 hSX bX HG7 HB7
  have cX := xsing_any _ p.o.P w7 Z8.out.P (by have := sing_le HP.out.P; omega)
  refine wpAnyH_all (rs := [15]) (by kernel_rfl) (by simp) fun j hj => ?_
  obtain rfl : j = 15 := by simpa using hj
  refine wpOp_go rfl rfl ?_
  unfold Oper.wp
  simp [go_sem]
  refine cX.mono ?_
  rintro e w8 ⟨SP, rfl, hSX, bX⟩
  obtain ⟨SP1, SP2, rfl⟩ := as_sl hSX
  have lc9 := lc8.on bX
  refine ⟨lc9, ?_⟩
  have Z9 := Lib.hid (Z8.out.on bX)
  have HW9 := Lib.hid (bon HW8.out bX)
  have HP9 := Lib.hid hSX
  have HG9 := Lib.hid (HG8.out.on bX)
  have HB9 := Lib.hid (HB8.out.on bX)
  have HR9 := Lib.hid (HR8.out.on bX)
  clear cX lc8 Z8 HW8 hSX bX HG8 HB8 HR8
  have b9 := bA1 w8 (.cells #[.slice D1 p.D.length D2, .slice A1 p.A.length A2, .slice SG1 (sing p.G).length SG2, .slice SB1 (sing p.B).length SB2, .slice SR1 (sing p.R).length SR2, .slice SP1 (sing p.o.P).length SP2] 24)
  have lc10 := lc9.on b9
  refine wpAnyH_all (rs := [16]) (by kernel_rfl) (by simp) fun j hj => ?_
  obtain rfl : j = 16 := by simpa using hj
  refine wpOp_go rfl rfl ?_
  unfold Oper.wp
  simp [go_sem]
  refine ⟨lc10, ?_⟩
  refine wpAnyH_all (rs := [17]) (by kernel_rfl) (by simp) fun j hj => ?_
  obtain rfl : j = 17 := by simpa using hj
  refine wpOp_go rfl rfl ?_
  unfold Oper.wp
  simp [go_sem]
  refine ⟨lc10, wpAnyH_done (by kernel_rfl) ?_ _⟩
  have hc6 := nb0 w8 (.cells #[.slice D1 p.D.length D2, .slice A1 p.A.length A2, .slice SG1 (sing p.G).length SG2, .slice SB1 (sing p.B).length SB2, .slice SR1 (sing p.R).length SR2, .slice SP1 (sing p.o.P).length SP2] 24)
  have Z10 := Lib.hid (Z9.out.on b9)
  have HX : Hid (As (w8.alloc (.cells #[.slice D1 p.D.length D2, .slice A1 p.A.length A2, .slice SG1 (sing p.G).length SG2, .slice SB1 (sing p.B).length SB2, .slice SR1 (sing p.R).length SR2, .slice SP1 (sing p.o.P).length SP2] 24)) (.slice SG1 (sing p.G).length SG2) (sing p.G) ∧ As (w8.alloc (.cells #[.slice D1 p.D.length D2, .slice A1 p.A.length A2, .slice SG1 (sing p.G).length SG2, .slice SB1 (sing p.B).length SB2, .slice SR1 (sing p.R).length SR2, .slice SP1 (sing p.o.P).length SP2] 24)) (.slice SB1 (sing p.B).length SB2) (sing p.B) ∧ As (w8.alloc (.cells #[.slice D1 p.D.length D2, .slice A1 p.A.length A2, .slice SG1 (sing p.G).length SG2, .slice SB1 (sing p.B).length SB2, .slice SR1 (sing p.R).length SR2, .slice SP1 (sing p.o.P).length SP2] 24)) (.slice SR1 (sing p.R).length SR2) (sing p.R) ∧ As (w8.alloc (.cells #[.slice D1 p.D.length D2, .slice A1 p.A.length A2, .slice SG1 (sing p.G).length SG2, .slice SB1 (sing p.B).length SB2, .slice SR1 (sing p.R).length SR2, .slice SP1 (sing p.o.P).length SP2] 24)) (.slice SP1 (sing p.o.P).length SP2) (sing p.o.P)) := ⟨HG9.out.on b9, HB9.out.on b9, HR9.out.on b9, HP9.out.on b9⟩
  have b410 := bon HW9.out b9
  have k1 := (kc_below b410).2 _ _ _ _ HC1.out
  have k2 := (kc_below b410).2 _ _ _ _ HC2.out
  have H0 : Hid (L0 (w8.alloc (.cells #[.slice D1 p.D.length D2, .slice A1 p.A.length A2, .slice SG1 (sing p.G).length SG2, .slice SB1 (sing p.B).length SB2, .slice SR1 (sing p.R).length SR2, .slice SP1 (sing p.o.P).length SP2] 24)) w2.heap.size (ini p)) := ⟨rfl, (Array.getElem?_eq_some_iff.1 k1).1, fun j u hj => by
    rw [show (w8.alloc (.cells #[.slice D1 p.D.length D2, .slice A1 p.A.length A2, .slice SG1 (sing p.G).length SG2, .slice SB1 (sing p.B).length SB2, .slice SR1 (sing p.R).length SR2, .slice SP1 (sing p.o.P).length SP2] 24)).cell? ⟨w2.heap.size, j, none⟩ = (fcs (ini p))[j]? from by simp [World.cell?, k1, fcs, ini]]; exact hj⟩
  have HN : Hid (∀ k, k < 6 → (w8.alloc (.cells #[.slice D1 p.D.length D2, .slice A1 p.A.length A2, .slice SG1 (sing p.G).length SG2, .slice SB1 (sing p.B).length SB2, .slice SR1 (sing p.R).length SR2, .slice SP1 (sing p.o.P).length SP2] 24)).cell? ⟨w2.heap.size + 1, k, none⟩ = some (.string ⟨((nm6[k]?).getD []).toArray⟩)) := fun k hk => by
    match k, hk with
    | 0, _ => simp [World.cell?, k2, nm6]
    | 1, _ => simp [World.cell?, k2, nm6]
    | 2, _ => simp [World.cell?, k2, nm6]
    | 3, _ => simp [World.cell?, k2, nm6]
    | 4, _ => simp [World.cell?, k2, nm6]
    | 5, _ => simp [World.cell?, k2, nm6]
  have hN2 : w2.heap.size + 1 < (w8.alloc (.cells #[.slice D1 p.D.length D2, .slice A1 p.A.length A2, .slice SG1 (sing p.G).length SG2, .slice SB1 (sing p.B).length SB2, .slice SR1 (sing p.R).length SR2, .slice SP1 (sing p.o.P).length SP2] 24)).heap.size := (Array.getElem?_eq_some_iff.1 k2).1
  have cw10 : Below w.heap.size w (w8.alloc (.cells #[.slice D1 p.D.length D2, .slice A1 p.A.length A2, .slice SG1 (sing p.G).length SG2, .slice SB1 (sing p.B).length SB2, .slice SR1 (sing p.R).length SR2, .slice SP1 (sing p.o.P).length SP2] 24)) := bon cw2 (bon H24.out b410)
  have LC := Lib.hid lc10
  have HSix := Lib.hid hc6
  clear hc6 Z9 HG9 HB9 HR9 HP9 b410 k1 k2 HC1 HC2 H24 HW9 b9 lc9 lc10 Z2 cw2
  generalize w8.alloc (.cells #[.slice D1 p.D.length D2, .slice A1 p.A.length A2, .slice SG1 (sing p.G).length SG2, .slice SB1 (sing p.B).length SB2, .slice SR1 (sing p.R).length SR2, .slice SP1 (sing p.o.P).length SP2] 24) = w10 at Z10 HX H0 HN cw10 LC HSix hN2 ⊢
  generalize w8.heap.size = b6 at HSix ⊢
  generalize w2.heap.size = b0 at H0 HN hN2 ⊢
  go_wp2_with fail
  go_loopw [4, 45] (fun S i W => ∃ k : Nat, k ≤ 6 ∧ i = .int .i64 k ∧ LI w10 b0 (ini p) W S (ini p ++ ((mid6 p).take k).flatMap kp)) (fun _ i _ => 6 - (intOf i).toNat)
  case atStart => exact ⟨0, by omega, rfl, Below.refl _ _, .inl ⟨by simp, rfl⟩⟩
  case round =>
    obtain ⟨k, hk, rfl, hI⟩ := hrel
    obtain ⟨g, c, rfl⟩ := hI.sl H0.out
    have HI := Lib.hid hI
    by_cases hlt : k < 6
    · obtain ⟨v, x, e0, hv, hxA, hak, hmid⟩ := lx_at ((kc_below hI.bel).2 _ _ _ _ HSix.out) (Z10.out.on hI.bel).D (Z10.out.on hI.bel).A ((HX.out.1).on hI.bel) ((HX.out.2.1).on hI.bel) ((HX.out.2.2.1).on hI.bel) ((HX.out.2.2.2).on hI.bel) HP.out HK.out k hlt
      obtain ⟨V1, V2, rfl⟩ := as_sl hv
      have cP := xpterms_any _ x wr hv hxA (tab_on HT.out (bon cw10 hI.bel))
      rw [if_pos hak] at cP
      have nK := (hI.bel.cell (p := ⟨b0 + 1, k, none⟩) hN2).trans (HN.out k hlt)
      have hml := mid_le p k
      have HF : Hid (ini p ++ ((mid6 p).take (k + 1)).flatMap kp = (ini p ++ ((mid6 p).take k).flatMap kp) ++ kp ((nm6[k]?).getD [], wrA x)) := by show _ = _; rw [mid_up hmid, List.append_assoc]
      generalize (nm6[k]?).getD [] = nk at nK HF
      clear hI hv hxA hak hmid
      generalize ini p ++ ((mid6 p).take k).flatMap kp = fs at HI hml HF ⊢
      go_wp2_with fail
      refine cP.mono ?_
      rintro e wq ⟨rfl, bq⟩
      have HIq := Lib.hid (HI.out.on bq)
      have nKq := (bq.cell (p := ⟨b0 + 1, k, none⟩) (block_lt_of_cell nK)).trans nK
      clear cP HI bq nK e0
      generalize wrA x = T at HF ⊢
      by_cases hT : T = []
      · subst hT
        have HG : Hid (LI w10 b0 (ini p) wq (.slice (some ⟨g, 0, none⟩) fs.length c) (ini p ++ ((mid6 p).take (k + 1)).flatMap kp)) := by
          show LI _ _ _ _ _ _
          rw [HF.out, show kp (nk, []) = [] from rfl, List.append_nil]; exact HIq.out
        clear HF HIq
        go_wp2_with fail
        exact ⟨⟨k + 1, hlt, by go_num, HG.out⟩, by simp [intOf]; omega⟩
      · have hTe : T.isEmpty = false := by cases T with
          | nil => exact absurd rfl hT
          | cons a b => rfl
        have HFk : Hid (kp (nk, T) = [(nk, T)]) := by show _ = _; unfold kp; rw [if_neg hT]
        clear hT
        go_wp2_with (at_builtin; refine wpList_li (n := nk) (v := T) H0.out HIq.out (by omega) rfl _ _ rfl rfl _ rfl rfl ?_; intro g' c' w6 hL _)
        exact ⟨⟨k + 1, hlt, by go_num, by rw [HF.out, HFk.out]; exact hL⟩, by simp [intOf]; omega⟩
    · obtain rfl : k = 6 := by omega
      have Lk := LC.out.on hI.bel
      have k10 := Lk.c10
      have k11 := Lk.c11
      have HI2 := Lib.hid (HI.out.on (bA1 wr (.cells #[.slice S1 p.S.length S2, .slice L1 p.L.length L2] 26)))
      have Hc2 := Lib.hid (nb0 wr (.cells #[.slice S1 p.S.length S2, .slice L1 p.L.length L2] 26))
      have HFL := Lib.hid (flds_eq HK.out)
      clear Lk hI HI HX LC HSix HN
      rw [show (mid6 p).take 6 = mid6 p from rfl] at HI2
      rw [show (mid6 p).take 6 = mid6 p from rfl]
      have HLe := Lib.hid (last_le p)
      generalize ini p ++ (mid6 p).flatMap kp = f6 at HI2 HFL HLe ⊢
      go_wp2_with fail
      generalize wr.alloc (.cells #[.slice S1 p.S.length S2, .slice L1 p.L.length L2] 26) = w11 at HI2 Hc2 ⊢
      generalize wr.heap.size = bb at Hc2 ⊢
      go_loopw [4, 73] (fun S i W => ∃ k : Nat, k ≤ 2 ∧ i = .int .i64 k ∧ LI w10 b0 (ini p) W S (f6 ++ ((last2 p).take k).flatMap kp) ∧ Hid (W.heap[bb]? = some (Obj.cells #[.slice S1 p.S.length S2, .slice L1 p.L.length L2] 26 (0, 0)))) (fun _ i _ => 2 - (intOf i).toNat)
      case atStart => exact ⟨0, by omega, rfl, by simpa using HI2.out, Hc2⟩
      case round =>
        clear HI2 Hc2
        obtain ⟨k, hk, rfl, hI, Hb⟩ := hrel
        obtain ⟨g, c, rfl⟩ := hI.sl H0.out
        have HI := Lib.hid hI
        by_cases hlt : k < 2
        · obtain ⟨v, x, e0, hv, hxt, hlast⟩ := l2_at Hb.out (Z10.out.on hI.bel).S (Z10.out.on hI.bel).L HP.out k hlt
          obtain ⟨V1, V2, rfl⟩ := ss_sl hv
          have HV := Lib.hid hv
          have hml := HLe.out k
          have hx40 := (txs_p hxt).1
          have HX1 := Lib.hid (txs_p hxt).2
          have HX5 := Lib.hid (lns5 hxt)
          have HF : Hid (f6 ++ ((last2 p).take (k + 1)).flatMap kp = (f6 ++ ((last2 p).take k).flatMap kp) ++ kp ((nm2[k]?).getD [], lns x)) := by show _ = _; rw [last_up hlast, List.append_assoc]
          have nK := nm2_at wr k hlt
          generalize (nm2[k]?).getD [] = nk at nK HF
          clear hI hv hxt hlast
          generalize f6 ++ ((last2 p).take k).flatMap kp = fs at HI hml HF ⊢
          go_wp2_with fail
          go_loop [12, 80] (fun s i => ∃ j : Nat, j ≤ x.length ∧ i = .int .i64 j ∧ s = .string ⟨(lns (x.take j)).toArray⟩) (fun _ i => x.length - (intOf i).toNat)
          case atStart => exact ⟨0, by omega, rfl, rfl⟩
          case round =>
            obtain ⟨j, hj, rfl, rfl⟩ := hrel
            by_cases hjl : j < x.length
            · obtain ⟨bx, ox, rfl, c1⟩ := ss_at HV.out j hjl
              have hyl := HX1.out x[j] (List.getElem_mem hjl)
              have HU := Lib.hid (lns_up x j hjl)
              have hTl := HX5.out j
              generalize lns (x.take j) = T at HU hTl ⊢
              generalize x[j] = y at c1 hyl HU
              go_wp2_with fail
              exact ⟨⟨j + 1, hjl, by go_num, sv_eq (by rw [HU.out]; simp)⟩, by simp [intOf]; omega⟩
            · obtain rfl : j = x.length := by omega
              rw [List.take_length]
              generalize lns x = T at HF ⊢
              by_cases hT : T = []
              · subst hT
                have HG : Hid (LI w10 b0 (ini p) wr (.slice (some ⟨g, 0, none⟩) fs.length c) (f6 ++ ((last2 p).take (k + 1)).flatMap kp)) := by
                  show LI _ _ _ _ _ _
                  rw [HF.out, show kp (nk, []) = [] from rfl, List.append_nil]; exact HI.out
                clear HF HI
                go_wp2_with fail
                exact ⟨⟨k + 1, hlt, by go_num, HG.out, Hb⟩, by simp [intOf]; omega⟩
              · have hTe : T.isEmpty = false := by cases T with
                  | nil => exact absurd rfl hT
                  | cons a b => rfl
                have HFk : Hid (kp (nk, T) = [(nk, T)]) := by show _ = _; unfold kp; rw [if_neg hT]
                have bN := bA1 wr (.cells #[.string ⟨#[67, 111, 110, 102, 102, 105, 108, 101, 115]⟩, .string ⟨#[84, 114, 105, 103, 103, 101, 114, 115]⟩] 9)
                have HIq := Lib.hid (HI.out.on bN)
                have Hbq := Lib.hid ((kc_below bN).2 _ _ _ _ Hb.out)
                clear hT HI bN
                go_wp2_with (at_builtin; refine wpList_li (n := nk) (v := T) H0.out HIq.out (by omega) rfl _ _ rfl rfl _ rfl (by simp) ?_; intro g' c' w6 hL hK)
                exact ⟨⟨_, _, _, _, _, _, ⟨k + 1, hlt, by go_num, by rw [HF.out, HFk.out]; exact hL, hK _ _ _ _ Hbq.out (by decide)⟩, rfl, rfl, rfl, rfl, rfl, rfl⟩, by simp [intOf]; omega⟩
        · obtain rfl : k = 2 := by omega
          have hfl : flds p = f6 ++ ((last2 p).take 2).flatMap kp := HFL.out
          rw [← hfl] at HI
          rw [← hfl]
          have hSl := HI.out.fl H0.out
          have cS := Stz.xs_any _ (flds p) wr hSl HZ.out ⟨(hM.on (bon cw10 HI.out.bel)).out⟩
          have HSl := Lib.hid hSl
          have cz := bon cw10 HI.out.bel
          clear hSl HI HFL HLe Hb Z10 H0 hfl hI
          go_wp2_with fail
          refine cS.mono ?_
          rintro e z ⟨rfl, bz⟩
          have HS2 := Lib.hid (HSl.out.on bz)
          have cz2 := bon cz bz
          clear cS HSl bz cz
          cases hy : Stz.Sm.rgt (flds p) with
          | true =>
            go_wp2_with fail
            go_ret2
            exact ⟨⟨_, _, HS2.out, by rw [hy]; rfl⟩, cz2⟩
          | false =>
            go_wp2_with fail
            go_ret2
            exact ⟨⟨_, _, HS2.out, by rw [hy]; rfl⟩, cz2⟩
end Go.Proofs.YtmlmdncepgcimaaGreatDoor
