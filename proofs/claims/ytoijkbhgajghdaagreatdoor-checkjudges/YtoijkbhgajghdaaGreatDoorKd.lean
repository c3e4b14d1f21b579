/- The walks of offer, offers (by any closure of two captured variables), meetsOne. -/
import Derived.Test.YtoijkbhgajghdaaGreatDoorKb
namespace Go.Proofs.YtoijkbhgajghdaaGreatDoor
open Go.RowKit Go.Sort

set_option maxHeartbeats 1600000 in
set_option maxRecDepth 100000 in
theorem offer_any (p : Pck) (vD vA vG vB vR vP vS vL vF : Value) (w : World) (hz : Pz w p vD vA vG vB vR vP vS vL vF) : Calls Tryz.prog 47 #[pkv p.o.n p.o.e p.o.u p.o.r vD vA vG vB vR vP vS vL vF] w fun x w' => x = .returned (ofv p.o.n p.o.e p.o.u p.o.r vP) ∧ Below w.heap.size w w' := by
  obtain ⟨d1, d2, rfl⟩ := hz.D.sl
  obtain ⟨a1, a2, rfl⟩ := hz.A.sl
  obtain ⟨g1, g2, rfl⟩ := hz.G.sl
  obtain ⟨b1, b2, rfl⟩ := hz.B.sl
  obtain ⟨r1, r2, rfl⟩ := hz.R.sl
  obtain ⟨p1, p2, rfl⟩ := hz.P.sl
  obtain ⟨s1, s2, rfl⟩ := hz.S.sl
  obtain ⟨l1, l2, rfl⟩ := hz.L.sl
  obtain ⟨f1, f2, rfl⟩ := hz.F.sl
  clear hz
  go_enter Tryz.func47, Tryz.ntmps47
  go_wp2
  exact bodyPost_ret (v := ofv p.o.n p.o.e p.o.u p.o.r (.slice p1 p.o.P.length p2)) (by simp [results, Tryz.results47, go_sem]) rfl ⟨rfl, b2c _ _ _⟩

theorem filt_succ (f : Nat → Bool) (k : Nat) : (List.range (k + 1)).filter f = (List.range k).filter f ++ (if f k then [k] else []) := by
  rw [List.range_succ, List.filter_append]
  cases h : f k <;> simp [h]
theorem filt_le (f : Nat → Bool) (k : Nat) : ((List.range k).filter f).length ≤ k := by
  have := List.length_filter_le f (List.range k)
  simpa using this
/-- Those that count, by their numbers. -/
def sel (l : List Kn) (f : Nat → Bool) (k : Nat) : List Kn := ((List.range k).filter f).map fun i => l.getD i default
theorem sel_yes {l : List Kn} {f : Nat → Bool} {k : Nat} (hk : k < l.length) (h : f k = true) : sel l f (k + 1) = sel l f k ++ [l[k]] := by
  unfold sel
  rw [filt_succ, if_pos h, List.map_append]
  simp [List.getD, hk]
theorem sel_no {l : List Kn} {f : Nat → Bool} {k : Nat} (h : f k = false) : sel l f (k + 1) = sel l f k := by
  unfold sel
  rw [filt_succ, if_neg (by rw [h]; simp), List.append_nil]
theorem sel_le (l : List Kn) (f : Nat → Bool) (k : Nat) : (sel l f k).length ≤ k := by
  unfold sel
  rw [List.length_map]
  exact filt_le f k
set_option maxHeartbeats 3200000 in
set_option maxRecDepth 100000 in
theorem offers_row (F : Nat) (hF : ∀ (args : Array Value) (w : World), Sem.run Tryz.prog (callFunc F args) w = .ok (Next.enter F args) w) (p q : Value) (b o c : Nat) (l : List Kn) (f : Nat → Bool) (w : World) (h : Kl w b o l) (hn : l.length ≤ 1000) (hq : ∀ i, i < l.length → ∀ W, Below w.heap.size w W → Calls Tryz.prog F #[.int .i64 i, p, q] W fun e w' => e = .returned (.bool (f i)) ∧ Below W.heap.size W w') :
    Calls Tryz.prog 29 #[.slice (some ⟨b, o, none⟩) l.length c, .func (Fn.func F) #[] #[p, q]] w fun e w' => ∃ S, e = .returned S ∧ Os' w' S ((sel l f l.length).map (·.p.o)) ∧ Below w.heap.size w w' := by
  have HQ := Lib.hid hq
  have HF := Lib.hid h
  clear h hq
  go_enter Tryz.func29, Tryz.ntmps29
  go_wp2_with fail
  go_loopw [5, 10] (fun S i W => ∃ (k : Nat) (r : List (Ofr × Value)), k ≤ l.length ∧ i = .int .i64 k ∧ Hid (OW w W S ((sel l f k).map (·.p.o)) r)) (fun _ i _ => l.length - (intOf i).toNat)
  case atStart => exact ⟨0, [], Nat.zero_le _, rfl, ⟨rfl, World.ownsRow_nil _ _ _ _, fun x hx => (by cases hx), Below.refl _ _⟩⟩
  case round =>
    obtain ⟨k, r, hk, rfl, HOW⟩ := hrel
    have hW := HOW.out.b
    by_cases hlt : k < l.length
    · obtain ⟨vW, vT, vD, vA, vG, vB, vR, vP, vS, vL, vF, kc0, kz⟩ := HF.out.c k hlt
      have kc : Kc wr b (o + k * 20) l[k] vW vT vD vA vG vB vR vP vS vL vF := kc0.on hW
      obtain ⟨⟨a1, a2, a3, rfl⟩, ⟨b1, b2, b3, rfl⟩, ⟨c1, c2, c3, rfl⟩, ⟨d1, d2, d3, rfl⟩, ⟨e1, e2, e3, rfl⟩, ⟨f1, f2, f3, rfl⟩, ⟨g1, g2, g3, rfl⟩, ⟨i1, i2, i3, rfl⟩, ⟨j1, j2, j3, rfl⟩, ⟨l1, l2, l3, rfl⟩, ⟨m1, m2, m3, rfl⟩⟩ := kz.k11
      have hra := kc.range
      have HZ := Lib.hid kz
      have HSY := Lib.hid (sel_yes (f := f) hlt)
      have HSL := Lib.hid (sel_le l f k)
      generalize l[k] = x at hra HZ HSY
      have hb1 := b1c wr (kno 60 x (.slice a1 a2 a3) (.slice b1 b2 b3) (.slice c1 c2 c3) (.slice d1 d2 d3) (.slice e1 e2 e3) (.slice f1 f2 f3) (.slice g1 g2 g3) (.slice i1 i2 i3) (.slice j1 j2 j3) (.slice l1 l2 l3) (.slice m1 m2 m3))
      have cC := HQ.out k hlt _ (bon hW hb1)
      clear kc kc0 kz
      obtain ⟨y, hy⟩ : ∃ y, f k = y := ⟨_, rfl⟩
      rw [hy] at cC
      have HY := Lib.hid hy
      clear hy
      go_upto_region 4 with fail
      refine wp_region_lit ?_
      refine wpList_plain rfl fun K hK => ?_
      unfold Oper.wp
      simp [go_sem]
      refine hK _ _ ?_
      clear hK K
      refine wpList_plain rfl fun K hK => ?_
      unfold Oper.wp
      simp [go_sem, hlt]
      refine hK _ _ ?_
      clear hK K
      refine wpList_load_mid rfl 60 _ rfl b (o + k * 20) rfl _ _ hra Tryz.underlying60 rfl (by kernel_rfl) ?_
      refine wpList_plain rfl fun K hK => ?_
      unfold Oper.wp
      simp [go_sem]
      refine hK _ _ ?_
      clear hK K
      refine wpList_plain rfl fun K hK => ?_
      unfold Oper.wp
      simp [go_sem]
      refine hK _ _ ?_
      clear hK K
      refine wpList_store_new rfl 60 _ _ rfl _ _ rfl rfl (by kernel_rfl) (by rfl) (by first | rfl | simp [Value.oneCell']) ?_
      go_frame
      go_wp2_with fail
      refine cC.mono ?_
      rintro e w1 ⟨rfl, bw⟩
      have bw1 := bon hb1 bw
      have HO1 := Lib.hid (HOW.out.on bw1)
      clear cC HOW hra
      cases y with
      | false =>
        have HO2 : Hid (OW w w1 u5 ((sel l f (k + 1)).map (·.p.o)) r) := by
          show OW _ _ _ _ _
          rw [sel_no (l := l) HY.out]; exact HO1.out
        clear HSY HY HO1
        go_wp2_with fail
        exact ⟨⟨k + 1, r, hlt, by go_num, HO2⟩, by simp [intOf]; omega⟩
      | true =>
        have HSE := Lib.hid (HSY.out HY.out)
        clear HSY HY
        have hW1 := bon hW bw1
        have q7 : w1.cell? ⟨wr.heap.size, 7, none⟩ = some (.string ⟨x.p.o.n.toArray⟩) := by rw [bw.cell (by simp)]; simp
        have q8 : w1.cell? ⟨wr.heap.size, 8, none⟩ = some (.int .i64 x.p.o.e) := by rw [bw.cell (by simp)]; simp
        have q9 : w1.cell? ⟨wr.heap.size, 9, none⟩ = some (.string ⟨x.p.o.u.toArray⟩) := by rw [bw.cell (by simp)]; simp
        have q10 : w1.cell? ⟨wr.heap.size, 10, none⟩ = some (.string ⟨x.p.o.r.toArray⟩) := by rw [bw.cell (by simp)]; simp
        have q11 : w1.cell? ⟨wr.heap.size, 11, none⟩ = some (.slice c1 c2 c3) := by rw [bw.cell (by simp)]; simp
        have q12 : w1.cell? ⟨wr.heap.size, 12, none⟩ = some (.slice d1 d2 d3) := by rw [bw.cell (by simp)]; simp
        have q13 : w1.cell? ⟨wr.heap.size, 13, none⟩ = some (.slice e1 e2 e3) := by rw [bw.cell (by simp)]; simp
        have q14 : w1.cell? ⟨wr.heap.size, 14, none⟩ = some (.slice f1 f2 f3) := by rw [bw.cell (by simp)]; simp
        have q15 : w1.cell? ⟨wr.heap.size, 15, none⟩ = some (.slice g1 g2 g3) := by rw [bw.cell (by simp)]; simp
        have q16 : w1.cell? ⟨wr.heap.size, 16, none⟩ = some (.slice i1 i2 i3) := by rw [bw.cell (by simp)]; simp
        have q17 : w1.cell? ⟨wr.heap.size, 17, none⟩ = some (.slice j1 j2 j3) := by rw [bw.cell (by simp)]; simp
        have q18 : w1.cell? ⟨wr.heap.size, 18, none⟩ = some (.slice l1 l2 l3) := by rw [bw.cell (by simp)]; simp
        have q19 : w1.cell? ⟨wr.heap.size, 19, none⟩ = some (.slice m1 m2 m3) := by rw [bw.cell (by simp)]; simp
        have cO := offer_any x.p (.slice c1 c2 c3) (.slice d1 d2 d3) (.slice e1 e2 e3) (.slice f1 f2 f3) (.slice g1 g2 g3) (.slice i1 i2 i3) (.slice j1 j2 j3) (.slice l1 l2 l3) (.slice m1 m2 m3) w1 (HZ.out.on hW1).z
        clear bw
        go_wp2_with fail
        refine cO.mono ?_
        rintro e w2 ⟨rfl, bw2⟩
        have HO2 := Lib.hid (HO1.out.on bw2)
        have hr : r.length ≤ 1000 := by have := congrArg List.length HO2.out.m; simp at this; have := HSL.out; omega
        have hsz := HO2.out.b.size
        clear cO HO1 q7 q8 q9 q10 q11 q12 q13 q14 q15 q16 q17 q18 q19
        go_wp2_with (first | (at_builtin; refine wpList_apG Tryz.underlying63 info65 (by decide) (by decide) (of5 (x.p.o, .slice i1 i2 i3)) rfl (by intro u hu; simp at hu; rcases hu with rfl | rfl | rfl | rfl | rfl <;> rfl) HO2.out.o (by omega) hsz rfl _ _ rfl rfl _ rfl rfl ?_; intro g9 c9 w9 hR9 hB9; have HB9 := Lib.hid (hB9 _ (Nat.le_refl _)); have HR9 := Lib.hid hR9; clear hR9 hB9) | fail)
        refine ⟨⟨k + 1, r ++ [(x.p.o, .slice i1 i2 i3)], hlt, by go_num, ⟨?_, ?_, ?_, ?_⟩⟩, by simp [intOf]; omega⟩
        · rw [HSE.out, List.map_append, List.map_append, HO2.out.m]; rfl
        · rw [List.length_append, List.flatMap_append]; exact HR9.out
        · intro y hy
          rw [List.mem_append] at hy
          rcases hy with hy | hy
          · exact HO2.out.t y hy
          · rw [List.mem_singleton.1 hy]; exact HZ.out.z.P
        · exact HO2.out.b.trans HB9.out
    · have hke : k = l.length := by omega
      subst hke
      go_wp2_with fail
      go_ret
      exact ⟨_, rfl, HOW.out.os, hW⟩
theorem f30 (args : Array Value) (w : World) : Sem.run Tryz.prog (callFunc 30 args) w = .ok (Next.enter 30 args) w := by simp [go_sem]
theorem f41 (args : Array Value) (w : World) : Sem.run Tryz.prog (callFunc 41 args) w = .ok (Next.enter 41 args) w := by simp [go_sem]
end Go.Proofs.YtoijkbhgajghdaaGreatDoor
