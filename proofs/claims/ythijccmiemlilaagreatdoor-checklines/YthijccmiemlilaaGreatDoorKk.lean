/- The walks of the reference's holds and working. -/
import Derived.Test.YthijccmiemlilaaGreatDoorKj
namespace Go.Proofs.YthijccmiemlilaaGreatDoor
open Go.RowKit Go.Sort

theorem con_yes {l : List Int} {n : Int} (k : Nat) (hk : k < l.length) (h : l[k] = n) : l.contains n = true := by
  rw [List.contains_iff_mem, ← h]; exact List.getElem_mem hk
theorem con_no {l : List Int} {n : Int} (h : ∀ j (hj : j < l.length), l[j] ≠ n) : l.contains n = false := by
  rw [← Bool.not_eq_true, List.contains_iff_mem]
  intro hm
  obtain ⟨j, hj, e⟩ := List.getElem_of_mem hm
  exact h j hj e
set_option maxHeartbeats 1600000 in
set_option maxRecDepth 100000 in
theorem holds_row (b o c : Nat) (l : List Int) (n : Int) (w : World) (h : Ir w b o l) (hn : l.length ≤ 1000000) : Calls Tryz.prog 44 #[.slice (some ⟨b, o, none⟩) l.length c, .int .i64 n] w fun e w' => e = .returned (.bool (l.contains n)) ∧ w' = w := by
  obtain ⟨r, hr⟩ : ∃ r, r = l.contains n := ⟨_, rfl⟩
  have HR := Lib.hid hr
  rw [← hr]
  clear hr
  have HF := Lib.hid h
  clear h
  go_enter Tryz.func44, Tryz.ntmps44
  go_wp2
  go_loop [9] (fun i => ∃ k : Nat, k ≤ l.length ∧ i = .int .i64 k ∧ Hid (∀ j (hj : j < l.length), j < k → l[j] ≠ n)) (fun i => l.length - (intOf i).toNat)
  case atStart => exact ⟨0, Nat.zero_le _, rfl, fun j _ h => absurd h (Nat.not_lt_zero _)⟩
  case round =>
    obtain ⟨k, hk, rfl, HP⟩ := hrel
    by_cases hlt : k < l.length
    · have c0 := HF.out.c k hlt
      by_cases he : l[k] = n
      · have HG : Hid (r = true) := by show _ = _; rw [HR.out]; exact con_yes k hlt he
        have he2 : (l[k] == n) = true := by simpa using he
        generalize l[k] = x at c0 he2
        clear he
        go_wp2
        go_ret
        exact ⟨ret_bool HG.out.symm, rfl⟩
      · have HG : Hid (∀ j (hj : j < l.length), j < k + 1 → l[j] ≠ n) := fun j hj h => by
          by_cases e : j = k
          · subst e; exact he
          · exact HP.out j hj (by omega)
        have he2 : (l[k] == n) = false := by simpa using he
        generalize l[k] = x at c0 he2
        clear he
        go_wp2
        exact ⟨⟨k + 1, hlt, by go_num, HG⟩, by simp [intOf]; omega⟩
    · have HG : Hid (r = false) := by show _ = _; rw [HR.out]; exact con_no (fun j hj => HP.out j hj (by omega))
      go_wp2
      go_ret
      exact ⟨ret_bool HG.out.symm, rfl⟩
theorem holds_nil (A : Option Addr) (c : Nat) (n : Int) (w : World) : Calls Tryz.prog 44 #[.slice A 0 c, .int .i64 n] w fun e w' => e = .returned (.bool false) ∧ w' = w := by
  go_enter Tryz.func44, Tryz.ntmps44
  go_wp2
  refine wp_loop_rounds 1 ?_
  rw [rounds_succ]
  go_wp2
  go_ret
  exact ⟨rfl, rfl⟩
theorem holds_any (v : Value) (l : List Int) (n : Int) (w : World) (h : Is w v l) (hn : l.length ≤ 1000000) : Calls Tryz.prog 44 #[v, .int .i64 n] w fun e w' => e = .returned (.bool (l.contains n)) ∧ w' = w := by
  rcases h.is with ⟨rfl, A, c, rfl⟩ | ⟨b, o, c, rfl, hf⟩
  · exact holds_nil A c n w
  · exact holds_row b o c l n w hf hn
/-- Whom working counts. -/
def wf (l : List Kn) (bt : List Int) (i : Nat) : Bool := wk (l.getD i default) && !bt.contains (i : Int)
set_option maxHeartbeats 3200000 in
set_option maxRecDepth 100000 in
theorem working_row (b o c : Nat) (vB : Value) (l : List Kn) (bt : List Int) (w : World) (h : Kl w b o l) (hB : Is w vB bt) (hn : l.length ≤ 1000) (hbt : bt.length ≤ 1000) :
    Calls Tryz.prog 37 #[.slice (some ⟨b, o, none⟩) l.length c, vB] w fun e w' => ∃ S q, e = .returned S ∧ PW w w' S ((sel l (wf l bt) l.length).map (·.p)) q := by
  obtain ⟨A2, cB, rfl⟩ := hB.sl
  have HF := Lib.hid h
  have HI := Lib.hid hB
  clear h hB
  go_enter Tryz.func37, Tryz.ntmps37
  go_wp2_with fail
  go_loopw [5, 10] (fun S i W => ∃ (k : Nat) (r : List (Pck × V9)), k ≤ l.length ∧ i = .int .i64 k ∧ Hid (PW w W S ((sel l (wf l bt) k).map (·.p)) r)) (fun _ i _ => l.length - (intOf i).toNat)
  case atStart => exact ⟨0, [], Nat.zero_le _, rfl, ⟨rfl, World.ownsRow_nil _ _ _ _, fun x hx => (by cases hx), Below.refl _ _⟩⟩
  case round =>
    obtain ⟨k, r, hk, rfl, HOW⟩ := hrel
    have hW := HOW.out.b
    by_cases hlt : k < l.length
    · obtain ⟨vW, vT, vD, vA, vG, vB, vR, vP, vS, vL, vF, kc0, kz⟩ := HF.out.c k hlt
      have kc : Kc wr b (o + k * 20) l[k] vW vT vD vA vG vB vR vP vS vL vF := kc0.on hW
      obtain ⟨⟨a1, a2, a3, rfl⟩, ⟨b1, b2, b3, rfl⟩, ⟨c1, c2, c3, rfl⟩, ⟨d1, d2, d3, rfl⟩, ⟨e1, e2, e3, rfl⟩, ⟨f1, f2, f3, rfl⟩, ⟨g1, g2, g3, rfl⟩, ⟨i1, i2, i3, rfl⟩, ⟨j1, j2, j3, rfl⟩, ⟨l1, l2, l3, rfl⟩, ⟨m1, m2, m3, rfl⟩⟩ := kz.k11
      have hra := kc.range
      have HZ := Lib.hid kz
      have HWF : Hid (wf l bt k = (wk l[k] && !bt.contains (k : Int))) := by show _ = _; unfold wf; simp [List.getD, hlt]
      have HSY := Lib.hid (sel_yes (f := wf l bt) hlt)
      have HSL := Lib.hid (sel_le l (wf l bt) k)
      have cW := xworks_any l[k] (.slice a1 a2 a3) (.slice b1 b2 b3) (.slice c1 c2 c3) (.slice d1 d2 d3) (.slice e1 e2 e3) (.slice f1 f2 f3) (.slice g1 g2 g3) (.slice i1 i2 i3) (.slice j1 j2 j3) (.slice l1 l2 l3) (.slice m1 m2 m3) (wr.alloc (kno 71 l[k] (.slice a1 a2 a3) (.slice b1 b2 b3) (.slice c1 c2 c3) (.slice d1 d2 d3) (.slice e1 e2 e3) (.slice f1 f2 f3) (.slice g1 g2 g3) (.slice i1 i2 i3) (.slice j1 j2 j3) (.slice l1 l2 l3) (.slice m1 m2 m3))) kz.k11
      clear kc kc0 kz
      generalize l[k] = x at hra HZ HSY HWF cW
      have hb1 := b1c wr (kno 71 x (.slice a1 a2 a3) (.slice b1 b2 b3) (.slice c1 c2 c3) (.slice d1 d2 d3) (.slice e1 e2 e3) (.slice f1 f2 f3) (.slice g1 g2 g3) (.slice i1 i2 i3) (.slice j1 j2 j3) (.slice l1 l2 l3) (.slice m1 m2 m3))
      have hK2 := k20_new wr 71 x (.slice a1 a2 a3) (.slice b1 b2 b3) (.slice c1 c2 c3) (.slice d1 d2 d3) (.slice e1 e2 e3) (.slice f1 f2 f3) (.slice g1 g2 g3) (.slice i1 i2 i3) (.slice j1 j2 j3) (.slice l1 l2 l3) (.slice m1 m2 m3)
      have HK2 := Lib.hid hK2
      obtain ⟨y, hy⟩ : ∃ y, wk x = y := ⟨_, rfl⟩
      rw [hy] at cW HWF
      clear hy hK2
      go_upto_region 4 with fail
      refine wp_region_lit ?_
      refine wpList_plain rfl fun K hK => ?_
      unfold Oper.wp
      simp [go_sem]
      refine hK _ _ ?_
      clear hK K
      refine wpList_plain rfl fun K hK => ?_
      unfold Oper.wp
      simp [go_sem, hlt]
      refine hK _ _ ?_
      clear hK K
      refine wpList_load_mid rfl 71 _ rfl b (o + k * 20) rfl _ _ hra Tryz.underlying71 rfl (by kernel_rfl) ?_
      refine wpList_plain rfl fun K hK => ?_
      unfold Oper.wp
      simp [go_sem]
      refine hK _ _ ?_
      clear hK K
      refine wpList_plain rfl fun K hK => ?_
      unfold Oper.wp
      simp [go_sem]
      refine hK _ _ ?_
      clear hK K
      refine wpList_store_new rfl 71 _ _ rfl _ _ rfl rfl (by kernel_rfl) (by rfl) (by first | rfl | simp [Value.oneCell']) ?_
      go_frame
      go_upto_region 5 with fail
      refine wp_region_lit ?_
      refine wpList_load_mid rfl 71 _ rfl wr.heap.size 0 rfl _ _ HK2.out.range Tryz.underlying71 rfl (by kernel_rfl) ?_
      go_frame
      go_wp2_with fail
      refine cW.mono ?_
      rintro e w1 ⟨rfl, bw⟩
      have bw1 := bon hb1 bw
      have HO1 := Lib.hid (HOW.out.on bw1)
      have HK3 := Lib.hid (HK2.out.on bw)
      have hW1 := bon hW bw1
      clear cW HOW hra HK2
      cases y with
      | false =>
        have HO2 : Hid (PW w w1 u5 ((sel l (wf l bt) (k + 1)).map (·.p)) r) := by
          show PW _ _ _ _ _
          rw [sel_no (l := l) (by rw [HWF.out]; rfl)]; exact HO1.out
        clear HSY HWF HO1
        go_wp2_with fail
        exact ⟨⟨k + 1, r, hlt, by go_num, HO2⟩, by simp [intOf]; omega⟩
      | true =>
        have cH := holds_any (.slice A2 bt.length cB) bt (k : Int) w1 (HI.out.on hW1) (by omega)
        obtain ⟨y, hy⟩ : ∃ y, bt.contains (k : Int) = y := ⟨_, rfl⟩
        rw [hy] at cH HWF
        clear hy
        go_wp2_with fail
        refine cH.mono ?_
        rintro e w1' ⟨rfl, hw'⟩
        subst hw'
        clear cH
        cases y with
        | true =>
          have HO2 : Hid (PW w w1' u5 ((sel l (wf l bt) (k + 1)).map (·.p)) r) := by
            show PW _ _ _ _ _
            rw [sel_no (l := l) (by rw [HWF.out]; rfl)]; exact HO1.out
          clear HSY HWF HO1
          go_wp2_with fail
          exact ⟨⟨k + 1, r, hlt, by go_num, HO2⟩, by simp [intOf]; omega⟩
        | false =>
          have HSE := Lib.hid (HSY.out (by rw [HWF.out]; rfl))
          have hr : r.length ≤ 1000 := by have := congrArg List.length HO1.out.m; simp at this; have := HSL.out; omega
          have hsz := HO1.out.b.size
          clear HSY HWF
          go_upto_region 6 with fail
          refine wp_region_lit ?_
          refine wpList_plain rfl fun K hK => ?_
          unfold Oper.wp
          simp [go_sem]
          refine hK _ _ ?_
          clear hK K
          refine wpList_plain rfl fun K hK => ?_
          unfold Oper.wp
          simp [go_sem]
          refine hK _ _ ?_
          clear hK K
          refine wpList_load_mid rfl 30 _ rfl wr.heap.size 7 rfl _ _ HK3.out.pack Tryz.underlying30 rfl (by kernel_rfl) ?_
          go_frame
          go_wp2_with (first | (at_builtin; refine wpList_apG Tryz.underlying88 info30 (by decide) (by decide) (pk13 (x.p, ⟨.slice c1 c2 c3, .slice d1 d2 d3, .slice e1 e2 e3, .slice f1 f2 f3, .slice g1 g2 g3, .slice i1 i2 i3, .slice j1 j2 j3, .slice l1 l2 l3, .slice m1 m2 m3⟩)) rfl (by intro u hu; simp at hu; rcases hu with rfl | rfl | rfl | rfl | rfl | rfl | rfl | rfl | rfl | rfl | rfl | rfl | rfl <;> rfl) HO1.out.o (by omega) hsz rfl _ _ rfl rfl _ rfl rfl ?_; intro g9 c9 w9 hR9 hB9; have HB9 := Lib.hid (hB9 _ (Nat.le_refl _)); have HR9 := Lib.hid hR9; clear hR9 hB9) | fail)
          refine ⟨⟨k + 1, r ++ [(x.p, ⟨.slice c1 c2 c3, .slice d1 d2 d3, .slice e1 e2 e3, .slice f1 f2 f3, .slice g1 g2 g3, .slice i1 i2 i3, .slice j1 j2 j3, .slice l1 l2 l3, .slice m1 m2 m3⟩)], hlt, by go_num, ⟨?_, ?_, ?_, ?_⟩⟩, by simp [intOf]; omega⟩
          · rw [HSE.out, List.map_append, List.map_append, HO1.out.m]; rfl
          · rw [List.length_append, List.flatMap_append]; exact HR9.out
          · intro y hy
            rw [List.mem_append] at hy
            rcases hy with hy | hy
            · exact HO1.out.t y hy
            · rw [List.mem_singleton.1 hy]; exact HZ.out.z
          · exact HO1.out.b.trans HB9.out
    · have hke : k = l.length := by omega
      subst hke
      go_wp2_with fail
      go_ret
      exact ⟨_, r, rfl, HOW.out⟩
theorem working_nil (A : Option Addr) (c : Nat) (vB : Value) (w : World) : Calls Tryz.prog 37 #[.slice A 0 c, vB] w fun e w' => e = .returned (.slice none 0 0) ∧ w' = w := by
  go_enter Tryz.func37, Tryz.ntmps37
  go_wp2
  refine wp_loop_rounds 1 ?_
  rw [rounds_succ]
  go_wp2
  go_ret
  exact ⟨rfl, rfl⟩
theorem working_any (v vB : Value) (l : List Kn) (bt : List Int) (w : World) (h : Ks w v l) (hB : Is w vB bt) (hn : l.length ≤ 1000) (hbt : bt.length ≤ 1000) :
    Calls Tryz.prog 37 #[v, vB] w fun e w' => ∃ S q, e = .returned S ∧ PW w w' S ((sel l (wf l bt) l.length).map (·.p)) q := by
  rcases h.is with ⟨rfl, A, c, rfl⟩ | ⟨b, o, c, rfl, hf⟩
  · exact (working_nil A c vB w).mono fun x w' ⟨h1, h2⟩ => ⟨_, [], h1, by rw [h2]; exact ⟨rfl, World.ownsRow_nil _ _ _ _, fun x hx => (by cases hx), Below.refl _ _⟩⟩
  · exact working_row b o c vB l bt w hf hB hn hbt
end Go.Proofs.YthijccmiemlilaaGreatDoor
