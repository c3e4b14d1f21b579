/- The walk of Needs. -/
import Derived.Test.YthijccmiemlilaaGreatDoorGg
import Derived.Test.YthijccmiemlilaaGreatDoorB7
import Derived.Test.YthijccmiemlilaaGreatDoorGs
namespace Go.Proofs.YthijccmiemlilaaGreatDoor
open Go.RowKit Go.Sort

theorem suf2 {F P : World → Nat → Prop} {G : Prop} (main : (∀ Z a, F Z a → P Z a) → G) (tl : ∀ Z a, F Z a → P Z a) : G := main tl
theorem iw_one (w : World) (B : Nat) (m : Nat) (hb : B ≤ w.heap.size) : Ord.Iw (w.alloc (.cells #[.int .i64 (m : Int)] 3)) B (.slice (some ⟨w.heap.size, 0, none⟩) 1 1) [m] :=
  World.ownsRow_lit w #[.int .i64 (m : Int)] 1 hb (by decide) rfl
theorem iw_row {W : World} {B : Nat} {S : Value} {G : List Nat} (h : Ord.Iw W B S G) (h0 : 0 < G.length) : ∃ gs cs cur, S = .slice (some ⟨gs, 0, none⟩) G.length cs ∧ B ≤ gs ∧ gs < W.heap.size ∧ G.length ≤ cs ∧ cs ≤ maxLen ∧ W.heap[gs]? = some (.cells cur 3 (0, 0)) ∧ ∀ k (hk : k < G.length), W.cell? ⟨gs, k, none⟩ = some (.int .i64 (G[k] : Nat)) := by
  rcases h.2 with ⟨rfl, h1⟩ | ⟨g, cap, cur, rfl, hb, hg, hnc, hcm, hcs, htake⟩
  · omega
  · refine ⟨g, cap, cur, rfl, hb, (Array.getElem?_eq_some_iff.1 hg).1, hnc, hcm, hg, fun k hk => ?_⟩
    rw [World.ownsRow.cellAt h k (by omega)]
    simp [hk]
theorem own_sl {W : World} {B : Nat} {e : TypeId} {s n : Nat} {v : Value} {xs : List Value} (h : W.ownsRow B e s v n xs) : ∃ A c, v = .slice A n c := by
  rcases h.2 with ⟨rfl, rfl⟩ | ⟨g, cap, cur, rfl, _⟩
  · exact ⟨_, _, rfl⟩
  · exact ⟨_, _, rfl⟩
/-- What the outer loop keeps of those that go. -/
structure NL (l : List Kn) (s : Nat) (G : List Nat) (k : Nat) : Prop where
  r : Nds.Rch l.length (ndW l) (ndA l) s G
  s : Nds.Seen l.length (ndW l) (ndA l) G k
/-- What the inner loop keeps of them. -/
structure NM (l : List Kn) (s : Nat) (G : List Nat) (k j gk : Nat) : Prop where
  r : Nds.Rch l.length (ndW l) (ndA l) s G
  s : Nds.Seen l.length (ndW l) (ndA l) G k
  e : ∃ h : k < G.length, G[k] = gk
  p : Nds.Part l.length (ndW l) (ndA l) G k j
theorem NM.skip {l : List Kn} {s : Nat} {G : List Nat} {k j gk : Nat} (h : NM l s G k j gk) (hno : Nds.inl G j = false → ndW l j = true → Nds.mt l.length (ndW l) (ndA l) (fun _ => false) j = true → Nds.ask (ndA l) j gk = true → Nds.mt l.length (ndW l) (ndA l) (Nds.inl G) j = true) : NM l s G k (j + 1) gk :=
  ⟨h.r, h.s, h.e, Nds.part_more _ _ _ h.p (fun hk a b c d => by
    obtain ⟨_, e⟩ := h.e
    exact hno a b c (by rw [← e]; exact d))⟩
theorem NM.more {l : List Kn} {s : Nat} {G : List Nat} {k j gk : Nat} (h : NM l s G k j gk) (hj : j < l.length) (h1 : Nds.inl G j = false) (h2 : ndW l j = true) (h3 : Nds.mt l.length (ndW l) (ndA l) (fun _ => false) j = true) (h4 : Nds.mt l.length (ndW l) (ndA l) (Nds.inl G) j = false) : NM l s (G ++ [j]) k (j + 1) gk := by
  obtain ⟨hk, e⟩ := h.e
  refine ⟨.more h.r hj (by unfold Nds.bad; rw [h2, h3, h4]; rfl) h1, Nds.seen_grow _ _ _ j (by omega) h.s, ⟨by rw [List.length_append]; omega, by rw [List.getElem_append_left hk]; exact e⟩, Nds.part_more _ _ _ (Nds.part_grow _ _ _ j hk h.p) (fun _ a => ?_)⟩
  rw [Nds.inl_snoc] at a
  simp at a
/-- What the inner loop has in memory. -/
structure NI (w : World) (l : List Kn) (bl bg g a : Nat) (vL vO : Value) (q : List (Ofr × Value)) (f : Nat → Bool) (G : List Nat) (S : Value) (ca : Array Value) (W : World) : Prop where
  x : NX w l.length bl bg g vL vO q f G S W
  a : W.heap[a]? = some (.cells ca 65 (0, 0))
theorem NI.on {w : World} {l : List Kn} {bl bg g a : Nat} {vL vO : Value} {q : List (Ofr × Value)} {f : Nat → Bool} {G : List Nat} {S : Value} {ca : Array Value} {W W' : World} (h : NI w l bl bg g a vL vO q f G S ca W) (k : Below W.heap.size W W') : NI w l bl bg g a vL vO q f G S ca W' := ⟨h.x.on k, heap_on h.a k⟩
theorem ndl_parts {l : List Kn} (hSo : ∀ k ∈ l, Sok k.p) {j : Nat} (hj : j < l.length) : (ndL l j).length ≤ 80 ∧ ∀ x ∈ ndL l j, x.length ≤ 40 ∧ ∀ t ∈ x, Sh t := by
  have e : l.getD j default = l[j] := by simp [List.getD, hj]
  have hk := hSo l[j] (List.getElem_mem hj)
  obtain ⟨h1, h2⟩ := tla_parts hk.D
  obtain ⟨h3, h4⟩ := tla_parts hk.A
  unfold ndL
  rw [e]
  refine ⟨by rw [List.length_append]; omega, fun x hx => ?_⟩
  rcases List.mem_append.1 hx with h | h
  · exact h2 x h
  · exact h4 x h
theorem ofr_oh {l : List Kn} (hSo : ∀ k ∈ l, Sok k.p) (f : Nat → Bool) : ∀ o ∈ (sel l f l.length).map (·.p.o), Oh o := by
  intro o ho
  obtain ⟨k, hk, rfl⟩ := List.mem_map.1 ho
  unfold sel at hk
  obtain ⟨i, hi, rfl⟩ := List.mem_map.1 hk
  have hi' : i < l.length := by have := (List.mem_filter.1 hi).1; simpa using this
  rw [show l.getD i default = l[i] from by simp [List.getD, hi']]
  exact (hSo _ (List.getElem_mem hi')).oh
theorem met_all0 (l : List Kn) (i : Nat) : (met ((sel l (ndW l) l.length).map (·.p.o)) (ndL l i)).2 = Nds.mt l.length (ndW l) (ndA l) (fun _ => false) i := by
  rw [← met_mt]
  congr 4
  funext j
  simp
set_option maxHeartbeats 6400000 in
set_option maxRecDepth 100000 in
theorem needs_in (b o c : Nat) (l : List Kn) (m : Nat) (w : World) (hl : Kl w b o l) (hn : l.length ≤ 100) (hm : m < l.length) (hSo : ∀ k ∈ l, Sok k.p) :
    Calls Tryz.prog 14 #[.slice (some ⟨b, o, none⟩) l.length c, .int .i64 m] w fun e w' => ∃ S R, e = .returned S ∧ Ord.Is w' S R ∧ Nds.NdR l.length (ndW l) (ndA l) m R ∧ R.length ≤ 100 ∧ Below w.heap.size w w' := by
  obtain ⟨w2, hw2⟩ : ∃ w2, w2 = w.alloc (.cells #[.slice (some ⟨b, o, none⟩) l.length c] 32) := ⟨_, rfl⟩
  have hb2 : Below w.heap.size w w2 := by rw [hw2]; exact b1c _ _
  have hcA : w2.heap[w.heap.size]? = some (.cells #[.slice (some ⟨b, o, none⟩) l.length c] 32 (0, 0)) := by rw [hw2]; exact nb0 _ _
  have q0 : w2.cell? ⟨w.heap.size, 0, none⟩ = some (.slice (some ⟨b, o, none⟩) l.length c) := by rw [hw2]; simp
  have hwl : w.heap.size < w2.heap.size := by rw [hw2]; simp
  have HL := Lib.hid hl
  have HSo := Lib.hid hSo
  have HB := Lib.hid hb2
  have HCA := Lib.hid hcA
  clear hl hSo hcA hb2
  have hm0 : ¬ (m : Int) < 0 := by omega
  have hm1 : ¬ ((m : Int) ≥ (l.length : Int)) := by omega
  go_enter Tryz.func14, Tryz.ntmps14
  go_upto_region 1 with fail
  rw [← hw2]
  clear hw2
  go_upto_region 4 with (at_make; refine wpList_mk (mk92 l.length (by omega) w2) rfl _ _ rfl rfl rfl ?_)
  have hr3 : ((w2.alloc (.cells (madeCells #[.bool false] l.length) 4)).alloc (.cells #[.slice (some ⟨w2.heap.size, 0, none⟩) l.length l.length] 92)).rowIs w2.heap.size 4 l.length (fun j => .bool false) := (World.rowIs_made w2 (.bool false) l.length 4).alloc _
  have hg3 : ((w2.alloc (.cells (madeCells #[.bool false] l.length) 4)).alloc (.cells #[.slice (some ⟨w2.heap.size, 0, none⟩) l.length l.length] 92)).heap[w2.heap.size + 1]? = some (.cells #[.slice (some ⟨w2.heap.size, 0, none⟩) l.length l.length] 92 (0, 0)) := by
    have := nb0 (w2.alloc (.cells (madeCells #[.bool false] l.length) 4)) (.cells #[.slice (some ⟨w2.heap.size, 0, none⟩) l.length l.length] 92)
    rw [World.size_alloc] at this
    exact this
  have hb3 := b2c w2 (.cells (madeCells #[.bool false] l.length) 4) (.cells #[.slice (some ⟨w2.heap.size, 0, none⟩) l.length l.length] 92)
  generalize (w2.alloc (.cells (madeCells #[.bool false] l.length) 4)).alloc (.cells #[.slice (some ⟨w2.heap.size, 0, none⟩) l.length l.length] 92) = w3 at hr3 hg3 hb3 ⊢
  have hc3 := hr3.cell hm
  have hf3 := hr3.frozen m
  have hx3 : w3.cell? ⟨w2.heap.size + 1, 0, none⟩ = some (.slice (some ⟨w2.heap.size, 0, none⟩) l.length l.length) := by rw [cell_of_row w3 _ 0 _ _ _ hg3]; rfl
  have hN3 : Hid (NX w l.length w.heap.size (w2.heap.size + 1) w2.heap.size (.slice (some ⟨b, o, none⟩) l.length c) (.slice none 0 0) [] (fun _ => false) [] (.slice none 0 0) w3) := ⟨bon HB.out hb3, by omega, heap_on HCA.out hb3, hg3, hr3, World.ownsRow_nil _ _ _ _, World.ownsRow_nil _ _ _ _⟩
  have hN4 : Hid (NX w l.length w.heap.size (w2.heap.size + 1) w2.heap.size (.slice (some ⟨b, o, none⟩) l.length c) (.slice none 0 0) [] (Nds.inl [m]) [] (.slice none 0 0) (w3.setCell ⟨w2.heap.size, m, none⟩ (.bool true))) := hN3.out.put m (fun j _ => by unfold Nds.inl; by_cases e : j = m <;> simp [e])
  clear hr3 hg3 hb3 hN3 q0 HB HCA
  go_upto_region 5 with fail
  clear hc3 hf3 hx3
  generalize w3.setCell ⟨w2.heap.size, m, none⟩ (.bool true) = w4 at hN4 ⊢
  generalize w2.heap.size + 1 = bg at hN4 ⊢
  generalize w2.heap.size = g at hN4 hwl ⊢
  have q0 := hN4.out.lc
  have cO := offersB_row 46 f46 (.pointer (some ⟨w.heap.size, 0, none⟩)) b o c l (ndW l) w w4 hN4.out.b HL.out (by omega) (fun i hi W hW => clo46 l i w.heap.size b o c W hi (by rw [hW.cell (block_lt_of_cell q0)]; exact q0) (HL.out.on (bon hN4.out.b hW)))
  go_wp2_with fail
  with_reducible refine cO.mono ?_
  rintro x w5 ⟨vO, q, rfl, hOX⟩
  obtain ⟨aO, cO', rfl⟩ := own_sl hOX.o
  have hN5 : Hid (NX w l.length w.heap.size bg g (.slice (some ⟨b, o, none⟩) l.length c) (.slice aO q.length cO') q (Nds.inl [m]) [m] (.slice (some ⟨w5.heap.size, 0, none⟩) 1 1) (w5.alloc (.cells #[.int .i64 (m : Int)] 3))) := by
    have h1 := (hN4.out.on hOX.b).on (b1c w5 (.cells #[.int .i64 (m : Int)] 3))
    exact ⟨h1.b, h1.gb, h1.l, h1.g0, h1.r, own_on (Ord.own_low hOX.o hN4.out.b.size) (b1c _ _), iw_one w5 w.heap.size m (bon hN4.out.b hOX.b).size⟩
  have HQ := Lib.hid hOX.t
  have HQm := Lib.hid hOX.m
  clear hOX hN4 q0 cO
  go_upto_region 8 with fail
  generalize hS5 : (.slice (some ⟨w5.heap.size, 0, none⟩) 1 1 : Value) = S5 at hN5 ⊢
  generalize w5.alloc (.cells #[.int .i64 (m : Int)] 3) = w6 at hN5 ⊢
  clear hS5
  go_wp2_with fail
  go_loopw [8, 9] (fun S i W => ∃ (G : List Nat) (k : Nat), k ≤ G.length ∧ i = .int .i64 k ∧ Hid (NX w l.length w.heap.size bg g (.slice (some ⟨b, o, none⟩) l.length c) (.slice aO q.length cO') q (Nds.inl G) G S W) ∧ Hid (NL l m G k)) (fun _ i _ => l.length - (intOf i).toNat)
  case atStart => exact ⟨[m], 0, Nat.zero_le _, rfl, hN5, ⟨.one, Nds.seen_zero _ _ _ _⟩⟩
  case round =>
    obtain ⟨G, k, hk, rfl, HN, HNL⟩ := hrel
    have hG0 : 0 < G.length := by
      obtain ⟨t, e⟩ := Nds.rch_head _ _ _ HNL.out.r
      rw [e]; simp
    have hGn := Nds.rch_len _ _ _ hm HNL.out.r
    obtain ⟨gs, cs, cur, rfl, hgs, hgl, hGc, hcm, hcur, hGk⟩ := iw_row HN.out.s hG0
    by_cases hlt : k < G.length
    · have hgk := hGk k hlt
      have hjl : G[k] < l.length := Nds.rch_lt _ _ _ hm HNL.out.r _ (List.getElem_mem hlt)
      have HNM : Hid (NM l m G k 0 G[k]) := ⟨HNL.out.r, HNL.out.s, ⟨hlt, rfl⟩, Nds.part_zero _ _ _ _ _⟩
      have hwb : Below w.heap.size w wr := HN.out.b
      obtain ⟨vW, vT, vD, vA, vG, vB, vR, vP, vS, vL, vF, kc, kz⟩ := HL.out.c G[k] hjl
      obtain ⟨⟨a1, a2, a3, rfl⟩, ⟨b1, b2, b3, rfl⟩, ⟨c1, c2, c3, rfl⟩, ⟨d1, d2, d3, rfl⟩, ⟨e1, e2, e3, rfl⟩, ⟨f1, f2, f3, rfl⟩, ⟨g1, g2, g3, rfl⟩, ⟨i1, i2, i3, rfl⟩, ⟨j1, j2, j3, rfl⟩, ⟨l1, l2, l3, rfl⟩, ⟨m1, m2, m3, rfl⟩⟩ := kz.k11
      have hra := (kc.on hwb).pack
      have HZ := Lib.hid kz
      have q0 := HN.out.lc
      have hOh := (HSo.out _ (List.getElem_mem hjl)).oh
      have hEq : l.getD G[k] default = l[G[k]] := by simp [List.getD, hjl]
      have HE := Lib.hid hEq
      generalize G[k] = gk at *
      have hgl' : gs < wr.heap.size := hgl
      have hbl : b < wr.heap.size := Nat.lt_of_lt_of_le HL.out.lt hwb.size
      have hll : w.heap.size < wr.heap.size := block_lt_of_cell q0
      have cF := Lib.hid (fun W (h : Below wr.heap.size wr W) => offer_any l[gk].p (.slice c1 c2 c3) (.slice d1 d2 d3) (.slice e1 e2 e3) (.slice f1 f2 f3) (.slice g1 g2 g3) (.slice i1 i2 i3) (.slice j1 j2 j3) (.slice l1 l2 l3) (.slice m1 m2 m3) W (kz.on (bon hwb h)).z)
      clear kc kz
      generalize l[gk] = x at *
      have hS : Below wr.heap.size wr wr.drew := (Below.refl _ _).drew
      go_upto_region 11 with fail
      apply suf2 (F := fun V a => Below wr.heap.size wr V ∧ V.heap[a]? = some (.cells #[.string ⟨x.p.o.n.toArray⟩, .int .i64 x.p.o.e, .string ⟨x.p.o.u.toArray⟩, .string ⟨x.p.o.r.toArray⟩, .slice i1 i2 i3] 65 (0, 0)))
      · intro tail
        refine wp_region_held (S := fun V => Below wr.heap.size wr V) (by kernel_rfl) ?_
        refine take_d (some 40) (i := 0) (v := .slice (some ⟨b, o, none⟩) l.length c) rfl rfl (by kernel_rfl) (by kernel_rfl) (by kernel_rfl) (fun _ _ _ h => h) (.inl ⟨by kernel_rfl, fun w' hw => by simp [go_sem, hw.cell (p := ⟨w.heap.size, 0, none⟩) hll, q0]⟩) hS ?_
        refine take_d (some 41) (i := 1) (v := .slice (some ⟨gs, 0, none⟩) G.length cs) rfl rfl (by kernel_rfl) (by kernel_rfl) (by kernel_rfl) (fun _ _ _ h => h) (.inl ⟨by kernel_rfl, fun w' hw => by simp [go_sem]⟩) hS ?_
        refine take_d (some 42) (i := 2) (v := .int .i64 k) rfl rfl (by kernel_rfl) (by kernel_rfl) (by kernel_rfl) (fun _ _ _ h => h) (.inl ⟨by kernel_rfl, fun w' hw => by simp [go_sem]⟩) hS ?_
        refine take_d (some 43) (i := 3) (v := .pointer (some ⟨gs, k, none⟩)) rfl rfl (by kernel_rfl) (by kernel_rfl) (by kernel_rfl) (fun _ _ _ h => h) (.inl ⟨by kernel_rfl, fun w' hw => by simp [go_sem, hlt]⟩) hS ?_
        simp only [Act.put, List.setIfInBounds_toArray, List.set_cons_succ, List.set_cons_zero]
        refine take_d (some 44) (i := 4) (v := .int .i64 gk) rfl rfl (by kernel_rfl) (by kernel_rfl) (by kernel_rfl) (fun _ _ _ h => h) (.inl ⟨by kernel_rfl, fun w' hw => by simp [go_sem, hw.cell (p := ⟨gs, k, none⟩) hgl', hgk]⟩) hS ?_
        refine take_d (some 45) (i := 5) (v := .pointer (some ⟨b, o + gk * 20, none⟩)) rfl rfl (by kernel_rfl) (by kernel_rfl) (by kernel_rfl) (fun _ _ _ h => h) (.inl ⟨by kernel_rfl, fun w' hw => by simp [go_sem, hjl]⟩) hS ?_
        refine take_d (some 46) (i := 6) (v := .pointer (some ⟨b, o + gk * 20 + 7, none⟩)) rfl rfl (by kernel_rfl) (by kernel_rfl) (by kernel_rfl) (fun _ _ _ h => h) (.inl ⟨by kernel_rfl, fun w' hw => by simp [go_sem]⟩) hS ?_
        simp only [Act.put, List.setIfInBounds_toArray, List.set_cons_succ, List.set_cons_zero]
        refine take_d (some 47) (i := 7) rfl rfl (by kernel_rfl) (by kernel_rfl) (by kernel_rfl) (fun _ _ _ h => h) (yieldsIf_load_mid (by kernel_rfl) 30 _ rfl b (o + gk * 20 + 7) rfl _ _ (fun V hV j v hv => by rw [hV.cell (p := ⟨b, o + gk * 20 + 7 + j, none⟩) hbl]; exact hra j v hv) Tryz.underlying30 rfl (by kernel_rfl)) hS ?_
        simp only [Act.put, List.setIfInBounds_toArray, List.set_cons_succ, List.set_cons_zero]
        refine wpAnyH_all (rs := [8, 9]) (by kernel_rfl) (by simp) fun i hi => ?_
        rcases (by simpa using hi : i = 8 ∨ i = 9) with rfl | rfl
        · refine wpOp_want rfl (by kernel_rfl) ?_
          unfold Oper.wp
          simp [go_sem]
          refine (cF.out wr.drew hS).mono ?_
          rintro z V1 ⟨rfl, k1⟩
          have hS1 := bon hS k1
          refine ⟨hS1, ?_⟩
          refine wpAnyH_all (rs := [9]) (by kernel_rfl) (by simp) fun i hi => ?_
          obtain rfl : i = 9 := by simpa using hi
          refine wpOp_want rfl (by kernel_rfl) ?_
          unfold Oper.wp
          simp [go_sem]
          have hS2 := bon hS1 (b1c V1 (.cells #[.string ⟨#[]⟩, .int .i64 0, .string ⟨#[]⟩, .string ⟨#[]⟩, .slice none 0 0] 65))
          have hh := nb0 V1 (.cells #[.string ⟨#[]⟩, .int .i64 0, .string ⟨#[]⟩, .string ⟨#[]⟩, .slice none 0 0] 65)
          refine ⟨hS2, ?_⟩
          refine wpAnyH_all (rs := [10]) (by kernel_rfl) (by simp) fun i hi => ?_
          obtain rfl : i = 10 := by simpa using hi
          refine wpOp_want rfl (by kernel_rfl) ?_
          refine wp_store_row 65 _ _ rfl V1.heap.size #[.string ⟨x.p.o.n.toArray⟩, .int .i64 x.p.o.e, .string ⟨x.p.o.u.toArray⟩, .string ⟨x.p.o.r.toArray⟩, .slice i1 i2 i3] rfl rfl 65 _ hh (by kernel_rfl) rfl (by first | rfl | simp [Value.oneCell']) ?_
          have hS3 := below_setRow hS2 V1.heap.size #[.string ⟨x.p.o.n.toArray⟩, .int .i64 x.p.o.e, .string ⟨x.p.o.u.toArray⟩, .string ⟨x.p.o.r.toArray⟩, .slice i1 i2 i3] hS1.size
          have hh3 := heap_setRow _ V1.heap.size _ #[.string ⟨x.p.o.n.toArray⟩, .int .i64 x.p.o.e, .string ⟨x.p.o.u.toArray⟩, .string ⟨x.p.o.r.toArray⟩, .slice i1 i2 i3] 65 hh
          refine ⟨hS3, ?_⟩
          refine wpAnyH_done (by kernel_rfl) ?_ _
          simp only [Act.put, List.getElem_toArray, List.getElem_cons_succ, List.getElem_cons_zero]
          generalize (V1.alloc (.cells #[.string ⟨#[]⟩, .int .i64 0, .string ⟨#[]⟩, .string ⟨#[]⟩, .slice none 0 0] 65)).setRow V1.heap.size #[.string ⟨x.p.o.n.toArray⟩, .int .i64 x.p.o.e, .string ⟨x.p.o.u.toArray⟩, .string ⟨x.p.o.r.toArray⟩, .slice i1 i2 i3] = V9 at hS3 hh3 ⊢
          generalize V1.heap.size = a9 at hh3 ⊢
          exact tail V9 a9 ⟨hS3, hh3⟩
        · refine wpOp_want rfl (by kernel_rfl) ?_
          unfold Oper.wp
          simp [go_sem]
          have hS1 := bon hS (b1c wr.drew (.cells #[.string ⟨#[]⟩, .int .i64 0, .string ⟨#[]⟩, .string ⟨#[]⟩, .slice none 0 0] 65))
          have hh := nb0 wr.drew (.cells #[.string ⟨#[]⟩, .int .i64 0, .string ⟨#[]⟩, .string ⟨#[]⟩, .slice none 0 0] 65)
          refine ⟨hS1, ?_⟩
          refine wpAnyH_all (rs := [8]) (by kernel_rfl) (by simp) fun i hi => ?_
          obtain rfl : i = 8 := by simpa using hi
          refine wpOp_want rfl (by kernel_rfl) ?_
          unfold Oper.wp
          simp [go_sem]
          refine (cF.out _ hS1).mono ?_
          rintro z V1 ⟨rfl, k1⟩
          have hS2 := bon hS1 k1
          have hh2 := heap_on hh k1
          refine ⟨hS2, ?_⟩
          refine wpAnyH_all (rs := [10]) (by kernel_rfl) (by simp) fun i hi => ?_
          obtain rfl : i = 10 := by simpa using hi
          refine wpOp_want rfl (by kernel_rfl) ?_
          refine wp_store_row 65 _ _ rfl wr.drew.heap.size #[.string ⟨x.p.o.n.toArray⟩, .int .i64 x.p.o.e, .string ⟨x.p.o.u.toArray⟩, .string ⟨x.p.o.r.toArray⟩, .slice i1 i2 i3] rfl rfl 65 _ hh2 (by kernel_rfl) rfl (by first | rfl | simp [Value.oneCell']) ?_
          have hS3 := below_setRow hS2 wr.drew.heap.size #[.string ⟨x.p.o.n.toArray⟩, .int .i64 x.p.o.e, .string ⟨x.p.o.u.toArray⟩, .string ⟨x.p.o.r.toArray⟩, .slice i1 i2 i3] (Nat.le_refl _)
          have hh3 := heap_setRow _ wr.drew.heap.size _ #[.string ⟨x.p.o.n.toArray⟩, .int .i64 x.p.o.e, .string ⟨x.p.o.u.toArray⟩, .string ⟨x.p.o.r.toArray⟩, .slice i1 i2 i3] 65 hh2
          refine ⟨hS3, ?_⟩
          refine wpAnyH_done (by kernel_rfl) ?_ _
          simp only [Act.put, List.getElem_toArray, List.getElem_cons_succ, List.getElem_cons_zero]
          generalize V1.setRow wr.drew.heap.size #[.string ⟨x.p.o.n.toArray⟩, .int .i64 x.p.o.e, .string ⟨x.p.o.u.toArray⟩, .string ⟨x.p.o.r.toArray⟩, .slice i1 i2 i3] = V9 at hS3 hh3 ⊢
          exact tail V9 wr.heap.size ⟨hS3, hh3⟩
      · clear q0
        rintro V a ⟨hV, hVa⟩
        have hV9 := HN.out.on hV
        have HI0 : Hid (NI w l w.heap.size bg g a (.slice (some ⟨b, o, none⟩) l.length c) (.slice aO q.length cO') q (Nds.inl G) G (.slice (some ⟨gs, 0, none⟩) G.length cs) #[.string ⟨x.p.o.n.toArray⟩, .int .i64 x.p.o.e, .string ⟨x.p.o.u.toArray⟩, .string ⟨x.p.o.r.toArray⟩, .slice i1 i2 i3] V) := ⟨hV9, hVa⟩
        have q0 := hV9.lc
        clear cF hra hV hVa hV9 hS hwb hgk HNL HN hGk hcur hgl hgl' hbl hll
        clear wr
        go_wp2_with fail
        go_loopw [8, 51] (fun S i W => ∃ (G : List Nat) (j : Nat), j ≤ l.length ∧ i = .int .i64 j ∧ Hid (NI w l w.heap.size bg g a (.slice (some ⟨b, o, none⟩) l.length c) (.slice aO q.length cO') q (Nds.inl G) G S #[.string ⟨x.p.o.n.toArray⟩, .int .i64 x.p.o.e, .string ⟨x.p.o.u.toArray⟩, .string ⟨x.p.o.r.toArray⟩, .slice i1 i2 i3] W) ∧ Hid (NM l m G k j gk)) (fun _ i _ => l.length - (intOf i).toNat)
        case atStart => exact ⟨G, 0, Nat.zero_le _, rfl, HI0, HNM⟩
        case round =>
          clear HI0 HNM hGc
          obtain ⟨G', j, hj, rfl, HI, HM⟩ := hrel
          by_cases hjn : j < l.length
          · have q0 := HI.out.x.lc
            have hwb := HI.out.x.b
            have c45 := clo45 l (Nds.inl G') j w.heap.size bg g b o c wr hjn q0 (HL.out.on hwb) HI.out.x.gc HI.out.x.r
            obtain ⟨y, hy⟩ : ∃ y, (wk (l.getD j default) && !Nds.inl G' j) = y := ⟨_, rfl⟩
            rw [hy] at c45
            have HY := Lib.hid hy
            clear hy
            go_wp2_with fail
            with_reducible refine c45.mono ?_
            rintro z w1 ⟨rfl, b1'⟩
            have HI1 := Lib.hid (HI.out.on b1')
            clear c45 HI q0 hwb b1'
            clear wr
            cases y with
            | false =>
              have HM1 : Hid (NM l m G' k (j + 1) gk) := HM.out.skip (fun a b => by
                exfalso
                have := HY.out
                unfold ndW at b
                rw [a, b] at this
                cases this)
              clear HM
              go_wp2_with fail
              exact ⟨⟨G', j + 1, hjn, by go_num, HI1, HM1⟩, by simp [intOf]; omega⟩
            | true =>
              have HY1 : Hid (ndW l j = true ∧ Nds.inl G' j = false) := by
                have := HY.out
                simp only [Bool.and_eq_true, Bool.not_eq_true'] at this
                exact this
              clear HY
              have q0 := HI1.out.x.lc
              have hwb := HI1.out.x.b
              obtain ⟨vW, vT, vD, vA, vG, vB, vR, vP, vS, vL, vF, kc, kz⟩ := (HL.out.on hwb).c j hjn
              obtain ⟨d4, d5, rfl⟩ := kz.z.D.sl
              obtain ⟨a4, a5, rfl⟩ := kz.z.A.sl
              have hcD := kc.c11
              have hcE := kc.c12
              have HD := Lib.hid kz.z.D
              have HA := Lib.hid kz.z.A
              have HEj : Hid (l[j].p.D ++ l[j].p.A = ndL l j) := by show _ = _; unfold ndL; simp [List.getD, hjn]
              have hl80 := (ndl_parts HSo.out hjn).1
              rw [← HEj.out, List.length_append] at hl80
              have hbl : b < w1.heap.size := Nat.lt_of_lt_of_le HL.out.lt hwb.size
              have hll : w.heap.size < w1.heap.size := block_lt_of_cell q0
              have hS : Below w1.heap.size w1 w1.drew := (Below.refl _ _).drew
              clear kc kz
              generalize l[j].p.D = LD at *
              generalize l[j].p.A = LA at *
              go_upto_region 16 with fail
              refine wp_region_held (S := fun V => Below w1.heap.size w1 V) (by kernel_rfl) ?_
              refine take_d (some 58) (i := 0) (v := .slice (some ⟨b, o, none⟩) l.length c) rfl rfl (by kernel_rfl) (by kernel_rfl) (by kernel_rfl) (fun _ _ _ h => h) (.inl ⟨by kernel_rfl, fun w' hw => by simp [go_sem, hw.cell (p := ⟨w.heap.size, 0, none⟩) hll, q0]⟩) hS ?_
              refine take_d (some 59) (i := 1) (v := .int .i64 j) rfl rfl (by kernel_rfl) (by kernel_rfl) (by kernel_rfl) (fun _ _ _ h => h) (.inl ⟨by kernel_rfl, fun w' hw => by simp [go_sem]⟩) hS ?_
              refine take_d (some 60) (i := 2) (v := .pointer (some ⟨b, o + j * 20, none⟩)) rfl rfl (by kernel_rfl) (by kernel_rfl) (by kernel_rfl) (fun _ _ _ h => h) (.inl ⟨by kernel_rfl, fun w' hw => by simp [go_sem, hjn]⟩) hS ?_
              refine take_d (some 61) (i := 3) (v := .pointer (some ⟨b, o + j * 20 + 7, none⟩)) rfl rfl (by kernel_rfl) (by kernel_rfl) (by kernel_rfl) (fun _ _ _ h => h) (.inl ⟨by kernel_rfl, fun w' hw => by simp [go_sem]⟩) hS ?_
              simp only [Act.put, List.setIfInBounds_toArray, List.set_cons_succ, List.set_cons_zero]
              refine take_d (some 62) (i := 4) (v := .pointer (some ⟨b, o + j * 20 + 11, none⟩)) rfl rfl (by kernel_rfl) (by kernel_rfl) (by kernel_rfl) (fun _ _ _ h => h) (.inl ⟨by kernel_rfl, fun w' hw => by simp [go_sem]⟩) hS ?_
              refine take_d (some 63) (i := 5) (v := .slice d4 LD.length d5) rfl rfl (by kernel_rfl) (by kernel_rfl) (by kernel_rfl) (fun _ _ _ h => h) (.inl ⟨by kernel_rfl, fun w' hw => by simp [go_sem, hw.cell (p := ⟨b, o + j * 20 + 11, none⟩) hbl, hcD]⟩) hS ?_
              refine take_d (some 64) (i := 6) (v := .slice (some ⟨b, o, none⟩) l.length c) rfl rfl (by kernel_rfl) (by kernel_rfl) (by kernel_rfl) (fun _ _ _ h => h) (.inl ⟨by kernel_rfl, fun w' hw => by simp [go_sem, hw.cell (p := ⟨w.heap.size, 0, none⟩) hll, q0]⟩) hS ?_
              simp only [Act.put, List.setIfInBounds_toArray, List.set_cons_succ, List.set_cons_zero]
              refine take_d (some 65) (i := 7) (v := .int .i64 j) rfl rfl (by kernel_rfl) (by kernel_rfl) (by kernel_rfl) (fun _ _ _ h => h) (.inl ⟨by kernel_rfl, fun w' hw => by simp [go_sem]⟩) hS ?_
              refine take_d (some 66) (i := 8) (v := .pointer (some ⟨b, o + j * 20, none⟩)) rfl rfl (by kernel_rfl) (by kernel_rfl) (by kernel_rfl) (fun _ _ _ h => h) (.inl ⟨by kernel_rfl, fun w' hw => by simp [go_sem, hjn]⟩) hS ?_
              refine take_d (some 67) (i := 9) (v := .pointer (some ⟨b, o + j * 20 + 7, none⟩)) rfl rfl (by kernel_rfl) (by kernel_rfl) (by kernel_rfl) (fun _ _ _ h => h) (.inl ⟨by kernel_rfl, fun w' hw => by simp [go_sem]⟩) hS ?_
              simp only [Act.put, List.setIfInBounds_toArray, List.set_cons_succ, List.set_cons_zero]
              refine take_d (some 68) (i := 10) (v := .pointer (some ⟨b, o + j * 20 + 12, none⟩)) rfl rfl (by kernel_rfl) (by kernel_rfl) (by kernel_rfl) (fun _ _ _ h => h) (.inl ⟨by kernel_rfl, fun w' hw => by simp [go_sem]⟩) hS ?_
              refine take_d (some 69) (i := 11) (v := .slice a4 LA.length a5) rfl rfl (by kernel_rfl) (by kernel_rfl) (by kernel_rfl) (fun _ _ _ h => h) (.inl ⟨by kernel_rfl, fun w' hw => by simp [go_sem, hw.cell (p := ⟨b, o + j * 20 + 12, none⟩) hbl, hcE]⟩) hS ?_
              simp only [Act.put, List.setIfInBounds_toArray, List.set_cons_succ, List.set_cons_zero]
              refine wpAnyH_all (rs := [12]) (by kernel_rfl) (by simp) fun i hi => ?_
              obtain rfl : i = 12 := by simpa using hi
              refine wpOp_want rfl (by kernel_rfl) ?_
              unfold Oper.wp
              simp [go_sem]
              have hS1 := bon hS (b1c w1.drew (.cells #[.slice d4 LD.length d5, .slice a4 LA.length a5] 25))
              have cC := concat_any (.slice d4 LD.length d5) (.slice a4 LA.length a5) LD LA w1.heap.size (w1.drew.alloc (.cells #[.slice d4 LD.length d5, .slice a4 LA.length a5] 25)) (HD.out.on hS1) (HA.out.on hS1) (by omega) (by omega) (by rw [cell_of_row _ w1.heap.size 0 _ _ _ (nb0 w1.drew _)]; rfl) (by rw [cell_of_row _ w1.heap.size 1 _ _ _ (nb0 w1.drew _)]; rfl)
              refine ⟨hS1, ?_⟩
              refine wpAnyH_all (rs := [13]) (by kernel_rfl) (by simp) fun i hi => ?_
              obtain rfl : i = 13 := by simpa using hi
              refine wpOp_want rfl (by kernel_rfl) ?_
              unfold Oper.wp
              simp [go_sem]
              refine cC.mono ?_
              rintro z w3 ⟨S3, rfl, hAs, hb3⟩
              have hS3 := bon hS1 hb3
              rw [HEj.out] at hAs
              obtain ⟨A3, c3', rfl⟩ := hAs.sl
              refine ⟨hS3, ?_⟩
              refine take_d (some 12) (i := 14) (v := .slice A3 (ndL l j).length c3') rfl rfl (by kernel_rfl) (by kernel_rfl) (by kernel_rfl) (fun _ _ _ h => h) (.inl ⟨by kernel_rfl, fun w' hw => by simp [go_sem]⟩) hS3 ?_
              refine wpAnyH_done (by kernel_rfl) ?_ _
              simp only [Act.put, List.setIfInBounds_toArray, List.set_cons_succ, List.set_cons_zero]
              have HI3 := Lib.hid (HI1.out.on hS3)
              have HAs := Lib.hid hAs
              clear cC hS hS1 hb3 hS3 hAs HI1 hcD hcE HD HA q0 hwb hbl hll hl80 HEj
              have o5 := o5_of HI3.out.a
              have p0 := o5.c0
              have p1 := o5.c1
              have p2 := o5.c2
              have p3 := o5.c3
              have p4 := o5.c4
              have hwb := HI3.out.x.b
              obtain ⟨hl80, hS80⟩ := ndl_parts HSo.out hjn
              have cA := asked_any x.p.o (.slice i1 i2 i3) (.slice A3 (ndL l j).length c3') (ndL l j) w3 ((HZ.out.on hwb).z.P) HAs.out (by omega) hOh hS80
              rw [← HE.out, asq_ask] at cA
              obtain ⟨y2, hy2⟩ : ∃ y, Nds.ask (ndA l) j gk = y := ⟨_, rfl⟩
              rw [hy2, HE.out] at cA
              have HY2 := Lib.hid hy2
              have HAs' := HAs
              have hsl : (ndL l j).length ≤ 80 := hl80
              have cM := Lib.hid (fun W (h : Below w3.heap.size w3 W) => cmet_any (.slice A3 (ndL l j).length c3') (.slice aO q.length cO') (ndL l j) (q.map (·.1)) W (HAs.out.on h) (by omega) (os_of (HI3.out.on h).x.a HQ.out (HI3.out.on h).x.b) (by rw [HQm.out]; exact ofr_oh HSo.out _) (by rw [HQm.out, List.length_map]; have := sel_le l (ndW l) l.length; omega) hS80)
              have cN := Lib.hid (fun vX W (h : Below w3.heap.size w3 W) (hX : Os' W vX ((sel l (fun i => wk (l.getD i default) && !Nds.inl G' i) l.length).map (·.p.o))) => cmet_any (.slice A3 (ndL l j).length c3') vX (ndL l j) _ W (HAs.out.on h) (by omega) hX (ofr_oh HSo.out _) (by rw [List.length_map]; have := sel_le l (fun i => wk (l.getD i default) && !Nds.inl G' i) l.length; omega) hS80)
              have eM := met_all0 l j
              have eN : (met ((sel l (fun i => wk (l.getD i default) && !Nds.inl G' i) l.length).map (·.p.o)) (ndL l j)).2 = Nds.mt l.length (ndW l) (ndA l) (Nds.inl G') j := met_mt l (Nds.inl G') j
              have eM2 : (met (q.map (·.1)) (ndL l j)).2 = Nds.mt l.length (ndW l) (ndA l) (fun _ => false) j := by rw [HQm.out]; exact eM
              obtain ⟨y3, hy3⟩ : ∃ y, Nds.mt l.length (ndW l) (ndA l) (fun _ => false) j = y := ⟨_, rfl⟩
              obtain ⟨y4, hy4⟩ : ∃ y, Nds.mt l.length (ndW l) (ndA l) (Nds.inl G') j = y := ⟨_, rfl⟩
              rw [eM2, hy3] at cM
              rw [eN, hy4] at cN
              have HY3 := Lib.hid hy3
              have HY4 := Lib.hid hy4
              clear hy2 hy3 hy4 eM eN eM2 o5 hl80 hS80 HAs'
              go_wp2_with fail
              with_reducible refine cA.mono ?_
              rintro z w4 ⟨rfl, k4⟩
              clear p0 p1 p2 p3 p4 cA
              have HI4 := Lib.hid (HI3.out.on k4)
              cases y2 with
              | false =>
                have HM1 : Hid (NM l m G' k (j + 1) gk) := HM.out.skip (fun _ _ _ d => by rw [HY2.out] at d; cases d)
                clear HM cM cN HI3 HAs
                go_wp2_with fail
                exact ⟨⟨G', j + 1, hjn, by go_num, HI4, HM1⟩, by simp [intOf]; omega⟩
              | true =>
                go_wp2_with fail
                with_reducible refine (cM.out w4 k4).mono ?_
                rintro z w5 ⟨rfl, k5'⟩
                have k5 := bon k4 k5'
                have HI5 := Lib.hid (HI4.out.on k5')
                clear cM HI4 k5' k4
                cases y3 with
                | false =>
                  have HM1 : Hid (NM l m G' k (j + 1) gk) := HM.out.skip (fun _ _ d _ => by rw [HY3.out] at d; cases d)
                  clear HM cN HI3 HAs
                  go_wp2_with fail
                  exact ⟨⟨G', j + 1, hjn, by go_num, HI5, HM1⟩, by simp [intOf]; omega⟩
                | true =>
                  have q0 := HI5.out.x.lc
                  have cO5 := offers_row 45 f45 (.pointer (some ⟨w.heap.size, 0, none⟩)) (.pointer (some ⟨bg, 0, none⟩)) b o c l (fun i => wk (l.getD i default) && !Nds.inl G' i) w5 (HL.out.on HI5.out.x.b) (by omega) (fun i hi W hW => clo45 l (Nds.inl G') i w.heap.size bg g b o c W hi (HI5.out.on hW).x.lc (HL.out.on (HI5.out.on hW).x.b) (HI5.out.on hW).x.gc (HI5.out.on hW).x.r)
                  go_wp2_with fail
                  with_reducible refine cO5.mono ?_
                  rintro z w6 ⟨vX, rfl, hX, k6'⟩
                  obtain ⟨aX, cX, rfl⟩ := hX.sl
                  have k6 := bon k5 k6'
                  have HI6 := Lib.hid (HI5.out.on k6')
                  have cN6 := cN.out _ w6 k6 hX
                  clear cN cO5 HI5 k6' k5 q0 hX HI3 HAs hwb
                  generalize ((sel l (fun i => wk (l.getD i default) && !Nds.inl G' i) l.length).map (·.p.o)).length = nX at cN6 ⊢
                  go_wp2_with fail
                  with_reducible refine cN6.mono ?_
                  rintro z w7 ⟨rfl, k7⟩
                  have HI7 := Lib.hid (HI6.out.on k7)
                  clear cN6 HI6 k6 k7
                  cases y4 with
                  | true =>
                    have HM1 : Hid (NM l m G' k (j + 1) gk) := HM.out.skip (fun _ _ _ _ => HY4.out)
                    clear HM
                    go_wp2_with fail
                    exact ⟨⟨G', j + 1, hjn, by go_num, HI7, HM1⟩, by simp [intOf]; omega⟩
                  | false =>
                    have HM1 : Hid (NM l m (G' ++ [j]) k (j + 1) gk) := HM.out.more hjn HY1.out.2 HY1.out.1 HY3.out HY4.out
                    have q0 := HI7.out.x.gc
                    have hcj := HI7.out.x.r.cell hjn
                    have hfj := HI7.out.x.r.frozen j
                    have hG'n := Nds.rch_len _ _ _ hm HM.out.r
                    have HP : Hid (NX w l.length w.heap.size bg g (.slice (some ⟨b, o, none⟩) l.length c) (.slice aO q.length cO') q (Nds.inl (G' ++ [j])) G' u8 (w7.setCell ⟨g, j, none⟩ (.bool true))) := HI7.out.x.put j (fun i _ => by rw [Nds.inl_snoc]; by_cases e : i = j <;> simp [e])
                    have HP2 := Lib.hid (HI7.out.x.put_far j (.bool true) HI7.out.a)
                    clear HM HI7
                    go_upto_region 19 with fail
                    generalize w7.setCell ⟨g, j, none⟩ (.bool true) = w8 at HP HP2 ⊢
                    clear q0 hcj hfj
                    have hS8 := HP.out.s
                    have hz8 := HP.out.b.size
                    go_wp2_with (first | (at_builtin; refine Ord.wpList_ap j hS8 (by omega) hz8 rfl _ _ rfl rfl _ rfl rfl ?_; intro g9 c9 w9 hI9 _ hgr; have HP9 := Lib.hid ((HP.out.on (b1c _ _)).app hgr hI9); have HP99 := Lib.hid ((HP.out.on (b1c _ _)).app_far hgr (heap_on HP2.out (b1c _ _))); clear hI9 hgr) | fail)
                    exact ⟨⟨G' ++ [j], j + 1, hjn, by go_num, ⟨HP9.out, HP99.out⟩, HM1⟩, by simp [intOf]; omega⟩
          · have hje : j = l.length := by omega
            subst hje
            have HX := Lib.hid HI.out.x
            have HNL : Hid (NL l m G' (k + 1)) := ⟨HM.out.r, Nds.part_seen _ _ _ HM.out.s HM.out.p⟩
            have hk1 : k + 1 ≤ G'.length := by obtain ⟨h, _⟩ := HM.out.e; omega
            have hkn : k < l.length := by have := Nds.rch_len _ _ _ hm HM.out.r; omega
            clear HI HM
            go_wp2_with fail
            exact ⟨⟨G', k + 1, hk1, by go_num, HX, HNL⟩, by simp [intOf]; omega⟩
    · have hke : k = G.length := by omega
      subst hke
      obtain ⟨t, ht⟩ := Nds.rch_head _ _ _ HNL.out.r
      have hcl := Nds.seen_cls _ _ _ HNL.out.s
      have hnd := Nds.rch_nodup _ _ _ HNL.out.r
      have hwb := HN.out.b
      have hTl : t.length = G.length - 1 := by rw [ht]; simp
      have HR : Hid (∀ R : List Nat, R.Pairwise (· < ·) → (∀ i, i ∈ R ↔ i ∈ t) → Nds.NdR l.length (ndW l) (ndA l) m R) := fun R h1 h2 => ⟨h1, G, HNL.out.r, hcl, fun i => by rw [h2 i]; rw [ht] at hnd ⊢; exact Nds.tail_iff hnd i⟩
      have HWB := Lib.hid hwb
      by_cases hc1 : cs = 1
      · have ht0 : t = [] := List.length_eq_zero_iff.1 (by omega)
        have HNd := Lib.hid (HR.out [] List.Pairwise.nil (fun i => by rw [ht0]))
        clear hcl hnd HNL HN hGk hcur hcm hTl hlt hk hgl HR
        subst ht0 ht hc1
        have cS := Tryz.slices_Sort_int_none (some ⟨gs, 0, none⟩) 0 wr
        go_wp2_with fail
        with_reducible refine cS.mono ?_
        rintro z w9 ⟨rfl, rfl⟩
        go_wp2_with fail
        go_ret
        exact ⟨_, [], rfl, ⟨.inl ⟨rfl, _, _, rfl⟩⟩, HNd.out, Nat.zero_le _, HWB.out⟩
      · have hc2 : ¬ (cs - 1 = 0) := by omega
        have cS := sortT sorts51 gs 1 (cs - 1) cur t wr w.heap.size hcur (fun j hj => by
          have h1 := hGk (1 + j) (by omega)
          rw [h1]
          have : G[1 + j]'(by omega) = t[j] := by simp [ht, Nat.add_comm 1 j]
          rw [this]) (by omega) (by omega) (by rw [ht, List.nodup_cons] at hnd; exact hnd.2) hgs
        rw [hTl] at cS
        have HTl := Lib.hid hTl
        clear hcl hnd HNL HN hGk hcur hcm ht hTl hlt hk hgl
        go_wp2_with fail
        with_reducible refine cS.mono ?_
        rintro z w9 ⟨rfl, R, hR1, hR2, hR3, hR4, hR5⟩
        have HNd := Lib.hid (HR.out R hR1 hR2)
        have hRl : R.length ≤ 100 := by have := HTl.out; omega
        have HR4 := Lib.hid hR4
        clear HR hR1 hR2 hR3 cS hR4
        go_wp2_with fail
        go_ret
        exact ⟨_, R, rfl, HR4.out, HNd.out, hRl, HWB.out.trans hR5⟩
end Go.Proofs.YthijccmiemlilaaGreatDoor
