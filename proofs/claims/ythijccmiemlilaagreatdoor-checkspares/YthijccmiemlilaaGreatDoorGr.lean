/- The walk of the reference's CheckLine. -/
import Derived.Test.YthijccmiemlilaaGreatDoorGq
import Derived.Test.YthijccmiemlilaaGreatDoorKp
namespace Go.Proofs.YthijccmiemlilaaGreatDoor
open Go.RowKit Go.Sort

theorem info107 : (Tryz.prog.info? 107).map (fun i => (i.zero.map (·.cells.size), i.size, i.bytes)) = some (some 2, 2, 16) := by kernel_rfl
/-- Edges of the reference's, of the call's own. -/
abbrev Xw (W : World) (B : Nat) (v : Value) (l : List Ord.E) : Prop := W.ownsRow B 107 2 v l.length (Ord.fl l)
theorem xw_es {W : World} {B : Nat} {v : Value} {l : List Ord.E} (h : Xw W B v l) : Ord.Es W v l := by
  rcases h.2 with ⟨rfl, h0⟩ | ⟨g, cap, cur, rfl, hb, hg, hnc, hcm, hcs, htake⟩
  · exact ⟨.inl ⟨List.length_eq_zero_iff.1 h0, none, 0, rfl⟩⟩
  · refine ⟨.inr ⟨g, 0, cap, rfl, hnc, (Array.getElem?_eq_some_iff.1 hg).1, fun i hi => ?_, fun i hi => ?_⟩⟩
    · rw [Nat.zero_add, World.ownsRow.cellAt h (i * 2) (by omega), Ord.fl_0 l i hi]
    · rw [Nat.zero_add, World.ownsRow.cellAt h (i * 2 + 1) (by omega), Ord.fl_1 l i hi]
theorem xw_sl {W : World} {B : Nat} {v : Value} {L : List Ord.E} (h : Xw W B v L) : ∃ A c, v = .slice A L.length c ∧ (A = none → c = 0) := by
  rcases h.2 with ⟨rfl, h0⟩ | ⟨g, cap, cur, rfl, _⟩
  · exact ⟨none, 0, by rw [h0], fun _ => rfl⟩
  · exact ⟨_, _, rfl, fun h => by cases h⟩
/-- One more edge is appended. -/
theorem wpList_apX {W : World} {B : Nat} {S : Value} {l : List Ord.E} (e : Ord.E) (h : Xw W B S l) (hl : l.length ≤ 1000000) (hB : B ≤ W.heap.size)
    {ops : Array Oper} {rest : List Oper} {o : Oper} {a : Act} {Q : Exit → Act → World → Prop} (hg : o.guard = none) (s x : Operand) (hop : o.op = Op.call { callee := Callee.builtin Builtin.append, args := #[s, x], argTypes := #[105, 105] }) (hs : a.eval s = S) (N : Nat) (hx : a.eval x = .slice (some ⟨N, 0, none⟩) 1 1) (hN : N = W.heap.size)
    (K : ∀ g c w6, Xw w6 B (.slice (some ⟨g, 0, none⟩) (l.length + 1) c) (l ++ [e]) → (W.alloc (.cells #[.int .i64 e.1, .int .i64 e.2] 107)).grownBy w6 S.ownBlock → (S.ownBlock = some g ∨ g = W.heap.size + 1) → wpList Tryz.prog ops Q rest (a.put o.dst (.slice (some ⟨g, 0, none⟩) (l.length + 1) c)) w6) :
    wpList Tryz.prog ops Q (o :: rest) a (W.alloc (.cells #[.int .i64 e.1, .int .i64 e.2] 107)) := by
  subst hN
  obtain ⟨i0, z0, hi0, hz0, hz1, hz2, hz3⟩ := info_of info107
  have news : ∀ j u, ([.int .i64 e.1, .int .i64 e.2] : List Value)[j]? = some u → (W.alloc (.cells #[.int .i64 e.1, .int .i64 e.2] 107)).cell? ((⟨W.heap.size, 0, none⟩ : Addr).add j) = some u := World.news_of_block (nb0 W _)
  have ones : ∀ u ∈ ([.int .i64 e.1, .int .i64 e.2] : List Value), u.oneCell' = true := by intro u hu; simp at hu; rcases hu with rfl | rfl <;> rfl
  refine wpList_append_lies _ hg s x 105 hop B 107 i0 z0 2 16 Tryz.underlying105 hi0 hz0 hz1 hz2 hz3 (by decide) _ _ _ hs (h.alloc _) ⟨W.heap.size, 0, none⟩ 1 1 _ hx rfl news ones (by decide) (by unfold maxLen; omega) (by omega) (by rw [World.size_alloc]; omega) _ rfl ?_
  intro g' c' w6 hown hgr hor _
  have e2 : (l ++ [e]).length = l.length + 1 := by simp
  have h2 : Xw w6 B (.slice (some ⟨g', 0, none⟩) (l.length + 1) c') (l ++ [e]) := by
    unfold Xw
    rw [e2, Ord.fl_app]; exact hown
  exact K g' c' w6 h2 hgr (by rw [World.size_alloc] at hor; exact hor)
/-- Weak and strong edges, that grow apart. -/
structure XE (w : World) (S S' : Value) (L L' : List Ord.E) (W : World) : Prop where
  b : Below w.heap.size w W
  x : Xw W w.heap.size S L
  x' : Xw W w.heap.size S' L'
  ne : ∀ g, S.ownBlock = some g → S'.ownBlock ≠ some g
theorem XE.on {w : World} {S S' : Value} {L L' : List Ord.E} {W W' : World} (h : XE w S S' L L' W) (k : Below W.heap.size W W') : XE w S S' L L' W' := ⟨bon h.b k, own_on h.x k, own_on h.x' k, h.ne⟩
theorem XE.swap {w : World} {S S' : Value} {L L' : List Ord.E} {W : World} (h : XE w S S' L L' W) : XE w S' S L' L W := ⟨h.b, h.x', h.x, fun g h1 h2 => h.ne g h2 h1⟩
theorem own_lt {W : World} {B : Nat} {e : TypeId} {s n : Nat} {v : Value} {xs : List Value} (h : W.ownsRow B e s v n xs) {g : Nat} (hg : v.ownBlock = some g) : g < W.heap.size := by
  rcases h.2 with ⟨rfl, _⟩ | ⟨g', cap, cur, rfl, _, hgg, _⟩
  · cases hg
  · cases hg; exact (Array.getElem?_eq_some_iff.1 hgg).1
theorem own_far {W W' : World} {B : Nat} {e : TypeId} {s n : Nat} {v v' : Value} {xs : List Value} (h : W.ownsRow B e s v n xs) (hne : ∀ g, v'.ownBlock = some g → v.ownBlock ≠ some g) (hg : W.grownBy W' v'.ownBlock) : W'.ownsRow B e s v n xs := by
  refine ⟨h.1, ?_⟩
  rcases h.2 with hn | ⟨g, cap, cur, rfl, hb, hgg, rest⟩
  · exact .inl hn
  · refine .inr ⟨g, cap, cur, rfl, hb, ?_, rest⟩
    rw [hg.block g (Array.getElem?_eq_some_iff.1 hgg).1 (fun e1 => hne g e1.symm rfl)]
    exact hgg
theorem XE.app {w : World} {S S' : Value} {L L' : List Ord.E} {W : World} (h : XE w S S' L L' W) {o : Obj} {g c n : Nat} {L2 : List Ord.E} {w6 : World} (hI : Xw w6 w.heap.size (.slice (some ⟨g, 0, none⟩) n c) L2) (hg : (W.alloc o).grownBy w6 S.ownBlock) (hor : S.ownBlock = some g ∨ g = W.heap.size + 1) : XE w (.slice (some ⟨g, 0, none⟩) n c) S' L2 L' w6 := by
  have h1 := h.on (b1c W o)
  refine ⟨h1.b.grown hg h1.b.size (fun j e => (h1.x.lt j e).1), hI, own_far h1.x' h1.ne hg, fun g' e1 e2 => ?_⟩
  cases e1
  rcases hor with e3 | e3
  · exact h.ne g e3 e2
  · have h9 : g < W.heap.size := own_lt h.x' e2
    omega
/-- What the innermost loops have found. -/
theorem rx_step {q : Nat → Nat → Bool} {n t k : Nat} (hk : k < n) (a b : Nat) : Rp (fun x y => q y x) n t (k + 1) b a = (Rp (fun x y => q y x) n t k b a || (decide (a = t) && (decide (b = k) && q t k))) := by
  cases h : q t k with
  | true =>
    rw [rp_yes (q := fun x y => q y x) hk h]
    congr 1
    cases decide (a = t) <;> cases decide (b = k) <;> rfl
  | false =>
    rw [rp_no (q := fun x y => q y x) h]
    simp
def Ri (q : Nat → Nat → Bool) (n t k : Nat) (y : Bool) (a b : Nat) : Bool := Rp (fun x y => q y x) n t k b a || (decide (a = t) && (decide (b = k) && y))
theorem ri_zero (q : Nat → Nat → Bool) (n t k a b : Nat) : Ri q n t k false a b = Rp (fun x y => q y x) n t k b a := by unfold Ri; simp
theorem ri_end {q : Nat → Nat → Bool} {n t k : Nat} (hk : k < n) (a b : Nat) : Rp (fun x y => q y x) n t (k + 1) b a = Ri q n t k (q t k) a b := rx_step hk a b
theorem ri_yes (q : Nat → Nat → Bool) (n t k : Nat) (y : Bool) (a b : Nat) : Ri q n t k true a b = (Ri q n t k y a b || (decide (a = t) && decide (b = k))) := by
  unfold Ri
  cases y <;> cases decide (a = t) <;> cases decide (b = k) <;> cases Rp (fun x y => q y x) n t k b a <;> rfl
theorem rx_all (q : Nat → Nat → Bool) (n a b : Nat) : Rq q n a b = Rp (fun x y => q y x) n n 0 b a := by
  rw [← rp_all]
  unfold Rq
  show (q a b && (decide (a < n) && decide (b < n))) = (q a b && (decide (b < n) && decide (a < n)))
  cases q a b <;> cases decide (a < n) <;> cases decide (b < n) <;> rfl
theorem any_takeL {α : Type} (p : α → Bool) (r : List α) (i : Nat) (hi : i < r.length) : (r.take (i + 1)).any p = ((r.take i).any p || p r[i]) := by
  rw [List.take_succ_eq_append_getElem hi, List.any_append]
  simp
set_option maxHeartbeats 6400000 in
set_option maxRecDepth 100000 in
theorem xline_any (A : Option Addr) (c : Nat) (l : List Kn) (w : World) (hl : Ks w (.slice A l.length c) l) (hn : l.length ≤ 20) (hSo : ∀ k ∈ l, Sok k.p) (hR : Rr w) (hFi : Ord.Fi w) :
    Calls Tryz.prog 17 #[.slice A l.length c] w fun e w' => ∃ S, e = .returned S ∧ Ord.Is w' S (lnR l) ∧ Below w.heap.size w w' := by
  have HL := Lib.hid hl
  have HSo := Lib.hid hSo
  have HR := Lib.hid hR
  have HFi := Lib.hid hFi
  clear hl hSo hR hFi
  go_enter Tryz.func17, Tryz.ntmps17
  go_wp2_with fail
  go_loopw [3, 23] (fun S i W => ∃ (k : Nat), k ≤ l.length ∧ i = .int .i64 k ∧ Hid (Ord.Iw W w.heap.size S (sts l k)) ∧ Hid (Below w.heap.size w W)) (fun _ i _ => l.length - (intOf i).toNat)
  case atStart => exact ⟨0, Nat.zero_le _, rfl, World.ownsRow_nil _ _ _ _, Below.refl _ _⟩
  case round =>
    obtain ⟨k, hk, rfl, HI, HB⟩ := hrel
    by_cases hlt : k < l.length
    · obtain ⟨b, o, rfl, vW, vT, vD, vA, vG, vB, vR, vP, vS, vL, vF, kc, kz⟩ := (HL.out.on HB.out).at' k hlt
      obtain ⟨⟨a1, a2, a3, rfl⟩, ⟨b1, b2, b3, rfl⟩, ⟨c1, c2, c3, rfl⟩, ⟨d1, d2, d3, rfl⟩, ⟨e1, e2, e3, rfl⟩, ⟨f1, f2, f3, rfl⟩, ⟨g1, g2, g3, rfl⟩, ⟨i1, i2, i3, rfl⟩, ⟨j1, j2, j3, rfl⟩, ⟨l1, l2, l3, rfl⟩, ⟨m1, m2, m3, rfl⟩⟩ := kz.k11
      have hra := kc.range
      have HSY := Lib.hid (sts_yes (l := l) hlt)
      have HSN := Lib.hid (sts_no (l := l) hlt)
      have HSL := Lib.hid (sts_le l k)
      generalize l[k] = x at *
      have hb1 := b1c wr (kno 71 x (.slice a1 a2 a3) (.slice b1 b2 b3) (.slice c1 c2 c3) (.slice d1 d2 d3) (.slice e1 e2 e3) (.slice f1 f2 f3) (.slice g1 g2 g3) (.slice i1 i2 i3) (.slice j1 j2 j3) (.slice l1 l2 l3) (.slice m1 m2 m3))
      have hK2 := k20_new wr 71 x (.slice a1 a2 a3) (.slice b1 b2 b3) (.slice c1 c2 c3) (.slice d1 d2 d3) (.slice e1 e2 e3) (.slice f1 f2 f3) (.slice g1 g2 g3) (.slice i1 i2 i3) (.slice j1 j2 j3) (.slice l1 l2 l3) (.slice m1 m2 m3)
      have q0 := hK2.c0
      have cM := xmay_any x.st 3 (wr.alloc (kno 71 x (.slice a1 a2 a3) (.slice b1 b2 b3) (.slice c1 c2 c3) (.slice d1 d2 d3) (.slice e1 e2 e3) (.slice f1 f2 f3) (.slice g1 g2 g3) (.slice i1 i2 i3) (.slice j1 j2 j3) (.slice l1 l2 l3) (.slice m1 m2 m3))) (HR.out.on (bon HB.out hb1))
      have e0 : mayB x.st 3 = ms x := rfl
      rw [e0] at cM
      obtain ⟨y, hy⟩ : ∃ y, ms x = y := ⟨_, rfl⟩
      rw [hy] at cM HSY HSN
      clear hy hK2 kc kz e0
      go_upto_region 4 with fail
      refine wp_region_lit ?_
      refine wpList_plain rfl fun K hK => ?_
      unfold Oper.wp
      simp [go_sem]
      refine hK _ _ ?_
      clear hK K
      refine wpList_plain rfl fun K hK => ?_
      unfold Oper.wp
      simp [go_sem, hlt]
      refine hK _ _ ?_
      clear hK K
      refine wpList_load_mid rfl 71 _ rfl b (o + k * 20) rfl _ _ hra Tryz.underlying71 rfl (by kernel_rfl) ?_
      refine wpList_plain rfl fun K hK => ?_
      unfold Oper.wp
      simp [go_sem]
      refine hK _ _ ?_
      clear hK K
      refine wpList_plain rfl fun K hK => ?_
      unfold Oper.wp
      simp [go_sem]
      refine hK _ _ ?_
      clear hK K
      refine wpList_store_new rfl 71 _ _ rfl _ _ rfl rfl (by kernel_rfl) (by rfl) (by first | rfl | simp [Value.oneCell']) ?_
      go_frame
      generalize wr.alloc (kno 71 x (.slice a1 a2 a3) (.slice b1 b2 b3) (.slice c1 c2 c3) (.slice d1 d2 d3) (.slice e1 e2 e3) (.slice f1 f2 f3) (.slice g1 g2 g3) (.slice i1 i2 i3) (.slice j1 j2 j3) (.slice l1 l2 l3) (.slice m1 m2 m3)) = wE at q0 hb1 cM ⊢
      go_wp2_with fail
      with_reducible refine cM.mono ?_
      rintro e w1 ⟨rfl, hw1⟩
      subst hw1
      have HI1 := Lib.hid (Ord.own_on HI.out hb1)
      have HB1 := Lib.hid (bon HB.out hb1)
      clear cM HI HB hra hb1 q0
      cases y with
      | false =>
        have HI2 : Hid (Ord.Iw w1 w.heap.size u3 (sts l (k + 1))) := by
          show Ord.Iw _ _ _ _
          rw [HSN.out rfl]; exact HI1.out
        clear HSY HSN HI1
        go_wp2_with fail
        exact ⟨⟨k + 1, hlt, by go_num, HI2, HB1⟩, by simp [intOf]; omega⟩
      | true =>
        have HSE := Lib.hid (HSY.out rfl)
        have hI1 := HI1.out
        have hz1 := HB1.out.size
        have hsl := HSL.out
        clear HSY HSN
        go_wp2_with (first | (at_builtin; refine Ord.wpList_ap k hI1 (by omega) hz1 rfl _ _ rfl rfl _ rfl rfl ?_; intro g9 d9 w9 hI9 hB9 _; have HI9 := Lib.hid hI9; have HB9 := Lib.hid (HB1.out.trans (hB9 _ (Nat.le_refl _))); clear hI9 hB9) | fail)
        refine ⟨⟨k + 1, hlt, by go_num, ?_, HB9⟩, by simp [intOf]; omega⟩
        rw [HSE.out]
        exact HI9
    · have hke : k = l.length := by omega
      subst hke
      have hsl := sts_le l l.length
      have HSL := Lib.hid (sts_lt l)
      have HAL := Lib.hid (lnO_all l)
      obtain ⟨As, cs, rfl⟩ := own_sl HI.out
      have HIs := Lib.hid (Ord.iw_is HI.out)
      obtain ⟨am, ham⟩ : ∃ am, am = sts l l.length := ⟨_, rfl⟩
      have HRR : Hid (∀ L L', Mm L (Rq (qof l am (·.D)) am.length) → Mm L' (Rq (qof l am (·.A)) am.length) → Ord.ro2 am.length L L' = .ok ∧ Ord.li am.length L L' = lnO l) := fun L L' h h' => by
        have := mm_li (n := am.length) h h' (by rw [ham]; omega) (fun a b => rq_lt) (fun a b => rq_lt)
        rw [ham] at this ⊢
        exact this
      have HRL : Hid (lnR l = (lnO l).map fun i => am.getD i 0) := by rw [ham]; rfl
      rw [← ham] at HI HIs hsl HSL HAL ⊢
      clear ham
      obtain ⟨wB, hwB⟩ : ∃ wB, wB = wr := ⟨_, rfl⟩
      rw [← hwB] at HI HIs HB ⊢
      clear hwB HI
      have HLB := Lib.hid (HL.out.on HB.out)
      have hal : am.length ≤ 20 := by omega
      go_wp2_with fail
      go_loopw [6, 7, 39] (fun S S' i W => ∃ (t : Nat) (L L' : List Ord.E), t ≤ am.length ∧ i = .int .i64 t ∧ Hid (XE wB S S' L L' W) ∧ Hid (Mm L (fun a b => Rp (fun x y => qof l am (·.D) y x) am.length t 0 b a)) ∧ Hid (Mm L' (fun a b => Rp (fun x y => qof l am (·.A) y x) am.length t 0 b a)) ∧ L.length ≤ t * 800 ∧ L'.length ≤ t * 800) (fun _ _ i _ => am.length - (intOf i).toNat)
      case atStart => exact ⟨0, [], [], Nat.zero_le _, rfl, ⟨Below.refl _ _, World.ownsRow_nil _ _ _ _, World.ownsRow_nil _ _ _ _, fun g e => by cases e⟩, mm_congr mm_nil (fun a b => rp_zero _ _ b a), mm_congr mm_nil (fun a b => rp_zero _ _ b a), Nat.zero_le _, Nat.zero_le _⟩
      case round =>
        obtain ⟨t, L, L', ht, rfl, HE, HM, HM', hLl, hLl'⟩ := hrel
        by_cases hlt : t < am.length
        · obtain ⟨b8, o8, rfl, hc8, _⟩ := isn_at (HIs.out.on HE.out.b) t hlt
          have hil : am[t] < l.length := HSL.out _ (List.getElem_mem hlt)
          have HT : Hid (l.getD (am.getD t 0) default = l[am[t]]) := by show _ = _; simp [List.getD, hlt, hil]
          generalize am[t] = ti at *
          obtain ⟨b, o, rfl, vW, vT, vD, vA, vG, vB, vR, vP, vS, vL, vF, kc, kz⟩ := HLB.out.at' ti hil
          obtain ⟨⟨-, -, -, -⟩, ⟨-, -, -, -⟩, ⟨c1, c2, c3, rfl⟩, ⟨d1, d2, d3, rfl⟩, ⟨e1, e2, e3, rfl⟩, ⟨f1, f2, f3, rfl⟩, ⟨g1, g2, g3, rfl⟩, ⟨i1, i2, i3, rfl⟩, ⟨j1, j2, j3, rfl⟩, ⟨l1, l2, l3, rfl⟩, ⟨m1, m2, m3, rfl⟩⟩ := kz.k11
          have hblB : b < wB.heap.size := block_lt_of_cell kc.c0
          have hra := kc.pack
          have HZ := Lib.hid kz.z
          have HSk := Lib.hid (HSo.out _ (List.getElem_mem hil))
          generalize l[ti] = x at *
          clear kc kz
          go_wp2_with fail
          go_loopw [6, 7, 46] (fun S S' i W => ∃ (k : Nat) (L L' : List Ord.E), k ≤ am.length ∧ i = .int .i64 k ∧ Hid (XE wB S S' L L' W) ∧ Hid (Mm L (fun a b => Rp (fun x y => qof l am (·.D) y x) am.length t k b a)) ∧ Hid (Mm L' (fun a b => Rp (fun x y => qof l am (·.A) y x) am.length t k b a)) ∧ L.length ≤ t * 800 + k * 40 ∧ L'.length ≤ t * 800 + k * 40) (fun _ _ i _ => am.length - (intOf i).toNat)
          case atStart => exact ⟨0, L, L', Nat.zero_le _, rfl, HE, HM, HM', hLl, hLl'⟩
          case round =>
            clear HE HM HM' hLl hLl' hc8
            obtain ⟨k, L, L', hk, rfl, HE, HM, HM', hLl, hLl'⟩ := hrel
            by_cases hkt : k < am.length
            · obtain ⟨b9, o9, hA9, hc9, _⟩ := isn_at (HIs.out.on HE.out.b) k hkt
              cases hA9
              have hjl : am[k] < l.length := HSL.out _ (List.getElem_mem hkt)
              have HK : Hid (l.getD (am.getD k 0) default = l[am[k]]) := by show _ = _; simp [List.getD, hkt, hjl]
              generalize am[k] = kj at *
              obtain ⟨b', o', hbo, uW, uT, uD, uA, uG, uB, uR, uP, uS, uL, uF, kc', kz'⟩ := HLB.out.at' kj hjl
              cases hbo
              obtain ⟨Ad, cd, rfl⟩ := kz'.z.D.sl
              obtain ⟨Aa, ca, rfl⟩ := kz'.z.A.sl
              have HcD := Lib.hid kc'.c11
              have HcA := Lib.hid kc'.c12
              have HD := Lib.hid kz'.z.D
              have HA := Lib.hid kz'.z.A
              have HSk' := Lib.hid (HSo.out _ (List.getElem_mem hjl))
              generalize l[kj] = x' at *
              clear kc' kz'
              have HQD : Hid (qof l am (·.D) t k = asq x.p.o x'.p.D) := by show _ = _; unfold qof; rw [HK.out, HT.out]
              have HQA : Hid (qof l am (·.A) t k = asq x.p.o x'.p.A) := by show _ = _; unfold qof; rw [HK.out, HT.out]
              obtain ⟨hD1, hD2⟩ := tla_parts HSk'.out.D
              obtain ⟨hA1, hA2⟩ := tla_parts HSk'.out.A
              have HD2 := Lib.hid hD2
              have HA2 := Lib.hid hA2
              generalize x'.p.D = LD at *
              generalize x'.p.A = LA at *
              clear hD2 hA2 HK
              have p1 : wr.cell? ⟨b, o + kj * 20 + 11, none⟩ = some (.slice Ad LD.length cd) := by rw [HE.out.b.cell (block_lt_of_cell HcD.out)]; exact HcD.out
              go_wp2_with fail
              go_loopw [6, 58] (fun S i W => ∃ (j : Nat) (L : List Ord.E), j ≤ LD.length ∧ i = .int .i64 j ∧ Hid (XE wB S u7 L L' W) ∧ Hid (Mm L (Ri (qof l am (·.D)) am.length t k ((LD.take j).any fun x1 => on1 x.p.o x1))) ∧ L.length ≤ t * 800 + k * 40 + j) (fun _ i _ => LD.length - (intOf i).toNat)
              case atStart => exact ⟨0, L, Nat.zero_le _, rfl, HE, mm_congr HM.out (fun a b => by rw [List.take_zero]; exact ri_zero _ _ _ _ a b), hLl⟩
              case round =>
                clear HE HM hLl hc9 p1
                obtain ⟨j, L, hj, rfl, HE, HM, hLl⟩ := hrel
                by_cases hjD : j < LD.length
                · rcases HD.out.is with ⟨e0, _⟩ | ⟨b7, o7, c7, e7, _, hf⟩
                  · rw [e0] at hjD; simp at hjD
                  rw [Value.slice.injEq] at e7
                  obtain ⟨rfl, _, rfl⟩ := e7
                  obtain ⟨v7, hc7, hT7⟩ := (hf.on HE.out.b).c j hjD
                  obtain ⟨A7, n7, rfl⟩ := hT7.sl
                  have hS7 := HD2.out LD[j] (List.getElem_mem hjD)
                  have HTK := Lib.hid (any_takeL (fun x1 => on1 x.p.o x1) LD j hjD)
                  have rA : wr.rangeAt b (o + ti * 20 + 7) [.string ⟨x.p.o.n.toArray⟩, .int .i64 x.p.o.e, .string ⟨x.p.o.u.toArray⟩, .string ⟨x.p.o.r.toArray⟩, .slice c1 c2 c3, .slice d1 d2 d3, .slice e1 e2 e3, .slice f1 f2 f3, .slice g1 g2 g3, .slice i1 i2 i3, .slice j1 j2 j3, .slice l1 l2 l3, .slice m1 m2 m3] := fun j v hv => by rw [HE.out.b.cell (p := ⟨b, o + ti * 20 + 7 + j, none⟩) hblB]; exact hra j v hv
                  have cX := xone_any x.p (.slice c1 c2 c3) (.slice d1 d2 d3) (.slice e1 e2 e3) (.slice f1 f2 f3) (.slice g1 g2 g3) (.slice i1 i2 i3) (.slice j1 j2 j3) (.slice l1 l2 l3) (.slice m1 m2 m3) (.slice A7 LD[j].length n7) LD[j] wr (HZ.out.on HE.out.b) hT7 (by have := hS7.1; omega) HSk.out.oh hS7.2
                  obtain ⟨y, hy⟩ : ∃ y, on1 x.p.o LD[j] = y := ⟨_, rfl⟩
                  rw [hy] at cX HTK
                  generalize LD[j].length = l7 at *
                  clear hy hT7 hf hS7
                  go_upto_region 18 with fail
                  refine wp_region_lit ?_
                  refine wpList_plain rfl fun K hK => ?_
                  unfold Oper.wp
                  simp [go_sem]
                  refine hK _ _ ?_
                  clear hK K
                  refine wpList_plain rfl fun K hK => ?_
                  unfold Oper.wp
                  simp [go_sem]
                  refine hK _ _ ?_
                  clear hK K
                  refine wpList_plain rfl fun K hK => ?_
                  unfold Oper.wp
                  simp [go_sem, hil]
                  refine hK _ _ ?_
                  clear hK K
                  refine wpList_plain rfl fun K hK => ?_
                  unfold Oper.wp
                  simp [go_sem]
                  refine hK _ _ ?_
                  clear hK K
                  refine wpList_load_mid rfl 30 _ rfl b (o + ti * 20 + 7) rfl _ _ rA Tryz.underlying30 rfl (by kernel_rfl) ?_
                  go_frame
                  go_wp2_with fail
                  with_reducible refine cX.mono ?_
                  rintro z w2 ⟨rfl, k2⟩
                  have HE2 := Lib.hid (HE.out.on k2)
                  clear cX rA HE hc7
                  cases y with
                  | false =>
                    have HM2 : Hid (Mm L (Ri (qof l am (·.D)) am.length t k ((LD.take (j + 1)).any fun x1 => on1 x.p.o x1))) := by
                      show Mm _ _
                      rw [HTK.out, Bool.or_false]; exact HM.out
                    clear HM
                    go_wp2_with fail
                    exact ⟨⟨j + 1, L, hjD, by go_num, HE2, HM2, by omega⟩, by simp [intOf]; omega⟩
                  | true =>
                    have HM2 : Hid (Mm (L ++ [((t : Int), (k : Int))]) (Ri (qof l am (·.D)) am.length t k ((LD.take (j + 1)).any fun x1 => on1 x.p.o x1))) := by
                      show Mm _ _
                      rw [HTK.out, Bool.or_true]; exact mm_snoc HM.out (fun a b => ri_yes _ _ _ _ _ a b)
                    clear HM
                    have hE2 := HE2.out.x
                    have hz2 := HE2.out.b.size
                    have hLb : L.length ≤ 1000000 := by omega
                    go_wp2_with (first | (at_builtin; refine wpList_apX ((t : Int), (k : Int)) hE2 hLb hz2 rfl _ _ rfl rfl _ rfl rfl ?_; intro g9 d9 w9 hI9 hgr hor; have HE9 := Lib.hid (HE2.out.app hI9 hgr hor); clear hI9 hgr hor) | fail)
                    exact ⟨⟨j + 1, L ++ [((t : Int), (k : Int))], hjD, by go_num, by simpa using HE9, HM2, by simp; omega⟩, by simp [intOf]; omega⟩
                · have hje : j = LD.length := by omega
                  subst hje
                  have HM2 : Hid (Mm L (fun a b => Rp (fun x y => qof l am (·.D) y x) am.length t (k + 1) b a)) := mm_congr HM.out (fun a b => by rw [ri_end hkt, List.take_length, HQD.out]; rfl)
                  clear HM
                  have p2 : wr.cell? ⟨b, o + kj * 20 + 12, none⟩ = some (.slice Aa LA.length ca) := by rw [HE.out.b.cell (block_lt_of_cell HcA.out)]; exact HcA.out
                  go_wp2_with fail
                  go_loopw [7, 83] (fun S i W => ∃ (j : Nat) (L' : List Ord.E), j ≤ LA.length ∧ i = .int .i64 j ∧ Hid (XE wB u6 S L L' W) ∧ Hid (Mm L' (Ri (qof l am (·.A)) am.length t k ((LA.take j).any fun x1 => on1 x.p.o x1))) ∧ L'.length ≤ t * 800 + k * 40 + j) (fun _ i _ => LA.length - (intOf i).toNat)
                  case atStart => exact ⟨0, L', Nat.zero_le _, rfl, HE, mm_congr HM'.out (fun a b => by rw [List.take_zero]; exact ri_zero _ _ _ _ a b), hLl'⟩
                  case round =>
                    clear HE HM' hLl' p2
                    obtain ⟨j, L', hj', rfl, HE, HM', hLl'⟩ := hrel
                    by_cases hjA : j < LA.length
                    · rcases HA.out.is with ⟨e0, _⟩ | ⟨b7, o7, c7, e7, _, hf⟩
                      · rw [e0] at hjA; simp at hjA
                      rw [Value.slice.injEq] at e7
                      obtain ⟨rfl, _, rfl⟩ := e7
                      obtain ⟨v7, hc7, hT7⟩ := (hf.on HE.out.b).c j hjA
                      obtain ⟨A7, n7, rfl⟩ := hT7.sl
                      have hS7 := HA2.out LA[j] (List.getElem_mem hjA)
                      have HTK := Lib.hid (any_takeL (fun x1 => on1 x.p.o x1) LA j hjA)
                      have rA : wr.rangeAt b (o + ti * 20 + 7) [.string ⟨x.p.o.n.toArray⟩, .int .i64 x.p.o.e, .string ⟨x.p.o.u.toArray⟩, .string ⟨x.p.o.r.toArray⟩, .slice c1 c2 c3, .slice d1 d2 d3, .slice e1 e2 e3, .slice f1 f2 f3, .slice g1 g2 g3, .slice i1 i2 i3, .slice j1 j2 j3, .slice l1 l2 l3, .slice m1 m2 m3] := fun j v hv => by rw [HE.out.b.cell (p := ⟨b, o + ti * 20 + 7 + j, none⟩) hblB]; exact hra j v hv
                      have cX := xone_any x.p (.slice c1 c2 c3) (.slice d1 d2 d3) (.slice e1 e2 e3) (.slice f1 f2 f3) (.slice g1 g2 g3) (.slice i1 i2 i3) (.slice j1 j2 j3) (.slice l1 l2 l3) (.slice m1 m2 m3) (.slice A7 LA[j].length n7) LA[j] wr (HZ.out.on HE.out.b) hT7 (by have := hS7.1; omega) HSk.out.oh hS7.2
                      obtain ⟨y, hy⟩ : ∃ y, on1 x.p.o LA[j] = y := ⟨_, rfl⟩
                      rw [hy] at cX HTK
                      generalize LA[j].length = l7 at *
                      clear hy hT7 hf hS7
                      go_upto_region 24 with fail
                      refine wp_region_lit ?_
                      refine wpList_plain rfl fun K hK => ?_
                      unfold Oper.wp
                      simp [go_sem]
                      refine hK _ _ ?_
                      clear hK K
                      refine wpList_plain rfl fun K hK => ?_
                      unfold Oper.wp
                      simp [go_sem]
                      refine hK _ _ ?_
                      clear hK K
                      refine wpList_plain rfl fun K hK => ?_
                      unfold Oper.wp
                      simp [go_sem, hil]
                      refine hK _ _ ?_
                      clear hK K
                      refine wpList_plain rfl fun K hK => ?_
                      unfold Oper.wp
                      simp [go_sem]
                      refine hK _ _ ?_
                      clear hK K
                      refine wpList_load_mid rfl 30 _ rfl b (o + ti * 20 + 7) rfl _ _ rA Tryz.underlying30 rfl (by kernel_rfl) ?_
                      go_frame
                      go_wp2_with fail
                      with_reducible refine cX.mono ?_
                      rintro z w2 ⟨rfl, k2⟩
                      have HE2 := Lib.hid (HE.out.on k2)
                      clear cX rA HE hc7
                      cases y with
                      | false =>
                        have HM2 : Hid (Mm L' (Ri (qof l am (·.A)) am.length t k ((LA.take (j + 1)).any fun x1 => on1 x.p.o x1))) := by
                          show Mm _ _
                          rw [HTK.out, Bool.or_false]; exact HM'.out
                        clear HM'
                        go_wp2_with fail
                        exact ⟨⟨j + 1, L', hjA, by go_num, HE2, HM2, by omega⟩, by simp [intOf]; omega⟩
                      | true =>
                        have HM2 : Hid (Mm (L' ++ [((t : Int), (k : Int))]) (Ri (qof l am (·.A)) am.length t k ((LA.take (j + 1)).any fun x1 => on1 x.p.o x1))) := by
                          show Mm _ _
                          rw [HTK.out, Bool.or_true]; exact mm_snoc HM'.out (fun a b => ri_yes _ _ _ _ _ a b)
                        clear HM'
                        have hE2 := HE2.out.x'
                        have hz2 := HE2.out.b.size
                        have hLb : L'.length ≤ 1000000 := by omega
                        go_wp2_with (first | (at_builtin; refine wpList_apX ((t : Int), (k : Int)) hE2 hLb hz2 rfl _ _ rfl rfl _ rfl rfl ?_; intro g9 d9 w9 hI9 hgr hor; have HE9 := Lib.hid ((HE2.out.swap.app hI9 hgr hor).swap); clear hI9 hgr hor) | fail)
                        exact ⟨⟨j + 1, L' ++ [((t : Int), (k : Int))], hjA, by go_num, by simpa using HE9, HM2, by simp; omega⟩, by simp [intOf]; omega⟩
                    · have hje : j = LA.length := by omega
                      subst hje
                      have HM2' : Hid (Mm L' (fun a b => Rp (fun x y => qof l am (·.A) y x) am.length t (k + 1) b a)) := mm_congr HM'.out (fun a b => by rw [ri_end hkt, List.take_length, HQA.out]; rfl)
                      clear HM'
                      go_wp2_with fail
                      exact ⟨⟨k + 1, L, L', hkt, by go_num, HE, HM2, HM2', by omega, by omega⟩, by simp [intOf]; omega⟩
            · have hke : k = am.length := by omega
              subst hke
              have HM2 : Hid (Mm L (fun a b => Rp (fun x y => qof l am (·.D) y x) am.length (t + 1) 0 b a)) := mm_congr HM.out (fun a b => rp_row _ _ _ b a)
              have HM2' : Hid (Mm L' (fun a b => Rp (fun x y => qof l am (·.A) y x) am.length (t + 1) 0 b a)) := mm_congr HM'.out (fun a b => rp_row _ _ _ b a)
              clear HM HM'
              go_wp2_with fail
              exact ⟨⟨t + 1, L, L', hlt, by go_num, HE, HM2, HM2', by omega, by omega⟩, by simp [intOf]; omega⟩
        · have hte : t = am.length := by omega
          subst hte
          have hM : Mm L (Rq (qof l am (·.D)) am.length) := mm_congr HM.out (fun a b => rx_all _ _ a b)
          have hM' : Mm L' (Rq (qof l am (·.A)) am.length) := mm_congr HM'.out (fun a b => rx_all _ _ a b)
          obtain ⟨hro, hli⟩ := HRR.out L L' hM hM'
          obtain ⟨A1, d1, rfl, hA1⟩ := xw_sl HE.out.x
          obtain ⟨A2, d2, rfl, hA2⟩ := xw_sl HE.out.x'
          have cL := Ord.rline_any (am.length : Int) A1 A2 d1 d2 L L' wr (by omega) (by omega) (xw_es HE.out.x) (xw_es HE.out.x') hA1 hA2 (HFi.out.on (bon HB.out HE.out.b))
          rw [hro, hli] at cL
          have HB2 := Lib.hid (bon HB.out HE.out.b)
          have HIs2 := Lib.hid (HIs.out.on HE.out.b)
          clear HM HM' hM hM' hro hli HE hA1 hA2 HRR HLB HB HIs
          go_wp2_with fail
          with_reducible refine cL.mono ?_
          rintro z w3 ⟨v3, rfl, hI3, k3⟩
          obtain ⟨A3, c3', rfl⟩ := own_sl hI3
          have HLN := Lib.hid (Ord.iw_is hI3)
          have HIs3 := Lib.hid (HIs2.out.on k3)
          have HB3 := Lib.hid (bon HB2.out k3)
          have hLn := HAL.out.1
          generalize lnO l = LN at *
          clear cL hI3 k3 HIs2 HB2
          have hgd : Below w3.heap.size w3 (w3.alloc (.cells #[.int .i64 0, .int .i64 (-1)] 42)) := b1c _ _
          have HB4 := Lib.hid (bon HB3.out hgd)
          have HIs4 := Lib.hid (HIs3.out.on hgd)
          have HLN4 := Lib.hid (HLN.out.on hgd)
          have g0 := (HFi.out.on HB4.out).c0
          have g1 := (HFi.out.on HB4.out).c1
          have n0 : (w3.alloc (.cells #[.int .i64 0, .int .i64 (-1)] 42)).cell? ⟨w3.heap.size, 0, none⟩ = some (.int .i64 0) := by simp
          have n1 : (w3.alloc (.cells #[.int .i64 0, .int .i64 (-1)] 42)).cell? ⟨w3.heap.size, 1, none⟩ = some (.int .i64 (-1)) := by simp
          show _
          rw [show Ord.fv Ord.Ro.ok = (.agg #[.int .i64 0, .int .i64 (-1)] : Value) from rfl]
          go_upto_region 30 with fail
          generalize w3.alloc (.cells #[.int .i64 0, .int .i64 (-1)] 42) = w4 at *
          clear hgd HB3 HIs3 HLN
          go_wp2_with fail
          clear g0 g1 n0 n1
          go_loopw [18, 116] (fun S i W => ∃ (k : Nat), k ≤ LN.length ∧ i = .int .i64 k ∧ Hid (Ord.Iw W w4.heap.size S ((LN.take k).map fun i => am.getD i 0)) ∧ Hid (Below w4.heap.size w4 W)) (fun _ i _ => LN.length - (intOf i).toNat)
          case atStart => exact ⟨0, Nat.zero_le _, rfl, World.ownsRow_nil _ _ _ _, Below.refl _ _⟩
          case round =>
            obtain ⟨k, hk, rfl, HI, HB⟩ := hrel
            by_cases hlt : k < LN.length
            · obtain ⟨b7, o7, rfl, hc7, _⟩ := isn_at (HLN4.out.on HB.out) k hlt
              have hnl : LN[k] < am.length := (HAL.out.2.2 _).1 (List.getElem_mem hlt)
              have HTK : Hid ((LN.take (k + 1)).map (fun i => am.getD i 0) = (LN.take k).map (fun i => am.getD i 0) ++ [am.getD LN[k] 0]) := by show _ = _; rw [List.take_succ_eq_append_getElem hlt, List.map_append]; rfl
              generalize LN[k] = nk at *
              obtain ⟨b8, o8, rfl, hc8, _⟩ := isn_at (HIs4.out.on HB.out) nk hnl
              have hgd : am.getD nk 0 = am[nk] := by simp [List.getD, hnl]
              rw [hgd] at HTK
              generalize am[nk] = ank at *
              have hI1 := HI.out
              have hz1 := HB.out.size
              have hil1 : ((LN.take k).map fun i => am.getD i 0).length ≤ 1000000 := by simp; omega
              clear hgd HI
              obtain ⟨LK, hLK⟩ : ∃ z, z = (LN.take k).map fun i => am.getD i 0 := ⟨_, rfl⟩
              rw [← hLK] at HTK hI1 hil1
              clear hLK
              go_wp2_with (first | (at_builtin; refine Ord.wpList_ap ank hI1 hil1 hz1 rfl _ _ rfl rfl _ rfl rfl ?_; intro g9 d9 w9 hI9 hB9 _; have HI9 := Lib.hid hI9; have HB9 := Lib.hid (HB.out.trans (hB9 _ (Nat.le_refl _))); clear hI9 hB9) | fail)
              refine ⟨⟨k + 1, hlt, by go_num, ?_, HB9⟩, by simp [intOf]; omega⟩
              rw [HTK.out]
              exact HI9
            · have hke : k = LN.length := by omega
              subst hke
              have h1 := Ord.iw_is HI.out
              rw [List.take_length, ← HRL.out] at h1
              obtain ⟨Ax, cx, rfl⟩ := Ord.is_len h1
              have HI9 := Lib.hid h1
              clear h1 HI
              go_wp2_with fail
              go_ret
              exact ⟨_, rfl, HI9.out, bon HB4.out HB.out⟩
end Go.Proofs.YthijccmiemlilaaGreatDoor
