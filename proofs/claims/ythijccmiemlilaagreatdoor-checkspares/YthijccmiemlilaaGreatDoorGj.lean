/- The walk of the reference's Needs. -/
import Derived.Test.YthijccmiemlilaaGreatDoorGh
import Derived.Test.YthijccmiemlilaaGreatDoorB7
namespace Go.Proofs.YthijccmiemlilaaGreatDoor
open Go.RowKit Go.Sort

def slen : Value → Nat
  | .slice _ n _ => n
  | _ => 0
/-- Who was found in a round that has looked at all from j on. -/
def Nv (l : List Kn) (G : List Nat) (z : Int) (j : Nat) : Prop :=
  (z = -1 ∧ ∀ i, j ≤ i → i < l.length → Nds.bad l.length (ndW l) (ndA l) (Nds.inl G) i = true → Nds.inl G i = true) ∨ ∃ r : Nat, z = r ∧ r < l.length ∧ Nds.bad l.length (ndW l) (ndA l) (Nds.inl G) r = true ∧ Nds.inl G r = false
theorem Nv.skip {l : List Kn} {G : List Nat} {z : Int} {j : Nat} (h : Nv l G z (j + 1)) (hno : Nds.bad l.length (ndW l) (ndA l) (Nds.inl G) j = true → Nds.inl G j = true) : Nv l G z j := by
  rcases h with ⟨h1, h2⟩ | h
  · refine .inl ⟨h1, fun i hi hl hb => ?_⟩
    by_cases e : i = j
    · subst e; exact hno hb
    · exact h2 i (by omega) hl hb
  · exact .inr h
/-- Numbers of one's own, as whole numbers. -/
theorem iw_int {W : World} {B : Nat} {S : Value} {G : List Nat} (h : Ord.Iw W B S G) : Is W S (G.map Int.ofNat) := by
  rcases (Ord.iw_is h).is with ⟨rfl, A, c, rfl⟩ | ⟨b, o, c, rfl, hc, hf⟩
  · exact ⟨.inl ⟨rfl, A, c, rfl⟩⟩
  · refine ⟨.inr ⟨b, o, c, by rw [List.length_map], hf.lt, fun i hi => ?_⟩⟩
    have hi' : i < G.length := by simpa using hi
    rw [hf.c i hi']
    simp
theorem is_tail {W : World} {B gs cs m : Nat} {t : List Nat} (h : Ord.Iw W B (.slice (some ⟨gs, 0, none⟩) (m :: t).length cs) (m :: t)) : Ord.Is W (.slice (some ⟨gs, 1, none⟩) ((m :: t).length - 1) (cs - 1)) t := by
  obtain ⟨g, c, cur, e, _, hl, hc, _, _, hk⟩ := iw_row h (by simp)
  rw [Value.slice.injEq] at e
  obtain ⟨e1, _, rfl⟩ := e
  cases e1
  refine ⟨.inr ⟨gs, 1, cs - 1, by simp, by simp at hc ⊢; omega, hl, fun j hj => ?_⟩⟩
  rw [hk (1 + j) (by simp; omega)]
  simp [Nat.add_comm 1 j]
theorem wf_inl (l : List Kn) (G : List Nat) : wf l (G.map Int.ofNat) = fun j => ndW l j && !Nds.inl G j := by
  funext j
  unfold wf ndW Nds.inl
  congr 2
  rw [Bool.eq_iff_iff]
  simp
  constructor
  · rintro ⟨a, h, e⟩
    have : a = j := by omega
    rw [← this]; exact h
  · intro h
    exact ⟨j, h, rfl⟩
theorem map_po (l : List Kn) (f : Nat → Bool) : ((sel l f l.length).map (·.p)).map (·.o) = (sel l f l.length).map (·.p.o) := by rw [List.map_map]; rfl
theorem pk_oh {l : List Kn} (hSo : ∀ k ∈ l, Sok k.p) (f : Nat → Bool) : ∀ p ∈ (sel l f l.length).map (·.p), Oh p.o := by
  intro p hp
  refine ofr_oh hSo f p.o ?_
  obtain ⟨k, hk, rfl⟩ := List.mem_map.1 hp
  exact List.mem_map.2 ⟨k, hk, rfl⟩
set_option maxHeartbeats 6400000 in
set_option maxRecDepth 100000 in
theorem xneeds_in (b o c : Nat) (l : List Kn) (m : Nat) (w : World) (hl : Kl w b o l) (hn : l.length ≤ 100) (hm : m < l.length) (hSo : ∀ k ∈ l, Sok k.p) :
    Calls Tryz.prog 15 #[.slice (some ⟨b, o, none⟩) l.length c, .int .i64 m] w fun e w' => ∃ S R, e = .returned S ∧ Ord.Is w' S R ∧ Nds.NdR l.length (ndW l) (ndA l) m R ∧ Below w.heap.size w w' := by
  have HL := Lib.hid hl
  have HSo := Lib.hid hSo
  clear hl hSo
  have hwr : wrap64 ((l.length : Int) - 1) = (l.length : Int) - 1 := by unfold wrap64; omega
  have cI := in_any m 0 ((l.length : Int) - 1) w
  rw [show (decide ((0 : Int) ≤ (m : Int)) && decide ((m : Int) ≤ (l.length : Int) - 1)) = true by simp; omega] at cI
  go_enter Tryz.func15, Tryz.ntmps15
  go_wp2_with fail
  with_reducible refine cI.mono ?_
  rintro x w0 ⟨rfl, rfl⟩
  clear cI
  have hI1 := Lib.hid (iw_one w0 w0.heap.size m (Nat.le_refl _))
  have hb1 := Lib.hid (b1c w0 (.cells #[.int .i64 (m : Int)] 3))
  go_wp2_with fail
  generalize hS0 : (.slice (some ⟨w0.heap.size, 0, none⟩) 1 1 : Value) = S0 at hI1 ⊢
  have hsl0 : slen S0 = 1 := by rw [← hS0]; rfl
  generalize w0.alloc (.cells #[.int .i64 (m : Int)] 3) = w1 at hI1 hb1 ⊢
  clear hS0
  go_loopw [5] (fun S W => ∃ (G : List Nat), slen S = G.length ∧ Hid (Ord.Iw W w0.heap.size S G) ∧ Hid (Below w0.heap.size w0 W) ∧ Hid (Nds.Rch l.length (ndW l) (ndA l) m G)) (fun S _ => l.length + 1 - slen S)
  case atStart => exact ⟨[m], hsl0, hI1, hb1, .one⟩
  case round =>
    clear hI1 hb1 hsl0
    obtain ⟨G, hsl, HI, HB, HRc⟩ := hrel
    obtain ⟨ws, hws⟩ : ∃ ws, ws = wr := ⟨_, rfl⟩
    have hGn := Nds.rch_len _ _ _ hm HRc.out
    have hG0 : 0 < G.length := by
      obtain ⟨t, e⟩ := Nds.rch_head _ _ _ HRc.out
      rw [e]; simp
    obtain ⟨gs, cs, cur, rfl, hgs, hgl, hGc, hcm, hcur, hGk⟩ := iw_row HI.out hG0
    have HGK := Lib.hid hGk
    have HCU := Lib.hid hcur
    have HCM := Lib.hid hcm
    clear hcm hcur hGk hsl
    go_wp2_with fail
    go_loopw [6, 7] (fun z i W => ∃ (zz : Int) (j : Nat), j ≤ l.length ∧ z = .int .i64 zz ∧ i = .int .i64 ((j : Int) - 1) ∧ Hid (Below ws.heap.size ws W) ∧ Hid (Nv l G zz j)) (fun _ i _ => (intOf i + 1).toNat)
    case atStart => exact ⟨-1, l.length, Nat.le_refl _, rfl, by go_num, by rw [hws]; exact Below.refl _ _, .inl ⟨rfl, fun i h1 h2 => by omega⟩⟩
    case round =>
      obtain ⟨zz, j, hj, rfl, rfl, HW, HV⟩ := hrel
      rw [← hws] at HI HB
      have HI1 := Lib.hid (Ord.own_on HI.out HW.out)
      have HB1 := Lib.hid (bon HB.out HW.out)
      by_cases hj0 : j = 0
      · subst hj0
        clear HI1 HB1
        rcases HV.out with ⟨hz, hno⟩ | ⟨r, hz, hrl, hbad, hin⟩
        · subst hz
          clear HV
          obtain ⟨t, ht⟩ := Nds.rch_head _ _ _ HRc.out
          have hnd := Nds.rch_nodup _ _ _ HRc.out
          have hTl : t.length = G.length - 1 := by rw [ht]; simp
          have HR : Hid (∀ R : List Nat, R.Pairwise (· < ·) → (∀ i, i ∈ R ↔ i ∈ t) → Nds.NdR l.length (ndW l) (ndA l) m R) := fun R h1 h2 => ⟨h1, G, HRc.out, fun i hi hb => hno i (Nat.zero_le _) hi hb, fun i => by rw [h2 i]; rw [ht] at hnd ⊢; exact Nds.tail_iff hnd i⟩
          have HI2 := Lib.hid (Ord.own_on HI.out HW.out)
          have HB2 := Lib.hid (bon HB.out HW.out)
          have hz2 := HB2.out.size
          have HE0 : Hid (Ord.Iw (wr.alloc (.cells #[] 3)) w0.heap.size (.slice (some ⟨wr.heap.size, 0, none⟩) 0 0) []) := World.ownsRow_lit wr #[] 0 hz2 (by decide) rfl
          have hbA := b1c wr (.cells #[] 3)
          have HB3 := Lib.hid (bon HB2.out hbA)
          have hz3 := HB3.out.size
          have HTl := Lib.hid hTl
          by_cases hc1 : cs = 1
          · have ht0 : t = [] := List.length_eq_zero_iff.1 (by omega)
            have HNd := Lib.hid (HR.out [] List.Pairwise.nil (fun i => by rw [ht0]))
            clear hnd HI HB HW HRc HR hTl HTl HGK HCU HCM hgl hno HI2 HB2
            subst ht0 ht hc1
            go_wp2_with (first | (at_builtin; refine wpList_apI (m := []) HE0.out ⟨.inl ⟨rfl, _, _, rfl⟩⟩ (by simp) (by simp) hz3 rfl _ _ rfl rfl rfl ?_; intro A5 c5 w5 h5 hb5; have H5 := Lib.hid h5; have HB5 := Lib.hid (HB3.out.trans hb5); have cS := Tryz.sort_Ints_none A5 c5 w5; clear h5 hb5) | fail)
            with_reducible refine cS.mono ?_
            rintro z w9 ⟨rfl, rfl⟩
            go_wp2_with fail
            go_ret
            exact ⟨_, [], rfl, ⟨.inl ⟨rfl, _, _, rfl⟩⟩, HNd.out, HB5.out⟩
          · have hc2 : ¬ (cs - 1 = 0) := by omega
            have HT : Hid (Ord.Is (wr.alloc (.cells #[] 3)) (.slice (some ⟨gs, 1, none⟩) (G.length - 1) (cs - 1)) t) := by
              have h1 := HI2.out
              rw [ht] at h1 ⊢
              exact (is_tail h1).on hbA
            have hnt : t.Nodup := by rw [ht, List.nodup_cons] at hnd; exact hnd.2
            have HNT := Lib.hid hnt
            clear hnd HI HB HW HRc hTl HGK HCU HCM hgl hno HI2 HB2 ht hnt
            go_upto_region 17 with (first | (at_builtin; refine wpList_apI HE0.out HT.out (by simp) (by have := HTl.out; omega) hz3 rfl _ _ rfl rfl rfl ?_; intro A5 c5 w5 h5 hb5; have H5 := Lib.hid h5; have HB5 := Lib.hid (HB3.out.trans hb5); clear h5 hb5) | fail)
            by_cases ht0 : t.length = 0
            · obtain rfl := List.length_eq_zero_iff.1 ht0
              have HNd := Lib.hid (HR.out [] List.Pairwise.nil (fun i => Iff.rfl))
              have cS := Tryz.sort_Ints_none A5 c5 w5
              clear HR HT H5 HNT HE0
              simp only [List.length_nil]
              go_wp2_with fail
              with_reducible refine cS.mono ?_
              rintro z w9 ⟨rfl, rfl⟩
              go_wp2_with fail
              go_ret
              exact ⟨_, [], rfl, ⟨.inl ⟨rfl, _, _, rfl⟩⟩, HNd.out, HB5.out⟩
            · simp only [List.nil_append] at H5 ⊢
              obtain ⟨g5, d5, cur5, e5, hg5, _, hd5, _, hh5, hk5⟩ := iw_row H5.out (by omega)
              rw [Value.slice.injEq] at e5
              obtain ⟨rfl, _, rfl⟩ := e5
              have cS := sortT sorts52 g5 0 c5 cur5 t w5 w0.heap.size hh5 (fun j hj => by rw [Nat.zero_add]; exact hk5 j hj) (by have := HTl.out; omega) hd5 HNT.out hg5
              clear HT H5 HNT HE0 hk5 hh5 hg5 hd5
              go_wp2_with fail
              with_reducible refine cS.mono ?_
              rintro z w9 ⟨rfl, R, hR1, hR2, hR3, hR4, hR5⟩
              have HNd := Lib.hid (HR.out R hR1 hR2)
              have HR4 := Lib.hid hR4
              clear HR hR1 hR2 hR3 cS hR4
              go_wp2_with fail
              go_ret
              exact ⟨_, R, rfl, HR4.out, HNd.out, HB5.out.trans hR5⟩
        · subst hz
          clear HV
          have hr0 : ¬ ((r : Int) < 0) := by omega
          have HI2 := Lib.hid (Ord.own_on HI.out HW.out)
          have HB2 := Lib.hid (bon HB.out HW.out)
          have HRc2 : Hid (Nds.Rch l.length (ndW l) (ndA l) m (G ++ [r])) := .more HRc.out hrl hbad hin
          have hS2 := HI2.out
          have hz2 := HB2.out.size
          have hGn2 : G.length + 1 ≤ l.length := by have := Nds.rch_len _ _ _ hm HRc2.out; simpa using this
          clear HI HB HW HRc hbad hin HGK HCU
          go_wp2_with (first | (at_builtin; refine Ord.wpList_ap r hS2 (by omega) hz2 rfl _ _ rfl rfl _ rfl rfl ?_; intro g9 c9 w9 hI9 hB9 _; have HI9 := Lib.hid hI9; have HB9 := Lib.hid (HB2.out.trans (hB9 _ (Nat.le_refl _))); clear hI9 hB9) | fail)
          exact ⟨⟨G ++ [r], by simp [slen], HI9, HB9, HRc2⟩, by simp [slen]; omega⟩
      · obtain ⟨i, rfl⟩ : ∃ i, j = i + 1 := ⟨j - 1, by omega⟩
        have hil : i < l.length := by omega
        have e1 : (((i + 1 : Nat) : Int) - 1) = (i : Int) := by omega
        simp only [e1] at *
        obtain ⟨vW, vT, vD, vA, vG, vB, vR, vP, vS, vL, vF, kc, kz⟩ := (HL.out.on HB1.out).c i hil
        obtain ⟨⟨a1, a2, a3, rfl⟩, ⟨b1, b2, b3, rfl⟩, ⟨c1, c2, c3, rfl⟩, ⟨d1, d2, d3, rfl⟩, ⟨e1, e2, e3, rfl⟩, ⟨f1, f2, f3, rfl⟩, ⟨g1, g2, g3, rfl⟩, ⟨i1, i2, i3, rfl⟩, ⟨j1, j2, j3, rfl⟩, ⟨l1, l2, l3, rfl⟩, ⟨m1, m2, m3, rfl⟩⟩ := kz.k11
        have hra := kc.range
        have HZ := Lib.hid kz
        have hcD := kc.c11
        have hcE := kc.c12
        have cW := xworks_any l[i] (.slice a1 a2 a3) (.slice b1 b2 b3) (.slice c1 c2 c3) (.slice d1 d2 d3) (.slice e1 e2 e3) (.slice f1 f2 f3) (.slice g1 g2 g3) (.slice i1 i2 i3) (.slice j1 j2 j3) (.slice l1 l2 l3) (.slice m1 m2 m3) wr kz.k11
        have HEw : Hid (wk l[i] = ndW l i) := by show _ = _; unfold ndW; simp [List.getD, hil]
        rw [HEw.out] at cW
        obtain ⟨y, hy⟩ : ∃ y, ndW l i = y := ⟨_, rfl⟩
        rw [hy] at cW
        have HY := Lib.hid hy
        have HEj : Hid (l[i].p.D ++ l[i].p.A = ndL l i) := by show _ = _; unfold ndL; simp [List.getD, hil]
        clear hy kc kz HEw
        generalize l[i] = x at *
        go_upto_region 8 with fail
        refine wp_region_lit ?_
        refine wpList_plain rfl fun K hK => ?_
        unfold Oper.wp
        simp [go_sem]
        refine hK _ _ ?_
        clear hK K
        refine wpList_plain rfl fun K hK => ?_
        unfold Oper.wp
        simp [go_sem]
        refine hK _ _ ?_
        clear hK K
        refine wpList_plain rfl fun K hK => ?_
        unfold Oper.wp
        simp [go_sem, hil]
        refine hK _ _ ?_
        clear hK K
        refine wpList_load_mid rfl 71 _ rfl b (o + i * 20) rfl _ _ hra Tryz.underlying71 rfl (by kernel_rfl) ?_
        go_frame
        go_wp2_with fail
        with_reducible refine cW.mono ?_
        rintro z w2 ⟨rfl, k2⟩
        have HI2 := Lib.hid (Ord.own_on HI1.out k2)
        have HW2 := Lib.hid (bon HW.out k2)
        have HB2 := Lib.hid (bon HB1.out k2)
        have HD := Lib.hid (HZ.out.on k2).z.D
        have HA := Lib.hid (HZ.out.on k2).z.A
        have hbl : b < w2.heap.size := Nat.lt_of_lt_of_le HL.out.lt HB2.out.size
        have hcD2 : w2.cell? ⟨b, o + i * 20 + 11, none⟩ = some (.slice c1 c2 c3) := by rw [k2.cell (block_lt_of_cell hcD)]; exact hcD
        have hcE2 : w2.cell? ⟨b, o + i * 20 + 12, none⟩ = some (.slice d1 d2 d3) := by rw [k2.cell (block_lt_of_cell hcE)]; exact hcE
        clear cW hra hcD hcE HI1 HB1 HW HZ k2
        cases y with
        | false =>
          have HV1 : Hid (Nv l G zz i) := HV.out.skip (fun h => by unfold Nds.bad at h; rw [HY.out] at h; cases h)
          clear HV
          go_wp2_with fail
          exact ⟨⟨zz, i, by omega, rfl, by go_num, HW2, HV1⟩, by first | (simp [intOf]; done) | (simp [intOf]; omega)⟩
        | true =>
          have hGl : (G.map Int.ofNat).length = G.length := List.length_map _
          have cH := holds_any (.slice (some ⟨gs, 0, none⟩) G.length cs) (G.map Int.ofNat) (i : Int) w2 (iw_int HI2.out) (by rw [hGl]; omega)
          rw [show (G.map Int.ofNat).contains (i : Int) = Nds.inl G i from by
            have := congrFun (wf_inl l G) i
            unfold wf ndW at this
            unfold Nds.inl
            rw [Bool.eq_iff_iff]
            simp
            constructor
            · rintro ⟨a, h, e⟩
              have : a = i := by omega
              rw [← this]; exact h
            · intro h
              exact ⟨i, h, rfl⟩] at cH
          obtain ⟨y2, hy⟩ : ∃ y, Nds.inl G i = y := ⟨_, rfl⟩
          rw [hy] at cH
          have HY2 := Lib.hid hy
          clear hy hGl
          go_wp2_with fail
          with_reducible refine cH.mono ?_
          rintro z w2' ⟨rfl, hw2'⟩
          subst hw2'
          clear cH
          cases y2 with
          | true =>
            have HV1 : Hid (Nv l G zz i) := HV.out.skip (fun _ => HY2.out)
            clear HV
            go_wp2_with fail
            exact ⟨⟨zz, i, by omega, rfl, by go_num, HW2, HV1⟩, by first | (simp [intOf]; done) | (simp [intOf]; omega)⟩
          | false =>
            obtain ⟨LD, hLD⟩ : ∃ z, x.p.D = z := ⟨_, rfl⟩
            obtain ⟨LA, hLA⟩ : ∃ z, x.p.A = z := ⟨_, rfl⟩
            obtain ⟨hl80, hS80⟩ := ndl_parts HSo.out hil
            rw [hLD] at HD HEj
            rw [hLA] at HA HEj
            have hll := hl80
            rw [← HEj.out, List.length_append] at hll
            have HS80 := Lib.hid hS80
            clear hLD hLA hS80
            have hS : Below w2'.heap.size w2' w2'.drew := (Below.refl _ _).drew
            go_upto_region 9 with fail
            refine wp_region_held (S := fun V => Below w2'.heap.size w2' V) (by kernel_rfl) ?_
            refine take_d (some 41) (i := 1) (v := .slice (some ⟨b, o, none⟩) l.length c) rfl rfl (by kernel_rfl) (by kernel_rfl) (by kernel_rfl) (fun _ _ _ h => h) (.inl ⟨by kernel_rfl, fun w' hw => by simp [go_sem]⟩) hS ?_
            refine take_d (some 42) (i := 2) (v := .int .i64 i) rfl rfl (by kernel_rfl) (by kernel_rfl) (by kernel_rfl) (fun _ _ _ h => h) (.inl ⟨by kernel_rfl, fun w' hw => by simp [go_sem]⟩) hS ?_
            refine take_d (some 43) (i := 3) (v := .pointer (some ⟨b, o + i * 20, none⟩)) rfl rfl (by kernel_rfl) (by kernel_rfl) (by kernel_rfl) (fun _ _ _ h => h) (.inl ⟨by kernel_rfl, fun w' hw => by simp [go_sem, hil]⟩) hS ?_
            refine take_d (some 44) (i := 4) (v := .pointer (some ⟨b, o + i * 20 + 7, none⟩)) rfl rfl (by kernel_rfl) (by kernel_rfl) (by kernel_rfl) (fun _ _ _ h => h) (.inl ⟨by kernel_rfl, fun w' hw => by simp [go_sem]⟩) hS ?_
            simp only [Act.put, List.setIfInBounds_toArray, List.set_cons_succ, List.set_cons_zero]
            refine take_d (some 45) (i := 5) (v := .pointer (some ⟨b, o + i * 20 + 11, none⟩)) rfl rfl (by kernel_rfl) (by kernel_rfl) (by kernel_rfl) (fun _ _ _ h => h) (.inl ⟨by kernel_rfl, fun w' hw => by simp [go_sem]⟩) hS ?_
            refine take_d (some 46) (i := 6) (v := .slice c1 c2 c3) rfl rfl (by kernel_rfl) (by kernel_rfl) (by kernel_rfl) (fun _ _ _ h => h) (.inl ⟨by kernel_rfl, fun w' hw => by simp [go_sem, hw.cell (p := ⟨b, o + i * 20 + 11, none⟩) hbl, hcD2]⟩) hS ?_
            simp only [Act.put, List.setIfInBounds_toArray, List.set_cons_succ, List.set_cons_zero]
            refine take_d (some 48) (i := 8) (v := .slice (some ⟨b, o, none⟩) l.length c) rfl rfl (by kernel_rfl) (by kernel_rfl) (by kernel_rfl) (fun _ _ _ h => h) (.inl ⟨by kernel_rfl, fun w' hw => by simp [go_sem]⟩) hS ?_
            refine take_d (some 49) (i := 9) (v := .int .i64 i) rfl rfl (by kernel_rfl) (by kernel_rfl) (by kernel_rfl) (fun _ _ _ h => h) (.inl ⟨by kernel_rfl, fun w' hw => by simp [go_sem]⟩) hS ?_
            refine take_d (some 50) (i := 10) (v := .pointer (some ⟨b, o + i * 20, none⟩)) rfl rfl (by kernel_rfl) (by kernel_rfl) (by kernel_rfl) (fun _ _ _ h => h) (.inl ⟨by kernel_rfl, fun w' hw => by simp [go_sem, hil]⟩) hS ?_
            refine take_d (some 51) (i := 11) (v := .pointer (some ⟨b, o + i * 20 + 7, none⟩)) rfl rfl (by kernel_rfl) (by kernel_rfl) (by kernel_rfl) (fun _ _ _ h => h) (.inl ⟨by kernel_rfl, fun w' hw => by simp [go_sem]⟩) hS ?_
            simp only [Act.put, List.setIfInBounds_toArray, List.set_cons_succ, List.set_cons_zero]
            refine take_d (some 52) (i := 12) (v := .pointer (some ⟨b, o + i * 20 + 12, none⟩)) rfl rfl (by kernel_rfl) (by kernel_rfl) (by kernel_rfl) (fun _ _ _ h => h) (.inl ⟨by kernel_rfl, fun w' hw => by simp [go_sem]⟩) hS ?_
            refine take_d (some 53) (i := 13) (v := .slice d1 d2 d3) rfl rfl (by kernel_rfl) (by kernel_rfl) (by kernel_rfl) (fun _ _ _ h => h) (.inl ⟨by kernel_rfl, fun w' hw => by simp [go_sem, hw.cell (p := ⟨b, o + i * 20 + 12, none⟩) hbl, hcE2]⟩) hS ?_
            simp only [Act.put, List.setIfInBounds_toArray, List.set_cons_succ, List.set_cons_zero]
            refine wpAnyH_all (rs := [0]) (by kernel_rfl) (by simp) fun i hi => ?_
            obtain rfl : i = 0 := by simpa using hi
            refine wpOp_want rfl (by kernel_rfl) ?_
            unfold Oper.wp
            simp [go_sem]
            have hS1 := bon hS (b1c w2'.drew (.cells #[] 26))
            have HW0 : Hid (AW w2' (w2'.drew.alloc (.cells #[] 26)) (.slice (some ⟨w2'.heap.size, 0, none⟩) 0 0) [] []) := ⟨rfl, World.ownsRow_lit w2'.drew #[] 0 (Nat.le_refl _) (by decide) rfl, fun i h => absurd h (Nat.not_lt_zero _), hS1⟩
            refine ⟨hS1, ?_⟩
            refine wpAnyH_all (rs := [7]) (by kernel_rfl) (by simp) fun i hi => ?_
            obtain rfl : i = 7 := by simpa using hi
            refine wpOp_want rfl (by kernel_rfl) ?_
            refine wp_apA HW0.out HD.out (by simp) (by omega) _ _ rfl rfl rfl ?_
            intro A5 c5 q5 w5 h5
            have H5 := Lib.hid h5
            refine ⟨h5.b, ?_⟩
            clear h5
            refine wpAnyH_all (rs := [14]) (by kernel_rfl) (by simp) fun i hi => ?_
            obtain rfl : i = 14 := by simpa using hi
            refine wpOp_want rfl (by kernel_rfl) ?_
            refine wp_apA H5.out HA.out (by simp; omega) (by omega) _ _ rfl rfl rfl ?_
            intro A6 c6 q6 w6 h6
            rw [List.nil_append, HEj.out] at h6 ⊢
            refine ⟨h6.b, ?_⟩
            refine take_d (some 8) (i := 15) (v := .slice A6 (ndL l i).length c6) rfl rfl (by kernel_rfl) (by kernel_rfl) (by kernel_rfl) (fun _ _ _ h => h) (.inl ⟨by kernel_rfl, fun w' hw => by simp [go_sem]⟩) h6.b ?_
            refine wpAnyH_done (by kernel_rfl) ?_ _
            simp only [Act.put, List.getElem_toArray, List.getElem_cons_succ, List.getElem_cons_zero, List.setIfInBounds_toArray, List.set_cons_succ, List.set_cons_zero]
            have hb6 := h6.b
            have HAs := Lib.hid h6.as
            have HI6 := Lib.hid (Ord.own_on HI2.out hb6)
            have HW6 := Lib.hid (bon HW2.out hb6)
            have HB6 := Lib.hid (bon HB2.out hb6)
            clear h6 hb6 H5 HW0 hS hS1 HD HA HI2 HW2 HB2 hcD2 hcE2 HEj hll hbl
            have hKs : ∀ W, Below w6.heap.size w6 W → Ks W (.slice (some ⟨b, o, none⟩) l.length c) l := fun W h => ⟨.inr ⟨b, o, c, rfl, HL.out.on (bon HB6.out h)⟩⟩
            have HKs := Lib.hid hKs
            have cW1 := working_any (.slice (some ⟨b, o, none⟩) l.length c) (.slice none 0 0) l [] w6 (hKs w6 (Below.refl _ _)) ⟨.inl ⟨rfl, _, _, rfl⟩⟩ (by omega) (by simp)
            have hwf0 : wf l [] = fun j => ndW l j && !(fun _ => false) j := by funext j; unfold wf ndW; simp
            rw [hwf0] at cW1
            have eM : (met ((sel l (fun j => ndW l j && !(fun _ => false) j) l.length).map (·.p.o)) (ndL l i)).2 = Nds.mt l.length (ndW l) (ndA l) (fun _ => false) i := met_mt l (fun _ => false) i
            have eN : (met ((sel l (fun j => ndW l j && !Nds.inl G j) l.length).map (·.p.o)) (ndL l i)).2 = Nds.mt l.length (ndW l) (ndA l) (Nds.inl G) i := met_mt l (Nds.inl G) i
            have cM1 : Hid (∀ S W q, Below w6.heap.size w6 W → PW w6 W S ((sel l (fun j => ndW l j && !(fun _ => false) j) l.length).map (·.p)) q → Calls Tryz.prog 36 #[.slice A6 (ndL l i).length c6, S] W fun e w' => ∃ z, e = .returned (.tuple #[.int .i64 z, .bool (Nds.mt l.length (ndW l) (ndA l) (fun _ => false) i)]) ∧ Below W.heap.size W w') := fun S W q h hP => by
              have := rmet_any (.slice A6 (ndL l i).length c6) S (ndL l i) _ W (HAs.out.on h) (by omega) hP.ps (pk_oh HSo.out _) (by rw [List.length_map]; have := sel_le l (fun j => ndW l j && !(fun _ => false) j) l.length; omega) HS80.out
              rw [map_po, eM] at this
              exact this.mono fun e w' h => ⟨_, h.1, h.2⟩
            have cM2 : Hid (∀ S V W q, Below w6.heap.size w6 V → Below V.heap.size V W → PW V W S ((sel l (fun j => ndW l j && !Nds.inl G j) l.length).map (·.p)) q → Calls Tryz.prog 36 #[.slice A6 (ndL l i).length c6, S] W fun e w' => ∃ z, e = .returned (.tuple #[.int .i64 z, .bool (Nds.mt l.length (ndW l) (ndA l) (Nds.inl G) i)]) ∧ Below W.heap.size W w') := fun S V W q h h' hP => by
              have := rmet_any (.slice A6 (ndL l i).length c6) S (ndL l i) _ W (HAs.out.on (bon h h')) (by omega) hP.ps (pk_oh HSo.out _) (by rw [List.length_map]; have := sel_le l (fun j => ndW l j && !Nds.inl G j) l.length; omega) HS80.out
              rw [map_po, eN] at this
              exact this.mono fun e w' h => ⟨_, h.1, h.2⟩
            have cW2 : Hid (∀ V, Below w6.heap.size w6 V → Calls Tryz.prog 37 #[.slice (some ⟨b, o, none⟩) l.length c, .slice (some ⟨gs, 0, none⟩) G.length cs] V fun e w' => ∃ S q, e = .returned S ∧ PW V w' S ((sel l (fun j => ndW l j && !Nds.inl G j) l.length).map (·.p)) q) := fun V h => by
              have := working_any (.slice (some ⟨b, o, none⟩) l.length c) (.slice (some ⟨gs, 0, none⟩) G.length cs) l (G.map Int.ofNat) V (hKs V h) (iw_int (Ord.own_on HI6.out h)) (by omega) (by rw [List.length_map]; omega)
              rw [wf_inl] at this
              exact this
            obtain ⟨y3, hy3⟩ : ∃ y, Nds.mt l.length (ndW l) (ndA l) (fun _ => false) i = y := ⟨_, rfl⟩
            obtain ⟨y4, hy4⟩ : ∃ y, Nds.mt l.length (ndW l) (ndA l) (Nds.inl G) i = y := ⟨_, rfl⟩
            rw [hy3] at cM1
            rw [hy4] at cM2
            have HY3 := Lib.hid hy3
            have HY4 := Lib.hid hy4
            clear hy3 hy4 eM eN hwf0 hKs HKs HS80 hl80
            go_wp2_with fail
            with_reducible refine cW1.mono ?_
            rintro z w7 ⟨S7, q7, rfl, hP7⟩
            have cM7 := cM1.out S7 w7 q7 hP7.b hP7
            obtain ⟨A7, c7, hS7⟩ := hP7.ps.sl
            subst hS7
            have k7 := hP7.b
            generalize ((sel l (fun j => ndW l j && !(fun _ => false) j) l.length).map (·.p)).length = n7 at cM7 ⊢
            clear cW1 cM1 hP7
            go_wp2_with fail
            with_reducible refine cM7.mono ?_
            rintro z w8 ⟨z8, rfl, k8'⟩
            have k8 := bon k7 k8'
            clear cM7 k8' k7
            go_wp2_with fail
            with_reducible refine (cW2.out w8 k8).mono ?_
            rintro z w9 ⟨S9, q9, rfl, hP9⟩
            have cM9 := cM2.out S9 w8 w9 q9 k8 hP9.b hP9
            obtain ⟨A9, c9, hS9⟩ := hP9.ps.sl
            subst hS9
            have k9 := bon k8 hP9.b
            generalize ((sel l (fun j => ndW l j && !Nds.inl G j) l.length).map (·.p)).length = n9 at cM9 ⊢
            clear cW2 cM2 hP9
            go_wp2_with fail
            with_reducible refine cM9.mono ?_
            rintro z w10 ⟨z10, rfl, k10'⟩
            have HWx := Lib.hid (bon HW6.out (bon k9 k10'))
            clear cM9 k10' k9 k8 HW6 HI6 HB6 HAs
            cases y3 with
            | false =>
              have HV1 : Hid (Nv l G zz i) := HV.out.skip (fun h => by unfold Nds.bad at h; rw [HY3.out] at h; simp at h)
              clear HV
              go_wp2_with fail
              exact ⟨⟨zz, i, by omega, rfl, by go_num, HWx, HV1⟩, by first | (simp [intOf]; done) | (simp [intOf]; omega)⟩
            | true =>
              cases y4 with
              | true =>
                have HV1 : Hid (Nv l G zz i) := HV.out.skip (fun h => by unfold Nds.bad at h; rw [HY4.out] at h; simp at h)
                clear HV
                go_wp2_with fail
                exact ⟨⟨zz, i, by omega, rfl, by go_num, HWx, HV1⟩, by first | (simp [intOf]; done) | (simp [intOf]; omega)⟩
              | false =>
                have HV1 : Hid (Nv l G (i : Int) i) := .inr ⟨i, rfl, hil, by unfold Nds.bad; rw [HY.out, HY3.out, HY4.out]; rfl, HY2.out⟩
                clear HV
                go_wp2_with fail
                exact ⟨⟨(i : Int), i, by omega, rfl, by go_num, HWx, HV1⟩, by first | (simp [intOf]; done) | (simp [intOf]; omega)⟩
end Go.Proofs.YthijccmiemlilaaGreatDoor
