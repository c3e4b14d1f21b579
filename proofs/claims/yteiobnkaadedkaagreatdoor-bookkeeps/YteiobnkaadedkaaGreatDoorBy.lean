/- What a note does, of the book and of the reference. -/
import Derived.Test.YteiobnkaadedkaaGreatDoorBx
namespace Go.Proofs.YteiobnkaadedkaaGreatDoor
open Go.RowKit Go.Sort Go.Maps

section
variable {w W W2 W3 : World} {b d c n pm : Nat} {ns : Nat → Nat} {P : Bk} {N : Nat → Bk} {mb : Option Nat} {L : Kv Ent} {A : Bk} {mR : Nat} {K : Kv Rx} {LR : Kv Ent}
theorem LX.map (h : LX w b d c n pm ns P N mb L A mR K LR W) : mapV Ent.now LR = A := ext_lk (mapV_srt h.rd.srtL) h.pg.ga.srt fun k => by rw [mapV_lk]; exact h.rl k
theorem LX.len (h : LX w b d c n pm ns P N mb L A mR K LR W) : LR.length ≤ n := by
  have h1 := congrArg List.length h.map
  have h2 := h.pg.la
  simp [mapV] at h1
  omega
theorem LX.rtot (h : LX w b d c n pm ns P N mb L A mR K LR W) (hn : n ≤ 60) : tot nl LR ≤ 18000 := by
  have h1 := tot_le nl 300 (L := LR) fun p hp => by
    have h2 : (p.1, p.2.now) ∈ A := by rw [← h.map]; exact List.mem_map.2 ⟨p, hp, rfl⟩
    exact (h.pg.ga.tx _ h2).2
  have h3 := h.len
  omega
theorem LX.keys (h : LX w b d c n pm ns P N mb L A mR K LR W) : nms LR = A.map (·.1) := by
  rw [nms_srt h.rd.srtL, ← h.map]
  simp [mapV]
theorem pw3f : pw3 false 0 = true := rfl
theorem kLf (L : Kv Ent) (f s : List UInt8) : kL L false 0 f s = k3L L f s := rfl
theorem tcf (L : Kv Ent) (c : Int) (k : List UInt8) : tc L false c k = c := by
  unfold tc chg; simp
theorem td_c (L : Kv Ent) (c : Int) : ∀ j, (td false L c j).2 = c
  | 0 => rfl
  | j + 1 => by
    show tc _ false (td false L c j).2 _ = c
    rw [tcf, td_c L c j]
theorem rw_put {LR : Kv Ent} {k s : List UInt8} (hk : nok k = true) : rwL LR (-1) (-1) k s = putL k ⟨s, (ent k LR).sf⟩ LR ∧ rwl (-1) k = -1 := by
  unfold rwL rwl
  rw [hk]
  exact ⟨if_pos ⟨rfl, by decide, rfl⟩, rfl⟩
theorem act_set (h : LX w b d c n pm ns P N mb L A mR K LR W) (hn : n < 60) {k s : List UInt8} (hr : rgt k s = true) :
    Calls Tryz.prog 9 #[.pointer (some ⟨b, 0, none⟩), .string ⟨k.toArray⟩, .string ⟨s.toArray⟩] W fun x W2 => x = .returned .nilIface ∧ F37 W W2 ∧ Below w.heap.size w W2 ∧
      (s = [] → ∀ V, Below W2.heap.size W2 V → Calls Tryz.prog 10 #[.pointer (some ⟨c, 0, none⟩), .int .i64 2, .string ⟨k.toArray⟩, .string ⟨#[]⟩] V fun y W3 => ∃ v : Int, y = .returned (.int .i64 v) ∧ F37 V W3 ∧ LJ w b d c (n + 1) W3) ∧
      (s ≠ [] → ∀ V, Below W2.heap.size W2 V → Calls Tryz.prog 11 #[.pointer (some ⟨c, 0, none⟩), .string ⟨k.toArray⟩, .string ⟨s.toArray⟩] V fun y W3 => ∃ v : Int, y = .returned (.int .i64 v) ∧ F37 V W3 ∧ LJ w b d c (n + 1) W3) := by
  obtain ⟨hk1, hs1⟩ := (rgt_iff k s).1 hr
  have hP := h.pg.set hk1 hs1
  have hi := shf_lt k
  have hsm := h.df.small h.bj.pd.srt h.pg (by omega)
  have hM : Gd (setN k s P (N (shf k))) := by have := hP.gn _ hi; rwa [upd_same] at this
  have hMl : (setN k s P (N (shf k))).length ≤ n + 1 := by have := hP.ln _ hi; rwa [upd_same] at this
  have hpl := prt_len hM
  have hnok : nok k = true := by unfold nok; simp; omega
  have hkl := hk1.2.2
  have hsl := hs1.2
  refine (set_any b d pm ns P N mb L false 0 k s W h.bj hr (h.gp (by omega)) hM (by omega) (by omega) (by omega) (by omega)).mono ?_
  rintro x W2 ⟨rfl, hS⟩
  have hS : Sx W b d pm ns false P (upd N (shf k) (setN k s P (N (shf k)))) mb (k3L L (shF (shf k)) (prt (setN k s P (N (shf k))))) false 0 W2 := hS
  obtain ⟨hF, hbl, hrd, pm', ns', mb', hbj, hsp, hhx⟩ := h.book hS
  have hdf := h.df.set h.bj.pd.srt hi (setN k s P (N (shf k)))
  have hlen := h.len
  have htot := h.rtot (by omega)
  refine ⟨rfl, hF, hbl, fun he V hV => ?_, fun he V hV => ?_⟩
  · refine (rremove_any c mR K LR (-1) (-1) k V (hrd.up hV) (by omega) (by omega) (by omega)).mono ?_
    rintro y W3 ⟨rfl, ho⟩
    have e1 : rtl LR (-1) k = -1 := by unfold rtl; split <;> rfl
    rw [e1] at ho
    obtain ⟨h1, h2⟩ := lx_ref (hbl.trans (hV.mono hbl.size)) (hbj.up hV) (hrd.up hV) hP hdf hsp hhx h.hr ho (fun x => by
      unfold setA
      rw [if_pos he]
      have h3 : lkL x (rrL LR (-1) k) = if x = k then none else lkL x LR := by
        unfold rrL
        by_cases e2 : x = k
        · rw [if_pos e2, e2]
          split
          · exact lk_del_same _
          · rename_i hz
            exact Option.not_isSome_iff_eq_none.1 fun h4 => hz ⟨h4, by decide⟩
        · rw [if_neg e2]
          split
          · exact lk_del_other h.rd.srtL e2
          · rfl
      rw [h3]
      by_cases e2 : x = k
      · rw [if_pos e2, e2, lk_del_same]; rfl
      · rw [if_neg e2, lk_del_other h.pg.ga.srt e2]; exact h.rl x)
    exact ⟨_, rfl, h1, h2⟩
  · refine (rwrite_any c mR K LR (-1) (-1) k s V (hrd.up hV) (by omega) (by omega) (by omega) (by omega) (by omega)).mono ?_
    rintro y W3 ⟨rfl, ho⟩
    obtain ⟨e1, e2⟩ := rw_put (LR := LR) (s := s) hnok
    rw [e1, e2] at ho
    obtain ⟨h1, h2⟩ := lx_ref (hbl.trans (hV.mono hbl.size)) (hbj.up hV) (hrd.up hV) hP hdf hsp hhx h.hr ho (fun x => by
      unfold setA
      rw [if_neg he]
      by_cases e3 : x = k
      · rw [e3, lk_put_same h.rd.srtL, lk_put_same h.pg.ga.srt]; rfl
      · rw [lk_put_other h.rd.srtL e3, lk_put_other h.pg.ga.srt e3]; exact h.rl x)
    exact ⟨_, rfl, h1, h2⟩
theorem act_tidy (h : LX w b d c n pm ns P N mb L A mR K LR W) (hn : n < 60) :
    Calls Tryz.prog 12 #[.pointer (some ⟨b, 0, none⟩)] W fun x W2 => x = .returned .nilIface ∧ F37 W W2 ∧ LJ w b d c n W2 := by
  have hsm := h.df.small h.bj.pd.srt h.pg (by omega)
  have hpl := prt_len h.pg.ga
  have hla := h.pg.la
  have hd3 := h.df.page h.bj.pd.srt A
  have hs3 := k3_srt h.bj.pd.srt pgF (prt A)
  have hP3 : Pg A A N n := by
    have := h.pg.part (fun _ => false)
    simpa using this
  have hsm3 := hd3.small hs3 hP3 (by omega)
  refine (tidy_any b d pm ns A P N mb L false 0 W h.bj (h.gp (by omega)) h.pg.ga (by omega) h.pg.ov h.pg.at_ (by omega) (by omega) (by omega) (by omega) pw3f).mono ?_
  rintro x W2 ⟨j, hj, rfl, hno, hS⟩
  have hj37 : j = 37 := by
    rcases Nat.lt_or_ge j 37 with hl | hl
    · have := hno hl; cases this
    · omega
  subst hj37
  have hc0 : (td false (k3L L pgF (prt A)) (ch3 false 0) 37).2 = 0 := td_c _ _ _
  rw [hc0] at hS
  have hS : Sx W b d pm ns false A (tN N 37) mb (td false (k3L L pgF (prt A)) (ch3 false 0) 37).1 false 0 W2 := hS
  obtain ⟨hF, hbl, hrd, pm', ns', mb', hbj, hsp, hhx⟩ := h.book hS
  have hdf := hd3.td hs3 (c := ch3 false 0) (by decide) 37 (Nat.le_refl _)
  have hP4 : Pg A A (tN N 37) n := by
    have := h.pg.part (fun i => decide (i < 37))
    exact (by simpa using this : Pg A A (fun i => if i < 37 then [] else N i) n)
  exact ⟨rfl, hF, pm', ns', A, tN N 37, mb', _, A, mR, K, LR, hbl, hbj, hrd, hP4, hdf, h.rl, hsp, hhx, h.hr⟩
theorem act_open (h : LX w b d c n pm ns P N mb L A mR K LR W) (hn : n < 60) :
    Calls Tryz.prog 5 #[.pointer (some ⟨d, 0, none⟩)] W fun x W2 => ∃ b', x = .returned (.tuple #[.pointer (some ⟨b', 0, none⟩), .nilIface]) ∧ F37 W W2 ∧ LJ w b' d c n W2 := by
  refine (open_any d mb L false 0 false 0 P N W h.bj.pd (h.gp (by omega)) h.df.fl).mono ?_
  rintro x W2 ⟨b', rfl, hB⟩
  obtain ⟨pm', ns', hbk, hnew⟩ := hB.is
  have hpd := h.bj.pd.up hB.bl
  have hdx : ∀ k, DX d mb k → k < W.heap.size := fun k hk => by
    rcases hk with rfl | hk
    · exact (Array.getElem?_eq_some_iff.1 h.bj.pd.blk).1
    · exact (h.bj.pd.map k hk).lt
  have hrx : ∀ k, RX c mR k → k < W.heap.size := fun k hk => by
    rcases hk with rfl | rfl
    · exact (Array.getElem?_eq_some_iff.1 h.rd.blk).1
    · exact h.rd.map.lt
  refine ⟨b', rfl, F37.below hB.bl, pm', ns', P, N, mb, L, A, mR, K, LR, h.bl.trans (hB.bl.mono h.bl.size), ⟨hbk, hpd, fun k hk hx => ?_⟩, h.rd.up hB.bl, h.pg, h.df, h.rl, fun k hk hr => ?_, fun k hk => ?_, h.hr⟩
  · have := hnew k hk; have := hdx k hx; omega
  · rcases hk with hk | hk
    · have := hnew k hk; have := hrx k hr; omega
    · exact h.sp k (.inr hk) hr
  · rcases hk with hk | hk
    · have := hnew k hk; have := h.bl.size; omega
    · exact h.hx k (.inr hk)
theorem pd_zero (w : World) : PD (w.alloc (dko none 0 false 0 false 0)) w.heap.size none [] false 0 false 0 := ⟨nb0 _ _, fun _ => rfl, fun _ h => (by cases h), Srt.nil⟩
/-- A book on an empty disk. -/
theorem open_zero (w : World) : Calls Tryz.prog 5 #[.pointer (some ⟨w.heap.size, 0, none⟩)] (w.alloc (dko none 0 false 0 false 0)) fun x W2 => ∃ b, x = .returned (.tuple #[.pointer (some ⟨b, 0, none⟩), .nilIface]) ∧ BN (w.alloc (dko none 0 false 0 false 0)) b w.heap.size [] (fun _ => []) W2 :=
  open_any w.heap.size none [] false 0 false 0 [] (fun _ => []) _ (pd_zero w) ⟨Gd.nil, fun _ _ => Gd.nil, Nat.zero_le _, fun _ _ => Nat.zero_le _⟩ DF.nil.fl
theorem lj_start {w W2 W3 W4 : World} {b : Nat} (hB : BN (w.alloc (dko none 0 false 0 false 0)) b w.heap.size [] (fun _ => []) W2) (h3 : Below W2.heap.size W2 W3) (h4 : Below W3.heap.size W3 W4) (hr : RD W4 (W3.heap.size + 1) W3.heap.size [] [] (-1) (-1)) : LJ w b w.heap.size (W3.heap.size + 1) 0 W4 := by
  obtain ⟨⟨pm, ns, hbk, hnew⟩, hbl⟩ := hB
  have h24 := h3.trans (h4.mono h3.size)
  have hs := hbl.size
  rw [World.size_alloc] at hs
  have hlt := bx_lt hbk
  have hd2 : w.heap.size < W2.heap.size := by omega
  have h3s := h3.size
  refine ⟨pm, ns, [], fun _ => [], none, [], [], W3.heap.size, [], [], ?_, ⟨hbk.up h24, ((pd_zero w).up hbl).up h24, fun k hk hx => ?_⟩, hr, Pg.nil, DF.nil, fun k => rfl, fun k hk hx => ?_, fun k hk => ?_, fun k hk => ?_⟩
  · exact ((Below.refl _ w).alloc (Nat.le_refl _) _).trans ((hbl.mono (by simp)).trans (h24.mono (by omega)))
  · have := hnew k hk
    rw [World.size_alloc] at this
    rcases hx with hx | hx
    · omega
    · cases hx
  · have hk2 : k < W2.heap.size := by
      rcases hk with hk | hk | hk
      · exact hlt k hk
      · omega
      · cases hk
    rcases hx with hx | hx <;> omega
  · rcases hk with hk | hk | hk
    · have := hnew k hk; rw [World.size_alloc] at this; omega
    · omega
    · cases hk
  · rcases hk with hk | hk <;> omega
end
end Go.Proofs.YteiobnkaadedkaaGreatDoor
