/- The walks of rightFiles and of archive's Right. -/
import Derived.Test.YtnnacfnbmpalbaaGreatDoorAb
namespace Go.Proofs.YtnnacfnbmpalbaaGreatDoor
open Go.RowKit Go.Shelf Go.Sort

theorem fls_p {F : List Fl2} (h : fls F = true) : F.length ≤ 30 ∧ ∀ f ∈ F, f.1.length ≤ 100 ∧ f.2.length ≤ 500 := by
  unfold fls at h
  simpa only [Bool.and_eq_true, decide_eq_true_eq, List.all_eq_true] using h
theorem fs_take {W : World} {b o c : Nat} {l : List Fl2} (h : Fr W b o l) (i : Nat) (hi : i ≤ l.length) (hc : l.length ≤ c) : Fs W (.slice (some ⟨b, o, none⟩) i c) (l.take i) := by
  by_cases h0 : i = 0
  · subst h0; exact ⟨.inl ⟨rfl, _, _, rfl⟩⟩
  · have e : (l.take i).length = i := by simp; omega
    refine ⟨.inr ⟨b, o, c, by rw [e], by rw [e]; omega, h.lt, fun j hj => ?_, fun j hj => ?_⟩⟩
    · rw [List.getElem_take]; exact h.c0 j (by simp at hj; omega)
    · rw [List.getElem_take]; exact h.c1 j (by simp at hj; omega)
theorem fr_on {W w' : World} {b o : Nat} {l : List Fl2} (h : Fr W b o l) (k : Below W.heap.size W w') : Fr w' b o l := h.on k

set_option maxHeartbeats 3200000 in
set_option maxRecDepth 100000 in
theorem rfiles_row (b o c : Nat) (F : List Fl2) (w : World) (h : Fr w b o F) (hc : F.length ≤ c) (hn : F.length ≤ 20) (hs : ∀ f ∈ F, f.1.length ≤ 100) (hM : MaxN w) : Calls Tryz.prog 101 #[.slice (some ⟨b, o, none⟩) F.length c] w fun e w' => e = .returned (.bool (fk F)) ∧ Below w.heap.size w w' := by
  obtain ⟨r, hr⟩ : ∃ r, r = fk F := ⟨_, rfl⟩
  rw [← hr]
  have HR := Lib.hid hr
  have HF := Lib.hid h
  have HS := Lib.hid hs
  have HM := Lib.hid hM
  clear h hs hM hr
  go_enter Tryz.func101, Tryz.ntmps101
  go_wp2_with fail
  go_loopw [11] (fun v W => ∃ i : Nat, i ≤ F.length ∧ v = .int .i64 i ∧ Below w.heap.size w W ∧ Hid (∀ j, j < i → fki F j = true)) (fun v _ => F.length - (intOf v).toNat)
  case atStart => exact ⟨0, Nat.zero_le _, rfl, Below.refl _ _, fun j h => absurd h (Nat.not_lt_zero _)⟩
  case round =>
    obtain ⟨i, hi, rfl, hb, HP⟩ := hrel
    by_cases hlt : i < F.length
    · have hT := HF.out.on hb
      have c0 := hT.c0 i hlt
      have c1 := hT.c1 i hlt
      have hfl := HS.out F[i] (List.getElem_mem hlt)
      have HK := Lib.hid (fki_at hlt)
      have HNo : Hid (fki F i = false → r = false) := fun hh => by rw [HR.out]; exact fk_no hlt hh
      have HSt : Hid (fki F i = true → ∀ j, j < i + 1 → fki F j = true) := fun hh j hj => by
        by_cases e : j = i
        · subst e; exact hh
        · exact HP.out j (by omega)
      have hb1 := bA1 wr (flo F[i])
      have HT1 := Lib.hid (fs_take (hT.on hb1) i (by omega) hc)
      have HQ : Hid (∀ j (hj : j < (F.take i).length), (F.take i)[j].1.length ≤ 1000) := fun j hj => by
        have := HS.out _ (List.mem_of_mem_take (List.getElem_mem hj))
        omega
      generalize F[i] = f at c0 c1 hfl HK hb1 HT1
      have hX1 : (wr.alloc (flo f)).cell? ⟨wr.heap.size, 0, none⟩ = some (.string ⟨f.1.toArray⟩) := by simp
      have cP := path_any f.1 (wr.alloc (flo f)) ((HM.out.on hb).on hb1)
      have cC := conF154_any wr.heap.size _ (F.take i) (fun g => csh g.1 f.1) (wr.alloc (flo f)) HT1.out (by simp; omega) (fun j hj W hW => clashes_any (F.take i)[j] f wr.heap.size W (by rw [hW.cell (p := ⟨wr.heap.size, 0, none⟩) (by simp)]; exact hX1) (HQ.out j hj) (by omega))
      have HBW := Lib.hid (bon hb hb1)
      clear hT hb1 HT1 HQ
      cases hp : pth f.1 with
      | false =>
        rw [hp] at cP
        have hr0 : r = false := HNo.out (by rw [HK.out, hp]; rfl)
        subst hr0
        clear cC hX1
        go_wp2_with fail
        refine cP.mono ?_
        rintro e w1 ⟨rfl, rfl⟩
        go_wp2_with fail
        go_ret
        exact ⟨rfl, HBW.out⟩
      | true =>
        rw [hp] at cP
        have HK2 : Hid (fki F i = !((F.take i).any fun g => csh g.1 f.1)) := by show _ = _; rw [HK.out, hp]; rfl
        cases hq : (F.take i).any fun g => csh g.1 f.1 with
        | true =>
          rw [hq] at cC
          have hr0 : r = false := HNo.out (by rw [HK2.out, hq]; rfl)
          subst hr0
          clear hX1 hq
          go_wp2_with fail
          refine cP.mono ?_
          rintro e w1 ⟨rfl, rfl⟩
          go_wp2_with fail
          refine cC.mono ?_
          rintro e w2 ⟨rfl, hb2⟩
          have hfin := bon HBW.out hb2
          go_wp2_with fail
          go_ret
          exact ⟨rfl, hfin⟩
        | false =>
          rw [hq] at cC
          have HY : Hid (∀ j, j < i + 1 → fki F j = true) := HSt.out (by rw [HK2.out, hq]; rfl)
          clear hX1 hq
          go_wp2_with fail
          refine cP.mono ?_
          rintro e w1 ⟨rfl, rfl⟩
          go_wp2_with fail
          refine cC.mono ?_
          rintro e w2 ⟨rfl, hb2⟩
          have hfin := bon HBW.out hb2
          go_wp2_with fail
          exact ⟨⟨i + 1, hlt, by go_num, hfin, HY⟩, by simp [intOf]; omega⟩
    · have hr0 : r = true := by rw [HR.out, fk_yes (fun j hj => HP.out j (by omega))]; simpa using hn
      subst hr0
      go_wp2_with fail
      go_ret
      exact ⟨rfl, hb⟩
theorem rfiles_nil (A : Option Addr) (c : Nat) (w : World) : Calls Tryz.prog 101 #[.slice A 0 c] w fun e w' => e = .returned (.bool true) ∧ w' = w := by
  go_enter Tryz.func101, Tryz.ntmps101
  go_wp2
  refine wp_loop_rounds 1 ?_
  rw [rounds_succ]
  go_wp2
  go_ret
  exact ⟨rfl, rfl⟩
theorem rfiles_long (A : Option Addr) (n c : Nat) (w : World) (h : 20 < n) : Calls Tryz.prog 101 #[.slice A n c] w fun e w' => e = .returned (.bool false) ∧ w' = w := by
  go_enter Tryz.func101, Tryz.ntmps101
  go_wp2
  go_ret
  exact ⟨rfl, rfl⟩
theorem rfiles_any (v : Value) (F : List Fl2) (w : World) (h : Fs w v F) (hs : ∀ f ∈ F, f.1.length ≤ 100) (hM : MaxN w) : Calls Tryz.prog 101 #[v] w fun e w' => e = .returned (.bool (fk F)) ∧ Below w.heap.size w w' := by
  rcases h.is with ⟨rfl, A, c, rfl⟩ | ⟨b, o, c, rfl, hc, hf⟩
  · exact (rfiles_nil A c w).mono fun e w' ⟨h1, h2⟩ => ⟨h1, by rw [h2]; exact Below.refl _ _⟩
  · by_cases hn : F.length ≤ 20
    · exact rfiles_row b o c F w hf hc hn hs hM
    · have e0 : fk F = false := by unfold fk; rw [decide_eq_false hn]; rfl
      exact (rfiles_long _ _ c w (by omega)).mono fun e w' ⟨h1, h2⟩ => ⟨by rw [h1, e0], by rw [h2]; exact Below.refl _ _⟩

/-- Right's closure: nothing lies at a path. -/
theorem strange_any (s : List UInt8) (bp : Nat) (p : Pck) (vD vA vG vB vR vP vS vL vF : Value) (w : World) (hB : Pb w bp p vD vA vG vB vR vP vS vL vF) (hF : Fs w vF p.F) (hn : p.F.length ≤ 1000) : Calls Tryz.prog 102 #[.string ⟨s.toArray⟩, .pointer (some ⟨bp, 0, none⟩)] w fun e w' => e = .returned (.bool (!(p.F.any fun f => decide (f.1 = s)))) ∧ Below w.heap.size w w' := by
  have c12 := hB.c12
  have hlt := block_lt_of_cell c12
  have hlt : bp < w.heap.size := hlt
  have hb1 := bA1 w (.cells #[.string ⟨s.toArray⟩] 9)
  have hX : (w.alloc (.cells #[.string ⟨s.toArray⟩] 9)).cell? ⟨w.heap.size, 0, none⟩ = some (.string ⟨s.toArray⟩) := by simp
  have cC := conF104_any w.heap.size vF p.F (fun f => decide (f.1 = s)) (w.alloc (.cells #[.string ⟨s.toArray⟩] 9)) (hF.on hb1) (by omega) (fun j hj W hW => lies_any p.F[j] s w.heap.size W (by rw [hW.cell (p := ⟨w.heap.size, 0, none⟩) (by simp)]; exact hX))
  obtain ⟨A, c, rfl⟩ := fs_sl hF
  generalize (p.F.any fun f => decide (f.1 = s)) = y at cC ⊢
  clear hX hF hB
  go_enter Tryz.func102, Tryz.ntmps102
  go_wp2_with fail
  refine cC.mono ?_
  rintro e w1 ⟨rfl, b1⟩
  go_wp2_with fail
  go_ret
  exact ⟨rfl, bon hb1 b1⟩
end Go.Proofs.YtnnacfnbmpalbaaGreatDoor
