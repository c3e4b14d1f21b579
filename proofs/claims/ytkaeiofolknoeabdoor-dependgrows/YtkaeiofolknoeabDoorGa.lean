/- The walks of keep's short, flat, terms; offers that come in, opened. -/
import Derived.Test.YtkaeiofolknoeabDoorDg
namespace Go.Proofs.YtkaeiofolknoeabDoor
open Go.RowKit Go.Sort

theorem kshort_any (e : Int) (u r : List UInt8) (w : World) : Calls Tryd.prog 31 #[.agg #[.int .i64 e, .string ⟨u.toArray⟩, .string ⟨r.toArray⟩]] w fun x w' =>
    x = .returned (.bool (decide (u.length ≤ 100) && decide (r.length ≤ 100))) ∧ w' = w.alloc (.cells #[.int .i64 e, .string ⟨u.toArray⟩, .string ⟨r.toArray⟩] 54) := by
  by_cases h1 : u.length ≤ 100
  all_goals by_cases h2 : r.length ≤ 100
  all_goals
    go_enter Tryd.func31, Tryd.ntmps31
    go_wp2
    go_ret
    exact ⟨ret_bool (by apply Bool.eq_iff_iff.2; constructor <;> intro hh <;> simp at hh ⊢ <;> omega), rfl⟩
theorem kshort_b (e : Int) (u r : List UInt8) (w : World) : Calls Tryd.prog 31 #[vv e u r] w fun x w' => x = .returned (.bool (decide (u.length ≤ 100) && decide (r.length ≤ 100))) ∧ Below w.heap.size w w' := by
  refine (kshort_any e u r w).mono ?_
  rintro x w' ⟨rfl, rfl⟩
  exact ⟨rfl, b1c _ _⟩

theorem kflat_long (A : Option Addr) (n c : Nat) (w : World) (h : 40 < n) : Calls Tryd.prog 32 #[.slice A n c] w fun e w' => e = .returned (.bool false) ∧ w' = w := by
  go_enter Tryd.func32, Tryd.ntmps32
  go_wp2
  go_ret
  exact ⟨rfl, rfl⟩
theorem kflat_nil (A : Option Addr) (c : Nat) (w : World) : Calls Tryd.prog 32 #[.slice A 0 c] w fun e w' => e = .returned (.bool true) ∧ w' = w := by
  go_enter Tryd.func32, Tryd.ntmps32
  go_wp2
  refine wp_loop_rounds 1 ?_
  rw [rounds_succ]
  go_wp2
  go_ret
  exact ⟨rfl, rfl⟩

set_option maxHeartbeats 1600000 in
set_option maxRecDepth 100000 in
theorem kflat_row (b o c : Nat) (l : List Tm) (w : World) (h : Tl w b o l) (hn : l.length ≤ 40) : Calls Tryd.prog 32 #[.slice (some ⟨b, o, none⟩) l.length c] w fun e w' => e = .returned (.bool (l.all t1)) ∧ Below w.heap.size w w' := by
  obtain ⟨r, hr⟩ : ∃ r, r = l.all t1 := ⟨_, rfl⟩
  have HR := Lib.hid hr
  rw [← hr]
  clear hr
  have HF := Lib.hid h
  clear h
  go_enter Tryd.func32, Tryd.ntmps32
  go_wp2
  go_loopw [3] (fun i W => ∃ k : Nat, k ≤ l.length ∧ i = .int .i64 k ∧ Below w.heap.size w W ∧ Hid (∀ j (hj : j < l.length), j < k → t1 l[j] = true)) (fun i _ => l.length - (intOf i).toNat)
  case atStart => exact ⟨0, Nat.zero_le _, rfl, Below.refl _ _, fun j _ h => absurd h (Nat.not_lt_zero _)⟩
  case round =>
    obtain ⟨k, hk, rfl, hW, HP⟩ := hrel
    by_cases hlt : k < l.length
    · have hT := HF.out.on hW
      have c0 := hT.c0 k hlt
      have c2 := hT.c2 k hlt
      have c3 := hT.c3 k hlt
      have c4 := hT.c4 k hlt
      have HN : Hid (t1 l[k] = false → r = false) := fun e => by
        rw [HR.out, List.all_eq_false]
        exact ⟨l[k], List.getElem_mem hlt, by simp [e]⟩
      have HM : Hid (t1 l[k] = true → ∀ j (hj : j < l.length), j < k + 1 → t1 l[j] = true) := fun e j hj h => by
        by_cases e2 : j = k
        · subst e2; exact e
        · exact HP.out j hj (by omega)
      have cS := fun W => kshort_b l[k].e l[k].u l[k].r W
      clear hT
      by_cases h1 : l[k].n.length ≤ 60
      · cases hs : (decide (l[k].u.length ≤ 100) && decide (l[k].r.length ≤ 100)) with
        | true =>
          have HG := Lib.hid (HM.out (by unfold t1; rw [hs]; simp [h1]))
          rw [hs] at cS
          clear HN HM hs
          go_wp2_with (go_at_call 31; refine (cS _).mono ?_; rintro x w1 ⟨rfl, bw1⟩)
          exact ⟨⟨k + 1, hlt, by go_num, bon hW bw1, HG⟩, by simp [intOf]; omega⟩
        | false =>
          have HG := Lib.hid (HN.out (by unfold t1; rw [hs]; simp))
          rw [hs] at cS
          clear HN HM hs
          go_wp2_with (go_at_call 31; refine (cS _).mono ?_; rintro x w1 ⟨rfl, bw1⟩)
          go_ret
          exact ⟨retb HG.out.symm, bon hW bw1⟩
      · have HG := Lib.hid (HN.out (by unfold t1; simp [h1]))
        clear HN HM
        go_wp2_with (go_at_call 31; refine (cS _).mono ?_; rintro x w1 ⟨rfl, bw1⟩)
        go_ret
        exact ⟨retb HG.out.symm, hW⟩
    · have hall : l.all t1 = true := by
        rw [List.all_eq_true]
        intro f hf
        obtain ⟨j, hj, rfl⟩ := List.getElem_of_mem hf
        exact HP.out j hj (by omega)
      have HG := Lib.hid (HR.out.trans hall)
      go_wp2
      go_ret
      exact ⟨retb HG.out.symm, hW⟩
theorem kflat_any (v : Value) (l : List Tm) (w : World) (h : Ts w v l) : Calls Tryd.prog 32 #[v] w fun e w' => e = .returned (.bool (fla l)) ∧ Below w.heap.size w w' := by
  rcases h.is with ⟨rfl, A, c, rfl⟩ | ⟨b, o, c, rfl, hc, hf⟩
  · exact (kflat_nil A c w).mono fun x w' ⟨h1, h2⟩ => ⟨h1, by rw [h2]; exact Below.refl _ _⟩
  · by_cases hn : l.length ≤ 40
    · rw [show fla l = l.all t1 from by simp [fla, hn]]
      exact kflat_row b o c l w hf hn
    · rw [show fla l = false from by simp [fla, hn]]
      exact (kflat_long _ _ c w (by omega)).mono fun x w' ⟨h1, h2⟩ => ⟨h1, by rw [h2]; exact Below.refl _ _⟩
theorem kterms_long (A : Option Addr) (n c : Nat) (w : World) (h : 40 < n) : Calls Tryd.prog 30 #[.slice A n c] w fun e w' => e = .returned (.bool false) ∧ w' = w := by
  go_enter Tryd.func30, Tryd.ntmps30
  go_wp2
  go_ret
  exact ⟨rfl, rfl⟩
theorem kterms_nil (A : Option Addr) (c : Nat) (w : World) : Calls Tryd.prog 30 #[.slice A 0 c] w fun e w' => e = .returned (.bool true) ∧ w' = w := by
  go_enter Tryd.func30, Tryd.ntmps30
  go_wp2
  refine wp_loop_rounds 1 ?_
  rw [rounds_succ]
  go_wp2
  go_ret
  exact ⟨rfl, rfl⟩
set_option maxHeartbeats 1600000 in
set_option maxRecDepth 100000 in
theorem kterms_row (b o c : Nat) (l : List (List Tm)) (w : World) (h : Al w b o l) (hn : l.length ≤ 40) : Calls Tryd.prog 30 #[.slice (some ⟨b, o, none⟩) l.length c] w fun e w' => e = .returned (.bool (l.all fla)) ∧ Below w.heap.size w w' := by
  obtain ⟨r, hr⟩ : ∃ r, r = l.all fla := ⟨_, rfl⟩
  have HR := Lib.hid hr
  rw [← hr]
  clear hr
  have HF := Lib.hid h
  clear h
  go_enter Tryd.func30, Tryd.ntmps30
  go_wp2
  go_loopw [3] (fun i W => ∃ k : Nat, k ≤ l.length ∧ i = .int .i64 k ∧ Below w.heap.size w W ∧ Hid (∀ j (hj : j < l.length), j < k → fla l[j] = true)) (fun i _ => l.length - (intOf i).toNat)
  case atStart => exact ⟨0, Nat.zero_le _, rfl, Below.refl _ _, fun j _ h => absurd h (Nat.not_lt_zero _)⟩
  case round =>
    obtain ⟨k, hk, rfl, hW, HP⟩ := hrel
    by_cases hlt : k < l.length
    · obtain ⟨v, c0, hv⟩ := (HF.out.on hW).c k hlt
      have HN : Hid (fla l[k] = false → r = false) := fun e => by
        rw [HR.out, List.all_eq_false]
        exact ⟨l[k], List.getElem_mem hlt, by simp [e]⟩
      have HM : Hid (fla l[k] = true → ∀ j (hj : j < l.length), j < k + 1 → fla l[j] = true) := fun e j hj h => by
        by_cases e2 : j = k
        · subst e2; exact e
        · exact HP.out j hj (by omega)
      have cS := kflat_any v l[k] wr hv
      clear hv
      cases hs : fla l[k] with
      | true =>
        have HG := Lib.hid (HM.out hs)
        rw [hs] at cS
        clear HN HM hs
        go_wp2_with (go_at_call 32; refine cS.mono ?_; rintro x w1 ⟨rfl, bw1⟩)
        exact ⟨⟨k + 1, hlt, by go_num, bon hW bw1, HG⟩, by simp [intOf]; omega⟩
      | false =>
        have HG := Lib.hid (HN.out hs)
        rw [hs] at cS
        clear HN HM hs
        go_wp2_with (go_at_call 32; refine cS.mono ?_; rintro x w1 ⟨rfl, bw1⟩)
        go_ret
        exact ⟨retb HG.out.symm, bon hW bw1⟩
    · have hall : l.all fla = true := by
        rw [List.all_eq_true]
        intro f hf
        obtain ⟨j, hj, rfl⟩ := List.getElem_of_mem hf
        exact HP.out j hj (by omega)
      have HG := Lib.hid (HR.out.trans hall)
      go_wp2
      go_ret
      exact ⟨retb HG.out.symm, hW⟩
theorem kterms_any (v : Value) (l : List (List Tm)) (w : World) (h : As w v l) : Calls Tryd.prog 30 #[v] w fun e w' => e = .returned (.bool (tla l)) ∧ Below w.heap.size w w' := by
  rcases h.is with ⟨rfl, A, c, rfl⟩ | ⟨b, o, c, rfl, hc, hf⟩
  · exact (kterms_nil A c w).mono fun x w' ⟨h1, h2⟩ => ⟨h1, by rw [h2]; exact Below.refl _ _⟩
  · by_cases hn : l.length ≤ 40
    · rw [show tla l = l.all fla from by simp [tla, hn]]
      exact kterms_row b o c l w hf hn
    · rw [show tla l = false from by simp [tla, hn]]
      exact (kterms_long _ _ c w (by omega)).mono fun x w' ⟨h1, h2⟩ => ⟨h1, by rw [h2]; exact Below.refl _ _⟩


theorem cells66 : Tryd.prog.cellsOf 66 = 5 := by kernel_rfl
theorem und66 : ∃ f0 f1 f2 : Field, Tryd.prog.underlying 66 = some (.struct #[f0, f1, f2]) ∧ f0.offset = 0 ∧ f1.offset = 1 ∧ f2.offset = 4 ∧ f0.type = 9 ∧ f1.type = 54 ∧ f2.type = 40 := ⟨_, _, _, Tryd.underlying66, rfl, rfl, rfl, rfl, rfl, rfl⟩

section
variable {H : Type} {enc : TypeId × Value → H} {W : World} {base : Nat} {spare : Nat → Bool} {held : Bool}
/-- The cells of an offer. -/
def Ofr.vs (o : Ofr) (v : Value) : List Value := [.string ⟨o.n.toArray⟩, .int .i64 o.e, .string ⟨o.u.toArray⟩, .string ⟨o.r.toArray⟩, v]
set_option maxRecDepth 100000 in
theorem offer_of {n : Nat} {cs : List Value} {x : DataW H × List MemPlace} (h : DataW.trod enc Tryd.prog W base spare held n 66 cs = some x) : ∃ (o : Ofr) (v : Value), cs = o.vs v ∧ Ts W v o.P := by
  obtain ⟨f0, f1, f2, hu, o0, o1, o2, t0, t1, t2⟩ := und66
  obtain ⟨xs, k, _, _, hl, hxl, hf⟩ := DataW.trod_struct hu h
  rw [cells66] at hl
  match xs, hxl, cs, hl with
  | [y0, y1, y2], _, [v0, v1, v2, v3, v4], _ =>
    have g0 := hf 0 f0 rfl
    have g1 := hf 1 f1 rfl
    have g2 := hf 2 f2 rfl
    rw [o0, t0, cells9'] at g0
    rw [o1, t1, cells54] at g1
    rw [o2, t2, cells40] at g2
    obtain ⟨s, e0, _, _⟩ := DataW.trod_string Tryd.underlying9 (by simpa using g0)
    obtain ⟨e, u, r, e1, _⟩ := ver_of (by simpa using g1)
    obtain ⟨l, hP, _⟩ := terms_of (v := v4) (by simpa using g2)
    simp at e0 e1
    exact ⟨⟨s.data.toList, e, u, r, l⟩, v4, by rw [e0, e1.1, e1.2.1, e1.2.2]; rfl, hP⟩
theorem offers_of {n : Nat} {v : Value} {x : DataW H × List MemPlace} (h : DataW.trod enc Tryd.prog W base spare held n 59 [v] = some x) : ∃ l : List Ofr, Os' W v l := by
  rcases Go.Deep.open_slice Tryd.underlying59 h with ⟨hc, _⟩ | ⟨a, len, cap, m, k, D, Pl, hc, _, hl, _, hm, _, hall⟩
  · simp at hc; subst hc
    exact ⟨[], ⟨Or.inl ⟨rfl, _, _, rfl⟩⟩⟩
  · simp at hc; subst hc
    rw [cells66] at hall
    by_cases h0 : len = 0
    · subst h0; exact ⟨[], ⟨Or.inl ⟨rfl, _, _, rfl⟩⟩⟩
    · have hlm : len ≤ m := by rw [hm]; split <;> omega
      have get : ∀ i, i < len → ∃ o : Ofr, ∃ v : Value, (∀ j (hj : j < 5), W.cell? (a.add (i * 5 + j)) = some ((o.vs v)[j]'(by simpa [Ofr.vs] using hj))) ∧ Ts W v o.P := fun i hi => by
        obtain ⟨cs, h1, h2⟩ := hall i (by omega)
        obtain ⟨_, hlen, hcell⟩ := World.cells?_some h1
        obtain ⟨p, v, rfl, hz⟩ := offer_of h2
        refine ⟨p, v, fun j hj => ?_, hz⟩
        have := hcell j hj
        rw [Go.Deep.add_add] at this
        rw [this, List.getElem?_eq_getElem]
      obtain ⟨g, hg⟩ := Go.Deep.choose_lt get
      obtain ⟨b, o, spot⟩ := a
      have hsp : spot = none := by
        obtain ⟨v, h1, _⟩ := hg 0 (by omega)
        simpa [Addr.add] using World.cell?_spot (h1 0 (by omega))
      subst hsp
      have hlen : ((List.range len).map g).length = len := by simp
      refine ⟨(List.range len).map g, ⟨Or.inr ⟨b, o, cap, by rw [hlen], ⟨?_, fun i hi => ?_⟩⟩⟩⟩
      · obtain ⟨v, h1, _⟩ := hg 0 (by omega)
        exact block_lt_of_cell (h1 0 (by omega))
      · rw [hlen] at hi
        obtain ⟨v, h1, h2⟩ := hg i hi
        have cell : ∀ j (hj : j < 5), W.cell? ⟨b, o + i * 5 + j, none⟩ = some (((((List.range len).map g)[i]'(by rw [hlen]; exact hi)).vs v)[j]'(by simpa [Ofr.vs] using hj)) := fun j hj => by
          have := h1 j hj
          rw [Go.WideShapes.add_plain] at this
          simpa [Nat.add_assoc] using this
        exact ⟨v, cell 0 (by omega), cell 1 (by omega), cell 2 (by omega), cell 3 (by omega), cell 4 (by omega), by simpa using h2⟩
end
end Go.Proofs.YtkaeiofolknoeabDoor
