/- The walks of beneath, of ContainsFunc over files and over texts, of rightFiles, of archive's Right. -/
import Derived.Test.YtnnacfnbmpalbaaGreatDoorAa
namespace Go.Proofs.YtnnacfnbmpalbaaGreatDoor
open Go.RowKit Go.Shelf Go.Sort

theorem beneath_any (p a : List UInt8) (w : World) (_hp : p.length ≤ 1000) (ha : a.length ≤ 1000) : Calls Tryz.prog 155 #[.string ⟨p.toArray⟩, .string ⟨a.toArray⟩] w fun e w' => e = .returned (.bool (bnt p a)) ∧ w' = w := by
  go_enter Tryz.func155, Tryz.ntmps155
  go_wp2_with fail
  refine (Tryz.strings_HasPrefix _ _ _).mono ?_
  rintro e w' ⟨rfl, rfl⟩
  go_wp2
  go_ret
  exact ⟨ret_bool (by unfold bnt Lib.hasPrefix; simp), rfl⟩

abbrev flv (f : Fl2) : Value := .agg #[.string ⟨f.1.toArray⟩, .string ⟨f.2.toArray⟩]
abbrev flo (f : Fl2) : Obj := .cells #[.string ⟨f.1.toArray⟩, .string ⟨f.2.toArray⟩] 61

set_option maxHeartbeats 1600000 in
set_option maxRecDepth 100000 in
theorem idxF154_row (bb : Nat) (b o c : Nat) (l : List Fl2) (q : Fl2 → Bool) (w : World) (h : Fr w b o l) (hn : l.length ≤ 1000000) (hq : ∀ i (hi : i < l.length) W, Below w.heap.size w W → Calls Tryz.prog 154 #[flv l[i], .pointer (some ⟨bb, 0, none⟩)] W fun e w' => e = .returned (.bool (q l[i])) ∧ Below W.heap.size W w') :
    Calls Tryz.prog 156 #[.slice (some ⟨b, o, none⟩) l.length c, .func (Fn.func 154) #[] #[.pointer (some ⟨bb, 0, none⟩)]] w fun e w' => e = .returned (.int .i64 (fx (l.findIdx? q))) ∧ Below w.heap.size w w' := by
  obtain ⟨r, hr⟩ : ∃ r, r = fx (l.findIdx? q) := ⟨_, rfl⟩
  have HR := Lib.hid hr
  rw [← hr]
  clear hr
  have HQ := Lib.hid hq
  have HF := Lib.hid h
  clear hq h
  go_enter Tryz.func156, Tryz.ntmps156
  go_wp2
  go_loopw [8] (fun i W => ∃ k : Nat, k ≤ l.length ∧ i = .int .i64 k ∧ Below w.heap.size w W ∧ Hid (∀ j (hj : j < l.length), j < k → q l[j] = false)) (fun i _ => l.length - (intOf i).toNat)
  case atStart => exact ⟨0, Nat.zero_le _, rfl, Below.refl _ _, fun j _ h => absurd h (Nat.not_lt_zero _)⟩
  case round =>
    obtain ⟨k, hk, rfl, hW, HP⟩ := hrel
    by_cases hlt : k < l.length
    · have hT := HF.out.on hW
      have c0 := hT.c0 k hlt
      have c1 := hT.c1 k hlt
      have cC := HQ.out k hlt wr hW
      clear hT
      cases hq : q l[k] with
      | true =>
        rw [hq] at cC
        have HG : Hid (r = k) := by show r = _; rw [HR.out, fi_yes k hlt hq (fun j hj h => HP.out j hj h)]; rfl
        go_wp2_with fail
        refine cC.mono ?_
        rintro e w1 ⟨rfl, b1⟩
        go_wp2_with fail
        go_ret
        exact ⟨reti HG.out.symm, bon hW b1⟩
      | false =>
        rw [hq] at cC
        have HN : Hid (∀ j (hj : j < l.length), j < k + 1 → q l[j] = false) := fun j hj h => by
          by_cases e : j = k
          · subst e; exact hq
          · exact HP.out j hj (by omega)
        go_wp2_with fail
        refine cC.mono ?_
        rintro e w1 ⟨rfl, b1⟩
        go_wp2_with fail
        exact ⟨⟨k + 1, hlt, by go_num, bon hW b1, HN⟩, by simp [intOf]; omega⟩
    · go_wp2
      go_ret
      exact ⟨reti (by rw [HR.out, fi_no (fun j hj => HP.out j hj (by omega))]; rfl), hW⟩
theorem idxF154_nil (bb : Nat) (A : Option Addr) (c : Nat) (w : World) : Calls Tryz.prog 156 #[.slice A 0 c, .func (Fn.func 154) #[] #[.pointer (some ⟨bb, 0, none⟩)]] w fun e w' => e = .returned (.int .i64 (-1)) ∧ w' = w := by
  go_enter Tryz.func156, Tryz.ntmps156
  go_wp2
  refine wp_loop_rounds 1 ?_
  rw [rounds_succ]
  go_wp2
  go_ret
  exact ⟨rfl, rfl⟩
theorem idxF154_any (bb : Nat) (v : Value) (l : List Fl2) (q : Fl2 → Bool) (w : World) (h : Fs w v l) (hn : l.length ≤ 1000000) (hq : ∀ i (hi : i < l.length) W, Below w.heap.size w W → Calls Tryz.prog 154 #[flv l[i], .pointer (some ⟨bb, 0, none⟩)] W fun e w' => e = .returned (.bool (q l[i])) ∧ Below W.heap.size W w') :
    Calls Tryz.prog 156 #[v, .func (Fn.func 154) #[] #[.pointer (some ⟨bb, 0, none⟩)]] w fun e w' => e = .returned (.int .i64 (fx (l.findIdx? q))) ∧ Below w.heap.size w w' := by
  rcases h.is with ⟨rfl, A, c, rfl⟩ | ⟨b, o, c, rfl, hc, hf⟩
  · exact (idxF154_nil bb A c w).mono fun x w' ⟨h1, h2⟩ => ⟨h1, by rw [h2]; exact Below.refl _ _⟩
  · exact idxF154_row bb b o c l q w hf hn hq
theorem conF154_any (bb : Nat) (v : Value) (l : List Fl2) (q : Fl2 → Bool) (w : World) (h : Fs w v l) (hn : l.length ≤ 1000000) (hq : ∀ i (hi : i < l.length) W, Below w.heap.size w W → Calls Tryz.prog 154 #[flv l[i], .pointer (some ⟨bb, 0, none⟩)] W fun e w' => e = .returned (.bool (q l[i])) ∧ Below W.heap.size W w') :
    Calls Tryz.prog 103 #[v, .func (Fn.func 154) #[] #[.pointer (some ⟨bb, 0, none⟩)]] w fun e w' => e = .returned (.bool (l.any q)) ∧ Below w.heap.size w w' := by
  have cI := idxF154_any bb v l q w h hn hq
  have HE := Lib.hid (fx_any q l)
  generalize fx (l.findIdx? q) = z at cI HE
  clear hq h
  go_enter Tryz.func103, Tryz.ntmps103
  go_wp2_with fail
  refine cI.mono ?_
  rintro e w1 ⟨rfl, b1⟩
  go_wp2
  all_goals go_ret
  all_goals exact ⟨retb (by rw [← HE.out]), b1⟩
set_option maxHeartbeats 1600000 in
set_option maxRecDepth 100000 in
theorem idxF104_row (bb : Nat) (b o c : Nat) (l : List Fl2) (q : Fl2 → Bool) (w : World) (h : Fr w b o l) (hn : l.length ≤ 1000000) (hq : ∀ i (hi : i < l.length) W, Below w.heap.size w W → Calls Tryz.prog 104 #[flv l[i], .pointer (some ⟨bb, 0, none⟩)] W fun e w' => e = .returned (.bool (q l[i])) ∧ Below W.heap.size W w') :
    Calls Tryz.prog 156 #[.slice (some ⟨b, o, none⟩) l.length c, .func (Fn.func 104) #[] #[.pointer (some ⟨bb, 0, none⟩)]] w fun e w' => e = .returned (.int .i64 (fx (l.findIdx? q))) ∧ Below w.heap.size w w' := by
  obtain ⟨r, hr⟩ : ∃ r, r = fx (l.findIdx? q) := ⟨_, rfl⟩
  have HR := Lib.hid hr
  rw [← hr]
  clear hr
  have HQ := Lib.hid hq
  have HF := Lib.hid h
  clear hq h
  go_enter Tryz.func156, Tryz.ntmps156
  go_wp2
  go_loopw [8] (fun i W => ∃ k : Nat, k ≤ l.length ∧ i = .int .i64 k ∧ Below w.heap.size w W ∧ Hid (∀ j (hj : j < l.length), j < k → q l[j] = false)) (fun i _ => l.length - (intOf i).toNat)
  case atStart => exact ⟨0, Nat.zero_le _, rfl, Below.refl _ _, fun j _ h => absurd h (Nat.not_lt_zero _)⟩
  case round =>
    obtain ⟨k, hk, rfl, hW, HP⟩ := hrel
    by_cases hlt : k < l.length
    · have hT := HF.out.on hW
      have c0 := hT.c0 k hlt
      have c1 := hT.c1 k hlt
      have cC := HQ.out k hlt wr hW
      clear hT
      cases hq : q l[k] with
      | true =>
        rw [hq] at cC
        have HG : Hid (r = k) := by show r = _; rw [HR.out, fi_yes k hlt hq (fun j hj h => HP.out j hj h)]; rfl
        go_wp2_with fail
        refine cC.mono ?_
        rintro e w1 ⟨rfl, b1⟩
        go_wp2_with fail
        go_ret
        exact ⟨reti HG.out.symm, bon hW b1⟩
      | false =>
        rw [hq] at cC
        have HN : Hid (∀ j (hj : j < l.length), j < k + 1 → q l[j] = false) := fun j hj h => by
          by_cases e : j = k
          · subst e; exact hq
          · exact HP.out j hj (by omega)
        go_wp2_with fail
        refine cC.mono ?_
        rintro e w1 ⟨rfl, b1⟩
        go_wp2_with fail
        exact ⟨⟨k + 1, hlt, by go_num, bon hW b1, HN⟩, by simp [intOf]; omega⟩
    · go_wp2
      go_ret
      exact ⟨reti (by rw [HR.out, fi_no (fun j hj => HP.out j hj (by omega))]; rfl), hW⟩
theorem idxF104_nil (bb : Nat) (A : Option Addr) (c : Nat) (w : World) : Calls Tryz.prog 156 #[.slice A 0 c, .func (Fn.func 104) #[] #[.pointer (some ⟨bb, 0, none⟩)]] w fun e w' => e = .returned (.int .i64 (-1)) ∧ w' = w := by
  go_enter Tryz.func156, Tryz.ntmps156
  go_wp2
  refine wp_loop_rounds 1 ?_
  rw [rounds_succ]
  go_wp2
  go_ret
  exact ⟨rfl, rfl⟩
theorem idxF104_any (bb : Nat) (v : Value) (l : List Fl2) (q : Fl2 → Bool) (w : World) (h : Fs w v l) (hn : l.length ≤ 1000000) (hq : ∀ i (hi : i < l.length) W, Below w.heap.size w W → Calls Tryz.prog 104 #[flv l[i], .pointer (some ⟨bb, 0, none⟩)] W fun e w' => e = .returned (.bool (q l[i])) ∧ Below W.heap.size W w') :
    Calls Tryz.prog 156 #[v, .func (Fn.func 104) #[] #[.pointer (some ⟨bb, 0, none⟩)]] w fun e w' => e = .returned (.int .i64 (fx (l.findIdx? q))) ∧ Below w.heap.size w w' := by
  rcases h.is with ⟨rfl, A, c, rfl⟩ | ⟨b, o, c, rfl, hc, hf⟩
  · exact (idxF104_nil bb A c w).mono fun x w' ⟨h1, h2⟩ => ⟨h1, by rw [h2]; exact Below.refl _ _⟩
  · exact idxF104_row bb b o c l q w hf hn hq
theorem conF104_any (bb : Nat) (v : Value) (l : List Fl2) (q : Fl2 → Bool) (w : World) (h : Fs w v l) (hn : l.length ≤ 1000000) (hq : ∀ i (hi : i < l.length) W, Below w.heap.size w W → Calls Tryz.prog 104 #[flv l[i], .pointer (some ⟨bb, 0, none⟩)] W fun e w' => e = .returned (.bool (q l[i])) ∧ Below W.heap.size W w') :
    Calls Tryz.prog 103 #[v, .func (Fn.func 104) #[] #[.pointer (some ⟨bb, 0, none⟩)]] w fun e w' => e = .returned (.bool (l.any q)) ∧ Below w.heap.size w w' := by
  have cI := idxF104_any bb v l q w h hn hq
  have HE := Lib.hid (fx_any q l)
  generalize fx (l.findIdx? q) = z at cI HE
  clear hq h
  go_enter Tryz.func103, Tryz.ntmps103
  go_wp2_with fail
  refine cI.mono ?_
  rintro e w1 ⟨rfl, b1⟩
  go_wp2
  all_goals go_ret
  all_goals exact ⟨retb (by rw [← HE.out]), b1⟩
theorem fs_sl {W : World} {v : Value} {l : List Fl2} (h : Fs W v l) : ∃ A c, v = .slice A l.length c := by
  rcases h.is with ⟨rfl, A, c, rfl⟩ | ⟨b, o, c, rfl, _⟩
  · exact ⟨A, c, rfl⟩
  · exact ⟨_, c, rfl⟩

set_option maxHeartbeats 1600000 in
set_option maxRecDepth 100000 in
/-- The closure of rightFiles: a file clashes with another one, which lies in a box. -/
theorem clashes_any (g f : Fl2) (bb : Nat) (w : World) (h0 : w.cell? ⟨bb, 0, none⟩ = some (.string ⟨f.1.toArray⟩)) (hg : g.1.length ≤ 1000) (hf : f.1.length ≤ 1000) : Calls Tryz.prog 154 #[flv g, .pointer (some ⟨bb, 0, none⟩)] w fun e w' => e = .returned (.bool (csh g.1 f.1)) ∧ Below w.heap.size w w' := by
  have hlt := block_lt_of_cell h0
  have hlt : bb < w.heap.size := hlt
  have b0 := bA1 w (flo g)
  obtain ⟨r, hr⟩ : ∃ r, r = csh g.1 f.1 := ⟨_, rfl⟩
  rw [← hr]
  unfold csh at hr
  have c1 := fun W => beneath_any g.1 f.1 W hg hf
  have c2 := fun W => beneath_any f.1 g.1 W hf hg
  generalize bnt g.1 f.1 = y1 at c1 hr
  generalize bnt f.1 g.1 = y2 at c2 hr
  by_cases he : g.1 = f.1
  · have hr' : r = true := by rw [hr, decide_eq_true he]; rfl
    subst hr'
    have he' : (g.1 == f.1) = true := by simpa using he
    clear hr c1 c2 he
    go_enter Tryz.func154, Tryz.ntmps154
    go_wp2_with fail
    go_ret
    exact ⟨rfl, b0⟩
  · have hr' : r = (y1 || y2) := by rw [hr, decide_eq_false he]; rfl
    have he' : (g.1 == f.1) = false := by simpa using he
    clear hr he
    cases y1 with
    | true =>
      subst hr'
      go_enter Tryz.func154, Tryz.ntmps154
      go_wp2_with fail
      refine (c1 _).mono ?_
      rintro e w1 ⟨rfl, rfl⟩
      go_wp2_with fail
      go_ret
      exact ⟨rfl, b0⟩
    | false =>
      subst hr'
      go_enter Tryz.func154, Tryz.ntmps154
      go_wp2_with fail
      refine (c1 _).mono ?_
      rintro e w1 ⟨rfl, rfl⟩
      go_wp2_with fail
      refine (c2 _).mono ?_
      rintro e w1 ⟨rfl, rfl⟩
      go_wp2_with fail
      go_ret
      exact ⟨rfl, b0⟩
/-- The inner closure of Right: a file lies at a path, which lies in a box. -/
theorem lies_any (g : Fl2) (s : List UInt8) (bb : Nat) (w : World) (h0 : w.cell? ⟨bb, 0, none⟩ = some (.string ⟨s.toArray⟩)) : Calls Tryz.prog 104 #[flv g, .pointer (some ⟨bb, 0, none⟩)] w fun e w' => e = .returned (.bool (decide (g.1 = s))) ∧ Below w.heap.size w w' := by
  have hlt : bb < w.heap.size := block_lt_of_cell h0
  have b0 := bA1 w (flo g)
  go_enter Tryz.func104, Tryz.ntmps104
  go_wp2_with fail
  go_ret
  exact ⟨ret_bool (by rw [Bool.eq_iff_iff]; simp), b0⟩
end Go.Proofs.YtnnacfnbmpalbaaGreatDoor
