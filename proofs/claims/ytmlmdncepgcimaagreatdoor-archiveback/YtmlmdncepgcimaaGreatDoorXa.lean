/- Files of a package, and a package's bytes: mathematics. -/
import Derived.Test.YtmlmdncepgcimaaGreatDoorYm
namespace Go.Proofs.YtmlmdncepgcimaaGreatDoor

abbrev Fl2 := List UInt8 × List UInt8
/-- A path lies beneath another one. -/
def bnt (p a : List UInt8) : Bool := (a ++ [47]).isPrefixOf p
def csh (g f : List UInt8) : Bool := decide (g = f) || (bnt g f || bnt f g)
/-- A file may be behind those ahead of it. -/
def fki (F : List Fl2) (i : Nat) : Bool := pth (F.getD i ([], [])).1 && !((F.take i).any fun g => csh g.1 (F.getD i ([], [])).1)
def fk (F : List Fl2) : Bool := decide (F.length ≤ 20) && (List.range F.length).all (fki F)
def stg (F : List Fl2) (S : List (List UInt8)) : Bool := S.all fun s => F.any fun f => decide (f.1 = s)
theorem fki_at {F : List Fl2} {i : Nat} (h : i < F.length) : fki F i = (pth F[i].1 && !((F.take i).any fun g => csh g.1 F[i].1)) := by
  unfold fki; rw [List.getD_eq_getElem?_getD, List.getElem?_eq_getElem h]; rfl
theorem fk_no {F : List Fl2} {i : Nat} (h : i < F.length) (hn : fki F i = false) : fk F = false := by
  unfold fk
  rw [show (List.range F.length).all (fki F) = false from List.all_eq_false.2 ⟨i, List.mem_range.2 h, by rw [hn]; simp⟩, Bool.and_false]
theorem fk_yes {F : List Fl2} (h : ∀ i, i < F.length → fki F i = true) : fk F = decide (F.length ≤ 20) := by
  unfold fk
  rw [show (List.range F.length).all (fki F) = true from List.all_eq_true.2 fun i hi => h i (List.mem_range.1 hi), Bool.and_true]
/-- What the reference asks of two files. -/
def xki (F : List Fl2) (i k : Nat) : Bool := !decide (i = k) && (decide ((F.getD i ([], [])).1 = (F.getD k ([], [])).1) || bnt (F.getD k ([], [])).1 (F.getD i ([], [])).1)
theorem getD_at {F : List Fl2} {i : Nat} (h : i < F.length) : F.getD i ([], []) = F[i] := by
  rw [List.getD_eq_getElem?_getD, List.getElem?_eq_getElem h]; rfl
theorem xki_at {F : List Fl2} {i k : Nat} (h : i < F.length) (hk : k < F.length) : xki F i k = (!decide (i = k) && (decide (F[i].1 = F[k].1) || bnt F[k].1 F[i].1)) := by
  unfold xki; rw [getD_at h, getD_at hk]
theorem fk_bad {F : List Fl2} {i k : Nat} (h : i < F.length) (hk : k < F.length) (hx : xki F i k = true) : fk F = false := by
  rw [xki_at h hk] at hx
  simp only [Bool.and_eq_true, Bool.not_eq_true', decide_eq_false_iff_not, Bool.or_eq_true, decide_eq_true_eq] at hx
  obtain ⟨hne, hx⟩ := hx
  have key : ∀ a b (ha : a < F.length) (hb : b < F.length), a < b → csh F[a].1 F[b].1 = true → fk F = false := fun a b ha hb hab hc => by
    refine fk_no hb ?_
    rw [fki_at hb, show ((F.take b).any fun g => csh g.1 F[b].1) = true from List.any_eq_true.2 ⟨F[a], ?_, hc⟩]
    · simp
    · rw [List.mem_take_iff_getElem]; exact ⟨a, by omega, rfl⟩
  rcases Nat.lt_or_gt_of_ne hne with hlt | hlt
  · refine key i k h hk hlt ?_
    unfold csh
    rcases hx with hx | hx
    · simp [hx]
    · simp [hx]
  · refine key k i hk h hlt ?_
    unfold csh
    rcases hx with hx | hx
    · simp [hx]
    · simp [hx]
theorem fk_good {F : List Fl2} (hp : ∀ i (h : i < F.length), pth F[i].1 = true) (hx : ∀ i k, i < F.length → k < F.length → xki F i k = false) : fk F = decide (F.length ≤ 20) := by
  refine fk_yes fun i hi => ?_
  rw [fki_at hi, hp i hi, show ((F.take i).any fun g => csh g.1 F[i].1) = false from ?_]
  · rfl
  · rw [List.any_eq_false]
    intro g hg
    obtain ⟨j, hj, rfl⟩ := List.mem_take_iff_getElem.1 hg
    have hj1 : j < i := by omega
    have hj2 : j < F.length := by omega
    have h1 := hx j i hj2 hi
    have h2 := hx i j hi hj2
    rw [xki_at hj2 hi, show decide (j = i) = false from decide_eq_false (by omega), Bool.not_false, Bool.true_and, Bool.or_eq_false_iff] at h1
    rw [xki_at hi hj2, show decide (i = j) = false from decide_eq_false (by omega), Bool.not_false, Bool.true_and, Bool.or_eq_false_iff] at h2
    unfold csh
    rw [h1.1, h1.2, h2.2]; simp
theorem fk_path {F : List Fl2} {i : Nat} (h : i < F.length) (hp : pth F[i].1 = false) : fk F = false := by
  refine fk_no h ?_; rw [fki_at h, hp]; rfl
theorem stg_no {F : List Fl2} {S : List (List UInt8)} {i : Nat} (h : i < S.length) (hn : (F.any fun f => decide (f.1 = S[i])) = false) : stg F S = false := by
  unfold stg; exact List.all_eq_false.2 ⟨S[i], List.getElem_mem h, by rw [hn]; simp⟩
theorem stg_yes {F : List Fl2} {S : List (List UInt8)} (h : ∀ i (hi : i < S.length), (F.any fun f => decide (f.1 = S[i])) = true) : stg F S = true := by
  unfold stg; rw [List.all_eq_true]; intro s hs; obtain ⟨j, hj, rfl⟩ := List.getElem_of_mem hs; exact h j hj
theorem fk_len {F : List Fl2} (h : fk F = true) : F.length ≤ 20 := by
  unfold fk at h; simp only [Bool.and_eq_true, decide_eq_true_eq] at h; exact h.1
theorem fk_pth {F : List Fl2} (h : fk F = true) : ∀ f ∈ F, pth f.1 = true := fun f hf => by
  obtain ⟨j, hj, rfl⟩ := List.getElem_of_mem hf
  unfold fk at h
  simp only [Bool.and_eq_true, decide_eq_true_eq, List.all_eq_true, List.mem_range] at h
  have := h.2 j hj
  rw [fki_at hj, Bool.and_eq_true] at this
  exact this.1
/-- A file's bytes. -/
def fln (f : Fl2) : List UInt8 := f.1 ++ [32] ++ Lib.itoa f.2.length ++ [10] ++ f.2 ++ [10]
end Go.Proofs.YtmlmdncepgcimaaGreatDoor
namespace Go.Proofs.YtmlmdncepgcimaaGreatDoor
open Go.RowKit Go.Shelf Go.Sort

theorem beneath_any (p a : List UInt8) (w : World) (_hp : p.length ≤ 1000) (ha : a.length ≤ 1000) : Calls Tryz.prog 155 #[.string ⟨p.toArray⟩, .string ⟨a.toArray⟩] w fun e w' => e = .returned (.bool (bnt p a)) ∧ w' = w := by
  go_enter Tryz.func155, Tryz.ntmps155
  go_wp2_with fail
  refine (Tryz.strings_HasPrefix _ _ _).mono ?_
  rintro e w' ⟨rfl, rfl⟩
  go_wp2
  go_ret
  exact ⟨ret_bool (by unfold bnt Lib.hasPrefix; simp), rfl⟩

abbrev flv (f : Fl2) : Value := .agg #[.string ⟨f.1.toArray⟩, .string ⟨f.2.toArray⟩]
abbrev flo (f : Fl2) : Obj := .cells #[.string ⟨f.1.toArray⟩, .string ⟨f.2.toArray⟩] 61

set_option maxHeartbeats 1600000 in
set_option maxRecDepth 100000 in
theorem idxF154_row (bb : Nat) (b o c : Nat) (l : List Fl2) (q : Fl2 → Bool) (w : World) (h : Fr w b o l) (hn : l.length ≤ 1000000) (hq : ∀ i (hi : i < l.length) W, Below w.heap.size w W → Calls Tryz.prog 154 #[flv l[i], .pointer (some ⟨bb, 0, none⟩)] W fun e w' => e = .returned (.bool (q l[i])) ∧ Below W.heap.size W w') :
    Calls Tryz.prog 156 #[.slice (some ⟨b, o, none⟩) l.length c, .func (Fn.func 154) #[] #[.pointer (some ⟨bb, 0, none⟩)]] w fun e w' => e = .returned (.int .i64 (fx (l.findIdx? q))) ∧ Below w.heap.size w w' := by
  obtain ⟨r, hr⟩ : ∃ r, r = fx (l.findIdx? q) := ⟨_, rfl⟩
  have HR := Lib.hid hr
  rw [← hr]
  clear hr
  have HQ := Lib.hid hq
  have HF := Lib.hid h
  clear hq h
  go_enter Tryz.func156, Tryz.ntmps156
  go_wp2
  go_loopw [8] (fun i W => ∃ k : Nat, k ≤ l.length ∧ i = .int .i64 k ∧ Below w.heap.size w W ∧ Hid (∀ j (hj : j < l.length), j < k → q l[j] = false)) (fun i _ => l.length - (intOf i).toNat)
  case atStart => exact ⟨0, Nat.zero_le _, rfl, Below.refl _ _, fun j _ h => absurd h (Nat.not_lt_zero _)⟩
  case round =>
    obtain ⟨k, hk, rfl, hW, HP⟩ := hrel
    by_cases hlt : k < l.length
    · have hT := HF.out.on hW
      have c0 := hT.c0 k hlt
      have c1 := hT.c1 k hlt
      have cC := HQ.out k hlt wr hW
      clear hT
      cases hq : q l[k] with
      | true =>
        rw [hq] at cC
        have HG : Hid (r = k) := by show r = _; rw [HR.out, fi_yes k hlt hq (fun j hj h => HP.out j hj h)]; rfl
        go_wp2_with fail
        refine cC.mono ?_
        rintro e w1 ⟨rfl, b1⟩
        go_wp2_with fail
        go_ret
        exact ⟨reti HG.out.symm, bon hW b1⟩
      | false =>
        rw [hq] at cC
        have HN : Hid (∀ j (hj : j < l.length), j < k + 1 → q l[j] = false) := fun j hj h => by
          by_cases e : j = k
          · subst e; exact hq
          · exact HP.out j hj (by omega)
        go_wp2_with fail
        refine cC.mono ?_
        rintro e w1 ⟨rfl, b1⟩
        go_wp2_with fail
        exact ⟨⟨k + 1, hlt, by go_num, bon hW b1, HN⟩, by simp [intOf]; omega⟩
    · go_wp2
      go_ret
      exact ⟨reti (by rw [HR.out, fi_no (fun j hj => HP.out j hj (by omega))]; rfl), hW⟩
theorem idxF154_nil (bb : Nat) (A : Option Addr) (c : Nat) (w : World) : Calls Tryz.prog 156 #[.slice A 0 c, .func (Fn.func 154) #[] #[.pointer (some ⟨bb, 0, none⟩)]] w fun e w' => e = .returned (.int .i64 (-1)) ∧ w' = w := by
  go_enter Tryz.func156, Tryz.ntmps156
  go_wp2
  refine wp_loop_rounds 1 ?_
  rw [rounds_succ]
  go_wp2
  go_ret
  exact ⟨rfl, rfl⟩
theorem idxF154_any (bb : Nat) (v : Value) (l : List Fl2) (q : Fl2 → Bool) (w : World) (h : Fs w v l) (hn : l.length ≤ 1000000) (hq : ∀ i (hi : i < l.length) W, Below w.heap.size w W → Calls Tryz.prog 154 #[flv l[i], .pointer (some ⟨bb, 0, none⟩)] W fun e w' => e = .returned (.bool (q l[i])) ∧ Below W.heap.size W w') :
    Calls Tryz.prog 156 #[v, .func (Fn.func 154) #[] #[.pointer (some ⟨bb, 0, none⟩)]] w fun e w' => e = .returned (.int .i64 (fx (l.findIdx? q))) ∧ Below w.heap.size w w' := by
  rcases h.is with ⟨rfl, A, c, rfl⟩ | ⟨b, o, c, rfl, hc, hf⟩
  · exact (idxF154_nil bb A c w).mono fun x w' ⟨h1, h2⟩ => ⟨h1, by rw [h2]; exact Below.refl _ _⟩
  · exact idxF154_row bb b o c l q w hf hn hq
theorem conF154_any (bb : Nat) (v : Value) (l : List Fl2) (q : Fl2 → Bool) (w : World) (h : Fs w v l) (hn : l.length ≤ 1000000) (hq : ∀ i (hi : i < l.length) W, Below w.heap.size w W → Calls Tryz.prog 154 #[flv l[i], .pointer (some ⟨bb, 0, none⟩)] W fun e w' => e = .returned (.bool (q l[i])) ∧ Below W.heap.size W w') :
    Calls Tryz.prog 103 #[v, .func (Fn.func 154) #[] #[.pointer (some ⟨bb, 0, none⟩)]] w fun e w' => e = .returned (.bool (l.any q)) ∧ Below w.heap.size w w' := by
  have cI := idxF154_any bb v l q w h hn hq
  have HE := Lib.hid (fx_any q l)
  generalize fx (l.findIdx? q) = z at cI HE
  clear hq h
  go_enter Tryz.func103, Tryz.ntmps103
  go_wp2_with fail
  refine cI.mono ?_
  rintro e w1 ⟨rfl, b1⟩
  go_wp2
  all_goals go_ret
  all_goals exact ⟨retb (by rw [← HE.out]), b1⟩
set_option maxHeartbeats 1600000 in
set_option maxRecDepth 100000 in
theorem idxF104_row (bb : Nat) (b o c : Nat) (l : List Fl2) (q : Fl2 → Bool) (w : World) (h : Fr w b o l) (hn : l.length ≤ 1000000) (hq : ∀ i (hi : i < l.length) W, Below w.heap.size w W → Calls Tryz.prog 104 #[flv l[i], .pointer (some ⟨bb, 0, none⟩)] W fun e w' => e = .returned (.bool (q l[i])) ∧ Below W.heap.size W w') :
    Calls Tryz.prog 156 #[.slice (some ⟨b, o, none⟩) l.length c, .func (Fn.func 104) #[] #[.pointer (some ⟨bb, 0, none⟩)]] w fun e w' => e = .returned (.int .i64 (fx (l.findIdx? q))) ∧ Below w.heap.size w w' := by
  obtain ⟨r, hr⟩ : ∃ r, r = fx (l.findIdx? q) := ⟨_, rfl⟩
  have HR := Lib.hid hr
  rw [← hr]
  clear hr
  have HQ := Lib.hid hq
  have HF := Lib.hid h
  clear hq h
  go_enter Tryz.func156, Tryz.ntmps156
  go_wp2
  go_loopw [8] (fun i W => ∃ k : Nat, k ≤ l.length ∧ i = .int .i64 k ∧ Below w.heap.size w W ∧ Hid (∀ j (hj : j < l.length), j < k → q l[j] = false)) (fun i _ => l.length - (intOf i).toNat)
  case atStart => exact ⟨0, Nat.zero_le _, rfl, Below.refl _ _, fun j _ h => absurd h (Nat.not_lt_zero _)⟩
  case round =>
    obtain ⟨k, hk, rfl, hW, HP⟩ := hrel
    by_cases hlt : k < l.length
    · have hT := HF.out.on hW
      have c0 := hT.c0 k hlt
      have c1 := hT.c1 k hlt
      have cC := HQ.out k hlt wr hW
      clear hT
      cases hq : q l[k] with
      | true =>
        rw [hq] at cC
        have HG : Hid (r = k) := by show r = _; rw [HR.out, fi_yes k hlt hq (fun j hj h => HP.out j hj h)]; rfl
        go_wp2_with fail
        refine cC.mono ?_
        rintro e w1 ⟨rfl, b1⟩
        go_wp2_with fail
        go_ret
        exact ⟨reti HG.out.symm, bon hW b1⟩
      | false =>
        rw [hq] at cC
        have HN : Hid (∀ j (hj : j < l.length), j < k + 1 → q l[j] = false) := fun j hj h => by
          by_cases e : j = k
          · subst e; exact hq
          · exact HP.out j hj (by omega)
        go_wp2_with fail
        refine cC.mono ?_
        rintro e w1 ⟨rfl, b1⟩
        go_wp2_with fail
        exact ⟨⟨k + 1, hlt, by go_num, bon hW b1, HN⟩, by simp [intOf]; omega⟩
    · go_wp2
      go_ret
      exact ⟨reti (by rw [HR.out, fi_no (fun j hj => HP.out j hj (by omega))]; rfl), hW⟩
theorem idxF104_nil (bb : Nat) (A : Option Addr) (c : Nat) (w : World) : Calls Tryz.prog 156 #[.slice A 0 c, .func (Fn.func 104) #[] #[.pointer (some ⟨bb, 0, none⟩)]] w fun e w' => e = .returned (.int .i64 (-1)) ∧ w' = w := by
  go_enter Tryz.func156, Tryz.ntmps156
  go_wp2
  refine wp_loop_rounds 1 ?_
  rw [rounds_succ]
  go_wp2
  go_ret
  exact ⟨rfl, rfl⟩
theorem idxF104_any (bb : Nat) (v : Value) (l : List Fl2) (q : Fl2 → Bool) (w : World) (h : Fs w v l) (hn : l.length ≤ 1000000) (hq : ∀ i (hi : i < l.length) W, Below w.heap.size w W → Calls Tryz.prog 104 #[flv l[i], .pointer (some ⟨bb, 0, none⟩)] W fun e w' => e = .returned (.bool (q l[i])) ∧ Below W.heap.size W w') :
    Calls Tryz.prog 156 #[v, .func (Fn.func 104) #[] #[.pointer (some ⟨bb, 0, none⟩)]] w fun e w' => e = .returned (.int .i64 (fx (l.findIdx? q))) ∧ Below w.heap.size w w' := by
  rcases h.is with ⟨rfl, A, c, rfl⟩ | ⟨b, o, c, rfl, hc, hf⟩
  · exact (idxF104_nil bb A c w).mono fun x w' ⟨h1, h2⟩ => ⟨h1, by rw [h2]; exact Below.refl _ _⟩
  · exact idxF104_row bb b o c l q w hf hn hq
theorem conF104_any (bb : Nat) (v : Value) (l : List Fl2) (q : Fl2 → Bool) (w : World) (h : Fs w v l) (hn : l.length ≤ 1000000) (hq : ∀ i (hi : i < l.length) W, Below w.heap.size w W → Calls Tryz.prog 104 #[flv l[i], .pointer (some ⟨bb, 0, none⟩)] W fun e w' => e = .returned (.bool (q l[i])) ∧ Below W.heap.size W w') :
    Calls Tryz.prog 103 #[v, .func (Fn.func 104) #[] #[.pointer (some ⟨bb, 0, none⟩)]] w fun e w' => e = .returned (.bool (l.any q)) ∧ Below w.heap.size w w' := by
  have cI := idxF104_any bb v l q w h hn hq
  have HE := Lib.hid (fx_any q l)
  generalize fx (l.findIdx? q) = z at cI HE
  clear hq h
  go_enter Tryz.func103, Tryz.ntmps103
  go_wp2_with fail
  refine cI.mono ?_
  rintro e w1 ⟨rfl, b1⟩
  go_wp2
  all_goals go_ret
  all_goals exact ⟨retb (by rw [← HE.out]), b1⟩
theorem fs_sl {W : World} {v : Value} {l : List Fl2} (h : Fs W v l) : ∃ A c, v = .slice A l.length c := by
  rcases h.is with ⟨rfl, A, c, rfl⟩ | ⟨b, o, c, rfl, _⟩
  · exact ⟨A, c, rfl⟩
  · exact ⟨_, c, rfl⟩

set_option maxHeartbeats 1600000 in
set_option maxRecDepth 100000 in
/-- The closure of rightFiles: a file clashes with another one, which lies in a box. -/
theorem clashes_any (g f : Fl2) (bb : Nat) (w : World) (h0 : w.cell? ⟨bb, 0, none⟩ = some (.string ⟨f.1.toArray⟩)) (hg : g.1.length ≤ 1000) (hf : f.1.length ≤ 1000) : Calls Tryz.prog 154 #[flv g, .pointer (some ⟨bb, 0, none⟩)] w fun e w' => e = .returned (.bool (csh g.1 f.1)) ∧ Below w.heap.size w w' := by
  have hlt := block_lt_of_cell h0
  have hlt : bb < w.heap.size := hlt
  have b0 := bA1 w (flo g)
  obtain ⟨r, hr⟩ : ∃ r, r = csh g.1 f.1 := ⟨_, rfl⟩
  rw [← hr]
  unfold csh at hr
  have c1 := fun W => beneath_any g.1 f.1 W hg hf
  have c2 := fun W => beneath_any f.1 g.1 W hf hg
  generalize bnt g.1 f.1 = y1 at c1 hr
  generalize bnt f.1 g.1 = y2 at c2 hr
  by_cases he : g.1 = f.1
  · have hr' : r = true := by rw [hr, decide_eq_true he]; rfl
    subst hr'
    have he' : (g.1 == f.1) = true := by simpa using he
    clear hr c1 c2 he
    go_enter Tryz.func154, Tryz.ntmps154
    go_wp2_with fail
    go_ret
    exact ⟨rfl, b0⟩
  · have hr' : r = (y1 || y2) := by rw [hr, decide_eq_false he]; rfl
    have he' : (g.1 == f.1) = false := by simpa using he
    clear hr he
    cases y1 with
    | true =>
      subst hr'
      go_enter Tryz.func154, Tryz.ntmps154
      go_wp2_with fail
      refine (c1 _).mono ?_
      rintro e w1 ⟨rfl, rfl⟩
      go_wp2_with fail
      go_ret
      exact ⟨rfl, b0⟩
    | false =>
      subst hr'
      go_enter Tryz.func154, Tryz.ntmps154
      go_wp2_with fail
      refine (c1 _).mono ?_
      rintro e w1 ⟨rfl, rfl⟩
      go_wp2_with fail
      refine (c2 _).mono ?_
      rintro e w1 ⟨rfl, rfl⟩
      go_wp2_with fail
      go_ret
      exact ⟨rfl, b0⟩
/-- The inner closure of Right: a file lies at a path, which lies in a box. -/
theorem lies_any (g : Fl2) (s : List UInt8) (bb : Nat) (w : World) (h0 : w.cell? ⟨bb, 0, none⟩ = some (.string ⟨s.toArray⟩)) : Calls Tryz.prog 104 #[flv g, .pointer (some ⟨bb, 0, none⟩)] w fun e w' => e = .returned (.bool (decide (g.1 = s))) ∧ Below w.heap.size w w' := by
  have hlt : bb < w.heap.size := block_lt_of_cell h0
  have b0 := bA1 w (flo g)
  go_enter Tryz.func104, Tryz.ntmps104
  go_wp2_with fail
  go_ret
  exact ⟨ret_bool (by rw [Bool.eq_iff_iff]; simp), b0⟩
end Go.Proofs.YtmlmdncepgcimaaGreatDoor
namespace Go.Proofs.YtmlmdncepgcimaaGreatDoor
open Go.RowKit Go.Shelf Go.Sort

theorem fls_p {F : List Fl2} (h : fls F = true) : F.length ≤ 30 ∧ ∀ f ∈ F, f.1.length ≤ 100 ∧ f.2.length ≤ 500 := by
  unfold fls at h
  simpa only [Bool.and_eq_true, decide_eq_true_eq, List.all_eq_true] using h
theorem fs_take {W : World} {b o c : Nat} {l : List Fl2} (h : Fr W b o l) (i : Nat) (hi : i ≤ l.length) (hc : l.length ≤ c) : Fs W (.slice (some ⟨b, o, none⟩) i c) (l.take i) := by
  by_cases h0 : i = 0
  · subst h0; exact ⟨.inl ⟨rfl, _, _, rfl⟩⟩
  · have e : (l.take i).length = i := by simp; omega
    refine ⟨.inr ⟨b, o, c, by rw [e], by rw [e]; omega, h.lt, fun j hj => ?_, fun j hj => ?_⟩⟩
    · rw [List.getElem_take]; exact h.c0 j (by simp at hj; omega)
    · rw [List.getElem_take]; exact h.c1 j (by simp at hj; omega)
theorem fr_on {W w' : World} {b o : Nat} {l : List Fl2} (h : Fr W b o l) (k : Below W.heap.size W w') : Fr w' b o l := h.on k

set_option maxHeartbeats 3200000 in
set_option maxRecDepth 100000 in
theorem rfiles_row (b o c : Nat) (F : List Fl2) (w : World) (h : Fr w b o F) (hc : F.length ≤ c) (hn : F.length ≤ 20) (hs : ∀ f ∈ F, f.1.length ≤ 100) (hM : MaxN w) : Calls Tryz.prog 101 #[.slice (some ⟨b, o, none⟩) F.length c] w fun e w' => e = .returned (.bool (fk F)) ∧ Below w.heap.size w w' := by
  obtain ⟨r, hr⟩ : ∃ r, r = fk F := ⟨_, rfl⟩
  rw [← hr]
  have HR := Lib.hid hr
  have HF := Lib.hid h
  have HS := Lib.hid hs
  have HM := Lib.hid hM
  clear h hs hM hr
  go_enter Tryz.func101, Tryz.ntmps101
  go_wp2_with fail
  go_loopw [11] (fun v W => ∃ i : Nat, i ≤ F.length ∧ v = .int .i64 i ∧ Below w.heap.size w W ∧ Hid (∀ j, j < i → fki F j = true)) (fun v _ => F.length - (intOf v).toNat)
  case atStart => exact ⟨0, Nat.zero_le _, rfl, Below.refl _ _, fun j h => absurd h (Nat.not_lt_zero _)⟩
  case round =>
    obtain ⟨i, hi, rfl, hb, HP⟩ := hrel
    by_cases hlt : i < F.length
    · have hT := HF.out.on hb
      have c0 := hT.c0 i hlt
      have c1 := hT.c1 i hlt
      have hfl := HS.out F[i] (List.getElem_mem hlt)
      have HK := Lib.hid (fki_at hlt)
      have HNo : Hid (fki F i = false → r = false) := fun hh => by rw [HR.out]; exact fk_no hlt hh
      have HSt : Hid (fki F i = true → ∀ j, j < i + 1 → fki F j = true) := fun hh j hj => by
        by_cases e : j = i
        · subst e; exact hh
        · exact HP.out j (by omega)
      have hb1 := bA1 wr (flo F[i])
      have HT1 := Lib.hid (fs_take (hT.on hb1) i (by omega) hc)
      have HQ : Hid (∀ j (hj : j < (F.take i).length), (F.take i)[j].1.length ≤ 1000) := fun j hj => by
        have := HS.out _ (List.mem_of_mem_take (List.getElem_mem hj))
        omega
      generalize F[i] = f at c0 c1 hfl HK hb1 HT1
      have hX1 : (wr.alloc (flo f)).cell? ⟨wr.heap.size, 0, none⟩ = some (.string ⟨f.1.toArray⟩) := by simp
      have cP := path_any f.1 (wr.alloc (flo f)) ((HM.out.on hb).on hb1)
      have cC := conF154_any wr.heap.size _ (F.take i) (fun g => csh g.1 f.1) (wr.alloc (flo f)) HT1.out (by simp; omega) (fun j hj W hW => clashes_any (F.take i)[j] f wr.heap.size W (by rw [hW.cell (p := ⟨wr.heap.size, 0, none⟩) (by simp)]; exact hX1) (HQ.out j hj) (by omega))
      have HBW := Lib.hid (bon hb hb1)
      clear hT hb1 HT1 HQ
      cases hp : pth f.1 with
      | false =>
        rw [hp] at cP
        have hr0 : r = false := HNo.out (by rw [HK.out, hp]; rfl)
        subst hr0
        clear cC hX1
        go_wp2_with fail
        refine cP.mono ?_
        rintro e w1 ⟨rfl, rfl⟩
        go_wp2_with fail
        go_ret
        exact ⟨rfl, HBW.out⟩
      | true =>
        rw [hp] at cP
        have HK2 : Hid (fki F i = !((F.take i).any fun g => csh g.1 f.1)) := by show _ = _; rw [HK.out, hp]; rfl
        cases hq : (F.take i).any fun g => csh g.1 f.1 with
        | true =>
          rw [hq] at cC
          have hr0 : r = false := HNo.out (by rw [HK2.out, hq]; rfl)
          subst hr0
          clear hX1 hq
          go_wp2_with fail
          refine cP.mono ?_
          rintro e w1 ⟨rfl, rfl⟩
          go_wp2_with fail
          refine cC.mono ?_
          rintro e w2 ⟨rfl, hb2⟩
          have hfin := bon HBW.out hb2
          go_wp2_with fail
          go_ret
          exact ⟨rfl, hfin⟩
        | false =>
          rw [hq] at cC
          have HY : Hid (∀ j, j < i + 1 → fki F j = true) := HSt.out (by rw [HK2.out, hq]; rfl)
          clear hX1 hq
          go_wp2_with fail
          refine cP.mono ?_
          rintro e w1 ⟨rfl, rfl⟩
          go_wp2_with fail
          refine cC.mono ?_
          rintro e w2 ⟨rfl, hb2⟩
          have hfin := bon HBW.out hb2
          go_wp2_with fail
          exact ⟨⟨i + 1, hlt, by go_num, hfin, HY⟩, by simp [intOf]; omega⟩
    · have hr0 : r = true := by rw [HR.out, fk_yes (fun j hj => HP.out j (by omega))]; simpa using hn
      subst hr0
      go_wp2_with fail
      go_ret
      exact ⟨rfl, hb⟩
theorem rfiles_nil (A : Option Addr) (c : Nat) (w : World) : Calls Tryz.prog 101 #[.slice A 0 c] w fun e w' => e = .returned (.bool true) ∧ w' = w := by
  go_enter Tryz.func101, Tryz.ntmps101
  go_wp2
  refine wp_loop_rounds 1 ?_
  rw [rounds_succ]
  go_wp2
  go_ret
  exact ⟨rfl, rfl⟩
theorem rfiles_long (A : Option Addr) (n c : Nat) (w : World) (h : 20 < n) : Calls Tryz.prog 101 #[.slice A n c] w fun e w' => e = .returned (.bool false) ∧ w' = w := by
  go_enter Tryz.func101, Tryz.ntmps101
  go_wp2
  go_ret
  exact ⟨rfl, rfl⟩
theorem rfiles_any (v : Value) (F : List Fl2) (w : World) (h : Fs w v F) (hs : ∀ f ∈ F, f.1.length ≤ 100) (hM : MaxN w) : Calls Tryz.prog 101 #[v] w fun e w' => e = .returned (.bool (fk F)) ∧ Below w.heap.size w w' := by
  rcases h.is with ⟨rfl, A, c, rfl⟩ | ⟨b, o, c, rfl, hc, hf⟩
  · exact (rfiles_nil A c w).mono fun e w' ⟨h1, h2⟩ => ⟨h1, by rw [h2]; exact Below.refl _ _⟩
  · by_cases hn : F.length ≤ 20
    · exact rfiles_row b o c F w hf hc hn hs hM
    · have e0 : fk F = false := by unfold fk; rw [decide_eq_false hn]; rfl
      exact (rfiles_long _ _ c w (by omega)).mono fun e w' ⟨h1, h2⟩ => ⟨by rw [h1, e0], by rw [h2]; exact Below.refl _ _⟩

/-- Right's closure: nothing lies at a path. -/
theorem strange_any (s : List UInt8) (bp : Nat) (p : Pck) (vD vA vG vB vR vP vS vL vF : Value) (w : World) (hB : Pb w bp p vD vA vG vB vR vP vS vL vF) (hF : Fs w vF p.F) (hn : p.F.length ≤ 1000) : Calls Tryz.prog 102 #[.string ⟨s.toArray⟩, .pointer (some ⟨bp, 0, none⟩)] w fun e w' => e = .returned (.bool (!(p.F.any fun f => decide (f.1 = s)))) ∧ Below w.heap.size w w' := by
  have c12 := hB.c12
  have hlt := block_lt_of_cell c12
  have hlt : bp < w.heap.size := hlt
  have hb1 := bA1 w (.cells #[.string ⟨s.toArray⟩] 9)
  have hX : (w.alloc (.cells #[.string ⟨s.toArray⟩] 9)).cell? ⟨w.heap.size, 0, none⟩ = some (.string ⟨s.toArray⟩) := by simp
  have cC := conF104_any w.heap.size vF p.F (fun f => decide (f.1 = s)) (w.alloc (.cells #[.string ⟨s.toArray⟩] 9)) (hF.on hb1) (by omega) (fun j hj W hW => lies_any p.F[j] s w.heap.size W (by rw [hW.cell (p := ⟨w.heap.size, 0, none⟩) (by simp)]; exact hX))
  obtain ⟨A, c, rfl⟩ := fs_sl hF
  generalize (p.F.any fun f => decide (f.1 = s)) = y at cC ⊢
  clear hX hF hB
  go_enter Tryz.func102, Tryz.ntmps102
  go_wp2_with fail
  refine cC.mono ?_
  rintro e w1 ⟨rfl, b1⟩
  go_wp2_with fail
  go_ret
  exact ⟨rfl, bon hb1 b1⟩
end Go.Proofs.YtmlmdncepgcimaaGreatDoor
namespace Go.Proofs.YtmlmdncepgcimaaGreatDoor
open Go.RowKit Go.Shelf Go.Sort

theorem sr_on {W w' : World} {b o : Nat} {l : List (List UInt8)} (h : Sr W b o l) (k : Below W.heap.size W w') : Sr w' b o l := ⟨Nat.lt_of_lt_of_le h.lt k.size, fun i hi => by rw [k.cell (p := ⟨b, _, none⟩) h.lt]; exact h.c i hi⟩
set_option maxHeartbeats 1600000 in
set_option maxRecDepth 100000 in
theorem idxS102_row (bb : Nat) (b o c : Nat) (l : List (List UInt8)) (q : List UInt8 → Bool) (w : World) (h : Sr w b o l) (hn : l.length ≤ 1000000) (hq : ∀ i (hi : i < l.length) W, Below w.heap.size w W → Calls Tryz.prog 102 #[.string ⟨l[i].toArray⟩, .pointer (some ⟨bb, 0, none⟩)] W fun e w' => e = .returned (.bool (q l[i])) ∧ Below W.heap.size W w') :
    Calls Tryz.prog 157 #[.slice (some ⟨b, o, none⟩) l.length c, .func (Fn.func 102) #[] #[.pointer (some ⟨bb, 0, none⟩)]] w fun e w' => e = .returned (.int .i64 (fx (l.findIdx? q))) ∧ Below w.heap.size w w' := by
  obtain ⟨r, hr⟩ : ∃ r, r = fx (l.findIdx? q) := ⟨_, rfl⟩
  have HR := Lib.hid hr
  rw [← hr]
  clear hr
  have HQ := Lib.hid hq
  have HF := Lib.hid h
  clear hq h
  go_enter Tryz.func157, Tryz.ntmps157
  go_wp2
  go_loopw [8] (fun i W => ∃ k : Nat, k ≤ l.length ∧ i = .int .i64 k ∧ Below w.heap.size w W ∧ Hid (∀ j (hj : j < l.length), j < k → q l[j] = false)) (fun i _ => l.length - (intOf i).toNat)
  case atStart => exact ⟨0, Nat.zero_le _, rfl, Below.refl _ _, fun j _ h => absurd h (Nat.not_lt_zero _)⟩
  case round =>
    obtain ⟨k, hk, rfl, hW, HP⟩ := hrel
    by_cases hlt : k < l.length
    · have hT := sr_on HF.out hW
      have c0 := hT.c k hlt
      have cC := HQ.out k hlt wr hW
      clear hT
      cases hq : q l[k] with
      | true =>
        rw [hq] at cC
        have HG : Hid (r = k) := by show r = _; rw [HR.out, fi_yes k hlt hq (fun j hj h => HP.out j hj h)]; rfl
        go_wp2_with fail
        refine cC.mono ?_
        rintro e w1 ⟨rfl, b1⟩
        go_wp2_with fail
        go_ret
        exact ⟨reti HG.out.symm, bon hW b1⟩
      | false =>
        rw [hq] at cC
        have HN : Hid (∀ j (hj : j < l.length), j < k + 1 → q l[j] = false) := fun j hj h => by
          by_cases e : j = k
          · subst e; exact hq
          · exact HP.out j hj (by omega)
        go_wp2_with fail
        refine cC.mono ?_
        rintro e w1 ⟨rfl, b1⟩
        go_wp2_with fail
        exact ⟨⟨k + 1, hlt, by go_num, bon hW b1, HN⟩, by simp [intOf]; omega⟩
    · go_wp2
      go_ret
      exact ⟨reti (by rw [HR.out, fi_no (fun j hj => HP.out j hj (by omega))]; rfl), hW⟩
theorem idxS102_nil (bb : Nat) (A : Option Addr) (c : Nat) (w : World) : Calls Tryz.prog 157 #[.slice A 0 c, .func (Fn.func 102) #[] #[.pointer (some ⟨bb, 0, none⟩)]] w fun e w' => e = .returned (.int .i64 (-1)) ∧ w' = w := by
  go_enter Tryz.func157, Tryz.ntmps157
  go_wp2
  refine wp_loop_rounds 1 ?_
  rw [rounds_succ]
  go_wp2
  go_ret
  exact ⟨rfl, rfl⟩
theorem idxS102_any (bb : Nat) (v : Value) (l : List (List UInt8)) (q : List UInt8 → Bool) (w : World) (h : Ss w v l) (hn : l.length ≤ 1000000) (hq : ∀ i (hi : i < l.length) W, Below w.heap.size w W → Calls Tryz.prog 102 #[.string ⟨l[i].toArray⟩, .pointer (some ⟨bb, 0, none⟩)] W fun e w' => e = .returned (.bool (q l[i])) ∧ Below W.heap.size W w') :
    Calls Tryz.prog 157 #[v, .func (Fn.func 102) #[] #[.pointer (some ⟨bb, 0, none⟩)]] w fun e w' => e = .returned (.int .i64 (fx (l.findIdx? q))) ∧ Below w.heap.size w w' := by
  rcases h.is with ⟨rfl, A, c, rfl⟩ | ⟨b, o, c, rfl, hc, hf⟩
  · exact (idxS102_nil bb A c w).mono fun x w' ⟨h1, h2⟩ => ⟨h1, by rw [h2]; exact Below.refl _ _⟩
  · exact idxS102_row bb b o c l q w hf hn hq
theorem conS102_any (bb : Nat) (v : Value) (l : List (List UInt8)) (q : List UInt8 → Bool) (w : World) (h : Ss w v l) (hn : l.length ≤ 1000000) (hq : ∀ i (hi : i < l.length) W, Below w.heap.size w W → Calls Tryz.prog 102 #[.string ⟨l[i].toArray⟩, .pointer (some ⟨bb, 0, none⟩)] W fun e w' => e = .returned (.bool (q l[i])) ∧ Below W.heap.size W w') :
    Calls Tryz.prog 105 #[v, .func (Fn.func 102) #[] #[.pointer (some ⟨bb, 0, none⟩)]] w fun e w' => e = .returned (.bool (l.any q)) ∧ Below w.heap.size w w' := by
  have cI := idxS102_any bb v l q w h hn hq
  have HE := Lib.hid (fx_any q l)
  generalize fx (l.findIdx? q) = z at cI HE
  clear hq h
  go_enter Tryz.func105, Tryz.ntmps105
  go_wp2_with fail
  refine cI.mono ?_
  rintro e w1 ⟨rfl, b1⟩
  go_wp2
  all_goals go_ret
  all_goals exact ⟨retb (by rw [← HE.out]), b1⟩

/-- A package that may be with its files. -/
def aok (p : Pck) : Bool := rok p && (fk p.F && stg p.F p.S)
theorem stg_any (F : List Fl2) (S : List (List UInt8)) : (!(S.any fun s => !(F.any fun f => decide (f.1 = s)))) = stg F S := by
  unfold stg
  rw [Bool.eq_iff_iff]
  simp [List.all_eq_true]

set_option maxHeartbeats 3200000 in
set_option maxRecDepth 100000 in
theorem aright_any (p : Pck) (vD vA vG vB vR vP vS vL vF : Value) (w : World) (hz : Pz w p vD vA vG vB vR vP vS vL vF) (hp : Pg p) (hT : Tab w) (hM : MaxN w) : Calls Tryz.prog 28 #[pkv p.o.n p.o.e p.o.u p.o.r vD vA vG vB vR vP vS vL vF] w fun x w' => x = .returned (.bool (aok p)) ∧ Below w.heap.size w w' := by
  have c0 := b1c w (pko p.o.n p.o.e p.o.u p.o.r vD vA vG vB vR vP vS vL vF)
  have B0 := Lib.hid (pb_new w p vD vA vG vB vR vP vS vL vF)
  have cR := recright_any p vD vA vG vB vR vP vS vL vF _ (hz.on c0) hp (tab_on hT c0) (hM.on c0)
  obtain ⟨r, hr⟩ : ∃ r, r = aok p := ⟨_, rfl⟩
  rw [← hr]
  have HR : Hid (r = (rok p && (fk p.F && stg p.F p.S))) := hr
  have HZ := Lib.hid hz
  have HM := Lib.hid hM
  have hfl := fls_p hp.F
  have htx := txs_p hp.S
  obtain ⟨F1, F2, hvF⟩ := fs_sl hz.F
  obtain ⟨S1, S2, hvS⟩ := ss_sl hz.S
  obtain ⟨D1, D2, hvD⟩ := as_sl hz.D
  obtain ⟨A1, A2, hvA⟩ := as_sl hz.A
  obtain ⟨G1, G2, hvG⟩ := ts_sl hz.G
  obtain ⟨Q1, Q2, hvB⟩ := ts_sl hz.B
  obtain ⟨R1, R2, hvR⟩ := ts_sl hz.R
  obtain ⟨P1, P2, hvP⟩ := ts_sl hz.P
  obtain ⟨L1, L2, hvL⟩ := ss_sl hz.L
  subst hvF hvS hvD hvA hvG hvB hvR hvP hvL
  clear hz hp hT hM hr
  go_enter Tryz.func28, Tryz.ntmps28
  go_wp2_with fail
  refine cR.mono ?_
  rintro x w1 ⟨rfl, b1⟩
  have k1 := bon c0 b1
  have B1 := Lib.hid (B0.out.on b1)
  have q12 := B1.out.c12
  have hlt1 : w.heap.size < w1.heap.size := block_lt_of_cell q12
  clear cR B0 b1 c0
  cases hrk : rok p with
  | false =>
    rw [hrk] at HR
    have hr0 : r = false := HR.out
    subst hr0
    go_wp2_with fail
    go_ret
    exact ⟨rfl, k1⟩
  | true =>
    rw [hrk] at HR
    have HR2 : Hid (r = (fk p.F && stg p.F p.S)) := HR
    have cF := rfiles_any _ p.F w1 (HZ.out.F.on k1) (fun f hf => (hfl.2 f hf).1) (HM.out.on k1)
    clear HR
    go_wp2_with fail
    refine cF.mono ?_
    rintro x w2 ⟨rfl, b2⟩
    have k2 := bon k1 b2
    have B2 := Lib.hid (B1.out.on b2)
    have q10 := B2.out.c10
    clear cF B1 b2 k1 q12
    cases hfk : fk p.F with
    | false =>
      rw [hfk] at HR2
      have hr0 : r = false := HR2.out
      subst hr0
      go_wp2_with fail
      go_ret
      exact ⟨rfl, k2⟩
    | true =>
      rw [hfk] at HR2
      have hr0 : r = !(p.S.any fun s => !(p.F.any fun f => decide (f.1 = s))) := by rw [stg_any]; exact HR2.out
      have cS := conS102_any w.heap.size _ p.S (fun s => !(p.F.any fun f => decide (f.1 = s))) w2 (HZ.out.S.on k2) (by omega) (fun j hj W hW => strange_any p.S[j] w.heap.size p _ _ _ _ _ _ _ _ _ W (B2.out.on hW) ((HZ.out.F.on k2).on hW) (by omega))
      have HR0 := Lib.hid hr0
      generalize (p.S.any fun s => !(p.F.any fun f => decide (f.1 = s))) = y at cS HR0
      clear hr0 HR2
      go_wp2_with fail
      refine cS.mono ?_
      rintro x w3 ⟨rfl, b3⟩
      have k3 := bon k2 b3
      go_wp2_with fail
      go_ret
      exact ⟨by rw [HR0.out]; rfl, k3⟩
end Go.Proofs.YtmlmdncepgcimaaGreatDoor
namespace Go.Proofs.YtmlmdncepgcimaaGreatDoor
open Go.RowKit Go.Shelf Go.Sort

theorem fs_at {W : World} {A : Option Addr} {n c : Nat} {l : List Fl2} (h : Fs W (.slice A n c) l) (k : Nat) (hk : k < l.length) : ∃ b o, A = some ⟨b, o, none⟩ ∧ W.cell? ⟨b, o + k * 2, none⟩ = some (.string ⟨l[k].1.toArray⟩) ∧ W.cell? ⟨b, o + k * 2 + 1, none⟩ = some (.string ⟨l[k].2.toArray⟩) := by
  rcases h.is with ⟨rfl, _⟩ | ⟨b, o, c', h1, _, h2⟩
  · exact absurd hk (Nat.not_lt_zero _)
  · cases h1; exact ⟨b, o, rfl, h2.c0 k hk, h2.c1 k hk⟩
theorem any_up (F : List Fl2) (s : List UInt8) (k : Nat) (hk : k < F.length) : ((F.take (k + 1)).any fun f => decide (f.1 = s)) = (((F.take k).any fun f => decide (f.1 = s)) || decide (F[k].1 = s)) := by
  rw [List.take_succ_eq_append_getElem hk, List.any_append]; simp

set_option maxHeartbeats 12800000 in
set_option maxRecDepth 100000 in
theorem xarch_any (p : Pck) (vD vA vG vB vR vP vS vL vF : Value) (w : World) (hz : Pz w p vD vA vG vB vR vP vS vL vF) (hp : Pg p) (hT : Tab w) : Calls Tryz.prog 29 #[pkv p.o.n p.o.e p.o.u p.o.r vD vA vG vB vR vP vS vL vF] w fun x w' => x = .returned (.bool (aok p)) ∧ Below w.heap.size w w' := by
  have c0 := b1c w (pko p.o.n p.o.e p.o.u p.o.r vD vA vG vB vR vP vS vL vF)
  have B0 := Lib.hid (pb_new w p vD vA vG vB vR vP vS vL vF)
  have cR := xsays_any p vD vA vG vB vR vP vS vL vF _ (hz.on c0) hp (tab_on hT c0)
  obtain ⟨r, hr⟩ : ∃ r, r = aok p := ⟨_, rfl⟩
  rw [← hr]
  have HR : Hid (r = (rok p && (fk p.F && stg p.F p.S))) := hr
  have HZ := Lib.hid hz
  have HFl := Lib.hid (fls_p hp.F)
  have HTx := Lib.hid (txs_p hp.S)
  have hF30 := HFl.out.1
  have hS40 := HTx.out.1
  obtain ⟨F1, F2, hvF⟩ := fs_sl hz.F
  obtain ⟨S1, S2, hvS⟩ := ss_sl hz.S
  obtain ⟨D1, D2, hvD⟩ := as_sl hz.D
  obtain ⟨A1, A2, hvA⟩ := as_sl hz.A
  obtain ⟨G1, G2, hvG⟩ := ts_sl hz.G
  obtain ⟨Q1, Q2, hvB⟩ := ts_sl hz.B
  obtain ⟨R1, R2, hvR⟩ := ts_sl hz.R
  obtain ⟨P1, P2, hvP⟩ := ts_sl hz.P
  obtain ⟨L1, L2, hvL⟩ := ss_sl hz.L
  subst hvF hvS hvD hvA hvG hvB hvR hvP hvL
  clear hz hp hT hr
  go_enter Tryz.func29, Tryz.ntmps29
  go_wp2_with fail
  refine cR.mono ?_
  rintro x w1 ⟨rfl, b1⟩
  have k1 := bon c0 b1
  have B1 := Lib.hid (B0.out.on b1)
  have q12 := B1.out.c12
  have hlt1 : w.heap.size < w1.heap.size := block_lt_of_cell q12
  clear cR B0 b1 c0
  cases hrk : rok p with
  | false =>
    rw [hrk] at HR
    have hr0 : r = false := HR.out
    subst hr0
    go_wp2_with fail
    go_ret
    exact ⟨rfl, k1⟩
  | true =>
    rw [hrk] at HR
    have HR2 : Hid (r = (fk p.F && stg p.F p.S)) := HR
    clear HR
    by_cases hn : p.F.length ≤ 20
    · have HFs := Lib.hid (HZ.out.F.on k1)
      have HSs := Lib.hid (HZ.out.S.on k1)
      go_wp2_with fail
      go_loopw [24] (fun v W => ∃ i : Nat, i ≤ p.F.length ∧ v = .int .i64 i ∧ Below w1.heap.size w1 W ∧ Hid (∀ j (hj : j < p.F.length), j < i → pth p.F[j].1 = true ∧ ∀ m, m < p.F.length → xki p.F j m = false)) (fun v _ => p.F.length - (intOf v).toNat)
      case atStart => exact ⟨0, Nat.zero_le _, rfl, Below.refl _ _, fun j _ h => absurd h (Nat.not_lt_zero _)⟩
      case round =>
        obtain ⟨i, hi, rfl, hW, HP⟩ := hrel
        by_cases hlt : i < p.F.length
        · obtain ⟨fb, fo, rfl, f0, f1⟩ := fs_at (HFs.out.on hW) i hlt
          have hfl := (HFl.out.2 p.F[i] (List.getElem_mem hlt)).1
          have HPth : Hid (pth p.F[i].1 = false → r = false) := fun hh => by rw [HR2.out, fk_path hlt hh]; rfl
          have HSt : Hid (pth p.F[i].1 = true → (∀ m, m < p.F.length → xki p.F i m = false) → ∀ j (hj : j < p.F.length), j < i + 1 → pth p.F[j].1 = true ∧ ∀ m, m < p.F.length → xki p.F j m = false) := fun h1 h2 j hj hjl => by
            by_cases e : j = i
            · subst e; exact ⟨h1, h2⟩
            · exact HP.out j hj (by omega)
          have HBad : Hid (∀ m (hm : m < p.F.length), xki p.F i m = true → r = false) := fun m hm hh => by rw [HR2.out, fk_bad hlt hm hh]; rfl
          have HXk : Hid (∀ m (hm : m < p.F.length), xki p.F i m = (!decide (i = m) && (decide (p.F[i].1 = p.F[m].1) || bnt p.F[m].1 p.F[i].1))) := fun m hm => xki_at hlt hm
          generalize p.F[i] = f at f0 f1 hfl HPth HSt HXk
          have hb1 := bA1 wr (flo f)
          have cP := xpath_any f.1 (wr.alloc (flo f)) (by omega)
          have q12 := (B1.out.on hW).c12
          have hltw : w.heap.size < wr.heap.size := Nat.lt_of_lt_of_le hlt1 hW.size
          have HW1 := Lib.hid (hW.trans (hb1.mono hW.size))
          have HX1 : Hid ((wr.alloc (flo f)).cell? ⟨wr.heap.size, 0, none⟩ = some (.string ⟨f.1.toArray⟩)) := by show _ = _; simp
          have hltx : wr.heap.size < (wr.alloc (flo f)).heap.size := by simp
          clear hb1 HP hW
          cases hpp : pth f.1 with
          | false =>
            rw [hpp] at cP
            have hr0 : r = false := HPth.out hpp
            subst hr0
            have hfin := bon k1 HW1.out
            go_wp2_with fail
            refine cP.mono ?_
            rintro x w2 ⟨rfl, rfl⟩
            go_wp2_with fail
            go_ret
            exact ⟨rfl, hfin⟩
          | true =>
            rw [hpp] at cP
            have HSt2 := Lib.hid (HSt.out hpp)
            clear HSt HPth
            go_wp2_with fail
            refine cP.mono ?_
            rintro x w2 ⟨rfl, rfl⟩
            clear cP
            go_wp2_with fail
            generalize wr.alloc (flo f) = W2 at HW1 HX1 hltx ⊢
            generalize wr.heap.size = bx at HX1 hltx hltw ⊢
            go_loopw [36] (fun v W => ∃ m : Nat, m ≤ p.F.length ∧ v = .int .i64 m ∧ Below W2.heap.size W2 W ∧ Hid (∀ j, j < m → xki p.F i j = false)) (fun v _ => p.F.length - (intOf v).toNat)
            case atStart => exact ⟨0, Nat.zero_le _, rfl, Below.refl _ _, fun j h => absurd h (Nat.not_lt_zero _)⟩
            case round =>
              obtain ⟨m, hm, rfl, hV, HJ⟩ := hrel
              have hWV := HW1.out.trans (hV.mono HW1.out.size)
              by_cases hml : m < p.F.length
              · obtain ⟨fb', fo', hfe, g0, g1⟩ := fs_at (HFs.out.on hWV) m hml
                cases hfe
                have hgl := (HFl.out.2 p.F[m] (List.getElem_mem hml)).1
                have HK := Lib.hid (HXk.out m hml)
                have HB := Lib.hid (HBad.out m hml)
                have HS3 : Hid (xki p.F i m = false → ∀ j, j < m + 1 → xki p.F i j = false) := fun h1 j hj => by
                  by_cases e : j = m
                  · subst e; exact h1
                  · exact HJ.out j (by omega)
                generalize p.F[m] = g at g0 g1 hgl HK
                have hx0 := (hV.cell (p := ⟨bx, 0, none⟩) hltx).trans HX1.out
                have hltv : bx < wr.heap.size := Nat.lt_of_lt_of_le hltx hV.size
                have hb3 := bA1 wr (flo g)
                have HV3 := Lib.hid (hV.trans (hb3.mono hV.size))
                have cH : ∀ W, Calls Tryz.prog 106 #[.string ⟨g.1.toArray⟩, .string (ByteArray.mk f.1.toArray ++ ⟨#[47]⟩)] W fun e w' => e = .returned (.bool (bnt g.1 f.1)) ∧ w' = W := fun W => by
                  have := Tryz.strings_HasPrefix ⟨g.1.toArray⟩ (ByteArray.mk f.1.toArray ++ ⟨#[47]⟩) W
                  refine this.mono fun e w' ⟨h1, h2⟩ => ⟨by rw [h1]; unfold bnt Lib.hasPrefix; simp, h2⟩
                clear HJ hb3
                by_cases him : i = m
                · have him2 : (i : Int) = (m : Int) := by omega
                  have hk0 : xki p.F i m = false := by rw [HK.out, decide_eq_true him]; rfl
                  have HN := Lib.hid (HS3.out hk0)
                  clear HS3 HB HK hk0
                  go_wp2_with fail
                  exact ⟨⟨m + 1, hml, by go_num, HV3.out, HN⟩, by simp [intOf]; omega⟩
                · have him3 : ¬ (i : Int) = (m : Int) := by omega
                  have HK2 : Hid (xki p.F i m = (decide (f.1 = g.1) || bnt g.1 f.1)) := by show _ = _; rw [HK.out, decide_eq_false him]; rfl
                  by_cases hfg : f.1 = g.1
                  · have hfg' : (f.1 == g.1) = true := by simpa using hfg
                    have hr0 : r = false := HB.out (by rw [HK2.out, decide_eq_true hfg]; rfl)
                    subst hr0
                    have hfin := bon k1 (HW1.out.trans (HV3.out.mono HW1.out.size))
                    clear HS3 HB HK HK2 hfg
                    go_wp2_with fail
                    go_ret
                    exact ⟨rfl, hfin⟩
                  · have hfg' : (f.1 == g.1) = false := by simpa using hfg
                    have HK3 : Hid (xki p.F i m = bnt g.1 f.1) := by show _ = _; rw [HK2.out, decide_eq_false hfg]; rfl
                    clear HK HK2
                    cases hbn : bnt g.1 f.1 with
                    | true =>
                      rw [hbn] at cH
                      have hr0 : r = false := HB.out (by rw [HK3.out, hbn])
                      subst hr0
                      have hfin := bon k1 (HW1.out.trans (HV3.out.mono HW1.out.size))
                      clear HS3 HB HK3 hfg
                      go_wp2_with fail
                      refine (cH _).mono ?_
                      rintro x w3 ⟨rfl, rfl⟩
                      go_wp2_with fail
                      go_ret
                      exact ⟨rfl, hfin⟩
                    | false =>
                      rw [hbn] at cH
                      have HN := Lib.hid (HS3.out (by rw [HK3.out, hbn]))
                      clear HS3 HB HK3 hfg
                      go_wp2_with fail
                      refine (cH _).mono ?_
                      rintro x w3 ⟨rfl, rfl⟩
                      go_wp2_with fail
                      exact ⟨⟨m + 1, hml, by go_num, HV3.out, HN⟩, by simp [intOf]; omega⟩
              · have HN := Lib.hid (HSt2.out fun j hj => HJ.out j (by omega))
                clear HSt2 HBad HXk HJ
                go_wp2_with fail
                exact ⟨⟨i + 1, hlt, by go_num, hWV, HN⟩, by simp [intOf]; omega⟩
        · have hfk : fk p.F = true := by
            rw [fk_good (fun j hj => (HP.out j hj (by omega)).1) (fun j m hj hm => (HP.out j hj (by omega)).2 m hm)]; simpa using hn
          have HR3 : Hid (r = stg p.F p.S) := by show _ = _; rw [HR2.out, hfk]; rfl
          have q10 := (B1.out.on hW).c10
          have hltw : w.heap.size < wr.heap.size := Nat.lt_of_lt_of_le hlt1 hW.size
          have HWa := Lib.hid hW
          clear HP HR2 hfk hW
          go_wp2_with fail
          generalize wr = Wa at HWa hltw ⊢
          go_loopw [64] (fun v W => ∃ a : Nat, a ≤ p.S.length ∧ v = .int .i64 a ∧ Below Wa.heap.size Wa W ∧ Hid (∀ j (hj : j < p.S.length), j < a → (p.F.any fun f => decide (f.1 = p.S[j])) = true)) (fun v _ => p.S.length - (intOf v).toNat)
          case atStart => exact ⟨0, Nat.zero_le _, rfl, Below.refl _ _, fun j _ h => absurd h (Nat.not_lt_zero _)⟩
          case round =>
            obtain ⟨a, ha, rfl, hV, HJ⟩ := hrel
            have hWV := HWa.out.trans (hV.mono HWa.out.size)
            by_cases hal : a < p.S.length
            · obtain ⟨sb, so, rfl, s0⟩ := ss_at (HSs.out.on hWV) a hal
              have q12 := (B1.out.on hWV).c12
              have hltv : w.heap.size < wr.heap.size := Nat.lt_of_lt_of_le hltw hV.size
              have HNo : Hid ((p.F.any fun f => decide (f.1 = p.S[a])) = false → r = false) := fun hh => by rw [HR3.out, stg_no hal hh]
              have HYes : Hid ((p.F.any fun f => decide (f.1 = p.S[a])) = true → ∀ j (hj : j < p.S.length), j < a + 1 → (p.F.any fun f => decide (f.1 = p.S[j])) = true) := fun h1 j hj hjl => by
                by_cases e : j = a
                · subst e; exact h1
                · exact HJ.out j hj (by omega)
              generalize p.S[a] = s at s0 HNo HYes
              have HVb := Lib.hid hV
              have HWb := Lib.hid hWV
              clear HJ hV hWV
              go_wp2_with fail
              generalize wr = Wb at HVb HWb hltv ⊢
              go_loopw [9, 71] (fun ov kv W => ∃ m : Nat, m ≤ p.F.length ∧ kv = .int .i64 m ∧ ov = .bool ((p.F.take m).any fun f => decide (f.1 = s)) ∧ Below Wb.heap.size Wb W) (fun _ kv _ => p.F.length - (intOf kv).toNat)
              case atStart => exact ⟨0, Nat.zero_le _, rfl, by simp, Below.refl _ _⟩
              case round =>
                obtain ⟨m, hm, rfl, rfl, hU⟩ := hrel
                have hWU := HWb.out.trans (hU.mono HWb.out.size)
                by_cases hml : m < p.F.length
                · obtain ⟨gb, go, rfl, g0, g1⟩ := fs_at (HFs.out.on hWU) m hml
                  have HUp := Lib.hid (any_up p.F s m hml)
                  generalize p.F[m] = g at g0 g1 HUp
                  have hb3 := bA1 wr (flo g)
                  have HU3 := Lib.hid (hU.trans (hb3.mono hU.size))
                  generalize ((p.F.take m).any fun f => decide (f.1 = s)) = y at HUp ⊢
                  clear hb3
                  cases y with
                  | true =>
                    have HUp2 : Hid (((p.F.take (m + 1)).any fun f => decide (f.1 = s)) = true) := HUp
                    clear HUp
                    go_wp2_with fail
                    exact ⟨⟨m + 1, hml, by go_num, by rw [HUp2.out], HU3.out⟩, by simp [intOf]; omega⟩
                  | false =>
                    have HUp2 : Hid (((p.F.take (m + 1)).any fun f => decide (f.1 = s)) = (g.1 == s)) := by show _ = _; rw [HUp.out, Bool.eq_iff_iff]; simp
                    clear HUp
                    go_wp2_with fail
                    exact ⟨⟨m + 1, hml, by go_num, by rw [HUp2.out], HU3.out⟩, by simp [intOf]; omega⟩
                · obtain rfl : m = p.F.length := by omega
                  rw [List.take_length]
                  generalize hy : (p.F.any fun f => decide (f.1 = s)) = y at HNo HYes ⊢
                  clear hy
                  have HV4 := Lib.hid (HVb.out.trans (hU.mono HVb.out.size))
                  cases y with
                  | true =>
                    have HN := Lib.hid (HYes.out rfl)
                    clear HNo HYes
                    go_wp2_with fail
                    exact ⟨⟨a + 1, hal, by go_num, HV4.out, HN⟩, by simp [intOf]; omega⟩
                  | false =>
                    have hr0 : r = false := HNo.out rfl
                    subst hr0
                    have hfin := bon k1 hWU
                    clear HNo HYes
                    go_wp2_with fail
                    go_ret
                    exact ⟨rfl, hfin⟩
            · have hr0 : r = true := by rw [HR3.out]; exact stg_yes fun j hj => HJ.out j hj (by omega)
              subst hr0
              have hfin := bon k1 hWV
              go_wp2_with fail
              go_ret
              exact ⟨rfl, hfin⟩
    · have hr0 : r = false := by rw [HR2.out]; unfold fk; rw [decide_eq_false hn]; rfl
      subst hr0
      go_wp2_with fail
      go_ret
      exact ⟨rfl, k1⟩
end Go.Proofs.YtmlmdncepgcimaaGreatDoor
namespace Go.Proofs.YtmlmdncepgcimaaGreatDoor
open Go.RowKit Go.Shelf Go.Sort

set_option maxHeartbeats 800000 in
theorem bd_len (B b : Nat) (l : List UInt8) (w : World) (h : Bd B b l w) : Calls Tryz.prog 99 #[.pointer (some ⟨b, 0, none⟩)] w fun e w' => e = .returned (.int .i64 l.length) ∧ w' = w := by
  have key : ∃ v : Value, w.cell? ⟨b, 1, none⟩ = some v ∧ ∃ A c, v = .slice A l.length c := by
    have at' : ∀ p, Lib.BuilderAt 122 5 B b p (Lib.byteCells l) w → ∃ v : Value, w.cell? ⟨b, 1, none⟩ = some v ∧ ∃ A c, v = .slice A l.length c := by
      rintro p ⟨hB, v, hb, hown, hne⟩
      refine ⟨v, by simp [World.cell?, hb], ?_⟩
      have hl : (Lib.byteCells l).length = l.length := by simp [Lib.byteCells]
      rcases Go.Joins.ownsRow_forms hown with ⟨h1, h2⟩ | ⟨g, cap, h1⟩
      · exact ⟨none, 0, by rw [h1, show l.length = 0 from by omega]⟩
      · exact ⟨_, cap, by rw [h1, hl]⟩
    rcases h.is with h | h
    · exact at' _ h
    · exact at' _ h
  obtain ⟨v, c1, A, c, rfl⟩ := key
  clear h
  go_enter Tryz.func99, Tryz.ntmps99
  go_wp2
  go_ret
  exact ⟨rfl, rfl⟩
theorem itoa_len (n : Nat) (hn : n ≤ 1000000) : (Lib.itoa n).length ≤ 21 := Lib.itoa_length_le n (by omega) (by omega)
theorem itoa_any (n : Nat) (hn : n ≤ 1000000) (w : World) (hT : Tab w) : Calls Tryz.prog 94 #[.int .i64 n] w fun e w' => e = .returned (.string ⟨(Lib.itoa n).toArray⟩) ∧ Below w.heap.size w w' := by
  refine (Tryz.strconv_Itoa n (by omega) (by omega) w hT).mono ?_
  rintro e w' ⟨rfl, k, os, rfl⟩
  exact ⟨rfl, Lib.below_grow _ _ (Nat.le_refl _) k os⟩
/-- A block of a file, and a builder beside it. -/
structure Wf (w0 : World) (B b tb : Nat) (p d : List UInt8) (l : List UInt8) (W : World) : Prop where
  bd : Bd B b l W
  t : W.heap[tb]? = some (.cells #[.string ⟨p.toArray⟩, .string ⟨d.toArray⟩] 61 (0, 0))
  b : Below w0.heap.size w0 W
theorem Wf.step {w0 : World} {B b tb : Nat} {p d l l' : List UInt8} {W W' : World} (h : Wf w0 B b tb p d l W) (hne : tb ≠ b) (hB : w0.heap.size ≤ B) (h1 : Bd B b l' W') (h2 : Below B W W') (h3 : Lib.OthersKept 5 (some b) W W') : Wf w0 B b tb p d l' W' :=
  ⟨h1, ok_cell h3 h.t hne (by decide), h.b.trans (h2.mono hB)⟩
theorem Wf.on {w0 : World} {B b tb : Nat} {p d l : List UInt8} {W W' : World} (h : Wf w0 B b tb p d l W) (k : Below W.heap.size W W') : Wf w0 B b tb p d l W' :=
  ⟨h.bd.on k, (k.block tb (Array.getElem?_eq_some_iff.1 h.t).1).trans h.t, bt2 h.b k⟩
theorem Wf.c {w0 : World} {B b tb : Nat} {p d l : List UInt8} {W : World} (h : Wf w0 B b tb p d l W) : W.cell? ⟨tb, 0, none⟩ = some (.string ⟨p.toArray⟩) ∧ W.cell? ⟨tb, 1, none⟩ = some (.string ⟨d.toArray⟩) :=
  ⟨by simp [World.cell?, h.t], by simp [World.cell?, h.t]⟩
set_option maxHeartbeats 3200000 in
set_option maxRecDepth 100000 in
theorem wfile_any (B b : Nat) (p d l : List UInt8) (w0 w : World) (h : Bd B b l w) (hb : b < w.heap.size) (h0 : Below w0.heap.size w0 w) (hB : w0.heap.size ≤ B) (hl : l.length ≤ 500000) (hp : p.length ≤ 1000) (hd : d.length ≤ 4000) (hT : Tab w0) :
    Calls Tryz.prog 98 #[.pointer (some ⟨b, 0, none⟩), .agg #[.string ⟨p.toArray⟩, .string ⟨d.toArray⟩]] w fun e w' => e = .returned (.tuple #[]) ∧ Bd B b (l ++ fln (p, d)) w' ∧ Below B w w' ∧ Lib.OthersKept 5 (some b) w w' := by
  have hw : Wf w0 B b w.heap.size p d l (w.alloc (.cells #[.string ⟨p.toArray⟩, .string ⟨d.toArray⟩] 61)) := ⟨h.on (bA1 _ _), World.alloc_heap_new w _, bt2 h0 (bA1 _ _)⟩
  have hle := h.le
  obtain ⟨li, hli⟩ : ∃ li : List UInt8, li = Lib.itoa (d.length : Int) := ⟨_, rfl⟩
  have HW : Hid (fln (p, d) = p ++ [32] ++ li ++ [10] ++ d ++ [10]) := by show fln (p, d) = _; unfold fln; rw [hli]
  have hll : li.length ≤ 21 := by rw [hli]; exact itoa_len d.length (by omega)
  have cI : ∀ W, Below w0.heap.size w0 W → Calls Tryz.prog 94 #[.int .i64 d.length] W fun x w' => x = .returned (.string ⟨li.toArray⟩) ∧ Below W.heap.size W w' := fun W hW => by rw [hli]; exact itoa_any d.length (by omega) W (tab_on hT hW)
  have c1 := fun W (h : Bd B b l W) => bd_str B b l p W h (by omega) (by omega)
  have c2 := fun W (h : Bd B b (l ++ p) W) => bd_byte B b (l ++ p) 32 W h (by simp; omega)
  have c3 := fun W (h : Bd B b (l ++ p ++ [32]) W) => bd_str B b (l ++ p ++ [32]) li W h (by simp; omega) (by omega)
  have c4 := fun W (h : Bd B b (l ++ p ++ [32] ++ li) W) => bd_byte B b (l ++ p ++ [32] ++ li) 10 W h (by simp; omega)
  have c5' := fun W (h : Bd B b (l ++ p ++ [32] ++ li ++ [10]) W) => bd_str B b (l ++ p ++ [32] ++ li ++ [10]) d W h (by simp; omega) (by omega)
  have c6 := fun W (h : Bd B b (l ++ p ++ [32] ++ li ++ [10] ++ d) W) => bd_byte B b (l ++ p ++ [32] ++ li ++ [10] ++ d) 10 W h (by simp; omega)
  have hne : w.heap.size ≠ b := by omega
  clear h hT hli
  go_enter Tryz.func98, Tryz.ntmps98
  go_wp2_with fail
  refine (c1 _ hw.bd).mono ?_
  rintro x w1 ⟨rfl, d1, b1, k1⟩
  have hw1 := hw.step hne hB d1 b1 k1
  go_wp2_with fail
  refine (c2 _ d1).mono ?_
  rintro x w2 ⟨rfl, d2, b2, k2⟩
  have hw2 := hw1.step hne hB d2 b2 k2
  obtain ⟨t0, t1⟩ := hw2.c
  go_wp2_with fail
  refine (cI _ hw2.b).mono ?_
  rintro x w3 ⟨rfl, b3⟩
  have hw3 := hw2.on b3
  clear t0 t1
  go_wp2_with fail
  refine (c3 _ hw3.bd).mono ?_
  rintro x w4 ⟨rfl, d4, b4, k4⟩
  have hw4 := hw3.step hne hB d4 b4 k4
  go_wp2_with fail
  refine (c4 _ d4).mono ?_
  rintro x w5 ⟨rfl, d5, b5, k5⟩
  have hw5 := hw4.step hne hB d5 b5 k5
  obtain ⟨t0, t1⟩ := hw5.c
  go_wp2_with fail
  refine (c5' _ d5).mono ?_
  rintro x w6 ⟨rfl, d6, b6, k6⟩
  have hw6 := hw5.step hne hB d6 b6 k6
  clear t0 t1
  go_wp2_with fail
  refine (c6 _ d6).mono ?_
  rintro x w7 ⟨rfl, d7, b7, k7⟩
  have e1 : Below B w w7 := (((((((Below.refl _ w).alloc hle _).trans b1).trans b2).trans (b3.mono hw2.bd.le)).trans b4).trans b5).trans (b6.trans b7)
  have e2 : Lib.OthersKept 5 (some b) w w7 := ok_trans (ok_trans (ok_trans (ok_trans (ok_trans (ok_trans (ok_trans (ok_below (bA1 _ _)) k1) k2) (ok_below b3)) k4) k5) k6) k7
  go_wp2
  go_end0
  exact ⟨rfl, by rw [HW.out]; simpa [List.append_assoc] using d7, e1, e2⟩
end Go.Proofs.YtmlmdncepgcimaaGreatDoor
namespace Go.Proofs.YtmlmdncepgcimaaGreatDoor
open Go.RowKit Go.Shelf Go.Sort

/-- A package's bytes. -/
def atx (p : Pck) : List UInt8 := Stz.Sm.txt (flds p) ++ [10] ++ p.F.flatMap fln
def wc (p : Pck) : Int := if aok p = true then (if Stz.Sm.rgt (flds p) = true then (if (atx p).length ≤ 4000 then 0 else 4) else 4) else 1
def wx (p : Pck) : List UInt8 := if wc p = 0 then atx p else []
def we (p : Pck) : Value := if wc p = 0 then .nilIface else .iface 32 (.int .i64 (wc p))
theorem aok_rok {p : Pck} (h : aok p = true) : rok p = true := by unfold aok at h; rw [Bool.and_eq_true] at h; exact h.1
theorem fln_le (f : Fl2) (h : f.1.length ≤ 100 ∧ f.2.length ≤ 500) : (fln f).length ≤ 700 := by
  have h1 := itoa_len f.2.length (by omega)
  unfold fln
  simp only [List.length_append, List.length_cons, List.length_nil]
  omega
theorem flns_le : ∀ (l : List Fl2), (∀ f ∈ l, f.1.length ≤ 100 ∧ f.2.length ≤ 500) → (l.flatMap fln).length ≤ l.length * 700
  | [], _ => by simp
  | f :: l, h => by
    have h1 := fln_le f (h f (List.mem_cons_self ..))
    have h2 := flns_le l fun g hg => h g (List.mem_cons_of_mem _ hg)
    rw [List.flatMap_cons, List.length_append, List.length_cons]
    omega
theorem flns_succ (l : List Fl2) (i : Nat) (h : i < l.length) : (l.take (i + 1)).flatMap fln = (l.take i).flatMap fln ++ fln l[i] := by
  rw [List.take_succ_eq_append_getElem h, List.flatMap_append]; simp only [List.flatMap_cons, List.flatMap_nil, List.append_nil]
theorem flns_small (l : List Fl2) (h : l.length ≤ 30) (hs : ∀ f ∈ l, f.1.length ≤ 100 ∧ f.2.length ≤ 500) (i : Nat) : ((l.take i).flatMap fln).length ≤ 21000 := by
  have h1 := flns_le (l.take i) fun f hf => hs f (List.mem_of_mem_take hf)
  have h2 : (l.take i).length ≤ 30 := by simp; omega
  omega

set_option maxHeartbeats 3200000 in
set_option maxRecDepth 100000 in
theorem awrite_no (p : Pck) (vD vA vG vB vR vP vS vL vF : Value) (w : World) (hz : Pz w p vD vA vG vB vR vP vS vL vF) (hp : Pg p) (hk : aok p = false) (hT : Tab w) (hM : MaxN w) : Calls Tryz.prog 27 #[pkv p.o.n p.o.e p.o.u p.o.r vD vA vG vB vR vP vS vL vF] w fun x w' => x = .returned (.tuple #[.string ⟨#[]⟩, .iface 32 (.int .i64 1)]) ∧ Below w.heap.size w w' := by
  have c0 := b1c w (pko p.o.n p.o.e p.o.u p.o.r vD vA vG vB vR vP vS vL vF)
  have cR := aright_any p vD vA vG vB vR vP vS vL vF _ (hz.on c0) hp (tab_on hT c0) (hM.on c0)
  rw [hk] at cR
  obtain ⟨F1, F2, hvF⟩ := fs_sl hz.F
  obtain ⟨S1, S2, hvS⟩ := ss_sl hz.S
  obtain ⟨D1, D2, hvD⟩ := as_sl hz.D
  obtain ⟨A1, A2, hvA⟩ := as_sl hz.A
  obtain ⟨G1, G2, hvG⟩ := ts_sl hz.G
  obtain ⟨Q1, Q2, hvB⟩ := ts_sl hz.B
  obtain ⟨R1, R2, hvR⟩ := ts_sl hz.R
  obtain ⟨P1, P2, hvP⟩ := ts_sl hz.P
  obtain ⟨L1, L2, hvL⟩ := ss_sl hz.L
  subst hvF hvS hvD hvA hvG hvB hvR hvP hvL
  clear hz hp hT hM hk
  go_enter Tryz.func27, Tryz.ntmps27
  go_wp2_with fail
  refine cR.mono ?_
  rintro x w1 ⟨rfl, b1⟩
  go_wp2
  go_ret2
  exact ⟨rfl, bon c0 b1⟩

set_option maxHeartbeats 6400000 in
set_option maxRecDepth 100000 in
theorem awrite_yes (p : Pck) (vD vA vG vB vR vP vS vL vF : Value) (w : World) (hz : Pz w p vD vA vG vB vR vP vS vL vF) (hp : Pg p) (hk : aok p = true) (hG : Sg w) (hT : Tab w) (hM : MaxN w) : Calls Tryz.prog 27 #[pkv p.o.n p.o.e p.o.u p.o.r vD vA vG vB vR vP vS vL vF] w fun x w' => x = .returned (.tuple #[.string ⟨(wx p).toArray⟩, we p]) ∧ Below w.heap.size w w' := by
  have c0 := b1c w (pko p.o.n p.o.e p.o.u p.o.r vD vA vG vB vR vP vS vL vF)
  have B0 := Lib.hid (pb_new w p vD vA vG vB vR vP vS vL vF)
  have cR := aright_any p vD vA vG vB vR vP vS vL vF _ (hz.on c0) hp (tab_on hT c0) (hM.on c0)
  rw [hk] at cR
  have HZ := Lib.hid hz
  have HP := Lib.hid hp
  have HM := Lib.hid hM
  have HT := Lib.hid hT
  have HG := Lib.hid hG
  have hfl := fls_p hp.F
  have hF30 := hfl.1
  have HFL := Lib.hid hfl.2
  have hro := aok_rok hk
  obtain ⟨F1, F2, hvF⟩ := fs_sl hz.F
  obtain ⟨S1, S2, hvS⟩ := ss_sl hz.S
  obtain ⟨D1, D2, hvD⟩ := as_sl hz.D
  obtain ⟨A1, A2, hvA⟩ := as_sl hz.A
  obtain ⟨G1, G2, hvG⟩ := ts_sl hz.G
  obtain ⟨Q1, Q2, hvB⟩ := ts_sl hz.B
  obtain ⟨R1, R2, hvR⟩ := ts_sl hz.R
  obtain ⟨P1, P2, hvP⟩ := ts_sl hz.P
  obtain ⟨L1, L2, hvL⟩ := ss_sl hz.L
  subst hvF hvS hvD hvA hvG hvB hvR hvP hvL
  clear hz hp hT hM hG hfl
  go_enter Tryz.func27, Tryz.ntmps27
  go_wp2_with fail
  refine cR.mono ?_
  rintro x w1 ⟨rfl, b1⟩
  have k1 := bon c0 b1
  have B1 := Lib.hid (B0.out.on b1)
  have q0 := B1.out.c0
  have q1 := B1.out.c1
  have q2 := B1.out.c2
  have q3 := B1.out.c3
  have q4 := B1.out.c4
  have q5 := B1.out.c5
  have q6 := B1.out.c6
  have q7 := B1.out.c7
  have q8 := B1.out.c8
  have q9 := B1.out.c9
  have q10 := B1.out.c10
  have q11 := B1.out.c11
  have q12 := B1.out.c12
  have hlt1 : w.heap.size < w1.heap.size := block_lt_of_cell q12
  have cF := rf_any p _ _ _ _ _ _ _ _ _ w1 (HZ.out.on k1) HP.out (HG.out.on k1) (tab_on HT.out k1) (HM.out.on k1)
  clear cR B0 b1 c0
  go_wp2_with fail
  refine cF.mono ?_
  rintro x w2 ⟨⟨A, c, rfl, hS2⟩, b2⟩
  have k2 := bon k1 b2
  have B2 := Lib.hid (B1.out.on b2)
  clear q0 q1 q2 q3 q4 q5 q6 q7 q8 q9 q10 q11 q12 cF B1 b2 k1 hlt1
  have HX : Hid (wc p = if Stz.Sm.rgt (flds p) = true then (if (atx p).length ≤ 4000 then 0 else 4) else 4) := by show _ = _; unfold wc; rw [hk]; rfl
  have hel : el p = if Stz.Sm.rgt (flds p) = true then flds p else [] := by unfold el; rw [hro]; rfl
  have hec : ec p = if Stz.Sm.rgt (flds p) = true then 0 else 4 := by unfold ec; rw [hro]; rfl
  have HSZ := Lib.hid (sz_flds (rk_of hro) HP.out)
  have hlt2 : w.heap.size < w2.heap.size := block_lt_of_cell B2.out.c12
  cases hrg : Stz.Sm.rgt (flds p) with
  | false =>
    rw [hrg] at hel hec HX
    have her : er p = .iface 32 (.int .i64 4) := by unfold er; rw [hec]; rfl
    have hwc : wc p = 4 := HX.out
    have hwx : wx p = [] := by unfold wx; rw [hwc]; rfl
    have hwe : we p = .iface 32 (.int .i64 4) := by unfold we; rw [hwc]; rfl
    rw [her]
    clear HX hel hec her hwc hS2 HSZ hk hro hrg
    go_wp2_with fail
    go_ret2
    exact ⟨by rw [hwx, hwe]; rfl, k2⟩
  | true =>
    rw [hrg] at hel hec HX
    have hel2 : el p = flds p := hel
    have her : er p = .nilIface := by unfold er; rw [hec]; rfl
    have hwc : wc p = if (atx p).length ≤ 4000 then 0 else 4 := HX.out
    rw [hel2] at hS2 ⊢
    rw [her]
    have cP := Stz.print_any _ (flds p) w2 hS2 HSZ.out
    rw [show Stz.prVal (flds p) (.iface 32 (.int .i64 1)) .nilIface = .tuple #[.string ⟨(Stz.Sm.txt (flds p)).toArray⟩, .nilIface] from by unfold Stz.prVal; rw [hrg]; rfl] at cP
    have htl : (Stz.Sm.txt (flds p)).length ≤ 4000 := by
      have := hrg
      rw [Stz.rgt_eq, Bool.and_eq_true, decide_eq_true_eq] at this
      exact this.2
    have HAT : Hid (atx p = Stz.Sm.txt (flds p) ++ [10] ++ p.F.flatMap fln) := by show _ = _; rfl
    have HWC := Lib.hid hwc
    clear HX hel hec hel2 her hk hro hrg HSZ hwc hS2
    generalize hfl : (flds p).length = nfl
    generalize Stz.Sm.txt (flds p) = tx at cP htl HAT
    rw [hfl] at cP
    clear hfl
    go_wp2_with fail
    refine cP.mono ?_
    rintro x w3 ⟨rfl, b3⟩
    have k3 := bon k2 b3
    have B3 := Lib.hid (B2.out.on b3)
    have d0 : Bd w3.heap.size w3.heap.size [] (w3.alloc (.cells #[.pointer none, .slice none 0 0] 122)) := ⟨Lib.fresh_isBuilder 122 5 w3, by simp⟩
    have bw0 := bA1 w3 (.cells #[.pointer none, .slice none 0 0] 122)
    have hlt3 : w.heap.size < w3.heap.size := Nat.lt_of_lt_of_le hlt2 b3.size
    have cH := bd_str w3.heap.size w3.heap.size [] tx _ d0 (by simp) (by omega)
    clear cP B2 b3 k2 hlt2
    go_wp2_with fail
    refine cH.mono ?_
    rintro x w4 ⟨rfl, d4, b4, _⟩
    rw [List.nil_append] at d4
    have hb4 := bw0.trans b4
    have hz4 : w3.heap.size < w4.heap.size := Nat.lt_of_lt_of_le (by simp) b4.size
    have cN := bd_byte w3.heap.size w3.heap.size tx 10 w4 d4 (by omega)
    clear cH b4 bw0 d0
    go_wp2_with fail
    refine cN.mono ?_
    rintro x w5 ⟨rfl, d5, b5, _⟩
    have hb5 := hb4.trans b5
    have hz5 : w3.heap.size < w5.heap.size := Nat.lt_of_lt_of_le hz4 b5.size
    have q12 := (B3.out.on hb5).c12
    have hlt5 : w.heap.size < w5.heap.size := block_lt_of_cell q12
    have htn : (tx ++ [10]).length ≤ 4001 := by simp; omega
    obtain ⟨T, hTT⟩ : ∃ T, T = tx ++ [10] := ⟨_, rfl⟩
    rw [← hTT] at d5 htn HAT
    clear hTT cN b5 hb4 hz4 d4
    have HFs := Lib.hid (HZ.out.F.on k3)
    have HBs := Lib.hid hb5
    have hfn : ∀ i, ((p.F.take i).flatMap fln).length ≤ 21000 := flns_small p.F hF30 HFL.out
    have HFN := Lib.hid hfn
    clear hfn
    go_wp2_with fail
    go_loopw [34] (fun v W => ∃ i : Nat, i ≤ p.F.length ∧ v = .int .i64 i ∧ Below w3.heap.size w3 W ∧ Bd w3.heap.size w3.heap.size (T ++ (p.F.take i).flatMap fln) W ∧ w3.heap.size < W.heap.size) (fun v _ => p.F.length - (intOf v).toNat)
    case atStart => exact ⟨0, Nat.zero_le _, rfl, HBs.out, by simpa using d5, hz5⟩
    case round =>
      clear d5 q12
      obtain ⟨i, hi, rfl, hb, hd, hz⟩ := hrel
      by_cases hlt : i < p.F.length
      · obtain ⟨bb, o, c', hv, _, hFr⟩ : ∃ bb o c', Value.slice F1 p.F.length F2 = .slice (some ⟨bb, o, none⟩) p.F.length c' ∧ p.F.length ≤ c' ∧ Fr w3 bb o p.F := by
          rcases HFs.out.is with ⟨h0, _⟩ | h
          · rw [h0] at hlt; exact absurd hlt (Nat.not_lt_zero _)
          · exact h
        cases hv
        have hT := hFr.on hb
        have c0 := hT.c0 i hlt
        have c1 := hT.c1 i hlt
        have hfs := HFL.out p.F[i] (List.getElem_mem hlt)
        have HNx := Lib.hid (flns_succ p.F i hlt)
        have hsm := HFN.out i
        obtain ⟨U, hU⟩ : ∃ U, U = T ++ (p.F.take i).flatMap fln := ⟨_, rfl⟩
        have hUl : U.length ≤ 30000 := by rw [hU, List.length_append]; omega
        have HN2 : Hid (T ++ (p.F.take (i + 1)).flatMap fln = U ++ fln p.F[i]) := by show _ = _; rw [HNx.out, hU]; simp [List.append_assoc]
        rw [← hU] at hd
        generalize p.F[i] = f at c0 c1 hfs HN2
        obtain ⟨fp, fd⟩ := f
        dsimp only at c0 c1 hfs
        have hb1 := bA1 wr (flo (fp, fd))
        have hd1 := hd.on hb1
        have hbN := hb.trans (hb1.mono hb.size)
        have hzN : w3.heap.size < (wr.alloc (flo (fp, fd))).heap.size := by simp; omega
        have cW := wfile_any w3.heap.size w3.heap.size fp fd U w3 _ hd1 hzN hbN (Nat.le_refl _) (by omega) (by omega) (by omega) (tab_on HT.out k3)
        have hfd : ¬ 4000 < fd.length := by omega
        clear hT hFr HNx hsm hU hd hb1 hd1
        go_wp2_with fail
        refine cW.mono ?_
        rintro x w6 ⟨rfl, hd6, b6, _⟩
        rw [← HN2.out] at hd6
        go_wp2_with fail
        exact ⟨⟨i + 1, hlt, by go_num, hbN.trans b6, hd6, Nat.lt_of_lt_of_le hzN b6.size⟩, by simp [intOf]; omega⟩
      · obtain rfl : i = p.F.length := by omega
        rw [List.take_of_length_le (Nat.le_refl _), ← HAT.out] at hd
        have hal : (atx p).length ≤ 30000 := by
          have := HFN.out p.F.length
          rw [List.take_of_length_le (Nat.le_refl _)] at this
          rw [HAT.out, List.length_append]; omega
        have cL := bd_len w3.heap.size w3.heap.size (atx p) wr hd
        have cG := Tryz.Builder_String_any w3.heap.size w3.heap.size _ _ hd.is hd.le
        have hkE := k3.trans (hb.mono k3.size)
        by_cases h4 : (atx p).length ≤ 4000
        · have hwc : wc p = 0 := by rw [HWC.out, if_pos h4]
          have hwx : wx p = atx p := by unfold wx; rw [if_pos hwc]
          have hwe : we p = .nilIface := by unfold we; rw [if_pos hwc]
          have h4' : ¬ (4000 : Int) < ((atx p).length : Int) := by omega
          clear HAT HWC hd hwc
          generalize atx p = at0 at *
          go_wp2_with fail
          refine cL.mono ?_
          rintro x w6 ⟨rfl, rfl⟩
          go_wp2_with fail
          refine cG.mono ?_
          rintro x w7 ⟨rfl, b7⟩
          go_wp2
          go_ret2
          exact ⟨by rw [hwx, hwe]; rfl, hkE.trans (b7.mono k3.size)⟩
        · have hwc : wc p = 4 := by rw [HWC.out, if_neg h4]
          have hwx : wx p = [] := by unfold wx; rw [hwc]; rfl
          have hwe : we p = .iface 32 (.int .i64 4) := by unfold we; rw [hwc]; rfl
          have h4' : (4000 : Int) < ((atx p).length : Int) := by omega
          clear HAT HWC hd hwc cG
          generalize atx p = at0 at *
          go_wp2_with fail
          refine cL.mono ?_
          rintro x w6 ⟨rfl, rfl⟩
          go_wp2
          go_ret2
          exact ⟨by rw [hwx, hwe]; rfl, hkE⟩
/-- What archive's Write answers. -/
theorem awrite_any (p : Pck) (vD vA vG vB vR vP vS vL vF : Value) (w : World) (hz : Pz w p vD vA vG vB vR vP vS vL vF) (hp : Pg p) (hG : Sg w) (hT : Tab w) (hM : MaxN w) : Calls Tryz.prog 27 #[pkv p.o.n p.o.e p.o.u p.o.r vD vA vG vB vR vP vS vL vF] w fun x w' => x = .returned (.tuple #[.string ⟨(wx p).toArray⟩, we p]) ∧ Below w.heap.size w w' := by
  cases hk : aok p with
  | false =>
    have hwc : wc p = 1 := by unfold wc; rw [hk]; rfl
    rw [show wx p = [] from by unfold wx; rw [hwc]; rfl, show we p = .iface 32 (.int .i64 1) from by unfold we; rw [hwc]; rfl]
    exact awrite_no p vD vA vG vB vR vP vS vL vF w hz hp hk hT hM
  | true => exact awrite_yes p vD vA vG vB vR vP vS vL vF w hz hp hk hG hT hM
end Go.Proofs.YtmlmdncepgcimaaGreatDoor
