/- Files of a package, and a package's bytes: mathematics. -/
import Derived.Test.YtlldfmnoidndmaaGreatDoorYd
namespace Go.Proofs.YtlldfmnoidndmaaGreatDoor

abbrev Fl2 := List UInt8 × List UInt8
/-- A path lies beneath another one. -/
def bnt (p a : List UInt8) : Bool := (a ++ [47]).isPrefixOf p
def csh (g f : List UInt8) : Bool := decide (g = f) || (bnt g f || bnt f g)
/-- A file may be behind those ahead of it. -/
def fki (F : List Fl2) (i : Nat) : Bool := pth (F.getD i ([], [])).1 && !((F.take i).any fun g => csh g.1 (F.getD i ([], [])).1)
def fk (F : List Fl2) : Bool := decide (F.length ≤ 20) && (List.range F.length).all (fki F)
def stg (F : List Fl2) (S : List (List UInt8)) : Bool := S.all fun s => F.any fun f => decide (f.1 = s)
theorem fki_at {F : List Fl2} {i : Nat} (h : i < F.length) : fki F i = (pth F[i].1 && !((F.take i).any fun g => csh g.1 F[i].1)) := by
  unfold fki; rw [List.getD_eq_getElem?_getD, List.getElem?_eq_getElem h]; rfl
theorem fk_no {F : List Fl2} {i : Nat} (h : i < F.length) (hn : fki F i = false) : fk F = false := by
  unfold fk
  rw [show (List.range F.length).all (fki F) = false from List.all_eq_false.2 ⟨i, List.mem_range.2 h, by rw [hn]; simp⟩, Bool.and_false]
theorem fk_yes {F : List Fl2} (h : ∀ i, i < F.length → fki F i = true) : fk F = decide (F.length ≤ 20) := by
  unfold fk
  rw [show (List.range F.length).all (fki F) = true from List.all_eq_true.2 fun i hi => h i (List.mem_range.1 hi), Bool.and_true]
/-- What the reference asks of two files. -/
def xki (F : List Fl2) (i k : Nat) : Bool := !decide (i = k) && (decide ((F.getD i ([], [])).1 = (F.getD k ([], [])).1) || bnt (F.getD k ([], [])).1 (F.getD i ([], [])).1)
theorem getD_at {F : List Fl2} {i : Nat} (h : i < F.length) : F.getD i ([], []) = F[i] := by
  rw [List.getD_eq_getElem?_getD, List.getElem?_eq_getElem h]; rfl
theorem xki_at {F : List Fl2} {i k : Nat} (h : i < F.length) (hk : k < F.length) : xki F i k = (!decide (i = k) && (decide (F[i].1 = F[k].1) || bnt F[k].1 F[i].1)) := by
  unfold xki; rw [getD_at h, getD_at hk]
theorem fk_bad {F : List Fl2} {i k : Nat} (h : i < F.length) (hk : k < F.length) (hx : xki F i k = true) : fk F = false := by
  rw [xki_at h hk] at hx
  simp only [Bool.and_eq_true, Bool.not_eq_true', decide_eq_false_iff_not, Bool.or_eq_true, decide_eq_true_eq] at hx
  obtain ⟨hne, hx⟩ := hx
  have key : ∀ a b (ha : a < F.length) (hb : b < F.length), a < b → csh F[a].1 F[b].1 = true → fk F = false := fun a b ha hb hab hc => by
    refine fk_no hb ?_
    rw [fki_at hb, show ((F.take b).any fun g => csh g.1 F[b].1) = true from List.any_eq_true.2 ⟨F[a], ?_, hc⟩]
    · simp
    · rw [List.mem_take_iff_getElem]; exact ⟨a, by omega, rfl⟩
  rcases Nat.lt_or_gt_of_ne hne with hlt | hlt
  · refine key i k h hk hlt ?_
    unfold csh
    rcases hx with hx | hx
    · simp [hx]
    · simp [hx]
  · refine key k i hk h hlt ?_
    unfold csh
    rcases hx with hx | hx
    · simp [hx]
    · simp [hx]
theorem fk_good {F : List Fl2} (hp : ∀ i (h : i < F.length), pth F[i].1 = true) (hx : ∀ i k, i < F.length → k < F.length → xki F i k = false) : fk F = decide (F.length ≤ 20) := by
  refine fk_yes fun i hi => ?_
  rw [fki_at hi, hp i hi, show ((F.take i).any fun g => csh g.1 F[i].1) = false from ?_]
  · rfl
  · rw [List.any_eq_false]
    intro g hg
    obtain ⟨j, hj, rfl⟩ := List.mem_take_iff_getElem.1 hg
    have hj1 : j < i := by omega
    have hj2 : j < F.length := by omega
    have h1 := hx j i hj2 hi
    have h2 := hx i j hi hj2
    rw [xki_at hj2 hi, show decide (j = i) = false from decide_eq_false (by omega), Bool.not_false, Bool.true_and, Bool.or_eq_false_iff] at h1
    rw [xki_at hi hj2, show decide (i = j) = false from decide_eq_false (by omega), Bool.not_false, Bool.true_and, Bool.or_eq_false_iff] at h2
    unfold csh
    rw [h1.1, h1.2, h2.2]; simp
theorem fk_path {F : List Fl2} {i : Nat} (h : i < F.length) (hp : pth F[i].1 = false) : fk F = false := by
  refine fk_no h ?_; rw [fki_at h, hp]; rfl
theorem stg_no {F : List Fl2} {S : List (List UInt8)} {i : Nat} (h : i < S.length) (hn : (F.any fun f => decide (f.1 = S[i])) = false) : stg F S = false := by
  unfold stg; exact List.all_eq_false.2 ⟨S[i], List.getElem_mem h, by rw [hn]; simp⟩
theorem stg_yes {F : List Fl2} {S : List (List UInt8)} (h : ∀ i (hi : i < S.length), (F.any fun f => decide (f.1 = S[i])) = true) : stg F S = true := by
  unfold stg; rw [List.all_eq_true]; intro s hs; obtain ⟨j, hj, rfl⟩ := List.getElem_of_mem hs; exact h j hj
theorem fk_len {F : List Fl2} (h : fk F = true) : F.length ≤ 20 := by
  unfold fk at h; simp only [Bool.and_eq_true, decide_eq_true_eq] at h; exact h.1
theorem fk_pth {F : List Fl2} (h : fk F = true) : ∀ f ∈ F, pth f.1 = true := fun f hf => by
  obtain ⟨j, hj, rfl⟩ := List.getElem_of_mem hf
  unfold fk at h
  simp only [Bool.and_eq_true, decide_eq_true_eq, List.all_eq_true, List.mem_range] at h
  have := h.2 j hj
  rw [fki_at hj, Bool.and_eq_true] at this
  exact this.1
/-- A file's bytes. -/
def fln (f : Fl2) : List UInt8 := f.1 ++ [32] ++ Lib.itoa f.2.length ++ [10] ++ f.2 ++ [10]
end Go.Proofs.YtlldfmnoidndmaaGreatDoor
namespace Go.Proofs.YtlldfmnoidndmaaGreatDoor
open Go.RowKit Go.Shelf Go.Sort

theorem beneath_any (p a : List UInt8) (w : World) (_hp : p.length ≤ 1000) (ha : a.length ≤ 1000) : Calls Tryz.prog 133 #[.string ⟨p.toArray⟩, .string ⟨a.toArray⟩] w fun e w' => e = .returned (.bool (bnt p a)) ∧ w' = w := by
  go_enter Tryz.func133, Tryz.ntmps133
  go_wp2_with fail
  refine (Tryz.strings_HasPrefix _ _ _).mono ?_
  rintro e w' ⟨rfl, rfl⟩
  go_wp2
  go_ret
  exact ⟨ret_bool (by unfold bnt Lib.hasPrefix; simp), rfl⟩

abbrev flv (f : Fl2) : Value := .agg #[.string ⟨f.1.toArray⟩, .string ⟨f.2.toArray⟩]
abbrev flo (f : Fl2) : Obj := .cells #[.string ⟨f.1.toArray⟩, .string ⟨f.2.toArray⟩] 73

set_option maxHeartbeats 1600000 in
set_option maxRecDepth 100000 in
theorem idxF154_row (bb : Nat) (b o c : Nat) (l : List Fl2) (q : Fl2 → Bool) (w : World) (h : Fr w b o l) (hn : l.length ≤ 1000000) (hq : ∀ i (hi : i < l.length) W, Below w.heap.size w W → Calls Tryz.prog 132 #[flv l[i], .pointer (some ⟨bb, 0, none⟩)] W fun e w' => e = .returned (.bool (q l[i])) ∧ Below W.heap.size W w') :
    Calls Tryz.prog 134 #[.slice (some ⟨b, o, none⟩) l.length c, .func (Fn.func 132) #[] #[.pointer (some ⟨bb, 0, none⟩)]] w fun e w' => e = .returned (.int .i64 (fx (l.findIdx? q))) ∧ Below w.heap.size w w' := by
  obtain ⟨r, hr⟩ : ∃ r, r = fx (l.findIdx? q) := ⟨_, rfl⟩
  have HR := Lib.hid hr
  rw [← hr]
  clear hr
  have HQ := Lib.hid hq
  have HF := Lib.hid h
  clear hq h
  go_enter Tryz.func134, Tryz.ntmps134
  go_wp2
  go_loopw [8] (fun i W => ∃ k : Nat, k ≤ l.length ∧ i = .int .i64 k ∧ Below w.heap.size w W ∧ Hid (∀ j (hj : j < l.length), j < k → q l[j] = false)) (fun i _ => l.length - (intOf i).toNat)
  case atStart => exact ⟨0, Nat.zero_le _, rfl, Below.refl _ _, fun j _ h => absurd h (Nat.not_lt_zero _)⟩
  case round =>
    obtain ⟨k, hk, rfl, hW, HP⟩ := hrel
    by_cases hlt : k < l.length
    · have hT := HF.out.on hW
      have c0 := hT.c0 k hlt
      have c1 := hT.c1 k hlt
      have cC := HQ.out k hlt wr hW
      clear hT
      cases hq : q l[k] with
      | true =>
        rw [hq] at cC
        have HG : Hid (r = k) := by show r = _; rw [HR.out, fi_yes k hlt hq (fun j hj h => HP.out j hj h)]; rfl
        go_wp2_with fail
        refine cC.mono ?_
        rintro e w1 ⟨rfl, b1⟩
        go_wp2_with fail
        go_ret
        exact ⟨reti HG.out.symm, bon hW b1⟩
      | false =>
        rw [hq] at cC
        have HN : Hid (∀ j (hj : j < l.length), j < k + 1 → q l[j] = false) := fun j hj h => by
          by_cases e : j = k
          · subst e; exact hq
          · exact HP.out j hj (by omega)
        go_wp2_with fail
        refine cC.mono ?_
        rintro e w1 ⟨rfl, b1⟩
        go_wp2_with fail
        exact ⟨⟨k + 1, hlt, by go_num, bon hW b1, HN⟩, by simp [intOf]; omega⟩
    · go_wp2
      go_ret
      exact ⟨reti (by rw [HR.out, fi_no (fun j hj => HP.out j hj (by omega))]; rfl), hW⟩
theorem idxF154_nil (bb : Nat) (A : Option Addr) (c : Nat) (w : World) : Calls Tryz.prog 134 #[.slice A 0 c, .func (Fn.func 132) #[] #[.pointer (some ⟨bb, 0, none⟩)]] w fun e w' => e = .returned (.int .i64 (-1)) ∧ w' = w := by
  go_enter Tryz.func134, Tryz.ntmps134
  go_wp2
  refine wp_loop_rounds 1 ?_
  rw [rounds_succ]
  go_wp2
  go_ret
  exact ⟨rfl, rfl⟩
theorem idxF154_any (bb : Nat) (v : Value) (l : List Fl2) (q : Fl2 → Bool) (w : World) (h : Fs w v l) (hn : l.length ≤ 1000000) (hq : ∀ i (hi : i < l.length) W, Below w.heap.size w W → Calls Tryz.prog 132 #[flv l[i], .pointer (some ⟨bb, 0, none⟩)] W fun e w' => e = .returned (.bool (q l[i])) ∧ Below W.heap.size W w') :
    Calls Tryz.prog 134 #[v, .func (Fn.func 132) #[] #[.pointer (some ⟨bb, 0, none⟩)]] w fun e w' => e = .returned (.int .i64 (fx (l.findIdx? q))) ∧ Below w.heap.size w w' := by
  rcases h.is with ⟨rfl, A, c, rfl⟩ | ⟨b, o, c, rfl, hc, hf⟩
  · exact (idxF154_nil bb A c w).mono fun x w' ⟨h1, h2⟩ => ⟨h1, by rw [h2]; exact Below.refl _ _⟩
  · exact idxF154_row bb b o c l q w hf hn hq
theorem conF154_any (bb : Nat) (v : Value) (l : List Fl2) (q : Fl2 → Bool) (w : World) (h : Fs w v l) (hn : l.length ≤ 1000000) (hq : ∀ i (hi : i < l.length) W, Below w.heap.size w W → Calls Tryz.prog 132 #[flv l[i], .pointer (some ⟨bb, 0, none⟩)] W fun e w' => e = .returned (.bool (q l[i])) ∧ Below W.heap.size W w') :
    Calls Tryz.prog 91 #[v, .func (Fn.func 132) #[] #[.pointer (some ⟨bb, 0, none⟩)]] w fun e w' => e = .returned (.bool (l.any q)) ∧ Below w.heap.size w w' := by
  have cI := idxF154_any bb v l q w h hn hq
  have HE := Lib.hid (fx_any q l)
  generalize fx (l.findIdx? q) = z at cI HE
  clear hq h
  go_enter Tryz.func91, Tryz.ntmps91
  go_wp2_with fail
  refine cI.mono ?_
  rintro e w1 ⟨rfl, b1⟩
  go_wp2
  all_goals go_ret
  all_goals exact ⟨retb (by rw [← HE.out]), b1⟩
set_option maxHeartbeats 1600000 in
set_option maxRecDepth 100000 in
theorem idxF104_row (bb : Nat) (b o c : Nat) (l : List Fl2) (q : Fl2 → Bool) (w : World) (h : Fr w b o l) (hn : l.length ≤ 1000000) (hq : ∀ i (hi : i < l.length) W, Below w.heap.size w W → Calls Tryz.prog 92 #[flv l[i], .pointer (some ⟨bb, 0, none⟩)] W fun e w' => e = .returned (.bool (q l[i])) ∧ Below W.heap.size W w') :
    Calls Tryz.prog 134 #[.slice (some ⟨b, o, none⟩) l.length c, .func (Fn.func 92) #[] #[.pointer (some ⟨bb, 0, none⟩)]] w fun e w' => e = .returned (.int .i64 (fx (l.findIdx? q))) ∧ Below w.heap.size w w' := by
  obtain ⟨r, hr⟩ : ∃ r, r = fx (l.findIdx? q) := ⟨_, rfl⟩
  have HR := Lib.hid hr
  rw [← hr]
  clear hr
  have HQ := Lib.hid hq
  have HF := Lib.hid h
  clear hq h
  go_enter Tryz.func134, Tryz.ntmps134
  go_wp2
  go_loopw [8] (fun i W => ∃ k : Nat, k ≤ l.length ∧ i = .int .i64 k ∧ Below w.heap.size w W ∧ Hid (∀ j (hj : j < l.length), j < k → q l[j] = false)) (fun i _ => l.length - (intOf i).toNat)
  case atStart => exact ⟨0, Nat.zero_le _, rfl, Below.refl _ _, fun j _ h => absurd h (Nat.not_lt_zero _)⟩
  case round =>
    obtain ⟨k, hk, rfl, hW, HP⟩ := hrel
    by_cases hlt : k < l.length
    · have hT := HF.out.on hW
      have c0 := hT.c0 k hlt
      have c1 := hT.c1 k hlt
      have cC := HQ.out k hlt wr hW
      clear hT
      cases hq : q l[k] with
      | true =>
        rw [hq] at cC
        have HG : Hid (r = k) := by show r = _; rw [HR.out, fi_yes k hlt hq (fun j hj h => HP.out j hj h)]; rfl
        go_wp2_with fail
        refine cC.mono ?_
        rintro e w1 ⟨rfl, b1⟩
        go_wp2_with fail
        go_ret
        exact ⟨reti HG.out.symm, bon hW b1⟩
      | false =>
        rw [hq] at cC
        have HN : Hid (∀ j (hj : j < l.length), j < k + 1 → q l[j] = false) := fun j hj h => by
          by_cases e : j = k
          · subst e; exact hq
          · exact HP.out j hj (by omega)
        go_wp2_with fail
        refine cC.mono ?_
        rintro e w1 ⟨rfl, b1⟩
        go_wp2_with fail
        exact ⟨⟨k + 1, hlt, by go_num, bon hW b1, HN⟩, by simp [intOf]; omega⟩
    · go_wp2
      go_ret
      exact ⟨reti (by rw [HR.out, fi_no (fun j hj => HP.out j hj (by omega))]; rfl), hW⟩
theorem idxF104_nil (bb : Nat) (A : Option Addr) (c : Nat) (w : World) : Calls Tryz.prog 134 #[.slice A 0 c, .func (Fn.func 92) #[] #[.pointer (some ⟨bb, 0, none⟩)]] w fun e w' => e = .returned (.int .i64 (-1)) ∧ w' = w := by
  go_enter Tryz.func134, Tryz.ntmps134
  go_wp2
  refine wp_loop_rounds 1 ?_
  rw [rounds_succ]
  go_wp2
  go_ret
  exact ⟨rfl, rfl⟩
theorem idxF104_any (bb : Nat) (v : Value) (l : List Fl2) (q : Fl2 → Bool) (w : World) (h : Fs w v l) (hn : l.length ≤ 1000000) (hq : ∀ i (hi : i < l.length) W, Below w.heap.size w W → Calls Tryz.prog 92 #[flv l[i], .pointer (some ⟨bb, 0, none⟩)] W fun e w' => e = .returned (.bool (q l[i])) ∧ Below W.heap.size W w') :
    Calls Tryz.prog 134 #[v, .func (Fn.func 92) #[] #[.pointer (some ⟨bb, 0, none⟩)]] w fun e w' => e = .returned (.int .i64 (fx (l.findIdx? q))) ∧ Below w.heap.size w w' := by
  rcases h.is with ⟨rfl, A, c, rfl⟩ | ⟨b, o, c, rfl, hc, hf⟩
  · exact (idxF104_nil bb A c w).mono fun x w' ⟨h1, h2⟩ => ⟨h1, by rw [h2]; exact Below.refl _ _⟩
  · exact idxF104_row bb b o c l q w hf hn hq
theorem conF104_any (bb : Nat) (v : Value) (l : List Fl2) (q : Fl2 → Bool) (w : World) (h : Fs w v l) (hn : l.length ≤ 1000000) (hq : ∀ i (hi : i < l.length) W, Below w.heap.size w W → Calls Tryz.prog 92 #[flv l[i], .pointer (some ⟨bb, 0, none⟩)] W fun e w' => e = .returned (.bool (q l[i])) ∧ Below W.heap.size W w') :
    Calls Tryz.prog 91 #[v, .func (Fn.func 92) #[] #[.pointer (some ⟨bb, 0, none⟩)]] w fun e w' => e = .returned (.bool (l.any q)) ∧ Below w.heap.size w w' := by
  have cI := idxF104_any bb v l q w h hn hq
  have HE := Lib.hid (fx_any q l)
  generalize fx (l.findIdx? q) = z at cI HE
  clear hq h
  go_enter Tryz.func91, Tryz.ntmps91
  go_wp2_with fail
  refine cI.mono ?_
  rintro e w1 ⟨rfl, b1⟩
  go_wp2
  all_goals go_ret
  all_goals exact ⟨retb (by rw [← HE.out]), b1⟩
theorem fs_sl {W : World} {v : Value} {l : List Fl2} (h : Fs W v l) : ∃ A c, v = .slice A l.length c := by
  rcases h.is with ⟨rfl, A, c, rfl⟩ | ⟨b, o, c, rfl, _⟩
  · exact ⟨A, c, rfl⟩
  · exact ⟨_, c, rfl⟩

set_option maxHeartbeats 1600000 in
set_option maxRecDepth 100000 in
/-- The closure of rightFiles: a file clashes with another one, which lies in a box. -/
theorem clashes_any (g f : Fl2) (bb : Nat) (w : World) (h0 : w.cell? ⟨bb, 0, none⟩ = some (.string ⟨f.1.toArray⟩)) (hg : g.1.length ≤ 1000) (hf : f.1.length ≤ 1000) : Calls Tryz.prog 132 #[flv g, .pointer (some ⟨bb, 0, none⟩)] w fun e w' => e = .returned (.bool (csh g.1 f.1)) ∧ Below w.heap.size w w' := by
  have hlt := block_lt_of_cell h0
  have hlt : bb < w.heap.size := hlt
  have b0 := bA1 w (flo g)
  obtain ⟨r, hr⟩ : ∃ r, r = csh g.1 f.1 := ⟨_, rfl⟩
  rw [← hr]
  unfold csh at hr
  have c1 := fun W => beneath_any g.1 f.1 W hg hf
  have c2 := fun W => beneath_any f.1 g.1 W hf hg
  generalize bnt g.1 f.1 = y1 at c1 hr
  generalize bnt f.1 g.1 = y2 at c2 hr
  by_cases he : g.1 = f.1
  · have hr' : r = true := by rw [hr, decide_eq_true he]; rfl
    subst hr'
    have he' : (g.1 == f.1) = true := by simpa using he
    clear hr c1 c2 he
    go_enter Tryz.func132, Tryz.ntmps132
    go_wp2_with fail
    go_ret
    exact ⟨rfl, b0⟩
  · have hr' : r = (y1 || y2) := by rw [hr, decide_eq_false he]; rfl
    have he' : (g.1 == f.1) = false := by simpa using he
    clear hr he
    cases y1 with
    | true =>
      subst hr'
      go_enter Tryz.func132, Tryz.ntmps132
      go_wp2_with fail
      refine (c1 _).mono ?_
      rintro e w1 ⟨rfl, rfl⟩
      go_wp2_with fail
      go_ret
      exact ⟨rfl, b0⟩
    | false =>
      subst hr'
      go_enter Tryz.func132, Tryz.ntmps132
      go_wp2_with fail
      refine (c1 _).mono ?_
      rintro e w1 ⟨rfl, rfl⟩
      go_wp2_with fail
      refine (c2 _).mono ?_
      rintro e w1 ⟨rfl, rfl⟩
      go_wp2_with fail
      go_ret
      exact ⟨rfl, b0⟩
/-- The inner closure of Right: a file lies at a path, which lies in a box. -/
theorem lies_any (g : Fl2) (s : List UInt8) (bb : Nat) (w : World) (h0 : w.cell? ⟨bb, 0, none⟩ = some (.string ⟨s.toArray⟩)) : Calls Tryz.prog 92 #[flv g, .pointer (some ⟨bb, 0, none⟩)] w fun e w' => e = .returned (.bool (decide (g.1 = s))) ∧ Below w.heap.size w w' := by
  have hlt : bb < w.heap.size := block_lt_of_cell h0
  have b0 := bA1 w (flo g)
  go_enter Tryz.func92, Tryz.ntmps92
  go_wp2_with fail
  go_ret
  exact ⟨ret_bool (by rw [Bool.eq_iff_iff]; simp), b0⟩
end Go.Proofs.YtlldfmnoidndmaaGreatDoor
namespace Go.Proofs.YtlldfmnoidndmaaGreatDoor
open Go.RowKit Go.Shelf Go.Sort

theorem fls_p {F : List Fl2} (h : fls F = true) : F.length ≤ 30 ∧ ∀ f ∈ F, f.1.length ≤ 100 ∧ f.2.length ≤ 500 := by
  unfold fls at h
  simpa only [Bool.and_eq_true, decide_eq_true_eq, List.all_eq_true] using h
theorem fs_take {W : World} {b o c : Nat} {l : List Fl2} (h : Fr W b o l) (i : Nat) (hi : i ≤ l.length) (hc : l.length ≤ c) : Fs W (.slice (some ⟨b, o, none⟩) i c) (l.take i) := by
  by_cases h0 : i = 0
  · subst h0; exact ⟨.inl ⟨rfl, _, _, rfl⟩⟩
  · have e : (l.take i).length = i := by simp; omega
    refine ⟨.inr ⟨b, o, c, by rw [e], by rw [e]; omega, h.lt, fun j hj => ?_, fun j hj => ?_⟩⟩
    · rw [List.getElem_take]; exact h.c0 j (by simp at hj; omega)
    · rw [List.getElem_take]; exact h.c1 j (by simp at hj; omega)
theorem fr_on {W w' : World} {b o : Nat} {l : List Fl2} (h : Fr W b o l) (k : Below W.heap.size W w') : Fr w' b o l := h.on k

set_option maxHeartbeats 3200000 in
set_option maxRecDepth 100000 in
theorem rfiles_row (b o c : Nat) (F : List Fl2) (w : World) (h : Fr w b o F) (hc : F.length ≤ c) (hn : F.length ≤ 20) (hs : ∀ f ∈ F, f.1.length ≤ 100) (hM : MaxN w) : Calls Tryz.prog 89 #[.slice (some ⟨b, o, none⟩) F.length c] w fun e w' => e = .returned (.bool (fk F)) ∧ Below w.heap.size w w' := by
  obtain ⟨r, hr⟩ : ∃ r, r = fk F := ⟨_, rfl⟩
  rw [← hr]
  have HR := Lib.hid hr
  have HF := Lib.hid h
  have HS := Lib.hid hs
  have HM := Lib.hid hM
  clear h hs hM hr
  go_enter Tryz.func89, Tryz.ntmps89
  go_wp2_with fail
  go_loopw [11] (fun v W => ∃ i : Nat, i ≤ F.length ∧ v = .int .i64 i ∧ Below w.heap.size w W ∧ Hid (∀ j, j < i → fki F j = true)) (fun v _ => F.length - (intOf v).toNat)
  case atStart => exact ⟨0, Nat.zero_le _, rfl, Below.refl _ _, fun j h => absurd h (Nat.not_lt_zero _)⟩
  case round =>
    obtain ⟨i, hi, rfl, hb, HP⟩ := hrel
    by_cases hlt : i < F.length
    · have hT := HF.out.on hb
      have c0 := hT.c0 i hlt
      have c1 := hT.c1 i hlt
      have hfl := HS.out F[i] (List.getElem_mem hlt)
      have HK := Lib.hid (fki_at hlt)
      have HNo : Hid (fki F i = false → r = false) := fun hh => by rw [HR.out]; exact fk_no hlt hh
      have HSt : Hid (fki F i = true → ∀ j, j < i + 1 → fki F j = true) := fun hh j hj => by
        by_cases e : j = i
        · subst e; exact hh
        · exact HP.out j (by omega)
      have hb1 := bA1 wr (flo F[i])
      have HT1 := Lib.hid (fs_take (hT.on hb1) i (by omega) hc)
      have HQ : Hid (∀ j (hj : j < (F.take i).length), (F.take i)[j].1.length ≤ 1000) := fun j hj => by
        have := HS.out _ (List.mem_of_mem_take (List.getElem_mem hj))
        omega
      generalize F[i] = f at c0 c1 hfl HK hb1 HT1
      have hX1 : (wr.alloc (flo f)).cell? ⟨wr.heap.size, 0, none⟩ = some (.string ⟨f.1.toArray⟩) := by simp
      have cP := path_any f.1 (wr.alloc (flo f)) ((HM.out.on hb).on hb1)
      have cC := conF154_any wr.heap.size _ (F.take i) (fun g => csh g.1 f.1) (wr.alloc (flo f)) HT1.out (by simp; omega) (fun j hj W hW => clashes_any (F.take i)[j] f wr.heap.size W (by rw [hW.cell (p := ⟨wr.heap.size, 0, none⟩) (by simp)]; exact hX1) (HQ.out j hj) (by omega))
      have HBW := Lib.hid (bon hb hb1)
      clear hT hb1 HT1 HQ
      cases hp : pth f.1 with
      | false =>
        rw [hp] at cP
        have hr0 : r = false := HNo.out (by rw [HK.out, hp]; rfl)
        subst hr0
        clear cC hX1
        go_wp2_with fail
        refine cP.mono ?_
        rintro e w1 ⟨rfl, rfl⟩
        go_wp2_with fail
        go_ret
        exact ⟨rfl, HBW.out⟩
      | true =>
        rw [hp] at cP
        have HK2 : Hid (fki F i = !((F.take i).any fun g => csh g.1 f.1)) := by show _ = _; rw [HK.out, hp]; rfl
        cases hq : (F.take i).any fun g => csh g.1 f.1 with
        | true =>
          rw [hq] at cC
          have hr0 : r = false := HNo.out (by rw [HK2.out, hq]; rfl)
          subst hr0
          clear hX1 hq
          go_wp2_with fail
          refine cP.mono ?_
          rintro e w1 ⟨rfl, rfl⟩
          go_wp2_with fail
          refine cC.mono ?_
          rintro e w2 ⟨rfl, hb2⟩
          have hfin := bon HBW.out hb2
          go_wp2_with fail
          go_ret
          exact ⟨rfl, hfin⟩
        | false =>
          rw [hq] at cC
          have HY : Hid (∀ j, j < i + 1 → fki F j = true) := HSt.out (by rw [HK2.out, hq]; rfl)
          clear hX1 hq
          go_wp2_with fail
          refine cP.mono ?_
          rintro e w1 ⟨rfl, rfl⟩
          go_wp2_with fail
          refine cC.mono ?_
          rintro e w2 ⟨rfl, hb2⟩
          have hfin := bon HBW.out hb2
          go_wp2_with fail
          exact ⟨⟨i + 1, hlt, by go_num, hfin, HY⟩, by simp [intOf]; omega⟩
    · have hr0 : r = true := by rw [HR.out, fk_yes (fun j hj => HP.out j (by omega))]; simpa using hn
      subst hr0
      go_wp2_with fail
      go_ret
      exact ⟨rfl, hb⟩
theorem rfiles_nil (A : Option Addr) (c : Nat) (w : World) : Calls Tryz.prog 89 #[.slice A 0 c] w fun e w' => e = .returned (.bool true) ∧ w' = w := by
  go_enter Tryz.func89, Tryz.ntmps89
  go_wp2
  refine wp_loop_rounds 1 ?_
  rw [rounds_succ]
  go_wp2
  go_ret
  exact ⟨rfl, rfl⟩
theorem rfiles_long (A : Option Addr) (n c : Nat) (w : World) (h : 20 < n) : Calls Tryz.prog 89 #[.slice A n c] w fun e w' => e = .returned (.bool false) ∧ w' = w := by
  go_enter Tryz.func89, Tryz.ntmps89
  go_wp2
  go_ret
  exact ⟨rfl, rfl⟩
theorem rfiles_any (v : Value) (F : List Fl2) (w : World) (h : Fs w v F) (hs : ∀ f ∈ F, f.1.length ≤ 100) (hM : MaxN w) : Calls Tryz.prog 89 #[v] w fun e w' => e = .returned (.bool (fk F)) ∧ Below w.heap.size w w' := by
  rcases h.is with ⟨rfl, A, c, rfl⟩ | ⟨b, o, c, rfl, hc, hf⟩
  · exact (rfiles_nil A c w).mono fun e w' ⟨h1, h2⟩ => ⟨h1, by rw [h2]; exact Below.refl _ _⟩
  · by_cases hn : F.length ≤ 20
    · exact rfiles_row b o c F w hf hc hn hs hM
    · have e0 : fk F = false := by unfold fk; rw [decide_eq_false hn]; rfl
      exact (rfiles_long _ _ c w (by omega)).mono fun e w' ⟨h1, h2⟩ => ⟨by rw [h1, e0], by rw [h2]; exact Below.refl _ _⟩

/-- Right's closure: nothing lies at a path. -/
theorem strange_any (s : List UInt8) (bp : Nat) (p : Pck) (vD vA vG vB vR vP vS vL vF : Value) (w : World) (hB : Pb w bp p vD vA vG vB vR vP vS vL vF) (hF : Fs w vF p.F) (hn : p.F.length ≤ 1000) : Calls Tryz.prog 90 #[.string ⟨s.toArray⟩, .pointer (some ⟨bp, 0, none⟩)] w fun e w' => e = .returned (.bool (!(p.F.any fun f => decide (f.1 = s)))) ∧ Below w.heap.size w w' := by
  have c12 := hB.c12
  have hlt := block_lt_of_cell c12
  have hlt : bp < w.heap.size := hlt
  have hb1 := bA1 w (.cells #[.string ⟨s.toArray⟩] 9)
  have hX : (w.alloc (.cells #[.string ⟨s.toArray⟩] 9)).cell? ⟨w.heap.size, 0, none⟩ = some (.string ⟨s.toArray⟩) := by simp
  have cC := conF104_any w.heap.size vF p.F (fun f => decide (f.1 = s)) (w.alloc (.cells #[.string ⟨s.toArray⟩] 9)) (hF.on hb1) (by omega) (fun j hj W hW => lies_any p.F[j] s w.heap.size W (by rw [hW.cell (p := ⟨w.heap.size, 0, none⟩) (by simp)]; exact hX))
  obtain ⟨A, c, rfl⟩ := fs_sl hF
  generalize (p.F.any fun f => decide (f.1 = s)) = y at cC ⊢
  clear hX hF hB
  go_enter Tryz.func90, Tryz.ntmps90
  go_wp2_with fail
  refine cC.mono ?_
  rintro e w1 ⟨rfl, b1⟩
  go_wp2_with fail
  go_ret
  exact ⟨rfl, bon hb1 b1⟩
end Go.Proofs.YtlldfmnoidndmaaGreatDoor
namespace Go.Proofs.YtlldfmnoidndmaaGreatDoor
open Go.RowKit Go.Shelf Go.Sort

theorem txs_p {l : List (List UInt8)} (h : txs l = true) : l.length ≤ 40 ∧ ∀ s ∈ l, s.length ≤ 100 := by
  unfold txs at h
  simpa only [Bool.and_eq_true, decide_eq_true_eq, List.all_eq_true] using h
theorem sr_on {W w' : World} {b o : Nat} {l : List (List UInt8)} (h : Sr W b o l) (k : Below W.heap.size W w') : Sr w' b o l := ⟨Nat.lt_of_lt_of_le h.lt k.size, fun i hi => by rw [k.cell (p := ⟨b, _, none⟩) h.lt]; exact h.c i hi⟩
set_option maxHeartbeats 1600000 in
set_option maxRecDepth 100000 in
theorem idxS102_row (bb : Nat) (b o c : Nat) (l : List (List UInt8)) (q : List UInt8 → Bool) (w : World) (h : Sr w b o l) (hn : l.length ≤ 1000000) (hq : ∀ i (hi : i < l.length) W, Below w.heap.size w W → Calls Tryz.prog 90 #[.string ⟨l[i].toArray⟩, .pointer (some ⟨bb, 0, none⟩)] W fun e w' => e = .returned (.bool (q l[i])) ∧ Below W.heap.size W w') :
    Calls Tryz.prog 86 #[.slice (some ⟨b, o, none⟩) l.length c, .func (Fn.func 90) #[] #[.pointer (some ⟨bb, 0, none⟩)]] w fun e w' => e = .returned (.int .i64 (fx (l.findIdx? q))) ∧ Below w.heap.size w w' := by
  obtain ⟨r, hr⟩ : ∃ r, r = fx (l.findIdx? q) := ⟨_, rfl⟩
  have HR := Lib.hid hr
  rw [← hr]
  clear hr
  have HQ := Lib.hid hq
  have HF := Lib.hid h
  clear hq h
  go_enter Tryz.func86, Tryz.ntmps86
  go_wp2
  go_loopw [8] (fun i W => ∃ k : Nat, k ≤ l.length ∧ i = .int .i64 k ∧ Below w.heap.size w W ∧ Hid (∀ j (hj : j < l.length), j < k → q l[j] = false)) (fun i _ => l.length - (intOf i).toNat)
  case atStart => exact ⟨0, Nat.zero_le _, rfl, Below.refl _ _, fun j _ h => absurd h (Nat.not_lt_zero _)⟩
  case round =>
    obtain ⟨k, hk, rfl, hW, HP⟩ := hrel
    by_cases hlt : k < l.length
    · have hT := sr_on HF.out hW
      have c0 := hT.c k hlt
      have cC := HQ.out k hlt wr hW
      clear hT
      cases hq : q l[k] with
      | true =>
        rw [hq] at cC
        have HG : Hid (r = k) := by show r = _; rw [HR.out, fi_yes k hlt hq (fun j hj h => HP.out j hj h)]; rfl
        go_wp2_with fail
        refine cC.mono ?_
        rintro e w1 ⟨rfl, b1⟩
        go_wp2_with fail
        go_ret
        exact ⟨reti HG.out.symm, bon hW b1⟩
      | false =>
        rw [hq] at cC
        have HN : Hid (∀ j (hj : j < l.length), j < k + 1 → q l[j] = false) := fun j hj h => by
          by_cases e : j = k
          · subst e; exact hq
          · exact HP.out j hj (by omega)
        go_wp2_with fail
        refine cC.mono ?_
        rintro e w1 ⟨rfl, b1⟩
        go_wp2_with fail
        exact ⟨⟨k + 1, hlt, by go_num, bon hW b1, HN⟩, by simp [intOf]; omega⟩
    · go_wp2
      go_ret
      exact ⟨reti (by rw [HR.out, fi_no (fun j hj => HP.out j hj (by omega))]; rfl), hW⟩
theorem idxS102_nil (bb : Nat) (A : Option Addr) (c : Nat) (w : World) : Calls Tryz.prog 86 #[.slice A 0 c, .func (Fn.func 90) #[] #[.pointer (some ⟨bb, 0, none⟩)]] w fun e w' => e = .returned (.int .i64 (-1)) ∧ w' = w := by
  go_enter Tryz.func86, Tryz.ntmps86
  go_wp2
  refine wp_loop_rounds 1 ?_
  rw [rounds_succ]
  go_wp2
  go_ret
  exact ⟨rfl, rfl⟩
theorem idxS102_any (bb : Nat) (v : Value) (l : List (List UInt8)) (q : List UInt8 → Bool) (w : World) (h : Ss w v l) (hn : l.length ≤ 1000000) (hq : ∀ i (hi : i < l.length) W, Below w.heap.size w W → Calls Tryz.prog 90 #[.string ⟨l[i].toArray⟩, .pointer (some ⟨bb, 0, none⟩)] W fun e w' => e = .returned (.bool (q l[i])) ∧ Below W.heap.size W w') :
    Calls Tryz.prog 86 #[v, .func (Fn.func 90) #[] #[.pointer (some ⟨bb, 0, none⟩)]] w fun e w' => e = .returned (.int .i64 (fx (l.findIdx? q))) ∧ Below w.heap.size w w' := by
  rcases h.is with ⟨rfl, A, c, rfl⟩ | ⟨b, o, c, rfl, hc, hf⟩
  · exact (idxS102_nil bb A c w).mono fun x w' ⟨h1, h2⟩ => ⟨h1, by rw [h2]; exact Below.refl _ _⟩
  · exact idxS102_row bb b o c l q w hf hn hq
theorem conS102_any (bb : Nat) (v : Value) (l : List (List UInt8)) (q : List UInt8 → Bool) (w : World) (h : Ss w v l) (hn : l.length ≤ 1000000) (hq : ∀ i (hi : i < l.length) W, Below w.heap.size w W → Calls Tryz.prog 90 #[.string ⟨l[i].toArray⟩, .pointer (some ⟨bb, 0, none⟩)] W fun e w' => e = .returned (.bool (q l[i])) ∧ Below W.heap.size W w') :
    Calls Tryz.prog 48 #[v, .func (Fn.func 90) #[] #[.pointer (some ⟨bb, 0, none⟩)]] w fun e w' => e = .returned (.bool (l.any q)) ∧ Below w.heap.size w w' := by
  have cI := idxS102_any bb v l q w h hn hq
  have HE := Lib.hid (fx_any q l)
  generalize fx (l.findIdx? q) = z at cI HE
  clear hq h
  go_enter Tryz.func48, Tryz.ntmps48
  go_wp2_with fail
  refine cI.mono ?_
  rintro e w1 ⟨rfl, b1⟩
  go_wp2
  all_goals go_ret
  all_goals exact ⟨retb (by rw [← HE.out]), b1⟩

/-- A package that may be with its files. -/
def aok (p : Pck) : Bool := rok p && (fk p.F && stg p.F p.S)
theorem stg_any (F : List Fl2) (S : List (List UInt8)) : (!(S.any fun s => !(F.any fun f => decide (f.1 = s)))) = stg F S := by
  unfold stg
  rw [Bool.eq_iff_iff]
  simp [List.all_eq_true]

set_option maxHeartbeats 3200000 in
set_option maxRecDepth 100000 in
theorem aright_any (p : Pck) (vD vA vG vB vR vP vS vL vF : Value) (w : World) (hz : Pz w p vD vA vG vB vR vP vS vL vF) (hp : Pg p) (hT : Tab w) (hM : MaxN w) : Calls Tryz.prog 50 #[pkv p.o.n p.o.e p.o.u p.o.r vD vA vG vB vR vP vS vL vF] w fun x w' => x = .returned (.bool (aok p)) ∧ Below w.heap.size w w' := by
  have c0 := b1c w (pko p.o.n p.o.e p.o.u p.o.r vD vA vG vB vR vP vS vL vF)
  have B0 := Lib.hid (pb_new w p vD vA vG vB vR vP vS vL vF)
  have cR := recright_any p vD vA vG vB vR vP vS vL vF _ (hz.on c0) hp (tab_on hT c0) (hM.on c0)
  obtain ⟨r, hr⟩ : ∃ r, r = aok p := ⟨_, rfl⟩
  rw [← hr]
  have HR : Hid (r = (rok p && (fk p.F && stg p.F p.S))) := hr
  have HZ := Lib.hid hz
  have HM := Lib.hid hM
  have hfl := fls_p hp.F
  have htx := txs_p hp.S
  obtain ⟨F1, F2, hvF⟩ := fs_sl hz.F
  obtain ⟨S1, S2, hvS⟩ := ss_sl hz.S
  obtain ⟨D1, D2, hvD⟩ := as_sl hz.D
  obtain ⟨A1, A2, hvA⟩ := as_sl hz.A
  obtain ⟨G1, G2, hvG⟩ := ts_sl hz.G
  obtain ⟨Q1, Q2, hvB⟩ := ts_sl hz.B
  obtain ⟨R1, R2, hvR⟩ := ts_sl hz.R
  obtain ⟨P1, P2, hvP⟩ := ts_sl hz.P
  obtain ⟨L1, L2, hvL⟩ := ss_sl hz.L
  subst hvF hvS hvD hvA hvG hvB hvR hvP hvL
  clear hz hp hT hM hr
  go_enter Tryz.func50, Tryz.ntmps50
  go_wp2_with fail
  refine cR.mono ?_
  rintro x w1 ⟨rfl, b1⟩
  have k1 := bon c0 b1
  have B1 := Lib.hid (B0.out.on b1)
  have q12 := B1.out.c12
  have hlt1 : w.heap.size < w1.heap.size := block_lt_of_cell q12
  clear cR B0 b1 c0
  cases hrk : rok p with
  | false =>
    rw [hrk] at HR
    have hr0 : r = false := HR.out
    subst hr0
    go_wp2_with fail
    go_ret
    exact ⟨rfl, k1⟩
  | true =>
    rw [hrk] at HR
    have HR2 : Hid (r = (fk p.F && stg p.F p.S)) := HR
    have cF := rfiles_any _ p.F w1 (HZ.out.F.on k1) (fun f hf => (hfl.2 f hf).1) (HM.out.on k1)
    clear HR
    go_wp2_with fail
    refine cF.mono ?_
    rintro x w2 ⟨rfl, b2⟩
    have k2 := bon k1 b2
    have B2 := Lib.hid (B1.out.on b2)
    have q10 := B2.out.c10
    clear cF B1 b2 k1 q12
    cases hfk : fk p.F with
    | false =>
      rw [hfk] at HR2
      have hr0 : r = false := HR2.out
      subst hr0
      go_wp2_with fail
      go_ret
      exact ⟨rfl, k2⟩
    | true =>
      rw [hfk] at HR2
      have hr0 : r = !(p.S.any fun s => !(p.F.any fun f => decide (f.1 = s))) := by rw [stg_any]; exact HR2.out
      have cS := conS102_any w.heap.size _ p.S (fun s => !(p.F.any fun f => decide (f.1 = s))) w2 (HZ.out.S.on k2) (by omega) (fun j hj W hW => strange_any p.S[j] w.heap.size p _ _ _ _ _ _ _ _ _ W (B2.out.on hW) ((HZ.out.F.on k2).on hW) (by omega))
      have HR0 := Lib.hid hr0
      generalize (p.S.any fun s => !(p.F.any fun f => decide (f.1 = s))) = y at cS HR0
      clear hr0 HR2
      go_wp2_with fail
      refine cS.mono ?_
      rintro x w3 ⟨rfl, b3⟩
      have k3 := bon k2 b3
      go_wp2_with fail
      go_ret
      exact ⟨by rw [HR0.out]; rfl, k3⟩
end Go.Proofs.YtlldfmnoidndmaaGreatDoor
