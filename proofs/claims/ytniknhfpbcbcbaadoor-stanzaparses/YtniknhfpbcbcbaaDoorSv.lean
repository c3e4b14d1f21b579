/- The walk of the reference's Stanza: which fields may be one. -/
import Derived.Test.YtniknhfpbcbcbaaDoorSp
import Derived.Test.YtniknhfpbcbcbaaDoorSt
namespace Go.Proofs.YtniknhfpbcbcbaaDoor
open Go.RowKit Go.Shelf Go.Sort

/-- A line at its place. -/
def lj (ls : List (List UInt8)) (j : Nat) (hj : j < ls.length) : Bool := Sm.lok ls[j] && !(decide (0 < j) && ls[j] == [])
theorem vok_all (ls : List (List UInt8)) : (match ls with | [] => true | x :: r => Sm.lok x && Sm.mok r) = true ↔ ∀ j hj, lj ls j hj = true := by
  cases ls with
  | nil => simp
  | cons x r =>
    constructor
    · intro h j hj
      rw [Bool.and_eq_true] at h
      cases j with
      | zero => simp [lj, h.1]
      | succ j =>
        have h2 := h.2
        unfold Sm.mok at h2
        rw [List.all_eq_true] at h2
        have hj' : j < r.length := by simpa using hj
        have := h2 r[j] (List.getElem_mem hj')
        simp at this
        simp [lj, this]
    · intro h
      rw [Bool.and_eq_true]
      have h0 := h 0 (Nat.zero_lt_succ _)
      unfold lj at h0
      rw [Bool.and_eq_true] at h0
      refine ⟨h0.1, ?_⟩
      unfold Sm.mok
      rw [List.all_eq_true]
      intro y hy
      obtain ⟨j, hj, rfl⟩ := List.getElem_of_mem hy
      have := h (j + 1) (by simpa using hj)
      simp [lj] at this
      simp [this]
theorem vok_yes {v : List UInt8} (h : ∀ j hj, lj (Sm.spl v) j hj = true) : Sm.vok v = true := (vok_all (Sm.spl v)).2 h
theorem vok_no {v : List UInt8} (j : Nat) (hj : j < (Sm.spl v).length) (h : lj (Sm.spl v) j hj = false) : Sm.vok v = false := by
  cases hv : Sm.vok v with
  | false => rfl
  | true => rw [(vok_all (Sm.spl v)).1 hv j hj] at h; cases h

theorem fok_name {p : List Sm.F} {f : Sm.F} (h : Sm.nok f.1 = false) : Sm.fok p f = false := by unfold Sm.fok; rw [h]; rfl
theorem fok_val {p : List Sm.F} {f : Sm.F} (h : Sm.vok f.2 = false) : Sm.fok p f = false := by unfold Sm.fok; rw [h]; simp
theorem fok_fnd {p : List Sm.F} {f : Sm.F} (i : Nat) (h : Sm.fnd p f.1 = some i) : Sm.fok p f = false := by unfold Sm.fok; rw [h]; simp
theorem fok_yes {p : List Sm.F} {f : Sm.F} (h1 : Sm.nok f.1 = true) (h2 : Sm.vok f.2 = true) (h3 : Sm.fnd p f.1 = none) : Sm.fok p f = true := by unfold Sm.fok; rw [h1, h2, h3]; rfl
theorem fnd_take_none {l : List Sm.F} {k : Nat} {s : List UInt8} (hk : k ≤ l.length) (h : ∀ j (hj : j < l.length), j < k → (Sm.small l[j].1 == Sm.small s) = false) : Sm.fnd (l.take k) s = none :=
  fi_none (fun j hj => by
    have : j < k := by simp at hj; omega
    simpa using h j (by omega) this)
theorem fnd_take_some {l : List Sm.F} {k i : Nat} {s : List UInt8} (hk : k ≤ l.length) (hi : i < k) (h1 : (Sm.small (l[i]'(by omega)).1 == Sm.small s) = true) (h : ∀ j (hj : j < l.length), j < i → (Sm.small l[j].1 == Sm.small s) = false) : Sm.fnd (l.take k) s = some i :=
  fi_some i (by simp; omega) (by simpa using h1) (fun j hj h2 => by simpa using h j (by simp at hj; omega) h2)

set_option maxHeartbeats 3200000 in
set_option maxRecDepth 100000 in
theorem xs_row (b o c : Nat) (l : List Sm.F) (w : World) (h : Fl w b o l) (hz : Sz l) (hc : l.length ≤ c) (h1 : 1 ≤ l.length) (h40 : l.length ≤ 40) (hm : MaxL w) :
    Calls Tryd.prog 35 #[.slice (some ⟨b, o, none⟩) l.length c] w fun e w' => e = .returned (.bool (Sm.rgt l)) ∧ Below w.heap.size w w' := by
  have hts := txt_small hz
  obtain ⟨r, hr⟩ : ∃ r, r = Sm.rgt l := ⟨_, rfl⟩
  have HR := Lib.hid hr
  rw [← hr]
  clear hr
  have HRF : Hid (Sm.foks l = false → r = false) := fun e => by rw [HR.out]; unfold Sm.rgt; rw [e]; simp
  have HRT : Hid (Sm.foks l = true → r = decide ((Sm.txt l).length ≤ 4000)) := fun e => by rw [HR.out]; unfold Sm.rgt; rw [e]; simp [h1, h40]
  have cT := fun W hW hM => xt_any (.slice (some ⟨b, o, none⟩) l.length c) l W hW hz hts hM
  have HT := Lib.hid cT
  have HZ := Lib.hid hz
  clear hz cT
  have cI : ∀ W, Calls Tryd.prog 53 #[.int .i64 l.length, .int .i64 1, .int .i64 40] W fun x w' => x = .returned (.bool true) ∧ w' = W := fun W => by
    have := xin_any l.length 1 40 W
    rw [show (decide (1 ≤ (l.length : Int)) && decide ((l.length : Int) ≤ 40)) = true from by simp; omega] at this; exact this
  go_enter Tryd.func35, Tryd.ntmps35
  go_wp2_with (go_at_call 53; with_reducible refine (cI _).mono ?_; rintro x w' ⟨rfl, rfl⟩)
  go_loopw [15] (fun i W => ∃ k : Nat, k ≤ l.length ∧ i = .int .i64 k ∧ Below w'.heap.size w' W ∧ Hid (∀ j (hj : j < l.length), j < k → Sm.fok (l.take j) l[j] = true)) (fun i _ => l.length - (intOf i).toNat)
  case atStart => exact ⟨0, Nat.zero_le _, rfl, Below.refl _ _, fun j _ h => absurd h (Nat.not_lt_zero _)⟩
  case round =>
    obtain ⟨k, hk, rfl, hW, HP⟩ := hrel
    by_cases hlt : k < l.length
    · have hF := h.on hW
      have c0 := hF.c0 k hlt
      have c1 := hF.c1 k hlt
      have hfs := HZ.out.s l[k] (List.getElem_mem hlt)
      have bA : Below w'.heap.size w' (wr.alloc (.cells #[.string ⟨l[k].1.toArray⟩, .string ⟨l[k].2.toArray⟩] 92)) := hW.alloc hW.size _
      have HNO : Hid (Sm.fok (l.take k) l[k] = false → r = false) := fun e => HRF.out (Sm.foks_no k hlt e)
      cases hn : Sm.nok l[k].1 with
      | false =>
        have cN : ∀ W, Calls Tryd.prog 71 #[.string ⟨l[k].1.toArray⟩] W fun e w' => e = .returned (.bool false) ∧ w' = W := fun W => by rw [← hn]; exact xn_any l[k].1 W (by omega)
        have HF : Hid (r = false) := HNO.out (fok_name hn)
        go_wp2_with (go_at_call 71; with_reducible refine (cN _).mono ?_; rintro x w' ⟨rfl, rfl⟩)
        go_ret
        exact ⟨ret_bool HF.out.symm, bA⟩
      | true =>
        have cN : ∀ W, Calls Tryd.prog 71 #[.string ⟨l[k].1.toArray⟩] W fun e w' => e = .returned (.bool true) ∧ w' = W := fun W => by rw [← hn]; exact xn_any l[k].1 W (by omega)
        have hck : (k : Int) ≤ (c : Int) := by omega
        go_wp2_with (go_at_call 71; with_reducible refine (cN _).mono ?_; rintro x w' ⟨rfl, rfl⟩)
        have bx0 : (wr.alloc (.cells #[.string ⟨l[k].1.toArray⟩, .string ⟨l[k].2.toArray⟩] 92)).cell? ⟨wr.heap.size, 0, none⟩ = some (.string ⟨l[k].1.toArray⟩) := by simp
        have bx1 : (wr.alloc (.cells #[.string ⟨l[k].1.toArray⟩, .string ⟨l[k].2.toArray⟩] 92)).cell? ⟨wr.heap.size, 1, none⟩ = some (.string ⟨l[k].2.toArray⟩) := by simp
        clear c0 c1 hF hW
        generalize (wr.alloc (.cells #[.string ⟨l[k].1.toArray⟩, .string ⟨l[k].2.toArray⟩] 92)) = W0 at bA bx0 bx1 ⊢
        generalize wr.heap.size = g at bx0 bx1 ⊢
        clear wr
        go_loopw [28] (fun i W => ∃ j : Nat, j ≤ k ∧ i = .int .i64 j ∧ Below w'.heap.size w' W ∧ W.cell? ⟨g, 0, none⟩ = some (.string ⟨l[k].1.toArray⟩) ∧ W.cell? ⟨g, 1, none⟩ = some (.string ⟨l[k].2.toArray⟩) ∧ Hid (∀ i (hi : i < l.length), i < j → (Sm.small l[i].1 == Sm.small l[k].1) = false)) (fun i _ => k - (intOf i).toNat)
        case atStart => exact ⟨0, Nat.zero_le _, rfl, bA, bx0, bx1, fun j _ h => absurd h (Nat.not_lt_zero _)⟩
        case round =>
          obtain ⟨j, hj, rfl, hW2, x0, x1, HQ⟩ := hrel
          by_cases hjk : j < k
          · have hjl : j < l.length := by omega
            have hF2 := h.on hW2
            have e0 := hF2.c0 j hjl
            have e1 := hF2.c1 j hjl
            have hfj := HZ.out.s l[j] (List.getElem_mem hjl)
            have bB : Below w'.heap.size w' (wr.alloc (.cells #[.string ⟨l[j].1.toArray⟩, .string ⟨l[j].2.toArray⟩] 92)) := hW2.alloc hW2.size _
            have bC : Below wr.heap.size wr (wr.alloc (.cells #[.string ⟨l[j].1.toArray⟩, .string ⟨l[j].2.toArray⟩] 92)) := (Below.refl _ _).alloc (Nat.le_refl _) _
            have y0 : (wr.alloc (.cells #[.string ⟨l[j].1.toArray⟩, .string ⟨l[j].2.toArray⟩] 92)).cell? ⟨wr.heap.size, 0, none⟩ = some (.string ⟨l[j].1.toArray⟩) := by simp
            have z0 : (wr.alloc (.cells #[.string ⟨l[j].1.toArray⟩, .string ⟨l[j].2.toArray⟩] 92)).cell? ⟨g, 0, none⟩ = some (.string ⟨l[k].1.toArray⟩) := by rw [bC.cell (block_lt_of_cell x0)]; exact x0
            have z1 : (wr.alloc (.cells #[.string ⟨l[j].1.toArray⟩, .string ⟨l[j].2.toArray⟩] 92)).cell? ⟨g, 1, none⟩ = some (.string ⟨l[k].2.toArray⟩) := by rw [bC.cell (block_lt_of_cell x1)]; exact x1
            go_wp2_with fail
            generalize (wr.alloc (.cells #[.string ⟨l[j].1.toArray⟩, .string ⟨l[j].2.toArray⟩] 92)) = wz at bB y0 z0 z1 ⊢
            have k0 := cell_regrown y0
            have k1 := cell_regrown z0
            obtain ⟨t1, ht1⟩ : ∃ t, t = Sm.small l[j].1 := ⟨_, rfl⟩
            obtain ⟨t2, ht2⟩ : ∃ t, t = Sm.small l[k].1 := ⟨_, rfl⟩
            have d1 : ∀ d os, Calls Tryd.prog 37 #[.string ⟨l[j].1.toArray⟩] (grow (redrawn wz d) os) fun x w'' => x = .returned (.string ⟨t1.toArray⟩) ∧ ∃ p : Regrown, w'' = grow (redrawn wz p.d) p.os := fun d os => Calls.regrown_of (by rw [ht1]; exact xsmall_any l[j].1 _ (by omega))
            have d2 : ∀ d os, Calls Tryd.prog 37 #[.string ⟨l[k].1.toArray⟩] (grow (redrawn wz d) os) fun x w'' => x = .returned (.string ⟨t2.toArray⟩) ∧ ∃ p : Regrown, w'' = grow (redrawn wz p.d) p.os := fun d os => Calls.regrown_of (by rw [ht2]; exact xsmall_any l[k].1 _ (by omega))
            have HT1 := Lib.hid ht1
            have HT2 := Lib.hid ht2
            clear bC e0 e1 hF2 hfj x0 x1 ht1 ht2
            cases hq : (t1 == t2) with
            | true =>
              have HF : Hid (r = false) := HNO.out (fok_fnd j (fnd_take_some hk hjk (by rw [← HT1.out, ← HT2.out]; exact hq) (fun i hi h2 => HQ.out i hi h2)))
              refine wp_region_quiet_below (by kernel_rfl) (by kernel_rfl) ?_
              repeat (any_goals (first | go_big_quiet_step ((first | with_reducible exact d1 _ _ | with_reducible exact d2 _ _)) | quiet_step ((first | with_reducible exact d1 _ _ | with_reducible exact d2 _ _))))
              refine wpQuiet_nil ?_
              intro wq hwq
              have hq' := rg bB hwq
              go_wp2_with fail
              go_ret
              exact ⟨ret_bool HF.out.symm, hq'⟩
            | false =>
              have HQ2 : Hid (∀ i (hi : i < l.length), i < j + 1 → (Sm.small l[i].1 == Sm.small l[k].1) = false) := fun i hi h2 => by
                by_cases e : i = j
                · subst e; rw [← HT1.out, ← HT2.out]; exact hq
                · exact HQ.out i hi (by omega)
              refine wp_region_quiet_below (by kernel_rfl) (by kernel_rfl) ?_
              repeat (any_goals (first | go_big_quiet_step ((first | with_reducible exact d1 _ _ | with_reducible exact d2 _ _)) | quiet_step ((first | with_reducible exact d1 _ _ | with_reducible exact d2 _ _))))
              refine wpQuiet_nil ?_
              intro wq hwq
              have hq' := rg bB hwq
              have q0 : wq.cell? ⟨g, 0, none⟩ = some (.string ⟨l[k].1.toArray⟩) := by obtain ⟨p, rfl⟩ := hwq; exact k1 p.d p.os
              have q1 : wq.cell? ⟨g, 1, none⟩ = some (.string ⟨l[k].2.toArray⟩) := by obtain ⟨p, rfl⟩ := hwq; exact cell_regrown z1 p.d p.os
              go_wp2_with fail
              exact ⟨⟨j + 1, hjk, by go_num, hq', q0, q1, HQ2⟩, by simp [intOf]; omega⟩
          · have hjk' : j = k := by omega
            subst hjk'
            go_wp2_with fail
            refine (split_any l[j].2 _ (hm.on hW2) (by omega)).mono ?_
            rintro e w1 ⟨rfl, b1, L1⟩
            have hno : Sm.fnd (l.take j) l[j].1 = none := fnd_take_none hk (fun i hi h2 => HQ.out i hi h2)
            have HY : Hid (Sm.vok l[j].2 = true → Sm.fok (l.take j) l[j] = true) := fun e => fok_yes hn e hno
            have HV0 : Hid (Sm.vok l[j].2 = false → r = false) := fun e => HNO.out (fok_val e)
            have HVN : Hid (∀ i (hi : i < (Sm.spl l[j].2).length), lj (Sm.spl l[j].2) i hi = false → r = false) := fun i hi e => HV0.out (vok_no i hi e)
            have HVY : Hid ((∀ i (hi : i < (Sm.spl l[j].2).length), lj (Sm.spl l[j].2) i hi = true) → Sm.fok (l.take j) l[j] = true) := fun e => HY.out (vok_yes e)
            have hlin := fun i hi => Sm.spl_len l[j].2 (Sm.spl l[j].2)[i] (List.getElem_mem (n := i) hi)
            have hsn := (Sm.spl_sum l[j].2).2
            have bD := onn hW2 b1
            clear hno HY HV0 HQ HNO x0 x1
            obtain ⟨ls, hls⟩ : ∃ ls, ls = Sm.spl l[j].2 := ⟨_, rfl⟩
            rw [← hls] at L1 hlin hsn HVN HVY ⊢
            clear hls
            have HLI := Lib.hid hlin
            clear hlin
            generalize wr.heap.size = g2 at L1 ⊢
            go_wp2_with fail
            go_loop [44] (fun i => ∃ m : Nat, m ≤ ls.length ∧ i = .int .i64 m ∧ Hid (∀ i hi, i < m → lj ls i hi = true)) (fun i => ls.length - (intOf i).toNat)
            case atStart => exact ⟨0, Nat.zero_le _, rfl, fun j _ h => absurd h (Nat.not_lt_zero _)⟩
            case round =>
              obtain ⟨m, hm', rfl, HMM⟩ := hrel
              by_cases hml : m < ls.length
              · have cm := L1.c m hml
                have hxl := HLI.out m hml
                have HB1 : Hid (lj ls m hml = false → r = false) := fun e => HVN.out m hml e
                have HG1 : Hid (lj ls m hml = true → ∀ i hi, i < m + 1 → lj ls i hi = true) := fun e i hi h2 => by
                  by_cases e2 : i = m
                  · subst e2; exact e
                  · exact HMM.out i hi (by omega)
                have hlj : lj ls m hml = (Sm.lok ls[m] && !(decide (0 < m) && ls[m] == [])) := rfl
                rw [hlj] at HB1 HG1
                clear hlj
                generalize ls[m] = x at cm hxl HB1 HG1
                have hx4 : x.length ≤ 1000000 := by omega
                cases hok : Sm.lok x with
                | false =>
                  have cL : ∀ W, Calls Tryd.prog 73 #[.string ⟨x.toArray⟩] W fun e w' => e = .returned (.bool false) ∧ w' = W := fun W => by rw [← hok]; exact xline_any x W hx4
                  have HF : Hid (r = false) := HB1.out (by rw [hok]; rfl)
                  clear HB1 HG1
                  go_wp2_with (go_at_call 73; with_reducible refine (cL _).mono ?_; rintro x w' ⟨rfl, rfl⟩)
                  go_ret
                  exact ⟨ret_bool HF.out.symm, bD⟩
                | true =>
                  have cL : ∀ W, Calls Tryd.prog 73 #[.string ⟨x.toArray⟩] W fun e w' => e = .returned (.bool true) ∧ w' = W := fun W => by rw [← hok]; exact xline_any x W hx4
                  by_cases hm0 : m = 0
                  · subst hm0
                    have HG := Lib.hid (HG1.out (by rw [hok]; rfl))
                    clear HB1 HG1
                    go_wp2_with (go_at_call 73; with_reducible refine (cL _).mono ?_; rintro x w' ⟨rfl, rfl⟩)
                    exact ⟨⟨0 + 1, hml, by go_num, HG⟩, by simp [intOf]; omega⟩
                  · have hmp : 0 < m := Nat.pos_of_ne_zero hm0
                    cases x with
                    | nil =>
                      have HF : Hid (r = false) := HB1.out (by rw [hok]; simp [hmp])
                      clear HB1 HG1
                      go_wp2_with (go_at_call 73; with_reducible refine (cL _).mono ?_; rintro x w' ⟨rfl, rfl⟩)
                      go_ret
                      exact ⟨ret_bool HF.out.symm, bD⟩
                    | cons a t =>
                      have HG := Lib.hid (HG1.out (by rw [hok]; simp))
                      clear HB1 HG1
                      go_wp2_with (go_at_call 73; with_reducible refine (cL _).mono ?_; rintro x w' ⟨rfl, rfl⟩)
                      exact ⟨⟨m + 1, hml, by go_num, HG⟩, by simp [intOf]; omega⟩
              · have HO := Lib.hid (HVY.out (fun i hi => HMM.out i hi (by omega)))
                have HN : Hid (∀ i (hi : i < l.length), i < j + 1 → Sm.fok (l.take i) l[i] = true) := fun i hi h2 => by
                  by_cases e : i = j
                  · subst e; exact HO.out
                  · exact HP.out i hi (by omega)
                go_wp2_with fail
                exact ⟨⟨j + 1, hlt, by go_num, bD, HN⟩, by simp [intOf]; omega⟩
    · have HT2 := Lib.hid (HRT.out (Sm.foks_yes (fun j hj => HP.out j hj (by omega))))
      obtain ⟨t, ht⟩ : ∃ t, t = Sm.txt l := ⟨_, rfl⟩
      rw [← ht] at HT HT2 hts
      clear ht
      go_wp2_with fail
      refine (HT.out _ ⟨Or.inr ⟨b, o, c, rfl, hc, h.on hW⟩⟩ (hm.on hW)).mono ?_
      rintro e w1 ⟨rfl, b1⟩
      go_wp2
      go_ret
      exact ⟨ret_bool (by rw [HT2.out, Bool.eq_iff_iff]; simp; try omega), onn hW b1⟩

theorem xs_nil (A : Option Addr) (c : Nat) (w : World) : Calls Tryd.prog 35 #[.slice A 0 c] w fun e w' => e = .returned (.bool false) ∧ w' = w := by
  go_enter Tryd.func35, Tryd.ntmps35
  go_wp2_with (go_at_call 53; refine (xin_any _ _ _ _).mono ?_; rintro x w' ⟨rfl, rfl⟩)
  go_ret
  exact ⟨rfl, rfl⟩
theorem xs_long (A : Option Addr) (n c : Nat) (w : World) (h1 : 40 < n) (h2 : n ≤ 60) : Calls Tryd.prog 35 #[.slice A n c] w fun e w' => e = .returned (.bool false) ∧ w' = w := by
  have hAB : (decide (1 ≤ (n : Int)) && decide ((n : Int) ≤ 40)) = false := by simp; omega
  go_enter Tryd.func35, Tryd.ntmps35
  go_wp2_with (go_at_call 53; refine (xin_any _ _ _ _).mono ?_; rintro x w' ⟨rfl, rfl⟩; rw [hAB])
  go_ret
  exact ⟨rfl, rfl⟩
theorem xs_any (v : Value) (l : List Sm.F) (w : World) (h : Sl w v l) (hz : Sz l) (hm : MaxL w) : Calls Tryd.prog 35 #[v] w fun e w' => e = .returned (.bool (Sm.rgt l)) ∧ Below w.heap.size w w' := by
  rcases h.is with ⟨rfl, A, c, rfl⟩ | ⟨b, o, c, rfl, hc, hf⟩
  · exact (xs_nil A c w).mono fun _ _ ⟨he, hw⟩ => ⟨he, by rw [hw]; exact Below.refl _ _⟩
  · by_cases h1 : 1 ≤ l.length
    · by_cases h40 : l.length ≤ 40
      · exact xs_row b o c l w hf hz hc h1 h40 hm
      · rw [show Sm.rgt l = false from by simp [Sm.rgt, h40]]
        exact (xs_long _ _ c w (by omega) hz.n).mono fun _ _ ⟨he, hw⟩ => ⟨he, by rw [hw]; exact Below.refl _ _⟩
    · obtain rfl : l = [] := List.length_eq_zero_iff.1 (by omega)
      exact (xs_nil _ c w).mono fun _ _ ⟨he, hw⟩ => ⟨he, by rw [hw]; exact Below.refl _ _⟩

end Go.Proofs.YtniknhfpbcbcbaaDoor
