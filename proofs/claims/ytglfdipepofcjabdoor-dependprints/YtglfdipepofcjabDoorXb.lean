/- The walk of the reference's Asked. -/
import Derived.Test.YtglfdipepofcjabDoorXa
import Derived.Test.YtglfdipepofcjabDoorUe
import Derived.Test.YtglfdipepofcjabDoorXc
namespace Go.Proofs.YtglfdipepofcjabDoor
open Go.RowKit Go.Shelf Go.Sort

theorem asl_at {W : World} {A : Option Addr} {n c : Nat} {l : List (List Tm)} (h : As W (.slice A n c) l) (k : Nat) (hk : k < l.length) : ∃ b o, A = some ⟨b, o, none⟩ ∧ ∃ v, W.cell? ⟨b, o + k, none⟩ = some v ∧ Ts W v l[k] := by
  rcases h.is with ⟨rfl, _⟩ | ⟨b, o, c', e, _, hf⟩
  · simp at hk
  · cases e; exact ⟨b, o, rfl, hf.c k hk⟩
theorem tk_len (l : List (List Tm)) (k : Nat) (hk : k < l.length) : (l.take (k + 1)).flatten.length = (l.take k).flatten.length + l[k].length := by
  rw [List.take_succ_eq_append_getElem hk, List.flatten_append, List.length_append]; simp
theorem tk_le (l : List (List Tm)) (k : Nat) : (l.take k).flatten.length ≤ l.flatten.length := by
  rw [show l.flatten.length = (l.take k ++ l.drop k).flatten.length from by rw [List.take_append_drop], List.flatten_append, List.length_append]; omega
theorem ask_e {l : List (List Tm)} {k : Nat} (hk : k < l.length) (h : l[k].length = 0) : ask l = false := ask_empty (by
  rw [List.all_eq_false]; exact ⟨l[k], List.getElem_mem hk, by simp [List.length_eq_zero_iff.1 h]⟩)
theorem ask_l {l : List (List Tm)} {k : Nat} (h : 30 < (l.take k).flatten.length) : ask l = false := ask_long (Nat.lt_of_lt_of_le h (tk_le l k))
theorem ask_t {l : List (List Tm)} {k j : Nat} (hk : k < l.length) (hj : j < l[k].length) (h : tok (l[k])[j] = false) : ask l = false := by
  obtain ⟨m, hm, e⟩ := List.getElem_of_mem (List.mem_flatten.2 ⟨l[k], List.getElem_mem hk, List.getElem_mem hj⟩)
  exact ask_no (k := m) (by rw [List.getElem?_eq_getElem hm, e]) h
theorem ask_y {l : List (List Tm)} (h : (l.take l.length).flatten.length ≤ 30) (h1 : ∀ k (hk : k < l.length), k < l.length → l[k].length ≠ 0 ∧ ∀ t ∈ l[k], tok t = true) : ask l = true := by
  rw [List.take_length] at h
  refine ask_yes ?_ h (fun j hj => ?_)
  · rw [List.all_eq_true]; intro x hx; obtain ⟨k, hk, rfl⟩ := List.getElem_of_mem hx
    have := (h1 k hk hk).1
    simp only [decide_eq_true_eq]; intro e; rw [e] at this; exact this rfl
  · obtain ⟨x, hx, ht⟩ := List.mem_flatten.1 (List.getElem_mem hj)
    obtain ⟨k, hk, rfl⟩ := List.getElem_of_mem hx
    exact (h1 k hk hk).2 _ ht

/-- The reference asks of a term what depend asks. -/
theorem tok_n {t : Tm} (h : nmo t.n = false) : tok t = false := by unfold tok; rw [h]; rfl
theorem tok_i {t : Tm} (h : (decide ((0 : Int) ≤ t.o) && decide (t.o ≤ 5)) = false) : tok t = false := by
  unfold tok
  have h' : ¬ (0 ≤ t.o ∧ t.o ≤ 5) := fun ⟨a, b⟩ => by simp [a, b] at h
  rw [if_neg (by omega : ¬ t.o = 0)]
  by_cases h0 : 0 < t.o
  · rw [decide_eq_false (by omega : ¬ t.o < 6)]; simp
  · rw [decide_eq_false h0]; simp
theorem tok_0 {t : Tm} (h : nmo t.n = true) (ho : t.o = 0) : tok t = (decide (t.e = 0) && (decide (t.u = []) && decide (t.r = []))) := by unfold tok; rw [h, if_pos ho]; rfl
theorem tok_r {t : Tm} (h : nmo t.n = true) (hi : (decide ((0 : Int) ≤ t.o) && decide (t.o ≤ 5)) = true) (ho : ¬ t.o = 0) : tok t = Vm.rt t.e t.u t.r := by
  simp only [Bool.and_eq_true, decide_eq_true_eq] at hi
  unfold tok; rw [h, if_neg ho, decide_eq_true (by omega : 0 < t.o), decide_eq_true (by omega : t.o < 6)]; rfl

/-- What is asked of the parts. -/
structure Asx (l : List (List Tm)) : Prop where
  n : l.length ≤ 40
  x : ∀ x ∈ l, x.length ≤ 40
  s : ∀ x ∈ l, ∀ t ∈ x, Shn t
  m : ∀ x ∈ l, ∀ t ∈ x, t.n.length ≤ 1000

set_option maxHeartbeats 3200000 in
set_option maxRecDepth 100000 in
theorem xasked_any (v : Value) (l : List (List Tm)) (w : World) (h : As w v l) (hX : Asx l) (hT : Tab w) :
    Calls Tryd.prog 20 #[v] w fun e w' => e = .returned (.bool (ask l)) ∧ Below w.heap.size w w' := by
  obtain ⟨r, hr⟩ : ∃ r, r = ask l := ⟨_, rfl⟩
  have HR := Lib.hid hr
  rw [← hr]
  obtain ⟨A, c, rfl⟩ := as_sl h
  have HL := Lib.hid h
  have HX := Lib.hid hX
  have HT := Lib.hid hT
  have hn := hX.n
  clear h hX hT hr
  go_enter Tryd.func20, Tryd.ntmps20
  go_wp2_with fail
  go_loopw [3, 10] (fun n i W => ∃ k : Nat, k ≤ l.length ∧ i = .int .i64 k ∧ n = .int .i64 ((l.take k).flatten.length : Nat) ∧ Below w.heap.size w W ∧ (l.take k).flatten.length ≤ 30 ∧ Hid (∀ j (hj : j < l.length), j < k → l[j].length ≠ 0 ∧ ∀ t ∈ l[j], tok t = true)) (fun _ i _ => l.length - (intOf i).toNat)
  case atStart => exact ⟨0, Nat.zero_le _, rfl, rfl, Below.refl _ _, by simp, fun j _ h => absurd h (Nat.not_lt_zero _)⟩
  case round =>
    obtain ⟨k, hkl, rfl, rfl, hW, h30, HN⟩ := hrel
    by_cases hlt : k < l.length
    · obtain ⟨b, o, rfl, xv, c0, hx⟩ := asl_at (HL.out.on hW) k hlt
      have hxm := List.getElem_mem hlt
      have hx1 := HX.out.x l[k] hxm
      have HX2 : Hid (∀ t ∈ l[k], Shn t ∧ t.n.length ≤ 1000) := fun t ht => ⟨HX.out.s l[k] hxm t ht, HX.out.m l[k] hxm t ht⟩
      have HE : Hid (l[k].length = 0 → r = false) := fun q => by rw [HR.out]; exact ask_e hlt q
      have HB : Hid (30 < (l.take k).flatten.length + l[k].length → r = false) := fun q => by rw [HR.out]; exact ask_l (k := k + 1) (by rw [tk_len l k hlt]; exact q)
      have HF : Hid (∀ j (hj : j < l[k].length), tok (l[k])[j] = false → r = false) := fun j hj q => by rw [HR.out]; exact ask_t hlt hj q
      have HK : Hid (l[k].length ≠ 0 → (∀ t ∈ l[k], tok t = true) → ∀ j (hj : j < l.length), j < k + 1 → l[j].length ≠ 0 ∧ ∀ t ∈ l[j], tok t = true) := fun q1 q2 j hj hjk => by
        by_cases e : j = k
        · subst e; exact ⟨q1, q2⟩
        · exact HN.out j hj (by omega)
      have HLn := Lib.hid (tk_len l k hlt)
      clear hxm HN
      generalize l[k] = x at hx hx1 HX2 HE HB HF HK HLn
      generalize (l.take k).flatten.length = m at h30 HB HLn ⊢
      obtain ⟨X, cX, rfl⟩ := ts_sl hx
      have HS := Lib.hid hx
      clear hx
      generalize wr = wA at *
      by_cases hx0 : x.length = 0
      · have hr := HE.out hx0
        subst hr
        go_wp2_with fail
        go_ret
        exact ⟨rfl, hW⟩
      · by_cases hm : 30 < m + x.length
        · have hr := HB.out hm
          subst hr
          go_wp2_with fail
          go_ret
          exact ⟨rfl, hW⟩
        · have e0 : ((x.length : Int) == 0) = false := by rw [beq_eq_false_iff_ne]; omega
          have e1 : decide ((30 : Int) < (m : Int) + (x.length : Int)) = false := by simp; omega
          go_wp2_with fail
          go_loopw [27] (fun i W => ∃ j : Nat, j ≤ x.length ∧ i = .int .i64 j ∧ Below wA.heap.size wA W ∧ Hid (∀ i (hi : i < x.length), i < j → tok x[i] = true)) (fun i _ => x.length - (intOf i).toNat)
          case atStart => exact ⟨0, Nat.zero_le _, rfl, Below.refl _ _, fun j _ h => absurd h (Nat.not_lt_zero _)⟩
          case round =>
            obtain ⟨j, hj, rfl, hV, HJ⟩ := hrel
            by_cases hjl : j < x.length
            · obtain ⟨bx, ox, rfl, t0, t1, t2, t3, t4⟩ := ts_at (HS.out.on hV) j hjl
              obtain ⟨hsh, hnm⟩ := HX2.out x[j] (List.getElem_mem hjl)
              have HFj : Hid (tok x[j] = false → r = false) := HF.out j hjl
              have HJ2 : Hid (tok x[j] = true → ∀ i (hi : i < x.length), i < j + 1 → tok x[i] = true) := fun q i hi hij => by
                by_cases e : i = j
                · subst e; exact q
                · exact HJ.out i hi (by omega)
              clear HJ
              generalize x[j] = t at t0 t1 t2 t3 t4 hsh hnm HFj HJ2
              have bT := bA1 wr (.cells #[.string ⟨t.n.toArray⟩, .int .i64 t.o, .int .i64 t.e, .string ⟨t.u.toArray⟩, .string ⟨t.r.toArray⟩] 68)
              have hVT := bt2 hV bT
              have hWT := bt2 hW hVT
              have cN := fun W => xname_any t.n W hnm
              have cI := fun W => xin3_any t.o 0 5 W
              have cR := xright_any t.e t.u t.r _ hsh.e0 hsh.e1 hsh.u hsh.r (tab_on HT.out hWT)
              clear bT
              cases hN : nmo t.n with
              | false =>
                have hr := HFj.out (tok_n hN)
                subst hr
                rw [hN] at cN
                clear cI cR hsh
                go_wp2_with (go_at_call 57; refine (cN _).mono ?_; rintro x w' ⟨rfl, rfl⟩)
                go_ret
                exact ⟨rfl, hWT⟩
              | true =>
                rw [hN] at cN
                cases hI : (decide ((0 : Int) ≤ t.o) && decide (t.o ≤ 5)) with
                | false =>
                  have hr := HFj.out (tok_i hI)
                  subst hr
                  rw [hI] at cI
                  clear cR hsh hI
                  go_wp2_with (first | (go_at_call 57; refine (cN _).mono ?_; rintro x w' ⟨rfl, rfl⟩) | (go_at_call 58; refine (cI _).mono ?_; rintro x w' ⟨rfl, rfl⟩))
                  go_ret
                  exact ⟨rfl, hWT⟩
                | true =>
                  rw [hI] at cI
                  by_cases ho : t.o = 0
                  · have HT0 := Lib.hid (tok_0 hN ho)
                    rw [ho] at t1 cI
                    clear cR hsh hI ho
                    go_wp2_with (first | (go_at_call 57; refine (cN _).mono ?_; rintro x w' ⟨rfl, rfl⟩) | (go_at_call 58; refine (cI _).mono ?_; rintro x w' ⟨rfl, rfl⟩))
                    case roundEnd => exact ⟨⟨j + 1, hjl, by go_num, bt2 hV (bA1 _ _), HJ2.out (by rw [HT0.out]; simp [*])⟩, by simp [intOf]; omega⟩
                    all_goals
                      go_ret
                      exact ⟨ret_bool (HFj.out (by rw [HT0.out]; simp [*])).symm, bt2 hW (bt2 hV (bA1 _ _))⟩
                  · have HTr := Lib.hid (tok_r hN hI ho)
                    have ho' : (t.o == 0) = false := by rw [beq_eq_false_iff_ne]; exact ho
                    have KT := K5.new wr (.string ⟨t.n.toArray⟩) (.int .i64 t.o) (.int .i64 t.e) (.string ⟨t.u.toArray⟩) (.string ⟨t.r.toArray⟩) 68
                    clear hsh hI
                    go_wp2_with (first | (go_at_call 57; refine (cN _).mono ?_; rintro x w' ⟨rfl, rfl⟩) | (go_at_call 58; refine (cI _).mono ?_; rintro x w' ⟨rfl, rfl⟩))
                    refine cR.mono ?_
                    rintro e w2 ⟨rfl, b2⟩
                    have hV2 := bt2 hVT b2
                    have hW2 := bt2 hW hV2
                    clear b2 hVT hWT KT
                    cases hy : Vm.rt t.e t.u t.r with
                    | true =>
                      go_wp2_with fail
                      exact ⟨⟨j + 1, hjl, by go_num, hV2, HJ2.out (by rw [HTr.out, hy])⟩, by simp [intOf]; omega⟩
                    | false =>
                      go_wp2_with fail
                      go_ret
                      exact ⟨ret_bool (HFj.out (by rw [HTr.out, hy])).symm, hW2⟩
            · have HG : Hid (∀ j (hj : j < l.length), j < k + 1 → l[j].length ≠ 0 ∧ ∀ t ∈ l[j], tok t = true) := HK.out hx0 (fun t ht => by
                obtain ⟨i, hi, rfl⟩ := List.getElem_of_mem ht
                exact HJ.out i hi (by omega))
              have hWV := bt2 hW hV
              go_wp2_with fail
              exact ⟨⟨k + 1, hlt, by go_num, by rw [HLn.out]; go_num, hWV, by rw [HLn.out]; omega, HG⟩, by simp [intOf]; omega⟩
    · have hke : k = l.length := by omega
      subst hke
      have hr : r = true := by rw [HR.out]; exact ask_y h30 HN.out
      subst hr
      go_wp2_with fail
      go_ret
      exact ⟨rfl, hW⟩
end Go.Proofs.YtglfdipepofcjabDoor
