/- The walk of the reference's PrintTerms. -/
import Derived.Test.YtglfdipepofcjabDoorXb
namespace Go.Proofs.YtglfdipepofcjabDoor
open Go.RowKit Go.Shelf Go.Sort

/-- What is written ahead of the j-th term of the i-th list. -/
def px (l : List (List Tm)) (x : List Tm) (i j : Nat) : List UInt8 := jn [44, 32] ((l.map wrS).take i) ++ (if j = 0 then [] else (if 0 < i then [44, 32] else []) ++ jn [32, 124, 32] ((x.map wrT).take j))
theorem px_s (l : List (List Tm)) (x : List Tm) (i j : Nat) (hj : j < x.length) : px l x i (j + 1) = px l x i j ++ (if 0 < j then [32, 124, 32] else if 0 < i then [44, 32] else []) ++ wrT x[j] := by
  unfold px
  rw [if_neg (by omega : ¬ j + 1 = 0), jn_succ _ _ _ (by simpa using hj)]
  by_cases h0 : j = 0
  · subst h0
    simp [jn]
  · have h1 : 0 < j := by omega
    rw [if_neg h0]; simp [h1, List.append_assoc]
theorem px_end (l : List (List Tm)) (i : Nat) (hi : i < l.length) (h0 : l[i].length ≠ 0) : px l l[i] i l[i].length = jn [44, 32] ((l.map wrS).take (i + 1)) := by
  unfold px
  rw [if_neg h0, jn_succ _ _ _ (by simpa using hi)]
  rw [show List.take l[i].length (List.map wrT l[i]) = List.map wrT l[i] from List.take_of_length_le (by simp)]
  simp [wrS, List.append_assoc]
theorem px_le {l : List (List Tm)} (h : Pok l) {x : List Tm} (hx : x ∈ l) (i j : Nat) : (px l x i j).length ≤ 210000 := by
  have h1 := h.ll i
  have h2 := h.lx hx j
  unfold px
  rw [List.length_append]
  split
  · simp; omega
  · rw [List.length_append]
    split <;> simp at * <;> omega
theorem sv_eq {A : ByteArray} {B : List UInt8} (h : A.data = B.toArray) : Value.string A = Value.string ⟨B.toArray⟩ := by
  congr 1; exact ByteArray.ext h
theorem pt_le {t : Tm} (h : tok t = true) (ho : ¬ t.o = 0) : (Vm.pt t.e t.u t.r).length ≤ 100 := by
  have := wrT_le h
  unfold wrT at this
  rw [if_neg ho] at this
  simp only [List.length_append] at this
  omega
theorem nm_le {t : Tm} (h : tok t = true) : t.n.length ≤ 100 := by
  have := wrT_le h
  unfold wrT at this
  split at this
  · exact this
  · simp only [List.length_append] at this; omega
theorem tok_op {t : Tm} (h : tok t = true) (ho : ¬ t.o = 0) : ∃ k : Nat, t.o = (k : Int) ∧ 0 < k ∧ k < 6 := by
  unfold tok at h
  rw [if_neg ho] at h
  simp only [Bool.and_eq_true, decide_eq_true_eq] at h
  exact ⟨t.o.toNat, by omega, by omega, by omega⟩
theorem sgt_le (k : Nat) : (sgt k).length ≤ 2 := by
  unfold sgt; split <;> simp

set_option maxHeartbeats 3200000 in
set_option maxRecDepth 100000 in
theorem xpterms_row (b o c : Nat) (l : List (List Tm)) (w : World) (h : Al w b o l) (hcl : l.length ≤ c) (hX : Asx l) (hk : ask l = true) (hP : Pok l) (hT : Tab w) :
    Calls Tryd.prog 16 #[.slice (some ⟨b, o, none⟩) l.length c] w fun e w' => e = .returned (.tuple #[.string ⟨(wrA l).toArray⟩, .int .i64 0]) ∧ Below w.heap.size w w' := by
  have cA := xasked_any (.slice (some ⟨b, o, none⟩) l.length c) l w ⟨.inr ⟨b, o, c, rfl, hcl, h⟩⟩ hX hT
  rw [hk] at cA
  have hne : ∀ x ∈ l, x.length ≠ 0 := fun x hx => by
    unfold ask at hk
    simp only [Bool.and_eq_true, List.all_eq_true, decide_eq_true_eq] at hk
    exact fun e => hk.1 x hx (List.length_eq_zero_iff.1 e)
  have HE := Lib.hid hne
  clear hne
  go_enter Tryd.func16, Tryd.ntmps16
  go_wp2_with fail
  refine cA.mono ?_
  rintro e w1 ⟨rfl, b1⟩
  have HA := Lib.hid (h.on b1)
  have HP := Lib.hid hP
  have HT := Lib.hid (tab_on hT b1)
  have hl30 := hP.n
  clear h hP hT cA hk hX
  go_wp2_with fail
  go_loopw [4, 14] (fun s v W => ∃ i : Nat, i ≤ l.length ∧ v = .int .i64 i ∧ s = .string ⟨(jn [44, 32] ((l.map wrS).take i)).toArray⟩ ∧ Below w1.heap.size w1 W) (fun _ v _ => l.length - (intOf v).toNat)
  case atStart => exact ⟨0, Nat.zero_le _, rfl, rfl, Below.refl _ _⟩
  case round =>
    obtain ⟨i, hi, rfl, rfl, hb⟩ := hrel
    by_cases hlt : i < l.length
    · obtain ⟨vi, c0, hTs⟩ := (HA.out.on hb).c i hlt
      have hxm := List.getElem_mem hlt
      have hx30 := HP.out.m l[i] hxm
      have HNE := Lib.hid (px_end l i hlt (HE.out l[i] hxm))
      have hne := HE.out l[i] hxm
      rw [show jn [44, 32] ((l.map wrS).take i) = px l l[i] i 0 from by simp [px]]
      generalize l[i] = x at hTs hxm hx30 HNE hne ⊢
      obtain ⟨A, c', rfl⟩ := ts_sl hTs
      have HS := Lib.hid hTs
      clear hTs
      generalize wr = wA at *
      have hS0 := px_le HP.out hxm i 0
      go_wp2_with fail
      go_loopw [4, 21] (fun s v W => ∃ j : Nat, j ≤ x.length ∧ v = .int .i64 j ∧ s = .string ⟨(px l x i j).toArray⟩ ∧ Below wA.heap.size wA W) (fun _ v _ => x.length - (intOf v).toNat)
      case atStart => exact ⟨0, Nat.zero_le _, rfl, rfl, Below.refl _ _⟩
      case round =>
        obtain ⟨j, hj, rfl, rfl, hV⟩ := hrel
        by_cases hjl : j < x.length
        · obtain ⟨bx, ox, rfl, t0, t1, t2, t3, t4⟩ := ts_at (HS.out.on hV) j hjl
          have htk := HP.out.k x hxm x[j] (List.getElem_mem hjl)
          have hts := HP.out.s x hxm x[j] (List.getElem_mem hjl)
          have HN := Lib.hid (px_s l x i j hjl)
          have hSl := px_le HP.out hxm i j
          generalize px l x i j = S at HN hSl ⊢
          generalize x[j] = t at t0 t1 t2 t3 t4 htk hts HN
          have hnl := nm_le htk
          have hWV := bt2 hb (bt2 hV (bA1 wr (.cells #[.string ⟨t.n.toArray⟩, .int .i64 t.o, .int .i64 t.e, .string ⟨t.u.toArray⟩, .string ⟨t.r.toArray⟩] 68)))
          have hsep : ∃ Sp : List UInt8, Sp.length ≤ 210010 ∧ Hid (px l x i (j + 1) = Sp ++ wrT t) ∧ Hid (Sp = S ++ (if 0 < j then [32, 124, 32] else if 0 < i then [44, 32] else [])) := ⟨_, by rw [List.length_append]; split; simp; omega; split <;> simp <;> omega, HN, rfl⟩
          obtain ⟨Sp, hSp, HN2, HSp⟩ := hsep
          clear HN
          by_cases ho : t.o = 0
          · rw [ho] at t1
            have HW : Hid (wrT t = t.n) := by show _ = _; unfold wrT; rw [if_pos ho]
            clear htk hts ho hWV
            have HV2 := Lib.hid (bt2 hV (bA1 wr (.cells #[.string ⟨t.n.toArray⟩, .int .i64 0, .int .i64 t.e, .string ⟨t.u.toArray⟩, .string ⟨t.r.toArray⟩] 68)))
            by_cases hj0 : 0 < j
            · have q0 : (0 : Int) < (j : Int) := by omega
              rw [if_pos hj0] at HSp
              go_wp2_with fail
              exact ⟨⟨j + 1, hjl, by go_num, sv_eq (by rw [HN2.out, HW.out, HSp.out]; simp), HV2.out⟩, by simp [intOf]; omega⟩
            · have q0 : ¬ (0 : Int) < (j : Int) := by omega
              rw [if_neg hj0] at HSp
              by_cases hi0 : 0 < i
              · have q1 : (0 : Int) < (i : Int) := by omega
                rw [if_pos hi0] at HSp
                go_wp2_with fail
                exact ⟨⟨j + 1, hjl, by go_num, sv_eq (by rw [HN2.out, HW.out, HSp.out]; simp), HV2.out⟩, by simp [intOf]; omega⟩
              · have q1 : ¬ (0 : Int) < (i : Int) := by omega
                rw [if_neg hi0] at HSp
                clear hi0 hj0
                go_wp2_with fail
                exact ⟨⟨j + 1, hjl, by go_num, sv_eq (by rw [HN2.out, HW.out, HSp.out]; simp), HV2.out⟩, by simp [intOf]; omega⟩
          · obtain ⟨k, hk, k0, k6⟩ := tok_op htk ho
            have HW : Hid (wrT t = t.n ++ [32, 40] ++ sgt k ++ [32] ++ Vm.pt t.e t.u t.r ++ [41]) := by show _ = _; unfold wrT; rw [if_neg ho, hk]; rfl
            have hpl := pt_le htk ho
            have hgl := sgt_le k
            have cS := fun W => xsign_any k k0 k6 W
            have cP := xprint_any t.e t.u t.r _ hts.e0 hts.e1 hts.u hts.r (tab_on HT.out hWV)
            have ho' : ((k : Int) == 0) = false := by rw [beq_eq_false_iff_ne]; omega
            rw [hk] at t1 cP hWV
            have hV2 := bt2 hV (bA1 wr (.cells #[.string ⟨t.n.toArray⟩, .int .i64 k, .int .i64 t.e, .string ⟨t.u.toArray⟩, .string ⟨t.r.toArray⟩] 68))
            have HV2 := Lib.hid hV2
            generalize sgt k = sg at HW hgl cS
            have hTT := hts
            have hTW := HT.out
            have KT := K5.new wr (.string ⟨t.n.toArray⟩) (.int .i64 k) (.int .i64 t.e) (.string ⟨t.u.toArray⟩) (.string ⟨t.r.toArray⟩) 68
            generalize hwB : wr.alloc (.cells #[.string ⟨t.n.toArray⟩, .int .i64 k, .int .i64 t.e, .string ⟨t.u.toArray⟩, .string ⟨t.r.toArray⟩] 68) = wB at cP hWV HV2 KT
            have HwB := Lib.hid hwB
            have g1 := cell_regrown KT.c1
            have g2 := cell_regrown KT.c2
            have g3 := cell_regrown KT.c3
            have g4 := cell_regrown KT.c4
            have d2 : ∀ d0 os, Calls Tryd.prog 49 #[.agg #[.int .i64 t.e, .string ⟨t.u.toArray⟩, .string ⟨t.r.toArray⟩]] (grow (redrawn wB d0) os) fun z w'' => z = .returned (.string ⟨(Vm.pt t.e t.u t.r).toArray⟩) ∧ ∃ p : Regrown, w'' = grow (redrawn wB p.d) p.os := fun d0 os => Calls.regrown_of (xprint_any t.e t.u t.r _ hTT.e0 hTT.e1 hTT.u hTT.r (tab_on hTW (bt2 hWV (below_regrown wB d0 os))))
            have d1 := fun d0 os => regrown_same (w := wB) cS d0 os
            generalize Vm.pt t.e t.u t.r = pv at HW hpl d2
            clear htk hts ho hWV hk hV2 cS cP hTT hTW hwB
            by_cases hj0 : 0 < j
            case' pos =>
              have q0 : (0 : Int) < (j : Int) := by omega
              rw [if_pos hj0] at HSp
              clear hj0
              go_wp2_with fail
            case' neg =>
              have q0 : ¬ (0 : Int) < (j : Int) := by omega
              rw [if_neg hj0] at HSp
              clear hj0
              by_cases hi0 : 0 < i
              case' pos =>
                have q1 : (0 : Int) < (i : Int) := by omega
                rw [if_pos hi0] at HSp
                clear hi0
                go_wp2_with fail
              case' neg =>
                have q1 : ¬ (0 : Int) < (i : Int) := by omega
                rw [if_neg hi0] at HSp
                clear hi0
                go_wp2_with fail
            all_goals
              rw [HwB.out]
              clear HwB
              refine wp_region_quiet_below (by kernel_rfl) (by kernel_rfl) ?_
              repeat (any_goals (first | go_big_quiet_step (first | with_reducible exact d1 _ _ | with_reducible exact d2 _ _) | quiet_step (first | with_reducible exact d1 _ _ | with_reducible exact d2 _ _)))
              refine wpQuiet_nil ?_
              intro _ hw'
              obtain ⟨⟨dq, osq⟩, hw''⟩ := hw'
              subst hw''
              have hV3 := rg HV2.out ⟨⟨dq, osq⟩, rfl⟩
              go_wp2_with fail
              exact ⟨⟨j + 1, hjl, by go_num, sv_eq (by rw [HN2.out, HW.out, HSp.out]; simp), hV3⟩, by simp [intOf]; omega⟩
        · obtain rfl : j = x.length := by omega
          have hWV := bt2 hb hV
          rw [HNE.out]
          go_wp2_with fail
          exact ⟨⟨i + 1, hlt, by go_num, rfl, hWV⟩, by simp [intOf]; omega⟩
    · obtain rfl : i = l.length := by omega
      have hWV := bt2 b1 hb
      rw [show jn [44, 32] ((l.map wrS).take l.length) = wrA l from by unfold wrA; rw [List.take_of_length_le (by simp)]]
      go_wp2_with fail
      go_ret2
      exact ⟨rfl, hWV⟩
set_option maxHeartbeats 800000 in
set_option maxRecDepth 100000 in
theorem xpterms_no (v : Value) (l : List (List Tm)) (w : World) (h : As w v l) (hX : Asx l) (hk : ask l = false) (hT : Tab w) : Calls Tryd.prog 16 #[v] w fun e w' => e = .returned (.tuple #[.string ⟨#[]⟩, .int .i64 1]) ∧ Below w.heap.size w w' := by
  have cA := xasked_any v l w h hX hT
  rw [hk] at cA
  obtain ⟨A, c, rfl⟩ := as_sl h
  clear h hX hT hk
  go_enter Tryd.func16, Tryd.ntmps16
  go_wp2_with fail
  refine cA.mono ?_
  rintro e w1 ⟨rfl, b1⟩
  go_wp2
  go_ret2
  exact ⟨rfl, b1⟩
set_option maxHeartbeats 800000 in
set_option maxRecDepth 100000 in
theorem xpterms_nil (A : Option Addr) (c : Nat) (w : World) (hT : Tab w) : Calls Tryd.prog 16 #[.slice A 0 c] w fun e w' => e = .returned (.tuple #[.string ⟨#[]⟩, .int .i64 0]) ∧ Below w.heap.size w w' := by
  have cA := xasked_any (.slice A 0 c) [] w ⟨.inl ⟨rfl, A, c, rfl⟩⟩ ⟨by simp, by simp, by simp, by simp⟩ hT
  rw [show ask [] = true from rfl] at cA
  clear hT
  go_enter Tryd.func16, Tryd.ntmps16
  go_wp2_with fail
  refine cA.mono ?_
  rintro e w1 ⟨rfl, b1⟩
  go_wp2
  refine wp_loop_rounds 1 ?_
  rw [rounds_succ]
  go_wp2
  go_ret2
  exact ⟨rfl, b1⟩
/-- What is asked for is written, if it may be. -/
theorem xpterms_any (v : Value) (l : List (List Tm)) (w : World) (h : As w v l) (hX : Asx l) (hT : Tab w) :
    Calls Tryd.prog 16 #[v] w fun e w' => e = .returned (if ask l = true then .tuple #[.string ⟨(wrA l).toArray⟩, .int .i64 0] else .tuple #[.string ⟨#[]⟩, .int .i64 1]) ∧ Below w.heap.size w w' := by
  cases hk : ask l with
  | false => exact xpterms_no v l w h hX hk hT
  | true =>
    rw [if_pos rfl]
    have hS : ∀ t ∈ l.flatten, Shn t := fun t ht => by obtain ⟨x, hx, ht⟩ := List.mem_flatten.1 ht; exact hX.s x hx t ht
    rcases h.is with ⟨rfl, A, c, rfl⟩ | ⟨b, o, c, rfl, hc, hA⟩
    · exact xpterms_nil A c w hT
    · exact xpterms_row b o c l w hA hc hX hk (pok_of hk hS) hT
end Go.Proofs.YtglfdipepofcjabDoor
