/- The walk of the law CheckSpares. -/
import Derived.Test.YthijccmiemlilaaGreatDoorJf
import Derived.Test.YthijccmiemlilaaGreatDoorJ2
import Derived.Test.YthijccmiemlilaaGreatDoorJ1
import Derived.Test.YthijccmiemlilaaGreatDoorGr
import Derived.Test.YthijccmiemlilaaGreatDoorB7
namespace Go.Proofs.YthijccmiemlilaaGreatDoor.Kee
open Go.RowKit Go.Sort Go.Maps

/-- One more offer is appended. -/
theorem wpList_ap5 {W : World} {B : Nat} {S : Value} {q : List (Ofr × Value)} (e : Ofr × Value) (he : ∃ A n c, e.2 = .slice A n c) (h : W.ownsRow B 65 5 S q.length (q.flatMap of5)) (hl : q.length ≤ 1000000) (hB : B ≤ W.heap.size)
    {ops : Array Oper} {rest : List Oper} {o : Oper} {a : Act} {Q : Exit → Act → World → Prop} (hg : o.guard = none) (s x : Operand) (hop : o.op = Op.call { callee := Callee.builtin Builtin.append, args := #[s, x], argTypes := #[63, 63] }) (hs : a.eval s = S) (N : Nat) (hx : a.eval x = .slice (some ⟨N, 0, none⟩) 1 1) (hN : N = W.heap.size)
    (K : ∀ g c w6, w6.ownsRow B 65 5 (.slice (some ⟨g, 0, none⟩) (q.length + 1) c) (q ++ [e]).length ((q ++ [e]).flatMap of5) → (W.alloc (.cells (of5 e).toArray 65)).grownBy w6 S.ownBlock → (S.ownBlock = some g ∨ g = W.heap.size + 1) → wpList Tryz.prog ops Q rest (a.put o.dst (.slice (some ⟨g, 0, none⟩) (q.length + 1) c)) w6) :
    wpList Tryz.prog ops Q (o :: rest) a (W.alloc (.cells (of5 e).toArray 65)) := by
  subst hN
  obtain ⟨i0, z0, hi0, hz0, hz1, hz2, hz3⟩ := info_of info65
  obtain ⟨A', n', c'', he⟩ := he
  have news : ∀ j u, (of5 e)[j]? = some u → (W.alloc (.cells (of5 e).toArray 65)).cell? ((⟨W.heap.size, 0, none⟩ : Addr).add j) = some u := by
    have := World.news_of_block (nb0 W (.cells (of5 e).toArray 65))
    simpa using this
  have ones : ∀ u ∈ of5 e, u.oneCell' = true := by intro u hu; simp [of5, he] at hu; rcases hu with rfl | rfl | rfl | rfl | rfl <;> rfl
  refine wpList_append_lies _ hg s x 63 hop B 65 i0 z0 5 80 Tryz.underlying63 hi0 hz0 hz1 hz2 hz3 (by decide) _ _ _ hs (h.alloc _) ⟨W.heap.size, 0, none⟩ 1 1 (of5 e) hx rfl news ones (by decide) (by unfold maxLen; omega) (by omega) (by rw [World.size_alloc]; omega) _ rfl ?_
  intro g' c' w6 hown hgr hor _
  have e2 : (q ++ [e]).length = q.length + 1 := by simp
  refine K g' c' w6 ?_ hgr (by rw [World.size_alloc] at hor; exact hor)
  rw [e2, List.flatMap_append]
  simpa using hown
theorem YE.app {w V : World} {S S' : Value} {q q' : List (Ofr × Value)} {W : World} (h : YE w V S S' q q' W) {o : Obj} {g c n : Nat} {e : Ofr × Value} {w6 : World} (ht : Ts w e.2 e.1.P) (hI : w6.ownsRow V.heap.size 65 5 (.slice (some ⟨g, 0, none⟩) n c) (q ++ [e]).length ((q ++ [e]).flatMap of5)) (hg : (W.alloc o).grownBy w6 S.ownBlock) (hor : S.ownBlock = some g ∨ g = W.heap.size + 1) : YE w V (.slice (some ⟨g, 0, none⟩) n c) S' (q ++ [e]) q' w6 := by
  have h1 := h.on (b1c W o)
  refine ⟨h1.b.grown hg h1.b.size (fun j e => (h1.x.lt j e).1), hI, own_far h1.x' h1.ne hg, fun y hy => ?_, h.t', fun g' e1 e2 => ?_⟩
  · rcases List.mem_append.1 hy with hy | hy
    · exact h.t y hy
    · rw [List.mem_singleton.1 hy]; exact ht
  · cases e1
    rcases hor with e3 | e3
    · exact h.ne g e3 e2
    · have h9 : g < W.heap.size := own_lt h.x' e2
      omega
/-- What the last loops have in memory. -/
structure LG (w W : World) (bl gb : Nat) (vL S : Value) (R : List Nat) (f : Nat → Int) (c : Nat) : Prop where
  b : Below w.heap.size w W
  x : W.heap[bl]? = some (.cells #[vL] 32 (0, 0))
  i : Ord.Is W S R
  n : IN W gb f c
theorem LG.on {w W W' : World} {bl gb : Nat} {vL S : Value} {R : List Nat} {f : Nat → Int} {c : Nat} (h : LG w W bl gb vL S R f c) (k : Below W.heap.size W W') : LG w W' bl gb vL S R f c := ⟨bon h.b k, heap_on h.x k, h.i.on k, h.n.on k⟩
set_option maxHeartbeats 6400000 in
set_option maxRecDepth 100000 in
theorem spares_any (A : Option Addr) (c : Nat) (l : List Kn) (m : Int) (w : World) (hl : Ks w (.slice A l.length c) l) (hO : Oc w) (hT : ∀ W, Below w.heap.size w W → Lib.TabIs Tryz.prog W "internal/strconv.uint64pow10" .u64 Lib.pow10Tab) (hE : ErrT w) : Calls Tryz.prog 5 #[.slice A l.length c, .int .i64 m] w fun x w' => x = .returned (.bool true) ∧ Below w.heap.size w w' := by
  obtain ⟨w2, hw2⟩ : ∃ w2, w2 = w.alloc (.cells #[.slice A l.length c] 32) := ⟨_, rfl⟩
  have hb2 : Below w.heap.size w w2 := by rw [hw2]; exact b1c _ _
  have hcA : w2.heap[w.heap.size]? = some (.cells #[.slice A l.length c] 32 (0, 0)) := by rw [hw2]; exact nb0 _ _
  have q0 : w2.cell? ⟨w.heap.size, 0, none⟩ = some (.slice A l.length c) := by rw [hw2]; simp
  have HL := Lib.hid hl
  have HO := Lib.hid hO
  have HT := Lib.hid hT
  have HE := Lib.hid hE
  have HB2 := Lib.hid hb2
  have HCA := Lib.hid hcA
  have cK := known_any A c l w2 (hl.on hb2)
  clear hl hO hT hE hcA hb2
  go_enter Tryz.func5, Tryz.ntmps5
  go_upto_region 1 with fail
  rw [← hw2]
  clear hw2
  go_wp2_with fail
  with_reducible refine cK.mono ?_
  rintro x wA ⟨y, rfl, kA, hS⟩
  have HS := Lib.hid hS
  clear cK hS
  cases y with
  | false =>
    go_wp2_with fail
    go_ret
    exact ⟨rfl, bon HB2.out kA⟩
  | true =>
  obtain ⟨hn, hSo⟩ : l.length ≤ 15 ∧ ∀ k ∈ l, Sok k.p := by first | exact HS.out rfl | exact HS.out trivial
  have HSo := Lib.hid hSo
  clear HS hSo q0
  have cJ := judged_any wA (fun W h => HT.out W (bon (bon HB2.out kA) h)) (HE.out.on (bon HB2.out kA))
  go_wp2_with fail
  with_reducible refine cJ.mono ?_
  rintro x wB ⟨rfl, kB'⟩
  have kB := bon kA kB'
  have q0 : wB.cell? ⟨w.heap.size, 0, none⟩ = some (.slice A l.length c) := by rw [cell_of_row wB _ 0 _ _ _ (heap_on HCA.out kB)]; rfl
  have cL := line_any A c l wB (HL.out.on (bon HB2.out kB)) (by omega) HSo.out (HO.out.on (bon HB2.out kB))
  clear cJ kB' kA
  go_wp2_with fail
  with_reducible refine cL.mono ?_
  rintro x wC ⟨S1, rfl, hI1, kC'⟩
  obtain ⟨A1, c1', rfl⟩ := Ord.is_len hI1
  have kC := bon kB kC'
  have HI1 := Lib.hid hI1
  have HBx := Lib.hid (heap_on HCA.out kC)
  have HWC := Lib.hid (bon HB2.out kC)
  have hLt := lnR_lt l
  have HLt := Lib.hid hLt
  have HCnt := Lib.hid (lnR_cnt l)
  have hLl : (lnR l).length ≤ 15 := by unfold lnR; rw [List.length_map, (lnO_all l).1]; have := sts_le l l.length; omega
  clear cL hI1 kC' kB kC q0 hLt
  generalize lnR l = LR at *
  have hmm := @run_makeMap Tryz.prog
  go_upto_region 7 with fail
  clear hmm
  have hIN0 : Hid (IN (wC.alloc (.map #[] 0)) wC.heap.size (fun _ => 0) 0) := IN.new (nb0 wC _)
  have hbD := Lib.hid (b1c wC (.map #[] 0))
  obtain ⟨mb, hmb⟩ : ∃ mb, mb = wC.heap.size := ⟨_, rfl⟩
  have hmbw : wC.heap.size ≤ mb := by omega
  rw [← hmb] at hIN0 ⊢
  generalize wC.alloc (.map #[] 0) = wD at hIN0 hbD ⊢
  clear hmb
  go_wp2_with fail
  go_loopw [7] (fun i W => ∃ (k : Nat), k ≤ LR.length ∧ i = .int .i64 k ∧ Hid (Below wC.heap.size wC W) ∧ Hid (IN W mb (fun j => ((LR.take k).count j : Int)) k)) (fun i _ => LR.length - (intOf i).toNat)
  case atStart => exact ⟨0, Nat.zero_le _, rfl, hbD, by simpa using hIN0⟩
  case round =>
    clear hIN0 hbD
    obtain ⟨k, hk, rfl, HW, HIN⟩ := hrel
    by_cases hlt : k < LR.length
    · obtain ⟨b8, o8, rfl, hc8, _⟩ := isn_at (HI1.out.on HW.out) k hlt
      have hel : LR[k] < l.length := HLt.out _ (List.getElem_mem hlt)
      have HTK : Hid (∀ j, (LR.take (k + 1)).count j = (LR.take k).count j + if j = LR[k] then 1 else 0) := fun j => by
        rw [List.take_succ_eq_append_getElem hlt, List.count_append, List.count_singleton]
        congr 1
        by_cases e : j = LR[k]
        · simp [e]
        · simp [e, Ne.symm e]
      generalize LR[k] = e at *
      have hcl : (LR.take k).count e ≤ 15 := by
        have h1 := List.count_le_length (a := e) (l := LR.take k)
        have h2 : (LR.take k).length ≤ LR.length := by simp; omega
        omega
      have hlk := HIN.out.look e (by omega)
      obtain ⟨W', e1, hIN', hK'⟩ := HIN.out.put e (by omega) (by omega) (((LR.take k).count e : Int) + 1)
      have HW' := Lib.hid (kp_below' hK' HW.out hmbw HW.out.size)
      have HIN' : Hid (IN W' mb (fun j => ((LR.take (k + 1)).count j : Int)) (k + 1)) := by
        have ef : (fun j => if j = e then ((LR.take k).count e : Int) + 1 else ((LR.take k).count j : Int)) = fun j => ((LR.take (k + 1)).count j : Int) := by
          funext j
          rw [HTK.out j]
          by_cases hj : j = e
          · subst hj; simp
          · simp [hj]
        show IN _ _ _ _
        rw [← ef]
        exact hIN'
      have hwz : wrap64 (((LR.take k).count e : Int) + 1) = ((LR.take k).count e : Int) + 1 := by unfold wrap64; omega
      generalize ((LR.take k).count e : Int) = cn at *
      clear hIN' hK' HW HIN HTK hcl
      go_wp2_with fail
      exact ⟨⟨k + 1, hlt, by go_num, HW', HIN'⟩, by simp [intOf]; omega⟩
    · have hke : k = LR.length := by omega
      subst hke
      rw [List.take_length] at HIN
      have HWE := Lib.hid (bon HWC.out HW.out)
      have HBE := Lib.hid (heap_on HBx.out HW.out)
      have q0 : wr.cell? ⟨w.heap.size, 0, none⟩ = some (.slice A l.length c) := by rw [cell_of_row wr _ 0 _ _ _ HBE.out]; rfl
      clear HW HLt
      go_wp2_with fail
      go_loop [8] (fun i => ∃ (k : Nat), k ≤ l.length ∧ i = .int .i64 k) (fun i => l.length - (intOf i).toNat)
      case atStart => exact ⟨0, Nat.zero_le _, rfl⟩
      case round =>
        obtain ⟨k, hk, rfl⟩ := hrel
        by_cases hlt : k < l.length
        · obtain ⟨b, o, rfl, vW, vT, vD, vA, vG, vB, vR, vP, vS, vL, vF, kc, kz⟩ := (HL.out.on HWE.out).at' k hlt
          have hst := kc.c0
          have hlk := HIN.out.look k (by omega)
          have hcn := HCnt.out k hlt
          rw [hcn] at hlk
          have cM := may_any l[k].st 3 wr (HO.out.on HWE.out)
          rw [show mayB l[k].st 3 = ms l[k] from rfl] at cM
          obtain ⟨y, hy⟩ : ∃ y, ms l[k] = y := ⟨_, rfl⟩
          rw [hy] at cM hlk
          generalize l[k].st = st at *
          clear kc kz hcn hy
          go_wp2_with fail
          with_reducible refine cM.mono ?_
          rintro x w9 ⟨rfl, hw9⟩
          subst hw9
          clear cM
          cases y with
          | true =>
            have hlk' : Sem.run Tryz.prog (Instr.lookup 55 (.map (some mb)) (.int .i64 (k : Int)) false) w9 = .ok (.int .i64 1) w9 := by simpa using hlk
            clear hlk
            go_wp2_with fail
            exact ⟨⟨k + 1, hlt, by go_num⟩, by simp [intOf]; omega⟩
          | false =>
            have hlk' : Sem.run Tryz.prog (Instr.lookup 55 (.map (some mb)) (.int .i64 (k : Int)) false) w9 = .ok (.int .i64 0) w9 := by simpa using hlk
            clear hlk
            go_wp2_with fail
            exact ⟨⟨k + 1, hlt, by go_num⟩, by simp [intOf]; omega⟩
        · by_cases h0 : l.length = 0
          · have h0' : ((l.length : Int) == 0) = true := by simp [h0]
            clear hlt
            go_wp2_with fail
            go_ret
            exact ⟨rfl, HWE.out⟩
          · have h0' : ((l.length : Int) == 0) = false := by simp [h0]
            obtain ⟨b, o, rfl, hK⟩ : ∃ b o, A = some ⟨b, o, none⟩ ∧ Kl w b o l := by
              rcases HL.out.is with ⟨rfl, _⟩ | ⟨b, o, c', e, hf⟩
              · exact absurd rfl h0
              · rw [Value.slice.injEq] at e; exact ⟨b, o, e.1, hf⟩
            have HK := Lib.hid hK
            have cP := pick_any m l.length wr (by omega) (by omega)
            clear hK HL HI1 HCnt
            go_wp2_with fail
            with_reducible refine cP.mono ?_
            rintro x w9 ⟨⟨r, hr, rfl⟩, hw9⟩
            subst hw9
            clear cP
            have hIN1 := IN.new (nb0 w9 (.map #[] 0))
            obtain ⟨wF, e1, hINF, hKF⟩ := hIN1.put r (by omega) (by omega) 1
            have hmm := @run_makeMap Tryz.prog
            have hbM := b1c w9 (.map #[] 0)
            have HWF := Lib.hid (kp_below' hKF (bon HWE.out hbM) HWE.out.size (bon HWE.out hbM).size)
            have HBF := Lib.hid (cells_kp (heap_on HBE.out hbM) hIN1 hKF)
            have q1 : wF.cell? ⟨w.heap.size, 0, none⟩ = some (.slice (some ⟨b, o, none⟩) l.length c) := by rw [cell_of_row wF _ 0 _ _ _ HBF.out]; rfl
            have HINF := Lib.hid hINF
            have cN := needs_in b o c l r wF (HK.out.on HWF.out) (by omega) hr HSo.out
            have hgb : w.heap.size ≤ w9.heap.size := HWE.out.size
            clear hINF hKF hIN1 hbM
            go_wp2_with fail
            with_reducible refine cN.mono ?_
            rintro x wG ⟨S2, R, rfl, hI2, hN2, hR2, kG⟩
            obtain ⟨A2, c2', rfl⟩ := Ord.is_len hI2
            have hRlt : ∀ i ∈ R, i < l.length := fun i hi => by
              obtain ⟨g, h1, _, h3⟩ := hN2.is
              exact Nds.rch_lt _ _ _ hr h1 i ((h3 i).1 hi).1
            have hrR : r ∉ R := fun hi => by
              obtain ⟨g, _, _, h3⟩ := hN2.is
              exact ((h3 r).1 hi).2 rfl
            have HGn := Lib.hid (gn_of hN2)
            have HRlt := Lib.hid hRlt
            have HrR := Lib.hid hrR
            have HLG : Hid (LG w wG w.heap.size w9.heap.size (.slice (some ⟨b, o, none⟩) l.length c) (.slice A2 R.length c2') R (fun j => if j = r then 1 else 0) 1) := ⟨bon HWF.out kG, heap_on HBF.out kG, hI2, HINF.out.on kG⟩
            generalize w9.heap.size = gb at *
            clear hI2 hN2 cN hmm e1 q1 HINF HBF HWF hRlt hrR kG HIN HBE HWE q0 HBx HWC
            go_wp2_with fail
            go_loopw [77] (fun i W => ∃ (k : Nat), k ≤ R.length ∧ i = .int .i64 k ∧ Hid (LG w W w.heap.size gb (.slice (some ⟨b, o, none⟩) l.length c) (.slice A2 R.length c2') R (fun j => (if j = r then 1 else 0) + ((R.take k).count j : Int)) (k + 1))) (fun i _ => R.length - (intOf i).toNat)
            case atStart => exact ⟨0, Nat.zero_le _, rfl, by simpa using HLG⟩
            case round =>
              clear HLG
              obtain ⟨k, hk, rfl, HG⟩ := hrel
              by_cases hlt : k < R.length
              · obtain ⟨b8, o8, rfl, hc8, _⟩ := isn_at HG.out.i k hlt
                have hel : R[k] < l.length := HRlt.out _ (List.getElem_mem hlt)
                have HTK : Hid (∀ j, (R.take (k + 1)).count j = (R.take k).count j + if j = R[k] then 1 else 0) := fun j => by
                  rw [List.take_succ_eq_append_getElem hlt, List.count_append, List.count_singleton]
                  congr 1
                  by_cases e : j = R[k]
                  · simp [e]
                  · simp [e, Ne.symm e]
                generalize R[k] = e at *
                have hcl : (R.take k).count e ≤ 100 := by
                  have h1 := List.count_le_length (a := e) (l := R.take k)
                  have h2 : (R.take k).length ≤ R.length := by simp; omega
                  omega
                have hlk := HG.out.n.look e (by omega)
                obtain ⟨W', e1, hIN', hK'⟩ := HG.out.n.put e (by omega) (by omega) (((if e = r then 1 else 0) + ((R.take k).count e : Int)) + 1)
                have HG' : Hid (LG w W' w.heap.size gb (.slice (some ⟨b, o, none⟩) l.length c) (.slice (some ⟨b8, o8, none⟩) R.length c2') R (fun j => (if j = r then 1 else 0) + ((R.take (k + 1)).count j : Int)) (k + 1 + 1)) := by
                  refine ⟨kp_below' hK' HG.out.b hgb HG.out.b.size, cells_kp HG.out.x HG.out.n hK', is_kp HG.out.i HG.out.n hK', ?_⟩
                  have ef : (fun j => if j = e then ((if e = r then 1 else 0) + ((R.take k).count e : Int)) + 1 else (if j = r then 1 else 0) + ((R.take k).count j : Int)) = fun j => (if j = r then 1 else 0) + ((R.take (k + 1)).count j : Int) := by
                    funext j
                    rw [HTK.out j]
                    by_cases hj : j = e
                    · subst hj; simp; omega
                    · simp [hj]
                  rw [← ef]
                  exact hIN'
                have h01 : (0 : Int) ≤ (if e = r then 1 else 0) ∧ (if e = r then (1 : Int) else 0) ≤ 1 := by split <;> omega
                have hwz : wrap64 (((if e = r then 1 else 0) + ((R.take k).count e : Int)) + 1) = ((if e = r then 1 else 0) + ((R.take k).count e : Int)) + 1 := by unfold wrap64; omega
                generalize (if e = r then 1 else 0) + ((R.take k).count e : Int) = cn at *
                clear hIN' hK' HG HTK hcl h01
                go_wp2_with fail
                exact ⟨⟨k + 1, hlt, by go_num, HG'⟩, by simp [intOf]; omega⟩
              · have hke : k = R.length := by omega
                subst hke
                rw [List.take_length] at HG
                have hf : (fun j => (if j = r then (1 : Int) else 0) + (R.count j : Int)) = fun j => if j = r then (1 : Int) else (R.count j : Int) := by
                  funext j
                  by_cases hj : j = r
                  · subst hj; simp [List.count_eq_zero.2 HrR.out]
                  · simp [hj]
                rw [hf] at HG
                obtain ⟨f, hff⟩ : ∃ f, f = fun j => if j = r then (1 : Int) else (R.count j : Int) := ⟨_, rfl⟩
                rw [← hff] at HG HGn
                have hlk := HG.out.n.look r (by omega)
                rw [HGn.out.s1] at hlk
                clear hf hff HRlt HrR
                obtain ⟨wQ, hwQ⟩ : ∃ wQ, wQ = wr := ⟨_, rfl⟩
                rw [← hwQ] at HG hlk ⊢
                clear hwQ
                go_wp2_with fail
                clear hlk
                go_loopw [14, 15, 16] (fun S S' i W => ∃ (k : Nat) (q q' : List (Ofr × Value)), k ≤ l.length ∧ i = .int .i64 k ∧ Hid (YE w wQ S S' q q' W) ∧ Hid (q.map (·.1) = (sel l (ndW l) k).map (·.p.o)) ∧ Hid (q'.map (·.1) = (sel l (fun j => ndW l j && !(!decide (f j = 0))) k).map (·.p.o))) (fun _ _ i _ => l.length - (intOf i).toNat)
                case atStart => exact ⟨0, [], [], Nat.zero_le _, rfl, ⟨Below.refl _ _, World.ownsRow_nil _ _ _ _, World.ownsRow_nil _ _ _ _, fun x hx => (by cases hx), fun x hx => (by cases hx), fun g e => by cases e⟩, rfl, rfl⟩
                case round =>
                  obtain ⟨k, q, q', hk, rfl, HY, HM, HM'⟩ := hrel
                  have HWr := Lib.hid (HG.out.b.trans (HY.out.b.mono HG.out.b.size))
                  have HGr := Lib.hid (HG.out.on HY.out.b)
                  have q0 : wr.cell? ⟨w.heap.size, 0, none⟩ = some (.slice (some ⟨b, o, none⟩) l.length c) := by rw [cell_of_row wr _ 0 _ _ _ HGr.out.x]; rfl
                  by_cases hlt : k < l.length
                  · obtain ⟨vW, vT, vD, vA, vG, vB, vR, vP, vS, vL, vF, kc0, kz⟩ := HK.out.c k hlt
                    have kc := kc0.on HWr.out
                    obtain ⟨i1, i3, rfl⟩ := kz.z.P.sl
                    have HTP := Lib.hid kz.z.P
                    have n7 := kc.c7
                    have n16 := kc.c16
                    have rV : wr.rangeAt b (o + k * 20 + 8) [.int .i64 l[k].p.o.e, .string ⟨l[k].p.o.u.toArray⟩, .string ⟨l[k].p.o.r.toArray⟩] := fun j v hv => by
                      match j, hv with
                      | 0, hv => cases hv; exact kc.c8
                      | 1, hv => cases hv; exact kc.c9
                      | 2, hv => cases hv; exact kc.c10
                      | n + 3, hv => simp at hv
                    have HS1 := Lib.hid (sel_yes (l := l) (f := ndW l) hlt)
                    have HS2 := Lib.hid (sel_yes (l := l) (f := fun j => ndW l j && !(!decide (f j = 0))) hlt)
                    have HN1 := Lib.hid (sel_no (l := l) (f := ndW l) (k := k))
                    have HN2 := Lib.hid (sel_no (l := l) (f := fun j => ndW l j && !(!decide (f j = 0))) (k := k))
                    clear kc kc0 kz
                    generalize l[k] = x at *
                    generalize hi2 : x.p.o.P.length = i2 at *
                    have hbl : b < wr.heap.size := block_lt_of_cell n7
                    have hll : w.heap.size < wr.heap.size := block_lt_of_cell q0
                    have hS : Below wr.heap.size wr wr.drew := (Below.refl _ _).drew
                    go_upto_region 35 with fail
                    refine wp_region_held (S := fun V => Below wr.heap.size wr V) (by kernel_rfl) ?_
                    refine take_d (some 97) (i := 0) (v := .slice (some ⟨b, o, none⟩) l.length c) rfl rfl (by kernel_rfl) (by kernel_rfl) (by kernel_rfl) (fun _ _ _ h => h) (.inl ⟨by kernel_rfl, fun w' hw => by simp [go_sem, hw.cell (p := ⟨w.heap.size, 0, none⟩) hll, q0]⟩) hS ?_
                    refine take_d (some 98) (i := 1) (v := .int .i64 k) rfl rfl (by kernel_rfl) (by kernel_rfl) (by kernel_rfl) (fun _ _ _ h => h) (.inl ⟨by kernel_rfl, fun w' hw => by simp [go_sem]⟩) hS ?_
                    refine take_d (some 99) (i := 2) (v := .pointer (some ⟨b, o + k * 20, none⟩)) rfl rfl (by kernel_rfl) (by kernel_rfl) (by kernel_rfl) (fun _ _ _ h => h) (.inl ⟨by kernel_rfl, fun w' hw => by simp [go_sem, hlt]⟩) hS ?_
                    refine take_d (some 100) (i := 3) (v := .pointer (some ⟨b, o + k * 20 + 7, none⟩)) rfl rfl (by kernel_rfl) (by kernel_rfl) (by kernel_rfl) (fun _ _ _ h => h) (.inl ⟨by kernel_rfl, fun w' hw => by simp [go_sem]⟩) hS ?_
                    simp only [Act.put, List.setIfInBounds_toArray, List.set_cons_succ, List.set_cons_zero]
                    refine take_d (some 101) (i := 4) (v := .pointer (some ⟨b, o + k * 20 + 7, none⟩)) rfl rfl (by kernel_rfl) (by kernel_rfl) (by kernel_rfl) (fun _ _ _ h => h) (.inl ⟨by kernel_rfl, fun w' hw => by simp [go_sem]⟩) hS ?_
                    refine take_d (some 102) (i := 5) (v := .string ⟨x.p.o.n.toArray⟩) rfl rfl (by kernel_rfl) (by kernel_rfl) (by kernel_rfl) (fun _ _ _ h => h) (.inl ⟨by kernel_rfl, fun w' hw => by simp [go_sem, hw.cell (p := ⟨b, o + k * 20 + 7, none⟩) hbl, n7]⟩) hS ?_
                    simp only [Act.put, List.setIfInBounds_toArray, List.set_cons_succ, List.set_cons_zero]
                    refine take_d (some 103) (i := 6) (v := .slice (some ⟨b, o, none⟩) l.length c) rfl rfl (by kernel_rfl) (by kernel_rfl) (by kernel_rfl) (fun _ _ _ h => h) (.inl ⟨by kernel_rfl, fun w' hw => by simp [go_sem, hw.cell (p := ⟨w.heap.size, 0, none⟩) hll, q0]⟩) hS ?_
                    refine take_d (some 104) (i := 7) (v := .int .i64 k) rfl rfl (by kernel_rfl) (by kernel_rfl) (by kernel_rfl) (fun _ _ _ h => h) (.inl ⟨by kernel_rfl, fun w' hw => by simp [go_sem]⟩) hS ?_
                    refine take_d (some 105) (i := 8) (v := .pointer (some ⟨b, o + k * 20, none⟩)) rfl rfl (by kernel_rfl) (by kernel_rfl) (by kernel_rfl) (fun _ _ _ h => h) (.inl ⟨by kernel_rfl, fun w' hw => by simp [go_sem, hlt]⟩) hS ?_
                    refine take_d (some 106) (i := 9) (v := .pointer (some ⟨b, o + k * 20 + 7, none⟩)) rfl rfl (by kernel_rfl) (by kernel_rfl) (by kernel_rfl) (fun _ _ _ h => h) (.inl ⟨by kernel_rfl, fun w' hw => by simp [go_sem]⟩) hS ?_
                    simp only [Act.put, List.setIfInBounds_toArray, List.set_cons_succ, List.set_cons_zero]
                    refine take_d (some 107) (i := 10) (v := .pointer (some ⟨b, o + k * 20 + 8, none⟩)) rfl rfl (by kernel_rfl) (by kernel_rfl) (by kernel_rfl) (fun _ _ _ h => h) (.inl ⟨by kernel_rfl, fun w' hw => by simp [go_sem]⟩) hS ?_
                    simp only [Act.put, List.setIfInBounds_toArray, List.set_cons_succ, List.set_cons_zero]
                    refine take_d (some 108) (i := 11) rfl rfl (by kernel_rfl) (by kernel_rfl) (by kernel_rfl) (fun _ _ _ h => h) (yieldsIf_load_mid (by kernel_rfl) 24 _ rfl b (o + k * 20 + 8) rfl _ _ (fun V hV j v hv => by rw [hV.cell (p := ⟨b, o + k * 20 + 8 + j, none⟩) hbl]; exact rV j v hv) Tryz.underlying24 rfl (by kernel_rfl)) hS ?_
                    simp only [Act.put, List.setIfInBounds_toArray, List.set_cons_succ, List.set_cons_zero]
                    refine take_d (some 109) (i := 12) (v := .slice (some ⟨b, o, none⟩) l.length c) rfl rfl (by kernel_rfl) (by kernel_rfl) (by kernel_rfl) (fun _ _ _ h => h) (.inl ⟨by kernel_rfl, fun w' hw => by simp [go_sem, hw.cell (p := ⟨w.heap.size, 0, none⟩) hll, q0]⟩) hS ?_
                    refine take_d (some 110) (i := 13) (v := .int .i64 k) rfl rfl (by kernel_rfl) (by kernel_rfl) (by kernel_rfl) (fun _ _ _ h => h) (.inl ⟨by kernel_rfl, fun w' hw => by simp [go_sem]⟩) hS ?_
                    refine take_d (some 111) (i := 14) (v := .pointer (some ⟨b, o + k * 20, none⟩)) rfl rfl (by kernel_rfl) (by kernel_rfl) (by kernel_rfl) (fun _ _ _ h => h) (.inl ⟨by kernel_rfl, fun w' hw => by simp [go_sem, hlt]⟩) hS ?_
                    refine take_d (some 112) (i := 15) (v := .pointer (some ⟨b, o + k * 20 + 7, none⟩)) rfl rfl (by kernel_rfl) (by kernel_rfl) (by kernel_rfl) (fun _ _ _ h => h) (.inl ⟨by kernel_rfl, fun w' hw => by simp [go_sem]⟩) hS ?_
                    simp only [Act.put, List.setIfInBounds_toArray, List.set_cons_succ, List.set_cons_zero]
                    refine take_d (some 113) (i := 16) (v := .pointer (some ⟨b, o + k * 20 + 16, none⟩)) rfl rfl (by kernel_rfl) (by kernel_rfl) (by kernel_rfl) (fun _ _ _ h => h) (.inl ⟨by kernel_rfl, fun w' hw => by simp [go_sem]⟩) hS ?_
                    refine take_d (some 114) (i := 17) (v := .slice i1 i2 i3) rfl rfl (by kernel_rfl) (by kernel_rfl) (by kernel_rfl) (fun _ _ _ h => h) (.inl ⟨by kernel_rfl, fun w' hw => by simp [go_sem, hw.cell (p := ⟨b, o + k * 20 + 16, none⟩) hbl, n16]⟩) hS ?_
                    simp only [Act.put, List.setIfInBounds_toArray, List.set_cons_succ, List.set_cons_zero]
                    refine take_d (some 115) (i := 18) (v := .agg #[.string ⟨x.p.o.n.toArray⟩, .int .i64 x.p.o.e, .string ⟨x.p.o.u.toArray⟩, .string ⟨x.p.o.r.toArray⟩, .slice i1 i2 i3]) rfl rfl (by kernel_rfl) (by kernel_rfl) (by kernel_rfl) (fun _ _ _ h => h) (.inl ⟨by kernel_rfl, fun w' hw => by simp [go_sem]⟩) hS ?_
                    simp only [Act.put, List.setIfInBounds_toArray, List.set_cons_succ, List.set_cons_zero]
                    refine wpAnyH_all (rs := [19]) (by kernel_rfl) (by simp) fun i hi => ?_
                    obtain rfl : i = 19 := by simpa using hi
                    refine wpOp_want rfl (by kernel_rfl) ?_
                    unfold Oper.wp
                    simp [go_sem]
                    have hS1 := bon hS (b1c wr.drew (.cells #[.string ⟨#[]⟩, .int .i64 0, .string ⟨#[]⟩, .string ⟨#[]⟩, .slice none 0 0] 65))
                    have hh := nb0 wr.drew (.cells #[.string ⟨#[]⟩, .int .i64 0, .string ⟨#[]⟩, .string ⟨#[]⟩, .slice none 0 0] 65)
                    refine ⟨hS1, ?_⟩
                    refine wpAnyH_all (rs := [20]) (by kernel_rfl) (by simp) fun i hi => ?_
                    obtain rfl : i = 20 := by simpa using hi
                    refine wpOp_want rfl (by kernel_rfl) ?_
                    refine wp_store_row 65 _ _ rfl wr.drew.heap.size #[.string ⟨x.p.o.n.toArray⟩, .int .i64 x.p.o.e, .string ⟨x.p.o.u.toArray⟩, .string ⟨x.p.o.r.toArray⟩, .slice i1 i2 i3] rfl rfl 65 _ hh (by kernel_rfl) rfl (by first | rfl | simp [Value.oneCell']) ?_
                    have hS3 := below_setRow hS1 wr.drew.heap.size #[.string ⟨x.p.o.n.toArray⟩, .int .i64 x.p.o.e, .string ⟨x.p.o.u.toArray⟩, .string ⟨x.p.o.r.toArray⟩, .slice i1 i2 i3] (Nat.le_refl _)
                    have hh3 := heap_setRow _ wr.drew.heap.size _ #[.string ⟨x.p.o.n.toArray⟩, .int .i64 x.p.o.e, .string ⟨x.p.o.u.toArray⟩, .string ⟨x.p.o.r.toArray⟩, .slice i1 i2 i3] 65 hh
                    refine ⟨hS3, ?_⟩
                    refine wpAnyH_done (by kernel_rfl) ?_ _
                    simp only [Act.put, List.getElem_toArray, List.getElem_cons_succ, List.getElem_cons_zero]
                    obtain ⟨wT, hwT⟩ : ∃ wT, wT = (wr.alloc (.cells #[.string ⟨#[]⟩, .int .i64 0, .string ⟨#[]⟩, .string ⟨#[]⟩, .slice none 0 0] 65)).drew.setRow wr.drew.heap.size #[.string ⟨x.p.o.n.toArray⟩, .int .i64 x.p.o.e, .string ⟨x.p.o.u.toArray⟩, .string ⟨x.p.o.r.toArray⟩, .slice i1 i2 i3] := ⟨_, rfl⟩
                    have kT : Below wr.heap.size wr wT := by rw [hwT]; exact hS3
                    have hT5 : wT.heap[wr.heap.size]? = some (.cells #[.string ⟨x.p.o.n.toArray⟩, .int .i64 x.p.o.e, .string ⟨x.p.o.u.toArray⟩, .string ⟨x.p.o.r.toArray⟩, .slice i1 i2 i3] 65 (0, 0)) := by rw [hwT]; exact hh3
                    rw [← hwT]
                    clear hwT hS3 hh3 hS1 hh hS rV n7 n16 hbl q0
                    have HSb : Hid (∀ g, u14.ownBlock = some g → g < wr.heap.size) := fun g e => own_lt HY.out.x e
                    have HYT := Lib.hid (HY.out.on kT)
                    have HGT := Lib.hid (HGr.out.on kT)
                    have HWT := Lib.hid (bon HWr.out kT)
                    have q0 : wT.cell? ⟨w.heap.size, 0, none⟩ = some (.slice (some ⟨b, o, none⟩) l.length c) := by rw [cell_of_row wT _ 0 _ _ _ HGT.out.x]; rfl
                    have cW := clo22 l k w.heap.size b o c wT hlt q0 (HK.out.on HWT.out)
                    have o5 := o5_of (o := x.p.o) (v := .slice i1 i2 i3) hT5
                    have hlk := HGT.out.n.look k (by omega)
                    obtain ⟨y, hy⟩ : ∃ y, ndW l k = y := ⟨_, rfl⟩
                    rw [hy] at cW
                    have HYY := Lib.hid hy
                    have HT5 := Lib.hid hT5
                    clear hy HY HGr HWr kT hT5
                    go_wp2_with fail
                    with_reducible refine cW.mono ?_
                    rintro z wU ⟨rfl, hwU⟩
                    subst hwU
                    clear cW q0
                    cases y with
                    | false =>
                      have HM1 : Hid (q.map (·.1) = (sel l (ndW l) (k + 1)).map (·.p.o)) := by show _ = _; rw [HN1.out HYY.out]; exact HM.out
                      have HM2 : Hid (q'.map (·.1) = (sel l (fun j => ndW l j && !(!decide (f j = 0))) (k + 1)).map (·.p.o)) := by show _ = _; rw [HN2.out (by rw [HYY.out]; rfl)]; exact HM'.out
                      clear HM HM' HS1 HS2 HN1 HN2 o5 hlk
                      go_wp2_with fail
                      exact ⟨⟨k + 1, q, q', hlt, by go_num, HYT, HM1, HM2⟩, by simp [intOf]; omega⟩
                    | true =>
                      have HM1 : Hid ((q ++ [(x.p.o, Value.slice i1 i2 i3)]).map (·.1) = (sel l (ndW l) (k + 1)).map (·.p.o)) := by show _ = _; rw [HS1.out HYY.out, List.map_append, List.map_append, HM.out]; rfl
                      have p0 := o5.c0
                      have p1 := o5.c1
                      have p2 := o5.c2
                      have p3 := o5.c3
                      have p4 := o5.c4
                      have hql : q.length ≤ 15 := by
                        have h1 := congrArg List.length HM.out
                        rw [List.length_map, List.length_map] at h1
                        have h2 := sel_le l (ndW l) k
                        omega
                      have hql' : q'.length ≤ 15 := by
                        have h1 := congrArg List.length HM'.out
                        rw [List.length_map, List.length_map] at h1
                        have h2 := sel_le l (fun j => ndW l j && !(!decide (f j = 0))) k
                        omega
                      have hx5 := HYT.out.x
                      have hz5 := HYT.out.b.size
                      clear o5 hlk HM
                      have htl : wr.heap.size < wU.heap.size := (Array.getElem?_eq_some_iff.1 HT5.out).1
                      go_upto_region 38 with (first | (at_builtin; refine wpList_ap5 (x.p.o, .slice i1 i2 i3) ⟨_, _, _, rfl⟩ hx5 (by omega) hz5 rfl _ _ rfl rfl _ rfl rfl ?_; intro g9 c9 wV hI9 hgr hor; have HYV := Lib.hid (HYT.out.app HTP.out hI9 hgr hor); have HTV : Hid (wV.heap[wr.heap.size]? = some (.cells #[.string ⟨x.p.o.n.toArray⟩, .int .i64 x.p.o.e, .string ⟨x.p.o.u.toArray⟩, .string ⟨x.p.o.r.toArray⟩, .slice i1 i2 i3] 65 (0, 0))) := (hgr.block wr.heap.size (by rw [World.size_alloc]; omega) (fun e => by have := HSb.out _ e.symm; omega)).trans (heap_on HT5.out (b1c _ _)); clear hI9 hgr hor) | fail)
                      have HGV := Lib.hid (HG.out.on HYV.out.b)
                      have o5 := o5_of (o := x.p.o) (v := .slice i1 i2 i3) HTV.out
                      have hlk := HGV.out.n.look k (by omega)
                      clear p0 p1 p2 p3 p4 hx5 hz5 HYT HGT HWT HT5 HSb
                      rcases HGn.out.z k with h0 | h1
                      · rw [h0] at hlk
                        have HM2 : Hid ((q' ++ [(x.p.o, Value.slice i1 i2 i3)]).map (·.1) = (sel l (fun j => ndW l j && !(!decide (f j = 0))) (k + 1)).map (·.p.o)) := by show _ = _; rw [HS2.out (by rw [HYY.out, h0]; rfl), List.map_append, List.map_append, HM'.out]; rfl
                        have p0 := o5.c0
                        have p1 := o5.c1
                        have p2 := o5.c2
                        have p3 := o5.c3
                        have p4 := o5.c4
                        have hx5 := HYV.out.x'
                        have hz5 := HYV.out.b.size
                        clear o5 HM' h0
                        go_wp2_with (first | (at_builtin; refine wpList_ap5 (x.p.o, .slice i1 i2 i3) ⟨_, _, _, rfl⟩ hx5 (by omega) hz5 rfl _ _ rfl rfl _ rfl rfl ?_; intro g8 c8 wW hI9 hgr hor; have HYW := Lib.hid ((HYV.out.swap.app HTP.out hI9 hgr hor).swap); clear hI9 hgr hor) | fail)
                        exact ⟨⟨k + 1, q ++ [(x.p.o, Value.slice i1 i2 i3)], q' ++ [(x.p.o, Value.slice i1 i2 i3)], hlt, by go_num, HYW, HM1, HM2⟩, by simp [intOf]; omega⟩
                      · rw [h1] at hlk
                        have HM2 : Hid (q'.map (·.1) = (sel l (fun j => ndW l j && !(!decide (f j = 0))) (k + 1)).map (·.p.o)) := by show _ = _; rw [HN2.out (by rw [h1]; simp)]; exact HM'.out
                        clear o5 HM' h1
                        go_wp2_with fail
                        exact ⟨⟨k + 1, q ++ [(x.p.o, Value.slice i1 i2 i3)], q', hlt, by go_num, HYV, HM1, HM2⟩, by simp [intOf]; omega⟩
                  · have hke : k = l.length := by omega
                    subst hke
                    obtain ⟨A4, c4, rfl⟩ := own_sl HY.out.x
                    obtain ⟨A5, c5, rfl⟩ := own_sl HY.out.x'
                    have O4 := Lib.hid (os_of HY.out.x HY.out.t HWr.out)
                    have O5' := Lib.hid (os_of HY.out.x' HY.out.t' HWr.out)
                    have HGS := HGr
                    have HWS := HWr
                    have hq1 : q.length ≤ 15 := by
                      have h1 := congrArg List.length HM.out
                      rw [List.length_map, List.length_map] at h1
                      have h2 := sel_le l (ndW l) l.length
                      omega
                    have hq2 : q'.length ≤ 15 := by
                      have h1 := congrArg List.length HM'.out
                      rw [List.length_map, List.length_map] at h1
                      have h2 := sel_le l (fun j => ndW l j && !(!decide (f j = 0))) l.length
                      omega
                    obtain ⟨wS, hwS⟩ : ∃ wS, wS = wr := ⟨_, rfl⟩
                    rw [← hwS] at O4 O5' HGS HWS q0 ⊢
                    clear hwS HY HGr HWr HG hlt
                    clear wr
                    go_wp2_with fail
                    clear q0
                    go_loopw [18] (fun i W => ∃ (k : Nat), k ≤ l.length ∧ i = .int .i64 k ∧ Hid (Below wS.heap.size wS W)) (fun i _ => l.length - (intOf i).toNat)
                    case atStart => exact ⟨0, Nat.zero_le _, rfl, Below.refl _ _⟩
                    case round =>
                      obtain ⟨k, hk, rfl, HW⟩ := hrel
                      have HGr := Lib.hid (HGS.out.on HW.out)
                      have HWr := Lib.hid (bon HWS.out HW.out)
                      have q0 : wr.cell? ⟨w.heap.size, 0, none⟩ = some (.slice (some ⟨b, o, none⟩) l.length c) := by rw [cell_of_row wr _ 0 _ _ _ HGr.out.x]; rfl
                      by_cases hlt : k < l.length
                      case neg =>
                        have hke : k = l.length := by omega
                        subst hke
                        go_wp2_with fail
                        go_ret
                        exact ⟨rfl, HWr.out⟩
                      obtain ⟨vW, vT, vD, vA, vG, vB, vR, vP, vS, vL, vF, kc, kz⟩ := (HK.out.on HWr.out).c k hlt
                      obtain ⟨d4, d5, rfl⟩ := kz.z.D.sl
                      obtain ⟨a4, a5, rfl⟩ := kz.z.A.sl
                      have hcD := kc.c11
                      have hcE := kc.c12
                      have HD := Lib.hid kz.z.D
                      have HA := Lib.hid kz.z.A
                      have HEj : Hid (l[k].p.D ++ l[k].p.A = ndL l k) := by show _ = _; unfold ndL; simp [List.getD, hlt]
                      obtain ⟨hl80, hS80⟩ := ndl_parts HSo.out hlt
                      have hll80 := hl80
                      rw [← HEj.out, List.length_append] at hll80
                      have HS80 := Lib.hid hS80
                      have hbl : b < wr.heap.size := block_lt_of_cell hcD
                      have hll : w.heap.size < wr.heap.size := block_lt_of_cell q0
                      have hS : Below wr.heap.size wr wr.drew := (Below.refl _ _).drew
                      clear kc kz hS80
                      generalize l[k].p.D = LD at *
                      generalize l[k].p.A = LA at *
                      go_upto_region 43 with fail
                      refine wp_region_held (S := fun V => Below wr.heap.size wr V) (by kernel_rfl) ?_
                      refine take_d (some 138) (i := 1) (v := .slice (some ⟨b, o, none⟩) l.length c) rfl rfl (by kernel_rfl) (by kernel_rfl) (by kernel_rfl) (fun _ _ _ h => h) (.inl ⟨by kernel_rfl, fun w' hw => by simp [go_sem, hw.cell (p := ⟨w.heap.size, 0, none⟩) hll, q0]⟩) hS ?_
                      refine take_d (some 139) (i := 2) (v := .int .i64 k) rfl rfl (by kernel_rfl) (by kernel_rfl) (by kernel_rfl) (fun _ _ _ h => h) (.inl ⟨by kernel_rfl, fun w' hw => by simp [go_sem]⟩) hS ?_
                      refine take_d (some 140) (i := 3) (v := .pointer (some ⟨b, o + k * 20, none⟩)) rfl rfl (by kernel_rfl) (by kernel_rfl) (by kernel_rfl) (fun _ _ _ h => h) (.inl ⟨by kernel_rfl, fun w' hw => by simp [go_sem, hlt]⟩) hS ?_
                      refine take_d (some 141) (i := 4) (v := .pointer (some ⟨b, o + k * 20 + 7, none⟩)) rfl rfl (by kernel_rfl) (by kernel_rfl) (by kernel_rfl) (fun _ _ _ h => h) (.inl ⟨by kernel_rfl, fun w' hw => by simp [go_sem]⟩) hS ?_
                      simp only [Act.put, List.setIfInBounds_toArray, List.set_cons_succ, List.set_cons_zero]
                      refine take_d (some 142) (i := 5) (v := .pointer (some ⟨b, o + k * 20 + 11, none⟩)) rfl rfl (by kernel_rfl) (by kernel_rfl) (by kernel_rfl) (fun _ _ _ h => h) (.inl ⟨by kernel_rfl, fun w' hw => by simp [go_sem]⟩) hS ?_
                      refine take_d (some 143) (i := 6) (v := .slice d4 LD.length d5) rfl rfl (by kernel_rfl) (by kernel_rfl) (by kernel_rfl) (fun _ _ _ h => h) (.inl ⟨by kernel_rfl, fun w' hw => by simp [go_sem, hw.cell (p := ⟨b, o + k * 20 + 11, none⟩) hbl, hcD]⟩) hS ?_
                      simp only [Act.put, List.setIfInBounds_toArray, List.set_cons_succ, List.set_cons_zero]
                      refine take_d (some 145) (i := 8) (v := .slice (some ⟨b, o, none⟩) l.length c) rfl rfl (by kernel_rfl) (by kernel_rfl) (by kernel_rfl) (fun _ _ _ h => h) (.inl ⟨by kernel_rfl, fun w' hw => by simp [go_sem, hw.cell (p := ⟨w.heap.size, 0, none⟩) hll, q0]⟩) hS ?_
                      refine take_d (some 146) (i := 9) (v := .int .i64 k) rfl rfl (by kernel_rfl) (by kernel_rfl) (by kernel_rfl) (fun _ _ _ h => h) (.inl ⟨by kernel_rfl, fun w' hw => by simp [go_sem]⟩) hS ?_
                      refine take_d (some 147) (i := 10) (v := .pointer (some ⟨b, o + k * 20, none⟩)) rfl rfl (by kernel_rfl) (by kernel_rfl) (by kernel_rfl) (fun _ _ _ h => h) (.inl ⟨by kernel_rfl, fun w' hw => by simp [go_sem, hlt]⟩) hS ?_
                      refine take_d (some 148) (i := 11) (v := .pointer (some ⟨b, o + k * 20 + 7, none⟩)) rfl rfl (by kernel_rfl) (by kernel_rfl) (by kernel_rfl) (fun _ _ _ h => h) (.inl ⟨by kernel_rfl, fun w' hw => by simp [go_sem]⟩) hS ?_
                      simp only [Act.put, List.setIfInBounds_toArray, List.set_cons_succ, List.set_cons_zero]
                      refine take_d (some 149) (i := 12) (v := .pointer (some ⟨b, o + k * 20 + 12, none⟩)) rfl rfl (by kernel_rfl) (by kernel_rfl) (by kernel_rfl) (fun _ _ _ h => h) (.inl ⟨by kernel_rfl, fun w' hw => by simp [go_sem]⟩) hS ?_
                      refine take_d (some 150) (i := 13) (v := .slice a4 LA.length a5) rfl rfl (by kernel_rfl) (by kernel_rfl) (by kernel_rfl) (fun _ _ _ h => h) (.inl ⟨by kernel_rfl, fun w' hw => by simp [go_sem, hw.cell (p := ⟨b, o + k * 20 + 12, none⟩) hbl, hcE]⟩) hS ?_
                      simp only [Act.put, List.setIfInBounds_toArray, List.set_cons_succ, List.set_cons_zero]
                      refine wpAnyH_all (rs := [0]) (by kernel_rfl) (by simp) fun i hi => ?_
                      obtain rfl : i = 0 := by simpa using hi
                      refine wpOp_want rfl (by kernel_rfl) ?_
                      unfold Oper.wp
                      simp [go_sem]
                      have hS1 := bon hS (b1c wr.drew (.cells #[] 26))
                      have HW0 : Hid (AW wr (wr.drew.alloc (.cells #[] 26)) (.slice (some ⟨wr.heap.size, 0, none⟩) 0 0) [] []) := ⟨rfl, World.ownsRow_lit wr.drew #[] 0 (Nat.le_refl _) (by decide) rfl, fun i h => absurd h (Nat.not_lt_zero _), hS1⟩
                      refine ⟨hS1, ?_⟩
                      refine wpAnyH_all (rs := [7]) (by kernel_rfl) (by simp) fun i hi => ?_
                      obtain rfl : i = 7 := by simpa using hi
                      refine wpOp_want rfl (by kernel_rfl) ?_
                      refine wp_apA HW0.out HD.out (by simp) (by omega) _ _ rfl rfl rfl ?_
                      intro B5 e5 q5 w5 h5
                      have H5 := Lib.hid h5
                      refine ⟨h5.b, ?_⟩
                      clear h5
                      refine wpAnyH_all (rs := [14]) (by kernel_rfl) (by simp) fun i hi => ?_
                      obtain rfl : i = 14 := by simpa using hi
                      refine wpOp_want rfl (by kernel_rfl) ?_
                      refine wp_apA H5.out HA.out (by simp; omega) (by omega) _ _ rfl rfl rfl ?_
                      intro B6 e6 q6 w6 h6
                      rw [List.nil_append, HEj.out] at h6 ⊢
                      refine ⟨h6.b, ?_⟩
                      refine take_d (some 19) (i := 15) (v := .slice B6 (ndL l k).length e6) rfl rfl (by kernel_rfl) (by kernel_rfl) (by kernel_rfl) (fun _ _ _ h => h) (.inl ⟨by kernel_rfl, fun w' hw => by simp [go_sem]⟩) h6.b ?_
                      refine wpAnyH_done (by kernel_rfl) ?_ _
                      simp only [Act.put, List.setIfInBounds_toArray]
                      have HAs := Lib.hid h6.as
                      have HW6 := Lib.hid (bon HW.out h6.b)
                      have eM : (met (q.map (·.1)) (ndL l k)).2 = Nds.mt l.length (ndW l) (ndA l) (fun _ => false) k := by rw [HM.out]; exact met_all0 l k
                      have eN : (met (q'.map (·.1)) (ndL l k)).2 = Nds.mt l.length (ndW l) (ndA l) (fun j => !decide (f j = 0)) k := by rw [HM'.out]; exact met_mt l (fun j => !decide (f j = 0)) k
                      have cM1 := met_any (.slice B6 (ndL l k).length e6) (.slice A4 q.length c4) (ndL l k) (q.map (·.1)) w6 HAs.out (by omega) (O4.out.on HW6.out) (by rw [HM.out]; exact ofr_oh HSo.out _) (by rw [List.length_map]; omega) HS80.out
                      have cM2 := Lib.hid (fun W (h : Below w6.heap.size w6 W) => met_any (.slice B6 (ndL l k).length e6) (.slice A5 q'.length c5) (ndL l k) (q'.map (·.1)) W (HAs.out.on h) (by omega) (O5'.out.on (bon HW6.out h)) (by rw [HM'.out]; exact ofr_oh HSo.out _) (by rw [List.length_map]; omega) HS80.out)
                      rw [eM] at cM1
                      rw [eN] at cM2
                      generalize (met (q.map (·.1)) (ndL l k)).1 = z1 at cM1
                      generalize (met (q'.map (·.1)) (ndL l k)).1 = z2 at cM2
                      have Hst := Lib.hid (HGn.out.stay k hlt)
                      have Hgo := Lib.hid (HGn.out.go k hlt)
                      generalize Nds.mt l.length (ndW l) (ndA l) (fun _ => false) k = y3 at *
                      generalize Nds.mt l.length (ndW l) (ndA l) (fun j => !decide (f j = 0)) k = y4 at *
                      clear h6 H5 HW0 hS hS1 HD HA hcD hcE HEj hll80 hbl hll eM eN hl80 q0 HGr HWr HW HS80
                      go_wp2_with fail
                      with_reducible refine cM1.mono ?_
                      rintro z w7 ⟨rfl, k7⟩
                      clear cM1
                      go_wp2_with fail
                      with_reducible refine (cM2.out w7 k7).mono ?_
                      rintro z w8 ⟨rfl, k8⟩
                      have HW8 := Lib.hid (bon HW6.out (bon k7 k8))
                      have HG8 := Lib.hid (HGS.out.on HW8.out)
                      have HWw := Lib.hid (bon HWS.out HW8.out)
                      have q0 : w8.cell? ⟨w.heap.size, 0, none⟩ = some (.slice (some ⟨b, o, none⟩) l.length c) := by rw [cell_of_row w8 _ 0 _ _ _ HG8.out.x]; rfl
                      have hlk := HG8.out.n.look k (by omega)
                      have cW := clo22 l k w.heap.size b o c w8 hlt q0 (HK.out.on HWw.out)
                      generalize ndW l k = y1 at *
                      clear cM2 k7 k8 HAs HW6 q0
                      rcases HGn.out.z k with h0 | h1
                      · have Hst' := Lib.hid (Hst.out h0)
                        rw [h0] at hlk
                        clear h0 Hst Hgo
                        go_wp2_with fail
                        with_reducible refine cW.mono ?_
                        rintro z w9 ⟨rfl, hw9⟩
                        subst hw9
                        cases y1 with
                        | false =>
                          go_wp2_with fail
                          exact ⟨⟨k + 1, hlt, by go_num, HW8⟩, by simp [intOf]; omega⟩
                        | true =>
                          cases y3 with
                          | false =>
                            go_wp2_with fail
                            exact ⟨⟨k + 1, hlt, by go_num, HW8⟩, by simp [intOf]; omega⟩
                          | true =>
                            obtain rfl : y4 = true := Hst'.out rfl rfl
                            go_wp2_with fail
                            exact ⟨⟨k + 1, hlt, by go_num, HW8⟩, by simp [intOf]; omega⟩
                      · rw [h1] at hlk
                        by_cases hkr : k = r
                        · clear h1 Hst Hgo cW
                          subst hkr
                          go_wp2_with fail
                          exact ⟨⟨k + 1, hlt, by go_num, HW8⟩, by simp [intOf]; omega⟩
                        · have hkr' : ¬ ((k : Int) = (r : Int)) := by omega
                          obtain ⟨rfl, rfl, rfl⟩ := Hgo.out h1 hkr
                          clear hkr h1 Hst Hgo
                          go_wp2_with fail
                          with_reducible refine cW.mono ?_
                          rintro z w9 ⟨rfl, hw9⟩
                          subst hw9
                          go_wp2_with fail
                          exact ⟨⟨k + 1, hlt, by go_num, HW8⟩, by simp [intOf]; omega⟩
end Go.Proofs.YthijccmiemlilaaGreatDoor.Kee
