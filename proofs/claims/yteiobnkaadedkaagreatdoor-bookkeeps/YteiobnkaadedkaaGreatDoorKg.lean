/- The walk of the law BookKeeps. -/
import Derived.Test.YteiobnkaadedkaaGreatDoorKf
import Derived.Lib.QuietBelow
namespace Go.Proofs.YteiobnkaadedkaaGreatDoor
open Go.RowKit Go.Sort Go.Maps

abbrev nko (x : Nt) : Obj := .cells #[.int .i64 x.t, .string ⟨x.f.toArray⟩, .string ⟨x.o.toArray⟩] 57 (0, 0)
/-- Notes that come in. -/
structure Nts (W : World) (v : Value) (l : List Nt) : Prop where
  is : ∃ p c, v = .slice p l.length c ∧ (l = [] ∨ ∃ b o, p = some ⟨b, o, none⟩ ∧ Ntl W b o l)
/-- Numbers that come in. -/
structure Ctl (W : World) (b o : Nat) (l : List Int) : Prop where
  lt : b < W.heap.size
  c : ∀ i (hi : i < l.length), W.cell? ⟨b, o + i, none⟩ = some (.int .i64 l[i])
  r : ∀ i (hi : i < l.length), -9223372036854775808 ≤ l[i] ∧ l[i] ≤ 9223372036854775807
structure Cts (W : World) (v : Value) (l : List Int) : Prop where
  is : ∃ p c, v = .slice p l.length c ∧ (l = [] ∨ ∃ b o, p = some ⟨b, o, none⟩ ∧ Ctl W b o l)
structure Xk (bx : Nat) (x : Nt) (W : World) : Prop where
  x : W.heap[bx]? = some (nko x)
theorem Xk.c {bx : Nat} {x : Nt} {W : World} (h : Xk bx x W) : W.cell? ⟨bx, 0, none⟩ = some (.int .i64 x.t) ∧ W.cell? ⟨bx, 1, none⟩ = some (.string ⟨x.f.toArray⟩) ∧ W.cell? ⟨bx, 2, none⟩ = some (.string ⟨x.o.toArray⟩) :=
  ⟨by simp [World.cell?, h.x], by simp [World.cell?, h.x], by simp [World.cell?, h.x]⟩
/-- What would be written. -/
theorem tdiv9r {cv : Int} (h1 : -9223372036854775808 ≤ cv) (h2 : cv ≤ 9223372036854775807) : -9223372036854775808 ≤ cv.tdiv 9 ∧ cv.tdiv 9 ≤ 9223372036854775807 := by
  rcases Int.le_total 0 cv with h | h
  · rw [Int.tdiv_eq_ediv_of_nonneg h]; omega
  · have e : cv.tdiv 9 = -((-cv) / 9) := by
      rw [← Int.tdiv_eq_ediv_of_nonneg (by omega : 0 ≤ -cv), Int.neg_tdiv]; omega
    rw [e]; omega
theorem tdiv9 {cv : Int} (h1 : -9223372036854775808 ≤ cv) (h2 : cv ≤ 9223372036854775807) : wrap64 (cv.tdiv 9) = cv.tdiv 9 := by
  have := tdiv9r h1 h2
  unfold wrap64
  omega
def exA (t : Int) (f o : List UInt8) (A : Bk) : Bk := if t = 0 ∧ rgt f o = true then setA f o A else A
/-- How a note ends. -/
def Rz (z : Int) (dn : Bool) (A A' E : Bk) : Prop := (z = 0 ∧ dn = false ∧ A' = E) ∨ (z = 1 ∧ dn = false ∧ A' = A) ∨ (z = 14 ∧ dn = true ∧ A' = A)
theorem Bz.wide {b n lo lo' hi : Nat} {A : Bk} {W : World} (h : Bz b n A lo hi W) (hl : lo' ≤ lo) : Bz b n A lo' hi W := by
  obtain ⟨d, pm, ns, P, N, h1, h2, h3⟩ := h
  exact ⟨d, pm, ns, P, N, h1, h2, fun k hk => ⟨Nat.le_trans hl (h3 k hk).1, (h3 k hk).2⟩⟩
set_option maxHeartbeats 16000000 in
set_option maxRecDepth 100000 in
theorem keeps_row (v0 v1 : Value) (l : List Nt) (cs : List Int) (w : World) (h : Nts w v0 l) (hc : Cts w v1 cs) (hn : l.length ≤ 40) (hm : cs.length ≤ 40) (hE : ErrT w) : Calls Tryz.prog 4 #[v0, v1] w fun x w' => x = .returned (.bool true) ∧ Below w.heap.size w w' := by
  obtain ⟨pl, cl, rfl, hl⟩ := h.is
  obtain ⟨pc, cc, rfl, hcs⟩ := hc.is
  have HL := Lib.hid hl
  have HC := Lib.hid hcs
  have HE := Lib.hid hE
  have cN := noted_any w
  clear h hc hl hcs hE
  go_enter Tryz.func4, Tryz.ntmps4
  go_wp2_with fail
  refine cN.mono ?_
  rintro x w1 ⟨rfl, b1⟩
  have cO := kj_new w1
  clear cN
  go_wp2_with fail
  refine cO.mono ?_
  rintro x w2 ⟨b, rfl, hJ⟩
  have HJ := Lib.hid (hJ.base b1)
  obtain ⟨d, hd⟩ : ∃ d, d = w1.heap.size := ⟨_, rfl⟩
  rw [← hd] at HJ ⊢
  clear cO hJ b1 hd
  go_wp2_with fail
  go_loopw [6, 8] (fun bv iv W => ∃ (k b : Nat) (A : Bk), k ≤ l.length ∧ bv = .pointer (some ⟨b, 0, none⟩) ∧ iv = .int .i64 k ∧ KJ w b d k A false false 0 0 W) (fun _ iv _ => l.length - (intOf iv).toNat)
  case atStart => exact ⟨0, b, [], Nat.zero_le _, rfl, rfl, HJ.out⟩
  case round =>
    obtain ⟨k, b, A, hk, rfl, rfl, hJ⟩ := hrel
    by_cases hlt : k < l.length
    · obtain ⟨b0, o0, rfl, hN⟩ : ∃ b0 o0, pl = some ⟨b0, o0, none⟩ ∧ Ntl w b0 o0 l := by
        rcases HL.out with h | h
        · rw [h] at hlt; simp at hlt
        · exact h
      have q0 := (hJ.bl.cell (p := ⟨b0, o0 + k * 3, none⟩) hN.lt).trans (hN.c0 k hlt)
      have q1 := (hJ.bl.cell (p := ⟨b0, o0 + k * 3 + 1, none⟩) hN.lt).trans (hN.c1 k hlt)
      have q2 := (hJ.bl.cell (p := ⟨b0, o0 + k * 3 + 2, none⟩) hN.lt).trans (hN.c2 k hlt)
      generalize l[k] = x at q0 q1 q2
      have hb1 := (Below.refl wr.heap.size wr).alloc (Nat.le_refl _) (nko x)
      have HJ0 := Lib.hid hJ
      have HJ1 := Lib.hid (hJ.up hb1)
      have HX1 := Lib.hid (nb0 wr (nko x))
      have HB1 := Lib.hid hb1
      clear hJ hb1 hN HJ
      by_cases hf : x.f.length ≤ 60
      · by_cases ho : x.o.length ≤ 400
        · have cL := bo_lines HJ1.out.bo (by omega)
          go_wp2_with fail
          refine cL.mono ?_
          rintro y W2 ⟨rfl, hb2⟩
          have HB2 := Lib.hid (HB1.out.trans (hb2.mono HB1.out.size))
          have HX2 : Hid (W2.heap[wr.heap.size]? = some (nko x)) := (hb2.block _ (Array.getElem?_eq_some_iff.1 HX1.out).1).trans HX1.out
          have HJ2 := Lib.hid (HJ0.out.up HB2.out)
          obtain ⟨bx, hbx⟩ : ∃ bx, bx = wr.heap.size := ⟨_, rfl⟩
          rw [← hbx] at HX2
          rw [← hbx]
          have HBX := Lib.hid hbx
          obtain ⟨t, f, o⟩ := x
          dsimp only at hf ho
          have cO := kj_new W2
          clear cL hb2 q0 q1 q2 HX1 HJ1 HB1 hbx
          go_wp2_with fail
          refine cO.mono ?_
          rintro y W3 ⟨eb, rfl, hE3⟩
          have cM := bo_names (HJ2.out.up hE3.bl).bo (by omega)
          obtain ⟨de, hde⟩ : ∃ de, de = W2.heap.size := ⟨_, rfl⟩
          rw [← hde] at hE3
          have HE3 := Lib.hid hE3
          have HDE := Lib.hid hde
          clear cO hE3 hde
          go_wp2_with fail
          refine cM.mono ?_
          rintro y W4 ⟨v, rfl, hT, hb4⟩
          have HE4 := Lib.hid (HE3.out.up hb4)
          obtain ⟨p, cp, rfl, lo, hi, hK4, hin, hcel⟩ : ∃ p cp, v = .slice p A.length cp ∧ ∃ lo hi, KJ W2 eb de 0 [] false false lo hi W4 ∧ (∀ i, i < A.length → ∃ g, p = some ⟨g, 0, none⟩ ∧ lo ≤ g ∧ g < hi) ∧ ∀ g i (hi : i < A.length), p = some ⟨g, 0, none⟩ → W4.cell? ⟨g, i, none⟩ = some (.string ⟨A[i].1.toArray⟩) := by
            rcases hT.is with ⟨h1, h2⟩ | ⟨g, c, cs, fz, h1, h2, h3⟩
            · have hA : A = [] := by simpa using h1
              subst hA
              exact ⟨none, 0, h2, 0, 0, HE4.out, fun i hi => absurd hi (Nat.not_lt_zero _), fun g i hi => absurd hi (Nat.not_lt_zero _)⟩
            · rw [List.length_map] at h1
              refine ⟨_, c, h1, g, g + 1, HE4.out.row h2, fun i _ => ⟨g, rfl, Nat.le_refl _, Nat.lt_succ_self _⟩, fun g' i hi e => ?_⟩
              cases e
              have h4 := h3 i (by simpa using hi)
              rw [List.getElem_map] at h4
              simp [World.cell?, h2, h4]
          have HK4 := Lib.hid hK4
          have HIN := Lib.hid hin
          have HCE := Lib.hid hcel
          obtain ⟨hGA, hlA, hnA⟩ := HJ2.out.ga
          have HGA := Lib.hid hGA
          have HNA := Lib.hid hnA
          clear cM hT hb4 HE3 HE4 hK4 hin hcel hGA hnA
          go_wp2_with fail
          go_loopw [79] (fun iv W => ∃ i : Nat, i ≤ A.length ∧ iv = .int .i64 i ∧ KJ W2 eb de i (A.take i) false false lo hi W ∧ Zn lo hi W4 W) (fun iv _ => A.length - (intOf iv).toNat)
          case atStart => exact ⟨0, Nat.zero_le _, rfl, HK4.out, fun _ _ _ => rfl⟩
          case round =>
            obtain ⟨i, hi', rfl, hK, hZ⟩ := hrel
            by_cases hlt2 : i < A.length
            · as_aux_lemma =>
                obtain ⟨g, rfl, hg1, hg2⟩ := HIN.out i hlt2
                have hcl := HCE.out g i hlt2 rfl
                have hclr : wr.cell? ⟨g, i, none⟩ = some (.string ⟨A[i].1.toArray⟩) := (World.cell?_of_block (w := W4) (hZ g hg1 hg2)).trans hcl
                have hmem := List.getElem_mem hlt2
                have hnm := HGA.out.nm _ hmem
                have htx := HGA.out.tx _ hmem
                have hlk : lkL A[i].1 A = some A[i].2 := (lk_iff HGA.out.srt).2 hmem
                have htxt : txt A[i].1 A = A[i].2 := by unfold txt; rw [hlk]; rfl
                have hne : A[i].2 ≠ [] := fun e1 => HNA.out A[i].1 (by rw [hlk, e1])
                have HTK : Hid (setA A[i].1 A[i].2 (A.take i) = A.take (i + 1)) := by
                  show _ = _
                  unfold setA
                  rw [if_neg hne]
                  exact take_put HGA.out.srt hlt2
                have hrg : rgt A[i].1 A[i].2 = true := (rgt_iff _ _).2 ⟨hnm, htx⟩
                have cG := bo_get (HJ2.out.up hK.bl).bo (k := A[i].1) (by omega)
                rw [htxt] at cG
                have cS := fun W5 (hb : Below wr.heap.size wr W5) => kj_set (hK.up hb) (by omega) hrg
                rw [HTK.out] at cS
                have HZ := Lib.hid hZ
                have hhs := hK.hs
                generalize A[i].1 = kx at hcl hclr hnm hlk htxt HTK hrg cG cS
                generalize A[i].2 = vx at hlk htxt hne HTK hrg cG cS htx
                clear hK hZ hcl hmem hnm htx hlk htxt hne HTK hrg
                go_wp2_with fail
                refine cG.mono ?_
                rintro y W5 ⟨rfl, hb5⟩
                have cS' := cS W5 hb5
                clear cG cS
                go_wp2_with fail
                refine cS'.mono ?_
                rintro y W6 hS
                obtain ⟨rfl, hK6⟩ : y = .returned .nilIface ∧ KJ W2 eb de (i + 1) (A.take (i + 1)) false false lo hi W6 := by
                  rcases hS.is with h | ⟨h, _⟩
                  · exact h
                  · cases h
                have hZ6 : Zn lo hi W4 W6 := (HZ.out.trans (Zn.below hb5 hhs)).trans hS.zn
                have HK6 := Lib.hid hK6
                have HZ6 := Lib.hid hZ6
                clear cS' hS hK6 hZ6 hb5 HZ
                go_wp2_with fail
                exact ⟨⟨i + 1, hlt2, by go_num, HK6.out, HZ6.out⟩, by simp [intOf]; omega⟩
            · obtain rfl : i = A.length := by omega
              rw [List.take_length] at hK
              have hxb : wr.heap[bx]? = some (nko ⟨t, f, o⟩) := (hK.bl.block bx (Array.getElem?_eq_some_iff.1 HX2.out).1).trans HX2.out
              obtain ⟨x0, x1, x2⟩ := (Xk.mk (x := ⟨t, f, o⟩) hxb).c
              dsimp only at x0 x1 x2
              have hlx : bx < wr.heap.size := (Array.getElem?_eq_some_iff.1 hxb).1
              have HK := Lib.hid (hK.free.mono hlA)
              clear hK hZ hxb HK4 HIN HCE HGA HNA
              go_upto_if 93 with fail
              go_cut [12] from 42 to 224 (fun ev wc => ev = .nilIface ∧ KJ W2 eb de (k + 1) (exA t f o A) false false 0 0 wc)
              case first =>
                as_aux_lemma =>
                  by_cases h0 : t = 0
                  · cases hr : rgt f o with
                    | true =>
                      have cS := kj_set HK.out (by omega) hr
                      have HEX : Hid (exA t f o A = setA f o A) := by show _ = _; unfold exA; rw [if_pos ⟨h0, hr⟩]
                      have e0 : (t == 0) = true := by simpa using h0
                      clear h0 hr
                      go_wp2_with fail
                      refine cS.mono ?_
                      rintro y W5 hS
                      obtain ⟨rfl, hK5⟩ : y = .returned .nilIface ∧ KJ W2 eb de (k + 1) (setA f o A) false false 0 0 W5 := by
                        rcases hS.is with h | ⟨h, _⟩
                        · exact h
                        · cases h
                      have HK5 := Lib.hid hK5
                      clear cS hS hK5 x0 x1 x2 hlx
                      go_wp2_with fail
                      go_meet
                      case rel => exact ⟨rfl, by rw [HEX.out]; exact HK5.out⟩
                    | false =>
                      have cS := kj_arg HK.out (by omega) (by omega) hr
                      have HEX : Hid (exA t f o A = A) := by show _ = _; unfold exA; rw [if_neg (by rw [hr]; simp)]
                      have e0 : (t == 0) = true := by simpa using h0
                      clear h0 hr
                      go_wp2_with fail
                      refine cS.mono ?_
                      rintro y W5 ⟨rfl, hb5⟩
                      have HK5 := Lib.hid ((HK.out.up hb5).mono (Nat.le_succ k))
                      clear cS hb5 x0 x1 x2 hlx
                      go_wp2_with fail
                      go_meet
                      case rel => exact ⟨rfl, by rw [HEX.out]; exact HK5.out⟩
                  · have e0 : (t == 0) = false := by simpa using h0
                    have HEX : Hid (exA t f o A = A) := by show _ = _; unfold exA; rw [if_neg (fun h => h0 h.1)]
                    have HK5 := Lib.hid (HK.out.mono (Nat.le_succ k))
                    clear h0
                    go_wp2_with fail
                    go_meet
                    case rel => exact ⟨rfl, by rw [HEX.out]; exact HK5.out⟩
              case rest =>
                obtain ⟨rfl, hKc⟩ := hcut
                clear x0 x1 x2 hlx HK
                have hxb : wc.heap[bx]? = some (nko ⟨t, f, o⟩) := (hKc.bl.block bx (Array.getElem?_eq_some_iff.1 HX2.out).1).trans HX2.out
                have hbE := HB2.out.trans (hKc.bl.mono HB2.out.size)
                have hJz := HJ0.out.zone hbE
                rw [← HBX.out] at hJz
                have hzE : Bz eb (k + 1) (exA t f o A) bx wc.heap.size wc := hKc.bz.wide (by rw [HBX.out]; exact HB2.out.size)
                have hbw := hJz.bl
                obtain ⟨hi2, hhi⟩ : ∃ hi2, hi2 = wc.heap.size := ⟨_, rfl⟩
                rw [← hhi] at hJz hzE
                have hbxl : bx < hi2 := by rw [hhi]; exact (Array.getElem?_eq_some_iff.1 hxb).1
                have HZE := Lib.hid hzE
                have HXB := Lib.hid hxb
                have HJZ := Lib.hid hJz
                have HBL := Lib.hid hbw
                clear hxb hbE hJz hzE hKc hhi HJ2 HJ0 HB2 HX2 HBX HDE hbw
                go_upto_if 102 with fail
                go_cut [12] from 42 to 224 (fun ev wd => ev = .nilIface ∧ ∃ p, KJ w b d k A false p bx hi2 wd ∧ Zn bx hi2 wc wd)
                case first =>
                  as_aux_lemma =>
                    by_cases hc0 : 0 < cs.length
                    · obtain ⟨bc, oc, rfl, hC⟩ : ∃ bc oc, pc = some ⟨bc, oc, none⟩ ∧ Ctl w bc oc cs := by
                        rcases HC.out with h | h
                        · rw [h] at hc0; simp at hc0
                        · exact h
                      have hjl := Nat.mod_lt k hc0
                      have hcell := (HBL.out.cell (p := ⟨bc, oc + k % cs.length, none⟩) hC.lt).trans (hC.c _ hjl)
                      obtain ⟨hr1, hr2⟩ := hC.r _ hjl
                      have hbcl : bc < wc.heap.size := Nat.lt_of_lt_of_le hC.lt HBL.out.size
                      generalize cs[k % cs.length] = cv at hcell hr1 hr2
                      have cP := pick_all cv 9 wc hr1 hr2 (by omega) (by omega)
                      have cC := fun z (hz : z ≤ 9223372036854775807) => kj_cut HJZ.out (z := z) hz
                      clear hC
                      go_wp2_with fail
                      refine cP.mono ?_
                      rintro y W5 ⟨⟨r, rfl, hr3, hr4⟩, hw⟩
                      rw [hw]
                      clear hw cP W5
                      have hz3 : wrap64 (r - 3) = r - 3 := by unfold wrap64; omega
                      have cC' := cC (r - 3) (by omega)
                      clear cC
                      go_wp2_with fail
                      refine cC'.mono ?_
                      rintro y W5 ⟨rfl, hZ5, p5, hJ5⟩
                      clear cC' hz3 hcell
                      go_wp2_with fail
                      go_meet
                      case rel => exact ⟨rfl, p5, hJ5, hZ5⟩
                    · go_wp2_with fail
                      go_meet
                      case rel => exact ⟨rfl, false, HJZ.out, fun _ _ _ => rfl⟩
                case rest =>
                  obtain ⟨rfl, p5, hJ5, hZ5⟩ := hcut
                  have HZE5 := Lib.hid (HZE.out.on hZ5)
                  have hxb5 : wc.heap[bx]? = some (nko ⟨t, f, o⟩) := (hZ5 bx (Nat.le_refl _) hbxl).trans HXB.out
                  obtain ⟨x0, x1, x2⟩ := (Xk.mk (x := ⟨t, f, o⟩) hxb5).c
                  dsimp only at x0 x1 x2
                  have hlx : bx < wc.heap.size := (Array.getElem?_eq_some_iff.1 hxb5).1
                  have HJ5 := Lib.hid hJ5
                  clear hxb5 hZ5 hJ5 HZE HXB HJZ HBL
                  go_upto_if 116 with fail
                  go_cut [12] from 42 to 224 (fun ev wd => ∃ z dn p A', ev = evv z ∧ KJ w b d (k + 1) A' dn p bx hi2 wd ∧ Zn bx hi2 wc wd ∧ Rz z dn A A' (exA t f o A))
                  case first =>
                    as_aux_lemma =>
                      by_cases h0 : t = 0
                      · cases hr : rgt f o with
                        | true =>
                          have cS := kj_set HJ5.out (by omega) hr
                          have HEX : Hid (exA t f o A = setA f o A) := by show _ = _; unfold exA; rw [if_pos ⟨h0, hr⟩]
                          have e0 : (t == 0) = true := by simpa using h0
                          clear h0 hr
                          go_wp2_with fail
                          refine cS.mono ?_
                          rintro y W6 hS
                          have HZ6 := Lib.hid hS.zn
                          rcases hS.is with ⟨rfl, hK6⟩ | ⟨_, rfl, hK6⟩
                          · have HK6 := Lib.hid hK6
                            clear cS hS hK6 x0 x1 x2 hlx
                            go_wp2_with fail
                            go_meet
                            case rel => exact ⟨0, false, p5, _, rfl, HK6.out, HZ6.out, .inl ⟨rfl, rfl, HEX.out.symm⟩⟩
                          · have HK6 := Lib.hid hK6
                            clear cS hS hK6 x0 x1 x2 hlx
                            go_wp2_with fail
                            go_meet
                            case rel => exact ⟨14, true, p5, _, rfl, HK6.out, HZ6.out, .inr (.inr ⟨rfl, rfl, rfl⟩)⟩
                        | false =>
                          have cS := kj_arg HJ5.out (by omega) (by omega) hr
                          have e0 : (t == 0) = true := by simpa using h0
                          clear h0 hr
                          go_wp2_with fail
                          refine cS.mono ?_
                          rintro y W6 ⟨rfl, hb6⟩
                          have HK6 := Lib.hid ((HJ5.out.up hb6).mono (Nat.le_succ k))
                          have HZ6 := Lib.hid (Zn.below (lo := bx) hb6 HJ5.out.hs)
                          clear cS hb6 x0 x1 x2 hlx
                          go_wp2_with fail
                          go_meet
                          case rel => exact ⟨1, false, p5, _, rfl, HK6.out, HZ6.out, .inr (.inl ⟨rfl, rfl, rfl⟩)⟩
                      · have cS := kj_tidy HJ5.out (by omega)
                        have HEX : Hid (exA t f o A = A) := by show _ = _; unfold exA; rw [if_neg (fun h => h0 h.1)]
                        have e0 : (t == 0) = false := by simpa using h0
                        clear h0
                        go_wp2_with fail
                        refine cS.mono ?_
                        rintro y W6 ⟨hZ6, hS⟩
                        have HZ6 := Lib.hid hZ6
                        rcases hS with ⟨rfl, hK6⟩ | ⟨rfl, hK6⟩
                        · have HK6 := Lib.hid (hK6.mono (Nat.le_succ k))
                          clear cS hZ6 hK6 x0 x1 x2 hlx
                          go_wp2_with fail
                          go_meet
                          case rel => exact ⟨0, false, p5, _, rfl, HK6.out, HZ6.out, .inl ⟨rfl, rfl, HEX.out.symm⟩⟩
                        · have HK6 := Lib.hid (hK6.mono (Nat.le_succ k))
                          clear cS hZ6 hK6 x0 x1 x2 hlx
                          go_wp2_with fail
                          go_meet
                          case rel => exact ⟨14, true, p5, _, rfl, HK6.out, HZ6.out, .inr (.inr ⟨rfl, rfl, rfl⟩)⟩
                  case rest =>
                    obtain ⟨z, dn, p6, A', rfl, hJ6, hZ6, hR⟩ := hcut
                    have HZE6 := Lib.hid (HZE5.out.on hZ6)
                    clear hZ6 HZE5 HJ5 x0 x1 x2 hlx
                    generalize exA t f o A = E at HZE6 hR
                    rcases hR with ⟨rfl, rfl, rfl⟩ | ⟨rfl, rfl, rfl⟩ | ⟨rfl, rfl, rfl⟩
                    · as_aux_lemma =>
                        have HE6 := HE.out.on hJ6.bl
                        have cT := tell_nil wc
                        rw [show evv 0 = .nilIface from rfl]
                        clear HE6
                        go_wp2_with fail
                        refine cT.mono ?_
                        rintro y W7 ⟨rfl, hw⟩
                        rw [hw]
                        clear hw W7
                        obtain ⟨W7, hW7⟩ : ∃ W7, W7 = wc := ⟨_, rfl⟩
                        rw [← hW7]
                        have hb7 : Below wc.heap.size wc W7 := by rw [hW7]; exact Below.refl _ _
                        clear hW7
                        clear cT
                        have HJ7 := Lib.hid (hJ6.up hb7)
                        have HZ7 := Lib.hid (HZE6.out.on (Zn.below hb7 hJ6.hs))
                        clear hb7 hJ6 HZE6
                        obtain ⟨sA, hsA⟩ : ∃ sA, sA = lnA A' := ⟨_, rfl⟩
                        have hss : (sA == sA) = true := by simp
                        have cL1 := bo_lines (HJ7.out.bo) (by omega)
                        rw [← hsA] at cL1
                        go_wp2_with fail
                        refine cL1.mono ?_
                        rintro y W7b ⟨rfl, hb1⟩
                        have HJ7b := Lib.hid (HJ7.out.up hb1)
                        have HZ7b := Lib.hid (HZ7.out.on (Zn.below hb1 HJ7.out.hs))
                        clear cL1 hb1 HJ7 HZ7
                        have cL2 := bo_lines (HZ7b.out.bo) (by omega)
                        rw [← hsA] at cL2
                        go_wp2_with fail
                        refine cL2.mono ?_
                        rintro y W7c ⟨rfl, hb2⟩
                        have HJ7c := Lib.hid (HJ7b.out.up hb2)
                        have HZ7c := Lib.hid (HZ7b.out.on (Zn.below hb2 HJ7b.out.hs))
                        clear cL2 hb2 HJ7b HZ7b
                        have cD := bo_down HJ7c.out.bo
                        go_wp2_with fail
                        refine cD.mono ?_
                        rintro y WX ⟨rfl, hw⟩
                        rw [hw]
                        clear hw WX cD
                        go_upto_if 175 with fail
                        go_cut [16] from 42 to 224 (fun kv wd => (∃ r : Int, kv = .int .i64 r ∧ r ≤ 9223372036854775807) ∧ wd = W7c)
                        case first =>
                          by_cases hc0 : 0 < cs.length
                          · obtain ⟨bc, oc, rfl, hC⟩ : ∃ bc oc, pc = some ⟨bc, oc, none⟩ ∧ Ctl w bc oc cs := by
                              rcases HC.out with h | h
                              · rw [h] at hc0; simp at hc0
                              · exact h
                            have hjl := Nat.mod_lt k hc0
                            have hcell := (HJ7c.out.bl.cell (p := ⟨bc, oc + k % cs.length, none⟩) hC.lt).trans (hC.c _ hjl)
                            obtain ⟨hr1, hr2⟩ := hC.r _ hjl
                            have hbcl : bc < W7c.heap.size := Nat.lt_of_lt_of_le hC.lt HJ7c.out.bl.size
                            generalize cs[k % cs.length] = cv at hcell hr1 hr2
                            have hq1 : wrap64 (cv.tdiv 9) = cv.tdiv 9 := tdiv9 hr1 hr2
                            have cP := pick_all (cv.tdiv 9) 60 W7c (tdiv9r hr1 hr2).1 (tdiv9r hr1 hr2).2 (by omega) (by omega)
                            clear hC
                            go_wp2_with fail
                            refine cP.mono ?_
                            rintro y W5 ⟨⟨r, rfl, hr3, hr4⟩, hw⟩
                            rw [hw]
                            clear hw cP W5
                            go_wp2_with fail
                            go_meet
                            case rel => exact ⟨⟨r, rfl, by omega⟩, rfl⟩
                          · go_wp2_with fail
                            go_meet
                            case rel => exact ⟨⟨0, rfl, by omega⟩, rfl⟩
                        case rest =>
                          obtain ⟨⟨r, rfl, hr⟩, hw⟩ := hcut
                          rw [hw]
                          clear hw wc
                          have cS := kj_start HJ7c.out hr
                          go_wp2_with fail
                          refine cS.mono ?_
                          rintro y W10 ⟨rfl, hZ10, hJ10⟩
                          have cO := kj_open hJ10 (by omega)
                          have HBo := Lib.hid hJ10.bo
                          clear cS hZ10 hJ10 HJ7c HZ7c
                          go_wp2_with fail
                          refine cO.mono ?_
                          rintro y W11 ⟨cb, rfl, hb11, hJ11⟩
                          have HBo11 := Lib.hid (HBo.out.up hb11)
                          have cL := bo_lines hJ11.bo (by omega)
                          rw [← hsA] at cL
                          have HJ11 := Lib.hid hJ11
                          clear cO hb11 hJ11 HBo
                          go_wp2_with fail
                          refine cL.mono ?_
                          rintro y W12 ⟨rfl, hb12⟩
                          have HB12 := Lib.hid (HBo11.out.up hb12)
                          have HJ12 := Lib.hid (HJ11.out.up hb12)
                          clear cL hb12 HBo11 HJ11
                          have cL := bo_lines HB12.out (by omega)
                          rw [← hsA] at cL
                          go_wp2_with fail
                          refine cL.mono ?_
                          rintro y W13 ⟨rfl, hb13⟩
                          have HJ13 := Lib.hid ((HJ12.out.up hb13).free)
                          clear cL hb13 HJ12 HB12
                          go_wp2_with fail
                          exact ⟨⟨k + 1, cb, _, hlt, rfl, by go_num, HJ13.out⟩, by simp [intOf]; omega⟩
                    · as_aux_lemma =>
                        have HE6 := HE.out.on hJ6.bl
                        have cT := tell_errno 1 wc HE6
                        rw [show evv 1 = .iface 33 (.int .i64 1) from rfl]
                        clear HE6
                        go_wp2_with fail
                        refine cT.mono ?_
                        rintro y W7 ⟨rfl, hb7⟩
                        clear cT
                        have HJ7 := Lib.hid (hJ6.up hb7)
                        have HZ7 := Lib.hid (HZE6.out.on (Zn.below hb7 hJ6.hs))
                        clear hb7 hJ6 HZE6
                        obtain ⟨sA, hsA⟩ : ∃ sA, sA = lnA A' := ⟨_, rfl⟩
                        have hss : (sA == sA) = true := by simp
                        rw [← hsA]
                        have cL1 := bo_lines (HJ7.out.bo) (by omega)
                        rw [← hsA] at cL1
                        go_wp2_with fail
                        refine cL1.mono ?_
                        rintro y W7b ⟨rfl, hb1⟩
                        have HJ7b := Lib.hid (HJ7.out.up hb1)
                        have HZ7b := Lib.hid (HZ7.out.on (Zn.below hb1 HJ7.out.hs))
                        clear cL1 hb1 HJ7 HZ7
                        have cD := bo_down HJ7b.out.bo
                        go_wp2_with fail
                        refine cD.mono ?_
                        rintro y WX ⟨rfl, hw⟩
                        rw [hw]
                        clear hw WX cD
                        go_upto_if 175 with fail
                        go_cut [16] from 42 to 224 (fun kv wd => (∃ r : Int, kv = .int .i64 r ∧ r ≤ 9223372036854775807) ∧ wd = W7b)
                        case first =>
                          by_cases hc0 : 0 < cs.length
                          · obtain ⟨bc, oc, rfl, hC⟩ : ∃ bc oc, pc = some ⟨bc, oc, none⟩ ∧ Ctl w bc oc cs := by
                              rcases HC.out with h | h
                              · rw [h] at hc0; simp at hc0
                              · exact h
                            have hjl := Nat.mod_lt k hc0
                            have hcell := (HJ7b.out.bl.cell (p := ⟨bc, oc + k % cs.length, none⟩) hC.lt).trans (hC.c _ hjl)
                            obtain ⟨hr1, hr2⟩ := hC.r _ hjl
                            have hbcl : bc < W7b.heap.size := Nat.lt_of_lt_of_le hC.lt HJ7b.out.bl.size
                            generalize cs[k % cs.length] = cv at hcell hr1 hr2
                            have hq1 : wrap64 (cv.tdiv 9) = cv.tdiv 9 := tdiv9 hr1 hr2
                            have cP := pick_all (cv.tdiv 9) 60 W7b (tdiv9r hr1 hr2).1 (tdiv9r hr1 hr2).2 (by omega) (by omega)
                            clear hC
                            go_wp2_with fail
                            refine cP.mono ?_
                            rintro y W5 ⟨⟨r, rfl, hr3, hr4⟩, hw⟩
                            rw [hw]
                            clear hw cP W5
                            go_wp2_with fail
                            go_meet
                            case rel => exact ⟨⟨r, rfl, by omega⟩, rfl⟩
                          · go_wp2_with fail
                            go_meet
                            case rel => exact ⟨⟨0, rfl, by omega⟩, rfl⟩
                        case rest =>
                          obtain ⟨⟨r, rfl, hr⟩, hw⟩ := hcut
                          rw [hw]
                          clear hw wc
                          have cS := kj_start HJ7b.out hr
                          go_wp2_with fail
                          refine cS.mono ?_
                          rintro y W10 ⟨rfl, hZ10, hJ10⟩
                          have cO := kj_open hJ10 (by omega)
                          have HBo := Lib.hid hJ10.bo
                          clear cS hZ10 hJ10 HJ7b HZ7b
                          go_wp2_with fail
                          refine cO.mono ?_
                          rintro y W11 ⟨cb, rfl, hb11, hJ11⟩
                          have HBo11 := Lib.hid (HBo.out.up hb11)
                          have cL := bo_lines hJ11.bo (by omega)
                          rw [← hsA] at cL
                          have HJ11 := Lib.hid hJ11
                          clear cO hb11 hJ11 HBo
                          go_wp2_with fail
                          refine cL.mono ?_
                          rintro y W12 ⟨rfl, hb12⟩
                          have HB12 := Lib.hid (HBo11.out.up hb12)
                          have HJ12 := Lib.hid (HJ11.out.up hb12)
                          clear cL hb12 HBo11 HJ11
                          have cL := bo_lines HB12.out (by omega)
                          rw [← hsA] at cL
                          go_wp2_with fail
                          refine cL.mono ?_
                          rintro y W13 ⟨rfl, hb13⟩
                          have HJ13 := Lib.hid ((HJ12.out.up hb13).free)
                          clear cL hb13 HJ12 HB12
                          go_wp2_with fail
                          exact ⟨⟨k + 1, cb, _, hlt, rfl, by go_num, HJ13.out⟩, by simp [intOf]; omega⟩
                    · as_aux_lemma =>
                        have HE6 := HE.out.on hJ6.bl
                        have cT := tell_errno 14 wc HE6
                        rw [show evv 14 = .iface 33 (.int .i64 14) from rfl]
                        clear HE6
                        go_wp2_with fail
                        refine cT.mono ?_
                        rintro y W7 ⟨rfl, hb7⟩
                        clear cT
                        have HJ7 := Lib.hid (hJ6.up hb7)
                        have HZ7 := Lib.hid (HZE6.out.on (Zn.below hb7 hJ6.hs))
                        clear hb7 hJ6 HZE6
                        obtain ⟨sA, hsA⟩ : ∃ sA, sA = lnA A' := ⟨_, rfl⟩
                        have hss : (sA == sA) = true := by simp
                        rw [← hsA]
                        have cD := bo_down HJ7.out.bo
                        go_wp2_with fail
                        refine cD.mono ?_
                        rintro y WX ⟨rfl, hw⟩
                        rw [hw]
                        clear hw WX cD
                        have cF := bo_fell HJ7.out.bo [97] [98]
                        go_wp2_with fail
                        refine cF.mono ?_
                        rintro y WX ⟨rfl, hw⟩
                        rw [hw]
                        clear hw WX cF
                        have cT := tell_errno 6 W7 (HE.out.on HJ7.out.bl)
                        go_wp2_with fail
                        refine cT.mono ?_
                        rintro y W9 ⟨rfl, hb9⟩
                        have HJ9 := Lib.hid (HJ7.out.up hb9)
                        have HZ9 := Lib.hid (HZ7.out.on (Zn.below hb9 HJ7.out.hs))
                        clear cT hb9 HJ7 HZ7
                        go_upto_if 175 with fail
                        go_cut [16] from 42 to 224 (fun kv wd => (∃ r : Int, kv = .int .i64 r ∧ r ≤ 9223372036854775807) ∧ wd = W9)
                        case first =>
                          by_cases hc0 : 0 < cs.length
                          · obtain ⟨bc, oc, rfl, hC⟩ : ∃ bc oc, pc = some ⟨bc, oc, none⟩ ∧ Ctl w bc oc cs := by
                              rcases HC.out with h | h
                              · rw [h] at hc0; simp at hc0
                              · exact h
                            have hjl := Nat.mod_lt k hc0
                            have hcell := (HJ9.out.bl.cell (p := ⟨bc, oc + k % cs.length, none⟩) hC.lt).trans (hC.c _ hjl)
                            obtain ⟨hr1, hr2⟩ := hC.r _ hjl
                            have hbcl : bc < W9.heap.size := Nat.lt_of_lt_of_le hC.lt HJ9.out.bl.size
                            generalize cs[k % cs.length] = cv at hcell hr1 hr2
                            have hq1 : wrap64 (cv.tdiv 9) = cv.tdiv 9 := tdiv9 hr1 hr2
                            have cP := pick_all (cv.tdiv 9) 60 W9 (tdiv9r hr1 hr2).1 (tdiv9r hr1 hr2).2 (by omega) (by omega)
                            clear hC
                            go_wp2_with fail
                            refine cP.mono ?_
                            rintro y W5 ⟨⟨r, rfl, hr3, hr4⟩, hw⟩
                            rw [hw]
                            clear hw cP W5
                            go_wp2_with fail
                            go_meet
                            case rel => exact ⟨⟨r, rfl, by omega⟩, rfl⟩
                          · go_wp2_with fail
                            go_meet
                            case rel => exact ⟨⟨0, rfl, by omega⟩, rfl⟩
                        case rest =>
                          obtain ⟨⟨r, rfl, hr⟩, hw⟩ := hcut
                          rw [hw]
                          clear hw wc
                          have cS := kj_start HJ9.out hr
                          go_wp2_with fail
                          refine cS.mono ?_
                          rintro y W10 ⟨rfl, hZ10, hJ10⟩
                          have cO := kj_open hJ10 (by omega)
                          have HBo := Lib.hid hJ10.bo
                          clear cS hZ10 hJ10 HJ9 HZ9
                          go_wp2_with fail
                          refine cO.mono ?_
                          rintro y W11 ⟨cb, rfl, hb11, hJ11⟩
                          have HBo11 := Lib.hid (HBo.out.up hb11)
                          have cL := bo_lines hJ11.bo (by omega)
                          rw [← hsA] at cL
                          have HJ11 := Lib.hid hJ11
                          clear cO hb11 hJ11 HBo
                          go_wp2_with fail
                          refine cL.mono ?_
                          rintro y W12 ⟨rfl, hb12⟩
                          have HB12 := Lib.hid (HBo11.out.up hb12)
                          have HJ12 := Lib.hid (HJ11.out.up hb12)
                          clear cL hb12 HBo11 HJ11
                          have HJ13 := Lib.hid HJ12.out.free
                          clear HJ12 HB12
                          go_wp2_with fail
                          exact ⟨⟨k + 1, cb, _, hlt, rfl, by go_num, HJ13.out⟩, by simp [intOf]; omega⟩
        · go_wp2_with fail
          exact ⟨⟨k + 1, b, A, hlt, rfl, by go_num, HJ1.out.mono (Nat.le_succ _)⟩, by simp [intOf]; omega⟩
      · go_wp2_with fail
        exact ⟨⟨k + 1, b, A, hlt, rfl, by go_num, HJ1.out.mono (Nat.le_succ _)⟩, by simp [intOf]; omega⟩
    · have hbl := hJ.bl
      go_wp2
      go_ret
      exact ⟨rfl, hbl⟩
end Go.Proofs.YteiobnkaadedkaaGreatDoor
