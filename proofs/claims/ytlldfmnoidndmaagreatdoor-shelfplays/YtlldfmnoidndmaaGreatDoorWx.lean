/- The reference's shelf: Clash. -/
import Derived.Test.YtlldfmnoidndmaaGreatDoorQt
import Derived.Test.YtlldfmnoidndmaaGreatDoorQq
import Derived.Test.YtlldfmnoidndmaaGreatDoorQv
import Derived.Test.YtlldfmnoidndmaaGreatDoorQe
import Derived.Test.YtlldfmnoidndmaaGreatDoorQu
import Derived.Test.YtlldfmnoidndmaaGreatDoorCj
namespace Go.Proofs.YtlldfmnoidndmaaGreatDoor.Dsk
open Go.RowKit Go.Sort Go.Maps

/-- Whose files may be taken. -/
def tkf (t m : List UInt8) : Bool := decide (t = [42]) || decide (t = m)
set_option maxRecDepth 100000 in
theorem tk10 (b : Nat) (t m : List UInt8) (W : World) (h : W.cell? ⟨b, 14, none⟩ = some (.string ⟨t.toArray⟩)) : Calls Tryz.prog 10 #[.string ⟨m.toArray⟩, .pointer (some ⟨b, 0, none⟩)] W fun e w' => e = .returned (.bool (tkf t m)) ∧ Below W.heap.size W w' := by
  have hl := block_lt_of_cell h
  unfold tkf
  by_cases e : t = [42]
  · have he : (t == [42]) = true := beq_iff_eq.2 e
    rw [decide_eq_true e]
    clear e
    go_enter Tryz.func10, Tryz.ntmps10
    go_wp2
    go_ret
    exact ⟨rfl, Below.refl _ _⟩
  · have he : (t == [42]) = false := beq_eq_false_iff_ne.2 e
    rw [decide_eq_false e]
    clear e
    by_cases e2 : t = m
    · have he2 : (t == m) = true := beq_iff_eq.2 e2
      rw [decide_eq_true e2]
      clear e2
      go_enter Tryz.func10, Tryz.ntmps10
      go_wp2
      go_ret
      exact ⟨rfl, Below.refl _ _⟩
    · have he2 : (t == m) = false := beq_eq_false_iff_ne.2 e2
      rw [decide_eq_false e2]
      clear e2
      go_enter Tryz.func10, Tryz.ntmps10
      go_wp2
      go_ret
      exact ⟨rfl, Below.refl _ _⟩
/-- One's paths meet a file. -/
def rhit (A : Kv (List UInt8)) (tk : List UInt8 → Bool) (f m : List UInt8) : Bool := (rpt A m).any fun q => bsd q f (tk m)
def rnn (A : Kv (List UInt8)) (tk : List UInt8 → Bool) (n f m : List UInt8) : Bool := !(m == n) && rhit A tk f m
/-- What the reference's Clash tells. -/
inductive Rcl (A : Kv (List UInt8)) (n : List UInt8) (tk : List UInt8 → Bool) (F : List (List UInt8 × List UInt8)) : Int → List UInt8 → Prop where
  | no : (∀ f ∈ F, ∀ m ∈ rown A, rnn A tk n f.1 m = false) → Rcl A n tk F (-1) []
  | yes (i : Nat) (hi : i < F.length) (j : Nat) (hj : j < (rown A).length) : (∀ t (ht : t < F.length), t < i → ∀ m ∈ rown A, rnn A tk n F[t].1 m = false) → (∀ t (ht : t < (rown A).length), t < j → rnn A tk n F[i].1 (rown A)[t] = false) → rnn A tk n F[i].1 (rown A)[j] = true → Rcl A n tk F i (rown A)[j]
theorem hp_self (q : List UInt8) : Lib.hasPrefix q (q ++ [47]) = false := by
  unfold Lib.hasPrefix
  cases h : (q ++ [47]).isPrefixOf q with
  | false => rfl
  | true =>
    have := (List.isPrefixOf_iff_prefix.1 h).length_le
    rw [List.length_append, List.length_singleton] at this
    omega
theorem bsd_or (q f : List UInt8) (t : Bool) : bsd q f t = ((Lib.hasPrefix q (f ++ [47]) || Lib.hasPrefix f (q ++ [47])) || ((q == f) && !t)) := by
  unfold bsd
  by_cases e : q = f
  · subst e
    rw [if_pos rfl, hp_self]
    simp
  · rw [if_neg e, beq_eq_false_iff_ne.2 e]
    simp
theorem rwM_len : ∀ (r : Kv (List UInt8)) (U : Kv Unit), (rwM r U).length ≤ r.length + U.length
  | [], U => by simp [rwM]
  | kv :: r, U => by
    unfold rwM
    refine Nat.le_trans (rwM_len r _) ?_
    have := putL_len kv.2 () U
    simp only [List.length_cons]
    omega
section
variable {W W2 : World} {r mw md ms : Nat} {A D S : Kv (List UInt8)}
theorem any_t {α : Type} {f : α → Bool} {l : List α} (j : Nat) (hj : j < l.length) (h : f l[j] = true) : l.any f = true := List.any_eq_true.2 ⟨_, List.getElem_mem hj, h⟩
theorem any_f {α : Type} {f : α → Bool} {l : List α} (h : ∀ j (hj : j < l.length), f l[j] = false) : l.any f = false := by
  rw [List.any_eq_false]
  intro x hx
  obtain ⟨j, hj, rfl⟩ := List.getElem_of_mem hx
  rw [h j hj]; simp
set_option maxRecDepth 100000 in
set_option maxHeartbeats 8000000 in
theorem rclash_any (h : RX W r mw md ms A D S) (hA : A.length ≤ 1000000) (hAq : ∀ p m, lkL p A = some m → p.length ≤ 900 ∧ m.length ≤ 1000) (n : List UInt8) (e : Int) (u r' : List UInt8) (vD vA vG vB vR vP vS vL vF : Value) (bx : Nat) (t : List UInt8) (F : List (List UInt8 × List UInt8)) (hF : Fs W vF F) (hFl : F.length ≤ 1000) (hFp : ∀ f ∈ F, f.1.length ≤ 900) (hbx : W.cell? ⟨bx, 14, none⟩ = some (.string ⟨t.toArray⟩)) :
    Calls Tryz.prog 11 #[.pointer (some ⟨r, 0, none⟩), pkv n e u r' vD vA vG vB vR vP vS vL vF, .func (.func 10) #[] #[.pointer (some ⟨bx, 0, none⟩)]] W fun x W2 => (∃ i m, x = .returned (.tuple #[.int .i64 i, .string ⟨m.toArray⟩]) ∧ Rcl A n (tkf t) F i m) ∧ Below W.heap.size W W2 := by
  have bA := (Below.refl W.heap.size W).alloc (Nat.le_refl _) (pko n e u r' vD vA vG vB vR vP vS vL vF)
  have x0 := nb0 W (pko n e u r' vD vA vG vB vR vP vS vL vF)
  have hX := h.on bA
  obtain ⟨fp, fc, hvF⟩ : ∃ fp fc, vF = .slice fp F.length fc := by
    rcases hF.is with ⟨h, A, c, h1⟩ | ⟨b, o, c, h1, _⟩
    · rw [h]; exact ⟨_, _, h1⟩
    · exact ⟨_, _, h1⟩
  subst hvF
  have HX := Lib.hid hX
  have HXB := Lib.hid x0
  have HB := Lib.hid bA
  have HF := Lib.hid (hF.on bA)
  have HBX := Lib.hid ((bA.cell (p := ⟨bx, 14, none⟩) (block_lt_of_cell hbx)).trans hbx)
  have HFP := Lib.hid hFp
  have HAQ := Lib.hid hAq
  have HSA := Lib.hid h.sa
  obtain ⟨bp, hbp⟩ : ∃ bp, bp = W.heap.size := ⟨_, rfl⟩
  obtain ⟨W1, hW1⟩ : ∃ W1, W1 = W.alloc (pko n e u r' vD vA vG vB vR vP vS vL (.slice fp F.length fc)) := ⟨_, rfl⟩
  clear h hX x0 bA hF hbx hFp hAq
  go_enter Tryz.func11, Tryz.ntmps11
  go_upto_region 1 with fail
  rw [← hW1] at HX HXB HB HF HBX ⊢
  rw [← hbp] at HXB ⊢
  clear hW1 hbp
  have p12 : W1.cell? ⟨bp, 12, none⟩ = some (.slice fp F.length fc) := by simp [World.cell?, HXB.out]
  have hlt1 : bp < W1.heap.size := block_lt_of_cell p12
  go_wp2_with fail
  go_loopw [18] (fun iv V => ∃ k : Nat, k ≤ F.length ∧ iv = .int .i64 k ∧ Below W1.heap.size W1 V ∧ Hid (∀ t' (ht : t' < F.length), t' < k → ∀ m ∈ rown A, rnn A (tkf t) n F[t'].1 m = false)) (fun iv _ => F.length - (intOf iv).toNat)
  case atStart => exact ⟨0, Nat.zero_le _, rfl, Below.refl _ _, fun t _ h => absurd h (Nat.not_lt_zero _)⟩
  case round =>
    obtain ⟨k, hk, rfl, hbV, HP⟩ := hrel
    by_cases hlt : k < F.length
    · obtain ⟨fb, fo, rfl, hFr⟩ : ∃ fb fo, fp = some ⟨fb, fo, none⟩ ∧ Fr wr fb fo F := by
        rcases (HF.out.on hbV).is with ⟨h, _⟩ | ⟨b, o, c, h1, _, h3⟩
        · rw [h] at hlt; simp at hlt
        · cases h1; exact ⟨b, o, rfl, h3⟩
      have f0 := hFr.c0 k hlt
      have f1 := hFr.c1 k hlt
      have hfl := hFr.lt
      have hfp := HFP.out _ (List.getElem_mem hlt)
      have HY1 : Hid (∀ j (hj : j < (rown A).length), (∀ t' (ht : t' < (rown A).length), t' < j → rnn A (tkf t) n F[k].1 (rown A)[t'] = false) → rnn A (tkf t) n F[k].1 (rown A)[j] = true → Rcl A n (tkf t) F k (rown A)[j]) := fun j hj h1 h2 => .yes k hlt j hj HP.out h1 h2
      have HN1 : Hid ((∀ t' (ht : t' < (rown A).length), t' < (rown A).length → rnn A (tkf t) n F[k].1 (rown A)[t'] = false) → ∀ t' (ht : t' < F.length), t' < k + 1 → ∀ m ∈ rown A, rnn A (tkf t) n F[t'].1 m = false) := fun h t' ht h2 m hm => by
        by_cases e : t' = k
        · subst e
          obtain ⟨j, hj, rfl⟩ := List.getElem_of_mem hm
          exact h j hj hj
        · exact HP.out t' ht (by omega) m hm
      generalize F[k] = f at f0 f1 hfp HY1 HN1
      obtain ⟨fa, fd⟩ := f
      dsimp only at f0 f1 hfp
      have hbV' := hbV.alloc hbV.size (.cells #[.string ⟨fa.toArray⟩, .string ⟨fd.toArray⟩] 73)
      have hxf := nb0 wr (.cells #[.string ⟨fa.toArray⟩, .string ⟨fd.toArray⟩] 73)
      obtain ⟨bf, hbf⟩ : ∃ bf, bf = wr.heap.size := ⟨_, rfl⟩
      rw [← hbf] at hxf
      obtain ⟨VF, hVF⟩ : ∃ VF, VF = wr.alloc (.cells #[.string ⟨fa.toArray⟩, .string ⟨fd.toArray⟩] 73) := ⟨_, rfl⟩
      rw [← hVF] at hxf hbV'
      have HBV := Lib.hid hbV'
      have HXF := Lib.hid hxf
      have cO := rowners_any (HX.out.on hbV') hA (fun p m hpm => (HAQ.out p m hpm).2)
      clear hFr hbV hbV' hxf HP
      go_upto_region 4 with fail
      try rw [← hVF, ← hbf]
      clear hbf hVF f0 f1 hfl
      go_wp2_with fail
      refine cO.mono ?_
      rintro x V1 ⟨v, rfl, hTx, b1⟩
      obtain ⟨OA, oc, rfl, hTr⟩ := tr_tx hTx
      have HTr := Lib.hid hTr
      have HB1 := Lib.hid (HBV.out.trans (b1.mono HBV.out.size))
      have HXF1 := Lib.hid ((b1.block bf (Array.getElem?_eq_some_iff.1 HXF.out).1).trans HXF.out)
      have HOL : Hid ((rown A).length ≤ 1000000) := by
        unfold rown
        show _ ≤ _
        rw [List.length_map]
        exact Nat.le_trans (rwM_len A []) (by simpa using hA)
      have hol := HOL.out
      clear cO hTx hTr b1 HBV HXF
      go_wp2_with fail
      go_loopw [26] (fun iv V => ∃ j : Nat, j ≤ (rown A).length ∧ iv = .int .i64 j ∧ Below V1.heap.size V1 V ∧ Hid (∀ t' (ht : t' < (rown A).length), t' < j → rnn A (tkf t) n fa (rown A)[t'] = false)) (fun iv _ => (rown A).length - (intOf iv).toNat)
      case atStart => exact ⟨0, Nat.zero_le _, rfl, Below.refl _ _, fun t _ h => absurd h (Nat.not_lt_zero _)⟩
      case round =>
        obtain ⟨j, hj, rfl, hbJ, HQ⟩ := hrel
        have hb1J : Below W1.heap.size W1 wr := HB1.out.trans (hbJ.mono HB1.out.size)
        by_cases hjt : j < (rown A).length
        · obtain ⟨og, rfl, _, hog, hoc⟩ := (HTr.out.on hbJ).c j hjt
          have HYj := Lib.hid (HY1.out j hjt HQ.out)
          have HNj : Hid (rnn A (tkf t) n fa (rown A)[j] = false → ∀ t' (ht : t' < (rown A).length), t' < j + 1 → rnn A (tkf t) n fa (rown A)[t'] = false) := fun h t' ht h2 => by
            by_cases e : t' = j
            · subst e; exact h
            · exact HQ.out t' ht (by omega)
          have hnml : ((rown A)[j]).length ≤ 1000 := by
            obtain ⟨p, hp⟩ := (mem_rown HSA.out).1 (List.getElem_mem hjt)
            exact (HAQ.out _ _ hp).2
          generalize (rown A)[j] = nm at hoc HYj HNj hnml
          have cP := rpaths_any (HX.out.on hb1J) nm hA
          have HPL : Hid (∀ x ∈ rpt A nm, x.length ≤ 900) := fun x hx => (HAQ.out x nm ((mem_rpt HSA.out).1 hx)).1
          have hpl : (rpt A nm).length ≤ 1000000 := by
            unfold rpt
            rw [List.length_map]
            exact Nat.le_trans (List.length_filter_le _ _) hA
          have HRN : Hid (rnn A (tkf t) n fa nm = (!(nm == n) && (rpt A nm).any fun q => bsd q fa (tkf t nm))) := rfl
          have HBJ := Lib.hid hbJ
          have HB1J := Lib.hid hb1J
          clear HQ hbJ hb1J
          go_wp2_with fail
          refine cP.mono ?_
          rintro x V2 ⟨v, rfl, hTx, b2⟩
          obtain ⟨PA, pc, rfl, hTp⟩ := tr_tx hTx
          have HTp := Lib.hid hTp
          have HB2 := Lib.hid (HB1J.out.trans (b2.mono HB1J.out.size))
          have HBJ2 := Lib.hid (HBJ.out.trans (b2.mono HBJ.out.size))
          generalize hps : rpt A nm = ps at HTp HPL hpl HRN
          clear hps cP hTx hTp b2 HBJ HB1J
          go_wp2_with fail
          go_loopw [34] (fun iv V => ∃ i : Nat, i ≤ ps.length ∧ iv = .int .i64 i ∧ Below V2.heap.size V2 V ∧ Hid (∀ t' (ht : t' < ps.length), t' < i → (!(nm == n) && bsd ps[t'] fa (tkf t nm)) = false)) (fun iv _ => ps.length - (intOf iv).toNat)
          case atStart => exact ⟨0, Nat.zero_le _, rfl, Below.refl _ _, fun t _ h => absurd h (Nat.not_lt_zero _)⟩
          case round =>
            obtain ⟨i, hi, rfl, hbI, HI⟩ := hrel
            have hbA := HB2.out.trans (hbI.mono HB2.out.size)
            have HBA := Lib.hid (HB.out.trans (hbA.mono HB.out.size))
            by_cases hit : i < ps.length
            · obtain ⟨pg, rfl, _, hpg, hpc⟩ := (HTp.out.on hbI).c i hit
              have hql := HPL.out _ (List.getElem_mem hit)
              have HYi : Hid ((!(nm == n) && bsd ps[i] fa (tkf t nm)) = true → rnn A (tkf t) n fa nm = true) := fun h => by
                simp only [Bool.and_eq_true] at h
                show _ = _
                rw [HRN.out, h.1, Bool.true_and]
                exact any_t i hit h.2
              have HNi : Hid ((!(nm == n) && bsd ps[i] fa (tkf t nm)) = false → ∀ t' (ht : t' < ps.length), t' < i + 1 → (!(nm == n) && bsd ps[t'] fa (tkf t nm)) = false) := fun h t' ht h2 => by
                by_cases e : t' = i
                · subst e; exact h
                · exact HI.out t' ht (by omega)
              generalize ps[i] = q at hpc hql HYi HNi
              have hbxc := (hbA.cell (p := ⟨bx, 14, none⟩) (block_lt_of_cell HBX.out)).trans HBX.out
              have cT := tk10 bx t nm wr hbxc
              have cF : wr.cell? ⟨bf, 0, none⟩ = some (.string ⟨fa.toArray⟩) := by
                have hb1r := HBJ2.out.trans (hbI.mono HBJ2.out.size)
                have := (hb1r.block bf (Array.getElem?_eq_some_iff.1 HXF1.out).1).trans HXF1.out
                simp [World.cell?, this]
              have hbfl := block_lt_of_cell cF
              have cN : wr.cell? ⟨bp, 0, none⟩ = some (.string ⟨n.toArray⟩) := by
                have := (hbA.block bp hlt1).trans HXB.out
                simp [World.cell?, this]
              have hbpl := block_lt_of_cell cN
              have cH1 := Tryz.strings_HasPrefix ⟨q.toArray⟩ ⟨(fa ++ [47]).toArray⟩ wr
              change Calls Tryz.prog 41 _ wr fun e w' => e = .returned (.bool (Lib.hasPrefix q (fa ++ [47]))) ∧ w' = wr at cH1
              rw [← cat2] at cH1
              have cH2 := Tryz.strings_HasPrefix ⟨fa.toArray⟩ ⟨(q ++ [47]).toArray⟩ wr
              change Calls Tryz.prog 41 _ wr fun e w' => e = .returned (.bool (Lib.hasPrefix fa (q ++ [47]))) ∧ w' = wr at cH2
              rw [← cat2] at cH2
              have HBI := Lib.hid hbI
              clear HI hbI hbA hbxc
              rcases Bool.eq_false_or_eq_true (Lib.hasPrefix q (fa ++ [47])) with h1 | h1
              · rw [h1] at cH1
                clear cH2
                rcases Bool.eq_false_or_eq_true (nm == n) with hen | hen
                · have HNf := Lib.hid (HNi.out (by simp [hen]))
                  clear HYi HNi cT
                  go_wp2_with fail
                  refine cH1.mono ?_
                  rintro x w3 ⟨rfl, rfl⟩
                  go_wp2_with fail
                  exact ⟨⟨i + 1, hit, by go_num, HBI.out, HNf⟩, by simp [intOf]; omega⟩
                · have HRf := Lib.hid (HYj.out (HYi.out (by simp [bsd_or, hen, h1])))
                  clear HYi HNi cT HYj HNj
                  go_wp2_with fail
                  refine cH1.mono ?_
                  rintro x w3 ⟨rfl, rfl⟩
                  go_wp2_with fail
                  go_ret2
                  exact ⟨⟨_, _, rfl, HRf.out⟩, HBA.out⟩
              · rw [h1] at cH1
                rcases Bool.eq_false_or_eq_true (Lib.hasPrefix fa (q ++ [47])) with h2 | h2
                · rw [h2] at cH2
                  rcases Bool.eq_false_or_eq_true (nm == n) with hen | hen
                  · have HNf := Lib.hid (HNi.out (by simp [hen]))
                    clear HYi HNi cT
                    go_wp2_with fail
                    refine cH1.mono ?_
                    rintro x w3 ⟨rfl, rfl⟩
                    go_wp2_with fail
                    refine cH2.mono ?_
                    rintro x w3 ⟨rfl, rfl⟩
                    go_wp2_with fail
                    exact ⟨⟨i + 1, hit, by go_num, HBI.out, HNf⟩, by simp [intOf]; omega⟩
                  · have HRf := Lib.hid (HYj.out (HYi.out (by simp [bsd_or, hen, h1, h2])))
                    clear HYi HNi cT HYj HNj
                    go_wp2_with fail
                    refine cH1.mono ?_
                    rintro x w3 ⟨rfl, rfl⟩
                    go_wp2_with fail
                    refine cH2.mono ?_
                    rintro x w3 ⟨rfl, rfl⟩
                    go_wp2_with fail
                    go_ret2
                    exact ⟨⟨_, _, rfl, HRf.out⟩, HBA.out⟩
                · rw [h2] at cH2
                  rcases Bool.eq_false_or_eq_true (nm == n) with hen | hen
                  · have HNf := Lib.hid (HNi.out (by simp [hen]))
                    clear HYi HNi cT
                    go_wp2_with fail
                    refine cH1.mono ?_
                    rintro x w3 ⟨rfl, rfl⟩
                    go_wp2_with fail
                    refine cH2.mono ?_
                    rintro x w3 ⟨rfl, rfl⟩
                    go_wp2_with fail
                    exact ⟨⟨i + 1, hit, by go_num, HBI.out, HNf⟩, by simp [intOf]; omega⟩
                  · rcases Bool.eq_false_or_eq_true (q == fa) with heq | heq
                    · rcases Bool.eq_false_or_eq_true (tkf t nm) with h3 | h3
                      · rw [h3] at cT
                        have HNf := Lib.hid (HNi.out (by simp [bsd_or, hen, heq, h3, h1, h2]))
                        clear HYi HNi
                        go_wp2_with fail
                        refine cH1.mono ?_
                        rintro x w3 ⟨rfl, rfl⟩
                        go_wp2_with fail
                        refine cH2.mono ?_
                        rintro x w3 ⟨rfl, rfl⟩
                        go_wp2_with fail
                        refine cT.mono ?_
                        rintro x w4 ⟨rfl, b4⟩
                        have HB4 := Lib.hid (HBI.out.trans (b4.mono HBI.out.size))
                        clear b4
                        go_wp2_with fail
                        exact ⟨⟨i + 1, hit, by go_num, HB4.out, HNf⟩, by simp [intOf]; omega⟩
                      · rw [h3] at cT
                        have HRf := Lib.hid (HYj.out (HYi.out (by simp [bsd_or, hen, heq, h3, h1, h2])))
                        clear HYi HNi HYj HNj
                        go_wp2_with fail
                        refine cH1.mono ?_
                        rintro x w3 ⟨rfl, rfl⟩
                        go_wp2_with fail
                        refine cH2.mono ?_
                        rintro x w3 ⟨rfl, rfl⟩
                        go_wp2_with fail
                        refine cT.mono ?_
                        rintro x w4 ⟨rfl, b4⟩
                        have HB4 := Lib.hid (HBA.out.trans (b4.mono HBA.out.size))
                        clear b4
                        go_wp2_with fail
                        go_ret2
                        exact ⟨⟨_, _, rfl, HRf.out⟩, HB4.out⟩
                    · have HNf := Lib.hid (HNi.out (by simp [bsd_or, hen, heq, h1, h2]))
                      clear HYi HNi cT
                      go_wp2_with fail
                      refine cH1.mono ?_
                      rintro x w3 ⟨rfl, rfl⟩
                      go_wp2_with fail
                      refine cH2.mono ?_
                      rintro x w3 ⟨rfl, rfl⟩
                      go_wp2_with fail
                      exact ⟨⟨i + 1, hit, by go_num, HBI.out, HNf⟩, by simp [intOf]; omega⟩
            · have hie : i = ps.length := by omega
              have HE := Lib.hid (HNj.out (by rw [HRN.out]; cases hen : (nm == n) with | true => rfl | false => (rw [Bool.not_false, Bool.true_and]; exact any_f fun t' ht => by have := HI.out t' ht (by omega); rw [hen] at this; simpa using this)))
              have HBe := Lib.hid (HBJ2.out.trans (hbI.mono HBJ2.out.size))
              clear HI hbI hbA hie HYj HNj HRN
              go_wp2_with fail
              exact ⟨⟨j + 1, hjt, by go_num, HBe.out, HE⟩, by simp [intOf]; omega⟩
        · have hje : j = (rown A).length := by omega
          subst hje
          have HE := Lib.hid (HN1.out HQ.out)
          have HBe := Lib.hid hb1J
          clear HQ hbJ hb1J HY1 HN1
          go_wp2_with fail
          exact ⟨⟨k + 1, hlt, by go_num, HBe.out, HE⟩, by simp [intOf]; omega⟩
    · obtain rfl : k = F.length := by omega
      have hbf := HB.out.trans (hbV.mono HB.out.size)
      have HE : Hid (Rcl A n (tkf t) F (-1) []) := .no fun f hf m hm => by
        obtain ⟨t', ht, rfl⟩ := List.getElem_of_mem hf
        exact HP.out t' ht ht m hm
      clear HP
      go_wp2
      go_ret2
      exact ⟨⟨_, _, rfl, HE.out⟩, hbf⟩
end
end Go.Proofs.YtlldfmnoidndmaaGreatDoor.Dsk
namespace Go.Proofs.YtlldfmnoidndmaaGreatDoor.Dsk
open Go.RowKit Go.Sort Go.Maps

theorem srt_ext {l l' : List (List UInt8)} (h : l.Pairwise fun x y => bytesBefore x y = true) (h' : l'.Pairwise fun x y => bytesBefore x y = true) (hm : ∀ x, x ∈ l ↔ x ∈ l') : l = l' :=
  (bbs_sort h (bbs_nodup h') (fun x => (hm x).symm)).symm.trans (bbs_sort h' (bbs_nodup h') fun _ => Iff.rfl)
theorem bb_o (a b : List UInt8) : bytesBefore ([111, 47] ++ a) ([111, 47] ++ b) = bytesBefore a b := by simp [bytesBefore]
theorem pts_srt {L : Kv Ent} (hS : Srt L) (n : List UInt8) : (pts L n).Pairwise fun x y => bytesBefore x y = true := by
  unfold pts ptf
  refine List.Pairwise.filter _ ?_
  have h1 : (L.map (·.1)).Pairwise fun x y => bytesBefore x y = true := List.pairwise_map.2 hS
  refine List.pairwise_map.2 (List.Pairwise.imp_of_mem ?_ (List.Pairwise.filter (fun k => isO k) h1))
  intro a b ha hb hab
  have ea := isO_drop (List.mem_filter.1 ha).2
  have eb := isO_drop (List.mem_filter.1 hb).2
  rw [ea, eb, bb_o] at hab
  exact hab
theorem ows_srt (L : Kv Ent) : (ows L).Pairwise fun x y => bytesBefore x y = true := List.pairwise_map.2 (owM_srt L (A := []) Srt.nil)
/-- They are the same shelf. -/
structure Tie (L : Kv Ent) (A D S : Kv (List UInt8)) : Prop where
  sa : Srt A
  sd : Srt D
  ss : Srt S
  o : ∀ p, lkL (oK p) L = (lkL p A).map En
  d : ∀ p, lkL (dK p) L = (lkL p D).map En
  c : ∀ p, lkL (cK p) L = (lkL p S).map En
theorem tie_nil : Tie [] [] [] [] := ⟨Srt.nil, Srt.nil, Srt.nil, fun _ => rfl, fun _ => rfl, fun _ => rfl⟩
theorem map_en {o : Option (List UInt8)} {n : List UInt8} : o.map En = some (En n) ↔ o = some n := by
  cases o with
  | none => simp
  | some x => simp
theorem map_en0 {o : Option (List UInt8)} : o.map En = none ↔ o = none := by cases o <;> simp
section
variable {L L2 : Kv Ent} {A D S A' D' S' : Kv (List UInt8)} {n : List UInt8}
theorem Tie.pts (h : Tie L A D S) (hS : Sd L) (n : List UInt8) : Dsk.pts L n = rpt A n := srt_ext (pts_srt hS.s n) (rpt_srt h.sa n) fun p => by
  rw [sd_pts hS, mem_rpt h.sa, h.o, map_en]
theorem Tie.ows (h : Tie L A D S) (hS : Sd L) : Dsk.ows L = rown A := srt_ext (ows_srt L) (rown_srt A) fun m => by
  rw [ows_mem hS.s, mem_rown h.sa, h.pts hS]
  constructor
  · intro hne
    obtain ⟨p, hp⟩ := List.exists_mem_of_ne_nil _ hne
    exact ⟨p, (mem_rpt h.sa).1 hp⟩
  · rintro ⟨p, hp⟩ he
    have := (mem_rpt h.sa).2 hp
    rw [he] at this
    cases this
theorem Tie.sst (h : Tie L A D S) (q : List UInt8) : Dsk.sst L q = (lkL q S).isSome := by
  unfold Dsk.sst
  show (lkL (cK q) L).isSome = _
  rw [h.c]
  cases lkL q S <;> rfl
theorem Tie.sts (h : Tie L A D S) (hS : Sd L) (n : List UInt8) : Dsk.sts L n = rset A S n := by
  unfold Dsk.sts rset
  rw [h.pts hS]
  exact List.filter_congr fun q _ => h.sst q
theorem Tie.own (h : Tie L A D S) (p : List UInt8) : (ent (oK p) L).now = tat p A := by
  unfold ent tat
  rw [h.o]
  cases lkL p A <;> rfl
theorem Tie.dat (h : Tie L A D S) (p : List UInt8) : (ent (dK p) L).now = tat p D := by
  unfold ent tat
  rw [h.d]
  cases lkL p D <;> rfl
theorem Tie.rd (h : Tie L A D S) (p : List UInt8) : rdc (dK p) L = if (lkL p D).isSome = true then 0 else 7 := by
  unfold rdc
  rw [h.d]
  cases lkL p D <;> rfl
theorem Tie.cho (h : Tie L A D S) (p t : List UInt8) : chl L p t = Cho.cho ((lkL p S).map ba) ((lkL p D).map ba) (some (ba t)) := by
  unfold chl
  have e1 : (lkL ([99, 47] ++ p) L).map Ent.now = lkL p S := by
    have := h.c p
    unfold cK at this
    rw [this]
    cases lkL p S <;> rfl
  have e2 : (lkL ([100, 47] ++ p) L).map Ent.now = lkL p D := by
    have := h.d p
    unfold dK at this
    rw [this]
    cases lkL p D <;> rfl
  rw [e1, e2]
/-- What both Clashes tell is the same. -/
theorem Tie.clash (h : Tie L A D S) (hS : Sd L) {tk : List UInt8 → Bool} {F : List (List UInt8 × List UInt8)} {i i' : Int} {m m' : List UInt8} (h1 : Clr L n tk F i m) (h2 : Rcl A n tk F i' m') : i = i' ∧ m = m' := by
  have hx : owx L n = (rown A).filter fun m => !(m == n) := by unfold owx; rw [h.ows hS]
  have hh : ∀ f m, hit L tk f m = rhit A tk f m := fun f m => by unfold hit rhit; rw [h.pts hS]
  have hA : ∀ {f m}, m ∈ owx L n → rnn A tk n f m = hit L tk f m := fun {f m} hm => by
    rw [hx] at hm
    unfold rnn
    rw [(List.mem_filter.1 hm).2, Bool.true_and, hh]
  have hB : ∀ {f m}, m ∈ rown A → rnn A tk n f m = true → m ∈ owx L n ∧ hit L tk f m = true := fun {f m} hm ht => by
    unfold rnn at ht
    rw [Bool.and_eq_true] at ht
    exact ⟨by rw [hx]; exact List.mem_filter.2 ⟨hm, ht.1⟩, by rw [hh]; exact ht.2⟩
  have hI : ∀ {m}, m ∈ owx L n → m ∈ rown A := fun {m} hm => by rw [hx] at hm; exact (List.mem_filter.1 hm).1
  cases h1 with
  | no g =>
    cases h2 with
    | no g' => exact ⟨rfl, rfl⟩
    | yes i hi j hj ha hb hc =>
      obtain ⟨k1, k2⟩ := hB (List.getElem_mem hj) hc
      rw [g _ (List.getElem_mem hi) _ k1] at k2
      cases k2
  | yes i hi j hj ha hb hc =>
    have hm := List.getElem_mem hj
    have hr := hA (f := F[i].1) hm
    rw [hc] at hr
    cases h2 with
    | no g' =>
      rw [g' _ (List.getElem_mem hi) _ (hI hm)] at hr
      cases hr
    | yes i' hi' j' hj' ha' hb' hc' =>
      obtain ⟨k1, k2⟩ := hB (List.getElem_mem hj') hc'
      have hii : i = i' := by
        rcases Nat.lt_trichotomy i i' with hlt | he | hlt
        · rw [ha' i hi hlt _ (hI hm)] at hr
          cases hr
        · exact he
        · rw [ha i' hi' hlt _ k1] at k2
          cases k2
      subst hii
      refine ⟨rfl, ?_⟩
      obtain ⟨t, ht, et⟩ := List.getElem_of_mem (hI hm)
      obtain ⟨s, hs, es⟩ := List.getElem_of_mem k1
      have hjt : ¬ t < j' := fun hlt => by
        have := hb' t ht hlt
        rw [et, hr] at this
        cases this
      have hsj : ¬ s < j := fun hlt => by
        have := hb s hs hlt
        rw [es, k2] at this
        cases this
      by_cases e1 : j' = t
      · subst e1
        exact et.symm
      · by_cases e2 : j = s
        · subst e2
          exact es
        · exfalso
          have h3 := bb_lt (List.pairwise_iff_getElem.1 (rown_srt A) j' t hj' ht (by omega))
          have h4 : (owx L n).Pairwise fun x y => bytesBefore x y = true := (ows_srt L).filter _
          have h5 := bb_lt (List.pairwise_iff_getElem.1 h4 j s hj hs (by omega))
          rw [et] at h3
          rw [es] at h5
          exact List.lt_irrefl _ (List.lt_trans h3 h5)
/-- Edit. -/
theorem Tie.setD (h : Tie L A D S) (hS : Sd L) (p t : List UInt8) : Tie (kpL L (dK p) t) A (putL p t D) S := by
  refine ⟨h.sa, h.sd.put _ _, h.ss, fun q => ?_, fun q => ?_, fun q => ?_⟩
  · rw [hS.lk, if_neg (fun e => d_o _ _ e.symm), h.o]
  · rw [hS.lk]
    by_cases e : q = p
    · subst e
      rw [if_pos rfl, lk_put_same h.sd]
      rfl
    · rw [if_neg (fun e2 => e (dK_inj.1 e2)), lk_put_other h.sd e, h.d]
  · rw [hS.lk, if_neg (c_d _ _), h.c]
theorem Tie.delD (h : Tie L A D S) (hS : Sd L) (p : List UInt8) : Tie (delL (dK p) L) A (delL p D) S := by
  refine ⟨h.sa, h.sd.del _, h.ss, fun q => ?_, fun q => ?_, fun q => ?_⟩
  · rw [del_lk hS.s, if_neg (fun e => d_o _ _ e.symm), h.o]
  · rw [del_lk hS.s]
    by_cases e : q = p
    · subst e
      rw [if_pos rfl, lk_del_same]
      rfl
    · rw [if_neg (fun e2 => e (dK_inj.1 e2)), lk_del_other h.sd e, h.d]
  · rw [del_lk hS.s, if_neg (c_d _ _), h.c]
theorem Iv.path (hI : Iv L) {p : List UInt8} {e : Ent} (hp : lkL (oK p) L = some e) : p.length ≤ 60 := by
  obtain ⟨_, q, _, h1, h2, _⟩ := hI.ky _ _ hp
  rcases h1 with h1 | h1 | h1
  · rw [oK_inj.1 h1]; exact h2
  · exact absurd h1.symm (d_o _ _)
  · exact absurd h1.symm (c_o _ _)
theorem Iv.owner (hI : Iv L) {p : List UInt8} {e : Ent} (hp : lkL (oK p) L = some e) : ∃ n, lkL (oK p) L = some (En n) ∧ n ≠ [] ∧ n.length ≤ 60 := by
  obtain ⟨_, q, n, h1, h2, h3, h4⟩ := hI.ky _ _ hp
  rcases h1 with h1 | h1 | h1
  · rw [oK_inj.1 h1]; exact ⟨n, h3, h4⟩
  · exact absurd h1.symm (d_o _ _)
  · exact absurd h1.symm (c_o _ _)
theorem Iv.edit (hI : Iv L) (hS2 : Sd L2) {p : List UInt8} {e0 : Ent} (hp : lkL (oK p) L = some e0) (hk : ∀ k, k ≠ dK p → lkL k L2 = lkL k L) (hd : ∀ e, lkL (dK p) L2 = some e → e.now.length ≤ 500) : Iv L2 := by
  have ho : ∀ q, lkL (oK q) L2 = lkL (oK q) L := fun q => hk _ fun e => d_o _ _ e.symm
  have hpt : ∀ {q m}, q ∈ Dsk.pts L2 m → q ∈ Dsk.pts L m := fun {q m} hq => by
    have := (sd_pts hS2).1 hq
    rw [ho] at this
    exact (sd_pts hI.sd).2 this
  refine ⟨hS2, fun k e hl => ?_, fun a b c d h1 h2 h3 => hI.ap a b c d (hpt h1) (hpt h2) h3⟩
  by_cases ek : k = dK p
  · subst ek
    obtain ⟨n, h1, h2, h3⟩ := hI.owner hp
    exact ⟨hd e hl, p, n, .inr (.inl rfl), hI.path hp, by rw [ho]; exact h1, h2, h3⟩
  · rw [hk k ek] at hl
    obtain ⟨h1, q, n, h2, h3, h4, h5⟩ := hI.ky k e hl
    exact ⟨h1, q, n, h2, h3, by rw [ho]; exact h4, h5⟩
/-- Drop. -/
theorem rds_fold (all : Bool) : ∀ (ps : List (List UInt8)) (t : T3), Srt t.a → Srt t.d → Srt t.s → ps.Nodup →
    (Srt (ps.foldl (rds all) t).a ∧ Srt (ps.foldl (rds all) t).d ∧ Srt (ps.foldl (rds all) t).s) ∧
    (∀ q ∈ ps, ((lkL q t.s).isSome && !all) = false → lkL q (ps.foldl (rds all) t).a = none ∧ lkL q (ps.foldl (rds all) t).d = none ∧ lkL q (ps.foldl (rds all) t).s = none) ∧
    (∀ q, (¬ q ∈ ps ∨ ((lkL q t.s).isSome && !all) = true) → lkL q (ps.foldl (rds all) t).a = lkL q t.a ∧ lkL q (ps.foldl (rds all) t).d = lkL q t.d ∧ lkL q (ps.foldl (rds all) t).s = lkL q t.s)
  | [], t, h1, h2, h3, _ => ⟨⟨h1, h2, h3⟩, fun q hq => (by cases hq), fun q _ => ⟨rfl, rfl, rfl⟩⟩
  | p :: ps, t, h1, h2, h3, hnd => by
    rw [List.nodup_cons] at hnd
    rw [List.foldl_cons]
    by_cases hc : ((lkL p t.s).isSome && !all) = true
    · have hg : rds all t p = t := by unfold rds; rw [if_pos hc]
      rw [hg]
      obtain ⟨s, g, k⟩ := rds_fold all ps t h1 h2 h3 hnd.2
      refine ⟨s, fun q hq hcq => ?_, fun q hq => ?_⟩
      · rcases List.mem_cons.1 hq with rfl | hq
        · rw [hc] at hcq; cases hcq
        · exact g q hq hcq
      · rcases hq with hq | hq
        · exact k q (.inl fun h => hq (List.mem_cons_of_mem _ h))
        · exact k q (.inr hq)
    · have hg : rds all t p = ⟨delL p t.a, delL p t.d, delL p t.s⟩ := by unfold rds; rw [if_neg hc]
      rw [hg]
      obtain ⟨s, g, k⟩ := rds_fold all ps ⟨delL p t.a, delL p t.d, delL p t.s⟩ (h1.del _) (h2.del _) (h3.del _) hnd.2
      have hc0 : ((lkL p t.s).isSome && !all) = false := by simpa using hc
      refine ⟨s, fun q hq hcq => ?_, fun q hq => ?_⟩
      · by_cases e : q = p
        · subst e
          obtain ⟨a, b, c⟩ := k q (.inl hnd.1)
          exact ⟨a.trans (lk_del_same _), b.trans (lk_del_same _), c.trans (lk_del_same _)⟩
        · rcases List.mem_cons.1 hq with hq | hq
          · exact absurd hq e
          · exact g q hq (by dsimp only; rw [lk_del_other h3 e]; exact hcq)
      · by_cases e : q = p
        · subst e
          rcases hq with hq | hq
          · exact absurd List.mem_cons_self hq
          · rw [hc0] at hq; cases hq
        · obtain ⟨a, b, c⟩ := k q (by
            rcases hq with hq | hq
            · exact .inl fun h => hq (List.mem_cons_of_mem _ h)
            · exact .inr (by dsimp only; rw [lk_del_other h3 e]; exact hq))
          exact ⟨a.trans (lk_del_other h1 e), b.trans (lk_del_other h2 e), c.trans (lk_del_other h3 e)⟩
theorem Tie.drop (h : Tie L A D S) {all : Bool} (hD : Dp L n all L2) : Tie L2 (rdr ⟨A, D, S⟩ n all).a (rdr ⟨A, D, S⟩ n all).d (rdr ⟨A, D, S⟩ n all).s := by
  unfold rdr
  dsimp only
  obtain ⟨⟨s1, s2, s3⟩, g, k⟩ := rds_fold all (rpt A n) ⟨A, D, S⟩ h.sa h.sd h.ss (bbs_nodup (rpt_srt h.sa n))
  generalize (rpt A n).foldl (rds all) ⟨A, D, S⟩ = T at s1 s2 s3 g k ⊢
  dsimp only at g k
  have key : ∀ p, lkL (oK p) L2 = (lkL p T.a).map En ∧ lkL (dK p) L2 = (lkL p T.d).map En ∧ lkL (cK p) L2 = (lkL p T.s).map En := fun p => by
    by_cases hc : lkL p A = some n ∧ (all = true ∨ lkL p S = none)
    · obtain ⟨a, b, c⟩ := hD.go p (by rw [h.o, hc.1]; rfl) (by rw [h.c, map_en0]; exact hc.2)
      obtain ⟨a', b', c'⟩ := g p ((mem_rpt h.sa).2 hc.1) (by
        rcases hc.2 with e | e
        · rw [e]; simp
        · rw [e]; rfl)
      rw [a, b, c, a', b', c']
      exact ⟨rfl, rfl, rfl⟩
    · obtain ⟨a', b', c'⟩ := k p (by
        by_cases e : lkL p A = some n
        · refine .inr ?_
          have h2 : ¬ (all = true ∨ lkL p S = none) := fun h3 => hc ⟨e, h3⟩
          cases ha : all with
          | true => exact absurd (.inl ha) h2
          | false =>
            cases hs : lkL p S with
            | none => exact absurd (.inr hs) h2
            | some v => rfl
        · exact .inl fun h3 => e ((mem_rpt h.sa).1 h3))
      rw [a', b', c', ← h.o, ← h.d, ← h.c]
      have st : ∀ k, (k = oK p ∨ k = dK p ∨ k = cK p) → lkL k L2 = lkL k L := fun k hk => by
        refine hD.st k (fun r a b => ?_)
        have hne : p ≠ r := by
          intro e
          subst e
          rw [h.o, map_en] at a
          rw [h.c, map_en0] at b
          exact hc ⟨a, b⟩
        rcases hk with rfl | rfl | rfl
        · exact ⟨fun e => hne (oK_inj.1 e), fun e => d_o _ _ e.symm, fun e => c_o _ _ e.symm⟩
        · exact ⟨d_o _ _, fun e => hne (dK_inj.1 e), fun e => c_d _ _ e.symm⟩
        · exact ⟨c_o _ _, c_d _ _, fun e => hne (cK_inj.1 e)⟩
      exact ⟨st _ (.inl rfl), st _ (.inr (.inl rfl)), st _ (.inr (.inr rfl))⟩
  exact ⟨s1, s2, s3, fun p => (key p).1, fun p => (key p).2.1, fun p => (key p).2.2⟩
/-- What the reference's Put leaves. -/
structure Rpl (A D S : Kv (List UInt8)) (n : List UInt8) (SS : List (List UInt8)) (F : List (List UInt8 × List UInt8)) (cm : List Bool) (A' D' S' : Kv (List UInt8)) : Prop where
  sa : Srt A'
  sd : Srt D'
  ss : Srt S'
  fo : ∀ f ∈ F, lkL f.1 A' = some n
  fd : ∀ x ∈ F.zip cm, lkL x.1.1 D' = if x.2 = true then some x.1.2 else lkL x.1.1 D
  fc : ∀ f ∈ F, lkL f.1 S' = if SS.contains f.1 = true then some f.2 else none
  go : ∀ q, ¬ q ∈ F.map (·.1) → lkL q A = some n → lkL q S = none → lkL q A' = none ∧ lkL q D' = none ∧ lkL q S' = none
  st : ∀ q, ¬ q ∈ F.map (·.1) → ¬ (lkL q A = some n ∧ lkL q S = none) → lkL q A' = lkL q A ∧ lkL q D' = lkL q D ∧ lkL q S' = lkL q S
theorem Tie.put (h : Tie L A D S) {SS : List (List UInt8)} {F : List (List UInt8 × List UInt8)} {cm : List Bool} (hc : cm.length = F.length) (hP : Pl L n SS F cm L2) (hR : Rpl A D S n SS F cm A' D' S') : Tie L2 A' D' S' := by
  have key : ∀ p, lkL (oK p) L2 = (lkL p A').map En ∧ lkL (dK p) L2 = (lkL p D').map En ∧ lkL (cK p) L2 = (lkL p S').map En := fun p => by
    by_cases hp : p ∈ F.map (·.1)
    · obtain ⟨f, hf, rfl⟩ := List.mem_map.1 hp
      obtain ⟨i, hi, rfl⟩ := List.getElem_of_mem hf
      have hz : (F[i], cm[i]'(by omega)) ∈ F.zip cm := by
        have : (F.zip cm)[i]'(by rw [List.length_zip]; omega) = (F[i], cm[i]'(by omega)) := List.getElem_zip
        rw [← this]
        exact List.getElem_mem _
      have h1 := hP.fd _ hz
      have h2 := hR.fd _ hz
      dsimp only at h1 h2
      rw [hP.fo _ hf, hP.fc _ hf, h1, hR.fo _ hf, hR.fc _ hf, h2, h.d]
      refine ⟨rfl, ?_, ?_⟩
      · split <;> rfl
      · split <;> rfl
    · by_cases hc2 : lkL p A = some n ∧ lkL p S = none
      · obtain ⟨a, b, c⟩ := hP.go p hp (by rw [h.o, hc2.1]; rfl) (by rw [h.c, hc2.2]; rfl)
        obtain ⟨a', b', c'⟩ := hR.go p hp hc2.1 hc2.2
        rw [a, b, c, a', b', c']
        exact ⟨rfl, rfl, rfl⟩
      · obtain ⟨a', b', c'⟩ := hR.st p hp hc2
        rw [a', b', c', ← h.o, ← h.d, ← h.c]
        rcases hP.path p hp with ⟨_, _, _, h1, h2⟩ | hx
        · rw [h.o, map_en] at h1
          rw [h.c, map_en0] at h2
          exact absurd ⟨h1, h2⟩ hc2
        · exact hx
  exact ⟨hR.sa, hR.sd, hR.ss, fun p => (key p).1, fun p => (key p).2.1, fun p => (key p).2.2⟩
theorem put_stepA (hI : Iv L) {p : Pck} (hok : aok p = true) (hp : Pg p) {tk : List UInt8 → Bool} (aw : List Bool) (hc : Clr L p.o.n tk p.F (-1) []) : Iv (putG L p.o.n p.S p.F aw) ∧ (putG L p.o.n p.S p.F aw).length ≤ L.length + 60 ∧ Pl L p.o.n p.S p.F (cml L p.S p.F aw) (putG L p.o.n p.S p.F aw) := by
  obtain ⟨hn, hnl⟩ := aok_name hok
  have hnd := aok_nd hok
  have hfr := clr_free hI.sd.s hc
  have hcl : (cml L p.S p.F aw).length = p.F.length := by
    unfold cml
    rw [cmf_len]
    simp
  have hpl : Pl L p.o.n p.S p.F (cml L p.S p.F aw) (putG L p.o.n p.S p.F aw) := put_pl hI.sd hn p.S ⟨hnd, hcl⟩
  have hlen : (putG L p.o.n p.S p.F aw).length ≤ L.length + 60 := by
    unfold putG ptG clL
    have hl := aok_len hok
    have h1 := lays_all (n := p.o.n) (SS := p.S) hI.sd.s hI.gd (by omega) (p.F.zip (cml L p.S p.F aw)).reverse (fun x hx => aok_file hok hp (List.of_mem_zip (List.mem_reverse.1 hx)).1)
    have h2 := (csts_all h1.1 p.F (Dsk.pts ((p.F.zip (cml L p.S p.F aw)).reverse.foldl (layF p.o.n p.S) L) p.o.n)).2.2
    have h3 : (p.F.zip (cml L p.S p.F aw)).reverse.length ≤ 20 := by rw [List.length_reverse, List.length_zip]; omega
    have h4 := h1.2.2.2
    omega
  refine ⟨hpl.iv hI hfr hn (by omega) (fun f hf => (aok_file hok hp hf).2) (fun f hf => ?_), hlen, hpl⟩
  obtain ⟨i, hi, rfl⟩ := List.getElem_of_mem hf
  refine ⟨(p.F[i], (cml L p.S p.F aw)[i]'(by omega)), ?_, rfl⟩
  have : (p.F.zip (cml L p.S p.F aw))[i]'(by rw [List.length_zip]; omega) = (p.F[i], (cml L p.S p.F aw)[i]'(by omega)) := List.getElem_zip
  rw [← this]
  exact List.getElem_mem _
end
end Go.Proofs.YtlldfmnoidndmaaGreatDoor.Dsk
namespace Go.Proofs.YtlldfmnoidndmaaGreatDoor.Dsk
open Go.RowKit Go.Sort Go.Maps

def rch (D S : Kv (List UInt8)) (p t : List UInt8) : Int := Cho.cho ((lkL p S).map ba) ((lkL p D).map ba) (some (ba t))
def cmr (D S : Kv (List UInt8)) (SS : List (List UInt8)) (x : List Bool × List Bool) (f : List UInt8 × List UInt8) : List Bool × List Bool :=
  if SS.contains f.1 = true then (if rch D S f.1 f.2 = 0 then (x.1 ++ [true], x.2) else if rch D S f.1 f.2 = 2 then (x.1 ++ [x.2.headD false], x.2.tail) else (x.1 ++ [false], x.2)) else (x.1 ++ [true], x.2)
def rcm (D S : Kv (List UInt8)) (SS : List (List UInt8)) (F : List (List UInt8 × List UInt8)) (aw : List Bool) : List Bool := (F.foldl (cmr D S SS) ([], aw)).1
theorem Tie.rcm {L : Kv Ent} {A D S : Kv (List UInt8)} (h : Tie L A D S) (SS : List (List UInt8)) (F : List (List UInt8 × List UInt8)) (aw : List Bool) : Dsk.rcm D S SS F aw = cml L SS F aw := by
  have : cmr D S SS = cms L SS := by
    funext x f
    unfold cmr cms
    rw [h.cho]
    rfl
  unfold Dsk.rcm cml
  rw [this]
/-- Where the first loop stands. -/
structure Pf (D S : Kv (List UInt8)) (SS : List (List UInt8)) (F : List (List UInt8 × List UInt8)) (aw : List Bool) (k : Nat) (D1 S1 : Kv (List UInt8)) (out aw1 : List Bool) : Prop where
  sd : Srt D1
  ss : Srt S1
  ln : D1.length ≤ D.length + k ∧ S1.length ≤ S.length + k
  fold : (F.take k).foldl (cmr D S SS) ([], aw) = (out, aw1)
  ol : out.length = k
  dn : ∀ q, (∀ i (hi : i < F.length), i < k → F[i].1 ≠ q) → lkL q D1 = lkL q D ∧ lkL q S1 = lkL q S
  dy : ∀ i (hi : i < F.length), i < k → lkL F[i].1 D1 = (if out.getD i false = true then some F[i].2 else lkL F[i].1 D) ∧ lkL F[i].1 S1 = if SS.contains F[i].1 = true then some F[i].2 else none
section
variable {A D S D1 S1 : Kv (List UInt8)} {SS : List (List UInt8)} {F : List (List UInt8 × List UInt8)} {aw out aw1 aw2 : List Bool} {k : Nat}
theorem pf_nil (hd : Srt D) (hs : Srt S) (SS : List (List UInt8)) (F : List (List UInt8 × List UInt8)) (aw : List Bool) : Pf D S SS F aw 0 D S [] aw := ⟨hd, hs, ⟨Nat.le_refl _, Nat.le_refl _⟩, by simp, rfl, fun _ _ => ⟨rfl, rfl⟩, fun i _ h => absurd h (Nat.not_lt_zero _)⟩
theorem nd_ne (hn : (F.map (·.1)).Nodup) {i j : Nat} (hi : i < F.length) (hj : j < F.length) (h : i ≠ j) : F[i].1 ≠ F[j].1 := fun e => h (nodup_idx hn (i := i) (j := j) (by simpa using hi) (by simpa using hj) (by simpa using e))
theorem Pf.new (h : Pf D S SS F aw k D1 S1 out aw1) (hn : (F.map (·.1)).Nodup) (hk : k < F.length) : lkL F[k].1 D1 = lkL F[k].1 D ∧ lkL F[k].1 S1 = lkL F[k].1 S := h.dn _ fun i hi hik => nd_ne hn hi hk (by omega)
theorem Pf.rch (h : Pf D S SS F aw k D1 S1 out aw1) (hn : (F.map (·.1)).Nodup) (hk : k < F.length) (t : List UInt8) : Dsk.rch D1 S1 F[k].1 t = Dsk.rch D S F[k].1 t := by
  unfold Dsk.rch
  obtain ⟨h1, h2⟩ := h.new hn hk
  rw [h1, h2]
theorem Pf.step (h : Pf D S SS F aw k D1 S1 out aw1) (hn : (F.map (·.1)).Nodup) (hk : k < F.length) (y : Bool) (hc : cmr D S SS (out, aw1) F[k] = (out ++ [y], aw2)) : Pf D S SS F aw (k + 1) (if y = true then putL F[k].1 F[k].2 D1 else D1) (if SS.contains F[k].1 = true then putL F[k].1 F[k].2 S1 else delL F[k].1 S1) (out ++ [y]) aw2 := by
  obtain ⟨n1, n2⟩ := h.new hn hk
  have hdo : ∀ q, q ≠ F[k].1 → lkL q (if y = true then putL F[k].1 F[k].2 D1 else D1) = lkL q D1 := fun q hq => by
    split
    · exact lk_put_other h.sd hq _
    · rfl
  have hso : ∀ q, q ≠ F[k].1 → lkL q (if SS.contains F[k].1 = true then putL F[k].1 F[k].2 S1 else delL F[k].1 S1) = lkL q S1 := fun q hq => by
    split
    · exact lk_put_other h.ss hq _
    · exact lk_del_other h.ss hq
  refine ⟨?_, ?_, ⟨?_, ?_⟩, ?_, by simp [h.ol], fun q hq => ?_, fun i hi hik => ?_⟩
  · split
    · exact h.sd.put _ _
    · exact h.sd
  · split
    · exact h.ss.put _ _
    · exact h.ss.del _
  · have := h.ln.1
    split
    · have := putL_len F[k].1 F[k].2 D1
      omega
    · omega
  · have := h.ln.2
    split
    · have := putL_len F[k].1 F[k].2 S1
      omega
    · have := len_del (L := S1) F[k].1
      omega
  · rw [fold_take _ _ _ k hk, h.fold, hc]
  · have hne : q ≠ F[k].1 := fun e => hq k hk (by omega) e.symm
    rw [hdo q hne, hso q hne]
    exact h.dn q fun i hi hik => hq i hi (by omega)
  · by_cases e : i = k
    · subst e
      have ho : (out ++ [y]).getD i false = y := by simp [List.getD, h.ol]
      rw [ho]
      constructor
      · split
        · rw [lk_put_same h.sd]
        · exact n1
      · split
        · rw [lk_put_same h.ss]
        · exact lk_del_same _
    · have hik2 : i < k := by omega
      have ho : (out ++ [y]).getD i false = out.getD i false := by simp [List.getD, List.getElem?_append, h.ol, hik2]
      have hne := nd_ne hn hi hk e
      rw [ho, hdo _ hne, hso _ hne]
      exact h.dy i hi hik2
/-- How often paths were met. -/
structure Cc (l : List (List UInt8)) (n : Nat) (M : Kv Value) : Prop where
  s : Srt M
  v : ∀ q, (lkL q M = none ∧ ¬ q ∈ l) ∨ ∃ c : Nat, 1 ≤ c ∧ c ≤ n ∧ lkL q M = some (.int .i64 c) ∧ q ∈ l
  n : M.length ≤ n
theorem cc_nil : Cc [] 0 [] := ⟨Srt.nil, fun k => .inl ⟨rfl, by simp⟩, Nat.le_refl _⟩
theorem Cc.at {l : List (List UInt8)} {n : Nat} {M : Kv Value} (h : Cc l n M) (x : List UInt8) : ∃ c : Nat, c ≤ n ∧ iat x M = .int .i64 c ∧ (c = 0 ↔ ¬ x ∈ l) := by
  unfold iat
  rcases h.v x with ⟨h1, h2⟩ | ⟨c, h1, h2, h3, h4⟩
  · exact ⟨0, Nat.zero_le _, by rw [h1]; rfl, by simp [h2]⟩
  · exact ⟨c, h2, by rw [h3]; rfl, ⟨fun e => by omega, fun e => absurd h4 e⟩⟩
theorem Cc.put {l : List (List UInt8)} {n : Nat} {M : Kv Value} (h : Cc l n M) (x : List UInt8) (c : Nat) (hc : iat x M = .int .i64 c) : Cc (l ++ [x]) (n + 1) (putL x (.int .i64 ((c : Int) + 1)) M) := by
  refine ⟨h.s.put _ _, fun q => ?_, Nat.le_trans (putL_len _ _ _) (by have := h.n; omega)⟩
  by_cases e : q = x
  · subst e
    obtain ⟨c', h1, h2, _⟩ := h.at q
    rw [hc] at h2
    have h3 : c = c' := by simp at h2; omega
    exact .inr ⟨c + 1, by omega, by omega, by rw [lk_put_same h.s]; rfl, by simp⟩
  · rw [lk_put_other h.s e]
    rcases h.v q with ⟨h1, h2⟩ | ⟨c', h1, h2, h3, h4⟩
    · exact .inl ⟨h1, by simp [h2, e]⟩
    · exact .inr ⟨c', h1, by omega, h3, by simp [h4]⟩
/-- What goes. -/
def gn2 (F : List (List UInt8 × List UInt8)) (S1 : Kv (List UInt8)) (q : List UInt8) : Bool := !((F.map (·.1)).contains q) && !(lkL q S1).isSome
/-- Where the second loop stands. -/
structure P2 (A D1 : Kv (List UInt8)) (g : List UInt8 → Bool) (ps : List (List UInt8)) (A2 D2 : Kv (List UInt8)) : Prop where
  sa : Srt A2
  sd : Srt D2
  ln : A2.length ≤ A.length
  lk : ∀ q, lkL q A2 = (if (ps.contains q && g q) = true then none else lkL q A) ∧ lkL q D2 = if (ps.contains q && g q) = true then none else lkL q D1
theorem p2_nil (ha : Srt A) (hd : Srt D1) (g : List UInt8 → Bool) : P2 A D1 g [] A D1 := ⟨ha, hd, Nat.le_refl _, fun q => ⟨by simp, by simp⟩⟩
theorem P2.step {A2 D2 : Kv (List UInt8)} {g : List UInt8 → Bool} {ps : List (List UInt8)} (h : P2 A D1 g ps A2 D2) (x : List UInt8) : P2 A D1 g (ps ++ [x]) (if g x = true then delL x A2 else A2) (if g x = true then delL x D2 else D2) := by
  by_cases hg : g x = true
  · rw [if_pos hg, if_pos hg]
    refine ⟨h.sa.del _, h.sd.del _, Nat.le_trans (len_del (L := A2) x) h.ln, fun q => ?_⟩
    by_cases e : q = x
    · subst e
      rw [lk_del_same, lk_del_same]
      simp [hg]
    · rw [lk_del_other h.sa e, lk_del_other h.sd e, (h.lk q).1, (h.lk q).2]
      simp [e]
  · rw [if_neg hg, if_neg hg]
    refine ⟨h.sa, h.sd, h.ln, fun q => ?_⟩
    rw [(h.lk q).1, (h.lk q).2]
    by_cases e : q = x
    · subst e
      simp [hg]
    · simp [e]
/-- Where the third loop stands. -/
structure P3 (A2 : Kv (List UInt8)) (n : List UInt8) (M : Kv Value) (left : Lit → Bool) (A3 : Kv (List UInt8)) : Prop where
  sa : Srt A3
  y : ∀ q, lkL q M ≠ none → left (.string q) = false → lkL q A3 = some n
  o : ∀ q, lkL q M = none → lkL q A3 = lkL q A2
theorem P3.step {A2 A3 : Kv (List UInt8)} {n : List UInt8} {M : Kv Value} {left : Lit → Bool} (h : P3 A2 n M left A3) (x : List UInt8) (hx : lkL x M ≠ none) : P3 A2 n M (fun z => left z && !z.sameKey (.string x)) (putL x n A3) := by
  refine ⟨h.sa.put _ _, fun q h1 h2 => ?_, fun q h1 => ?_⟩
  · by_cases e : q = x
    · subst e
      exact lk_put_same h.sa _ _
    · rw [lk_put_other h.sa e]
      refine h.y q h1 ?_
      have h3 : (q == x) = false := beq_eq_false_iff_ne.2 e
      simp only [sameKey_str, h3] at h2
      simpa using h2
  · have e : q ≠ x := fun e => hx (e ▸ h1)
    rw [lk_put_other h.sa e]
    exact h.o q h1
theorem rpl_of {n : List UInt8} {A2 D2 A3 : Kv (List UInt8)} {M : Kv Value} {left : Lit → Bool} (hA : Srt A) (h1 : Pf D S SS F aw F.length D1 S1 out aw1) (h2 : P2 A D1 (gn2 F S1) (rpt A n) A2 D2) (hM : Cc (F.map (·.1)) F.length M) (h3 : P3 A2 n M left A3) (hl : ∀ kl, left kl = false) : Rpl A D S n SS F (rcm D S SS F aw) A3 D2 S1 := by
  have hF : ∀ q, q ∈ F.map (·.1) ↔ lkL q M ≠ none := fun q => by
    rcases hM.v q with ⟨k1, k2⟩ | ⟨c, _, _, k1, k2⟩
    · exact ⟨fun h => absurd h k2, fun h => absurd k1 h⟩
    · exact ⟨fun _ => by rw [k1]; simp, fun _ => k2⟩
  have hin : ∀ q, q ∈ F.map (·.1) → gn2 F S1 q = false := fun q hq => by
    unfold gn2
    rw [List.contains_iff_mem.2 hq]
    rfl
  have hcm : rcm D S SS F aw = out := by
    have := h1.fold
    rw [List.take_length] at this
    unfold rcm
    rw [this]
  have hdy : ∀ i (hi : i < F.length), lkL F[i].1 D2 = lkL F[i].1 D1 := fun i hi => by
    rw [(h2.lk _).2, hin _ (List.mem_map.2 ⟨_, List.getElem_mem hi, rfl⟩)]
    simp
  have hS0 : ∀ q, ¬ q ∈ F.map (·.1) → lkL q D1 = lkL q D ∧ lkL q S1 = lkL q S := fun q hq => h1.dn q fun i hi _ e => hq (List.mem_map.2 ⟨_, List.getElem_mem hi, e⟩)
  refine ⟨h3.sa, h2.sd, h1.ss, fun f hf => ?_, fun x hx => ?_, fun f hf => ?_, fun q hq ha hs => ?_, fun q hq hc => ?_⟩
  · exact h3.y _ ((hF _).1 (List.mem_map.2 ⟨f, hf, rfl⟩)) (hl _)
  · rw [hcm] at hx
    obtain ⟨i, hi, rfl⟩ := List.getElem_of_mem hx
    have hi2 : i < F.length := by rw [List.length_zip] at hi; omega
    have hio : i < out.length := by rw [h1.ol]; exact hi2
    rw [List.getElem_zip]
    dsimp only
    rw [hdy i hi2, (h1.dy i hi2 hi2).1]
    have : out.getD i false = out[i] := by simp [List.getD, hio]
    rw [this]
  · obtain ⟨i, hi, rfl⟩ := List.getElem_of_mem hf
    exact (h1.dy i hi hi).2
  · obtain ⟨d0, s0⟩ := hS0 q hq
    have hg : ((rpt A n).contains q && gn2 F S1 q) = true := by
      rw [Bool.and_eq_true]
      refine ⟨List.contains_iff_mem.2 ((mem_rpt hA).2 ha), ?_⟩
      unfold gn2
      rw [s0, hs]
      have : (F.map (·.1)).contains q = false := by
        rw [← Bool.not_eq_true, List.contains_iff_mem]
        exact hq
      rw [this]
      rfl
    refine ⟨?_, ?_, by rw [s0, hs]⟩
    · rw [h3.o q (Classical.byContradiction fun h => hq ((hF q).2 h)), (h2.lk q).1, if_pos hg]
    · rw [(h2.lk q).2, if_pos hg]
  · obtain ⟨d0, s0⟩ := hS0 q hq
    have hg : ¬ ((rpt A n).contains q && gn2 F S1 q) = true := by
      rw [Bool.and_eq_true]
      rintro ⟨k1, k2⟩
      have ha := (mem_rpt hA).1 (List.contains_iff_mem.1 k1)
      unfold gn2 at k2
      rw [Bool.and_eq_true] at k2
      refine hc ⟨ha, ?_⟩
      rw [s0] at k2
      cases hq2 : lkL q S with
      | none => rfl
      | some v => rw [hq2] at k2; exact absurd k2.2 (by simp)
    refine ⟨?_, ?_, s0⟩
    · rw [h3.o q (Classical.byContradiction fun h => hq ((hF q).2 h)), (h2.lk q).1, if_neg hg]
    · rw [(h2.lk q).2, if_neg hg, d0]
end
set_option maxRecDepth 100000 in
/-- What lies at a key. -/
theorem rat_any {W : World} {m : Nat} {O : Kv (List UInt8)} (h : MT W m O) (k : List UInt8) (hk : k.length ≤ 1000) : Calls Tryz.prog 57 #[.map (some m), .string ⟨k.toArray⟩] W fun x W2 => ∃ v, x = .returned v ∧ Cho.Tp W2 v ((lkL k O).map ba) ∧ Below W.heap.size W W2 := by
  have hl := mtlook2 h k (by omega)
  have hal := h.alloc (.cells #[.string ⟨#[]⟩] 9)
  have hl2 := mtlook2 hal k (by omega)
  have b1 := (Below.refl W.heap.size W).alloc (Nat.le_refl _) (.cells #[.string ⟨(tat k O).toArray⟩] 9)
  cases e : lkL k O with
  | none =>
    have et : tat k O = [] := by unfold tat; rw [e]; rfl
    rw [e, et] at hl hl2
    rw [et] at b1
    clear et e h hal
    go_enter Tryz.func57, Tryz.ntmps57
    go_wp2
    go_ret
    exact ⟨_, rfl, ⟨.inl ⟨rfl, rfl⟩⟩, b1⟩
  | some t =>
    have et : tat k O = t := by unfold tat; rw [e]; rfl
    rw [e, et] at hl hl2
    rw [et] at b1
    clear et e h hal
    go_enter Tryz.func57, Tryz.ntmps57
    go_wp2
    go_ret
    exact ⟨_, rfl, ⟨.inr ⟨_, _, rfl, rfl, by simp [ba]⟩⟩, b1⟩
end Go.Proofs.YtlldfmnoidndmaaGreatDoor.Dsk
namespace Go.Proofs.YtlldfmnoidndmaaGreatDoor.Dsk
open Go.RowKit Go.Sort Go.Maps

/-- The variable Fine. -/
structure Fi (W : World) : Prop where
  c0 : W.cell? ⟨0, 0, none⟩ = some (.int .i64 0)
  c1 : W.cell? ⟨0, 1, none⟩ = some (.int .i64 (-1))
theorem Fi.on {W W' : World} (h : Fi W) (k : Below W.heap.size W W') : Fi W' := ⟨(k.cell (block_lt_of_cell h.c0)).trans h.c0, (k.cell (block_lt_of_cell h.c1)).trans h.c1⟩
/-- Two cells that are written whole. -/
structure K2 (W : World) (g : Nat) : Prop where
  lt : g < W.heap.size
  c0 : W.cell? ⟨g, 0, none⟩ = some (.int .i64 0)
  c1 : W.cell? ⟨g, 1, none⟩ = some (.int .i64 0)
  f0 : W.frozen? ⟨g, 0, none⟩ = false
  f1 : W.frozen? ⟨g, 1, none⟩ = false
theorem K2.on {W w' : World} {g : Nat} (h : K2 W g) (k : Below W.heap.size W w') : K2 w' g :=
  ⟨Nat.lt_of_lt_of_le h.lt k.size, by rw [k.cell h.lt]; exact h.c0, by rw [k.cell h.lt]; exact h.c1, by rw [k.frozen h.lt]; exact h.f0, by rw [k.frozen h.lt]; exact h.f1⟩
theorem k2_new (w : World) : K2 (w.alloc (.cells #[.int .i64 0, .int .i64 0] 54)) w.heap.size := ⟨by simp, by simp, by simp, by simp, by simp⟩
theorem K2.same {W w' : World} {g : Nat} (h : K2 W g) (hs : W.heap.size ≤ w'.heap.size) (hb : w'.heap[g]? = W.heap[g]?) : K2 w' g :=
  ⟨Nat.lt_of_lt_of_le h.lt hs, by rw [World.cell?_of_block hb]; exact h.c0, by rw [World.cell?_of_block hb]; exact h.c1, by have := h.f0; unfold World.frozen? at this ⊢; dsimp only at this ⊢; rw [hb]; exact this, by have := h.f1; unfold World.frozen? at this ⊢; dsimp only at this ⊢; rw [hb]; exact this⟩
/-- All cells are as they were. -/
structure Ck (V Y : World) : Prop where
  sz : V.heap.size ≤ Y.heap.size
  c : ∀ b i v, V.cell? ⟨b, i, none⟩ = some v → Y.cell? ⟨b, i, none⟩ = some v
theorem Ck.refl (V : World) : Ck V V := ⟨Nat.le_refl _, fun _ _ _ h => h⟩
theorem Ck.trans {V Y X : World} (h : Ck V Y) (k : Ck Y X) : Ck V X := ⟨Nat.le_trans h.sz k.sz, fun b i v e => k.c b i v (h.c b i v e)⟩
theorem Ck.of {V Y : World} (h : Below V.heap.size V Y) : Ck V Y := ⟨h.size, fun b i _ e => (h.cell (p := ⟨b, i, none⟩) (block_lt_of_cell e)).trans e⟩
theorem ck_kp {X : Nat → Prop} {V Y : World} (h : Kp X V Y) (hX : ∀ k, X k → ∃ es cl, V.heap[k]? = some (.map es cl)) : Ck V Y := ⟨h.size, fun b i v e => by
  have hb := block_lt_of_cell e
  have hx : ¬ X b := fun hx => by
    obtain ⟨es, cl, h1⟩ := hX b hx
    simp [World.cell?, h1] at e
  exact (World.cell?_of_block (a := ⟨b, i, none⟩) (h.block b hb hx)).trans e⟩
section
variable {V Y W W2 : World} {r mw md ms mn : Nat} {A D S : Kv (List UInt8)} {M : Kv Value}
theorem fs_ck {v : Value} {l : List (List UInt8 × List UInt8)} (h : Fs V v l) (k : Ck V Y) : Fs Y v l := by
  rcases h.is with h | ⟨b, o, c, h1, h2, h3⟩
  · exact ⟨.inl h⟩
  · exact ⟨.inr ⟨b, o, c, h1, h2, ⟨Nat.lt_of_lt_of_le h3.lt k.sz, fun i hi => k.c _ _ _ (h3.c0 i hi), fun i hi => k.c _ _ _ (h3.c1 i hi)⟩⟩⟩
theorem ss_ck {v : Value} {l : List (List UInt8)} (h : Ss V v l) (k : Ck V Y) : Ss Y v l := by
  rcases h.is with h | ⟨b, o, c, h1, h2, h3⟩
  · exact ⟨.inl h⟩
  · exact ⟨.inr ⟨b, o, c, h1, h2, ⟨Nat.lt_of_lt_of_le h3.lt k.sz, fun i hi => k.c _ _ _ (h3.c i hi)⟩⟩⟩
theorem an_ck {v : Value} {l : List Bool} (h : An V v l) (k : Ck V Y) : An Y v l := by
  rcases h.is with h | ⟨b, o, c, h1, h2, h3, h4⟩
  · exact ⟨.inl h⟩
  · exact ⟨.inr ⟨b, o, c, h1, h2, Nat.lt_of_lt_of_le h3 k.sz, fun i hi => k.c _ _ _ (h4 i hi)⟩⟩
theorem Fi.ck (h : Fi V) (k : Ck V Y) : Fi Y := ⟨k.c _ _ _ h.c0, k.c _ _ _ h.c1⟩
theorem RX.keep (h : RX W r mw md ms A D S) (hk : ∀ j, (j = r ∨ RM mw md ms j) → W2.heap[j]? = W.heap[j]?) : RX W2 r mw md ms A D S :=
  ⟨(hk r (.inl rfl)).trans h.blk, mt_on h.a (hk mw (.inr (.inl rfl))), mt_on h.d (hk md (.inr (.inr (.inl rfl)))), mt_on h.s (hk ms (.inr (.inr (.inr rfl)))), h.sa, h.sd, h.ss, h.n1, h.n2, h.n3⟩
theorem RX.maps (h : RX W r mw md ms A D S) : ∀ k, RM mw md ms k → ∃ es cl, W.heap[k]? = some (.map es cl) := fun k hk => by
  rcases hk with rfl | rfl | rfl
  · obtain ⟨es, cl, h1, _⟩ := h.a; exact ⟨es, cl, h1⟩
  · obtain ⟨es, cl, h1, _⟩ := h.d; exact ⟨es, cl, h1⟩
  · obtain ⟨es, cl, h1, _⟩ := h.s; exact ⟨es, cl, h1⟩
/-- Its maps, and one more. -/
def RN (mw md ms mn k : Nat) : Prop := RM mw md ms k ∨ k = mn
/-- The shelf, and a map beside it, since a world. -/
structure PS (V : World) (r mw md ms mn : Nat) (A D S : Kv (List UInt8)) (M : Kv Value) (Y : World) : Prop where
  rx : RX Y r mw md ms A D S
  mv : MV Y mn M
  kp : Kp (RN mw md ms mn) V Y
  ne : ¬ RM mw md ms mn
  mp : ∀ k, RN mw md ms mn k → ∃ es cl, V.heap[k]? = some (.map es cl)
theorem PS.ck (h : PS V r mw md ms mn A D S M Y) : Ck V Y := ck_kp h.kp h.mp
theorem PS.up (h : PS V r mw md ms mn A D S M Y) (hb : Below Y.heap.size Y W2) : PS V r mw md ms mn A D S M W2 := ⟨h.rx.on hb, mv_on h.mv (hb.block mn (mv_lt h.mv)), h.kp.kt (Kp.of hb), h.ne, h.mp⟩
theorem PS.drew (h : PS V r mw md ms mn A D S M Y) : PS V r mw md ms mn A D S M Y.drew := ⟨h.rx.keep fun _ _ => rfl, mv_on h.mv rfl, h.kp.kt ⟨rfl, rfl, rfl, Nat.le_refl _, fun _ _ _ => rfl⟩, h.ne, h.mp⟩
theorem PS.set {A' D' S' : Kv (List UInt8)} (h : PS V r mw md ms mn A D S M Y) (hx : RX W2 r mw md ms A' D' S') (hk : Kp (RM mw md ms) Y W2) : PS V r mw md ms mn A' D' S' M W2 := ⟨hx, mv_on h.mv (hk.block mn (mv_lt h.mv) h.ne), h.kp.kt (hk.mono fun _ => .inl), h.ne, h.mp⟩
theorem PS.putD (h : PS V r mw md ms mn A D S M Y) (k v : List UInt8) (hk : k.length ≤ 1000000) (hO : D.length ≤ 100000000) : ∃ W2, (Instr.mapUpdate 80 (.map (some md)) (.string ⟨k.toArray⟩) (.string ⟨v.toArray⟩)).run Tryz.prog Y = .ok () W2 ∧ PS V r mw md ms mn A (putL k v D) S M W2 ∧ Ck Y W2 := by
  obtain ⟨w1, h1, h2, h3⟩ := h.rx.putD k v hk hO
  exact ⟨w1, h1, h.set h2 h3, ck_kp h3 h.rx.maps⟩
theorem PS.putS (h : PS V r mw md ms mn A D S M Y) (k v : List UInt8) (hk : k.length ≤ 1000000) (hO : S.length ≤ 100000000) : ∃ W2, (Instr.mapUpdate 80 (.map (some ms)) (.string ⟨k.toArray⟩) (.string ⟨v.toArray⟩)).run Tryz.prog Y = .ok () W2 ∧ PS V r mw md ms mn A D (putL k v S) M W2 ∧ Ck Y W2 := by
  obtain ⟨w1, h1, h2, h3⟩ := h.rx.putS k v hk hO
  exact ⟨w1, h1, h.set h2 h3, ck_kp h3 h.rx.maps⟩
theorem PS.putA (h : PS V r mw md ms mn A D S M Y) (k v : List UInt8) (hk : k.length ≤ 1000000) (hO : A.length ≤ 100000000) : ∃ W2, (Instr.mapUpdate 80 (.map (some mw)) (.string ⟨k.toArray⟩) (.string ⟨v.toArray⟩)).run Tryz.prog Y = .ok () W2 ∧ PS V r mw md ms mn (putL k v A) D S M W2 ∧ Ck Y W2 := by
  obtain ⟨w1, h1, h2, h3⟩ := h.rx.putA k v hk hO
  exact ⟨w1, h1, h.set h2 h3, ck_kp h3 h.rx.maps⟩
theorem PS.delS (h : PS V r mw md ms mn A D S M Y) (k : List UInt8) (hk : k.length ≤ 1000000) : ∃ W2, (Builtin.delete_ #[80, 9] 0 #[.map (some ms), .string ⟨k.toArray⟩]).run Tryz.prog Y = .ok (.tuple #[]) W2 ∧ PS V r mw md ms mn A D (delL k S) M W2 ∧ Ck Y W2 := by
  obtain ⟨w1, h1, h2, h3⟩ := h.rx.delS k hk
  exact ⟨w1, h1, h.set h2 h3, ck_kp h3 h.rx.maps⟩
theorem PS.delD (h : PS V r mw md ms mn A D S M Y) (k : List UInt8) (hk : k.length ≤ 1000000) : ∃ W2, (Builtin.delete_ #[80, 9] 0 #[.map (some md), .string ⟨k.toArray⟩]).run Tryz.prog Y = .ok (.tuple #[]) W2 ∧ PS V r mw md ms mn A (delL k D) S M W2 ∧ Ck Y W2 := by
  obtain ⟨w1, h1, h2, h3⟩ := h.rx.delD k hk
  exact ⟨w1, h1, h.set h2 h3, ck_kp h3 h.rx.maps⟩
theorem PS.delA (h : PS V r mw md ms mn A D S M Y) (k : List UInt8) (hk : k.length ≤ 1000000) : ∃ W2, (Builtin.delete_ #[80, 9] 0 #[.map (some mw), .string ⟨k.toArray⟩]).run Tryz.prog Y = .ok (.tuple #[]) W2 ∧ PS V r mw md ms mn (delL k A) D S M W2 ∧ Ck Y W2 := by
  obtain ⟨w1, h1, h2, h3⟩ := h.rx.delA k hk
  exact ⟨w1, h1, h.set h2 h3, ck_kp h3 h.rx.maps⟩
theorem PS.putM (h : PS V r mw md ms mn A D S M Y) (k : List UInt8) (c : Int) (hk : k.length ≤ 1000000) (hM : M.length ≤ 1000000) : ∃ W2, (Instr.mapUpdate 107 (.map (some mn)) (.string ⟨k.toArray⟩) (.int .i64 c)).run Tryz.prog Y = .ok () W2 ∧ PS V r mw md ms mn A D S (putL k (.int .i64 c) M) W2 ∧ Ck Y W2 := by
  obtain ⟨w7, hrun, hown7, hturn⟩ := h.mv.store law9 Tryz.underlying107 (by unfold maxLen; omega) (key9 k hk) (val := .int .i64 c) (d := .held (.int .i64 c)) (ps := []) rfl
  have h7 : MV w7 mn (putL k (.int .i64 c) M) := by
    have e1 := toD_put (fun v : Value => v) k (.int .i64 c) M
    rw [e1] at hown7
    exact own_tight hown7
  have hlt := h.rx.lt
  refine ⟨w7, hrun, ⟨h.rx.keep fun j hj => hturn.grown.block j ?_ ?_, h7, h.kp.kt (Kp.grown hturn.grown fun j hj => by cases hj; exact .inr rfl), h.ne, h.mp⟩, ck_kp (X := fun k => k = mn) (Kp.grown hturn.grown fun j hj => by cases hj; rfl) fun k hk => by subst hk; exact mv_heap h.mv⟩
  · rcases hj with rfl | rfl | rfl | rfl
    · exact hlt.1
    · exact hlt.2.1
    · exact hlt.2.2.1
    · exact hlt.2.2.2
  · intro e
    have e2 : j = mn := by cases e; rfl
    rcases hj with hj | hj
    · obtain ⟨es, cl, h1⟩ := mv_heap h.mv
      rw [← e2, hj, h.rx.blk] at h1
      cases h1
    · exact h.ne (e2 ▸ hj)
theorem PS.cl (h : PS V r mw md ms mn A D S M Y) : Y.cell? ⟨r, 0, none⟩ = some (.map (some mw)) ∧ Y.cell? ⟨r, 1, none⟩ = some (.map (some md)) ∧ Y.cell? ⟨r, 2, none⟩ = some (.map (some ms)) := h.rx.cl
theorem ps_new (h : RX V r mw md ms A D S) : PS (V.alloc (.map #[] 0)) r mw md ms V.heap.size A D S [] (V.alloc (.map #[] 0)) := by
  have hb := (Below.refl V.heap.size V).alloc (Nat.le_refl _) (.map #[] 0)
  have hlt := h.lt
  have hx := h.on hb
  refine ⟨hx, mv_made V, Kp.refl _ _, fun hr => ?_, fun k hk => ?_⟩
  · rcases hr with e | e | e <;> omega
  · rcases hk with hk | hk
    · exact hx.maps k hk
    · subst hk
      exact mv_heap (mv_made V)
end
end Go.Proofs.YtlldfmnoidndmaaGreatDoor.Dsk
