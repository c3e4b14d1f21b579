/- The walk of begin: the first line of a field. -/
import Derived.Test.YtfoangkkagijcaaGreatDoorQd
namespace Go.Proofs.YtfoangkkagijcaaGreatDoor.Stz
open Go.RowKit Go.Shelf Go.Sort

set_option maxHeartbeats 1600000 in
set_option maxRecDepth 100000 in
theorem bg_none {B C r : Nat} {S A V : Value} {out : List (List Sm.F)} {vs : List Value} {cur : List Sm.F} {val : List UInt8} {w0 W : World} (h : Rd B C r S A V out vs cur val w0 W) (l : List UInt8) (hi : Lib.indexByte l 58 = -1) :
    Calls Tryz.prog 195 #[.pointer (some ⟨r, 0, none⟩), .string ⟨l.toArray⟩] W fun e w' => e = .returned (.bool false) ∧ Rd B C r S A V out vs cur val w0 w' := by
  have HR := Lib.hid h
  have HI := Lib.hid hi
  clear h hi
  go_enter Tryz.func195, Tryz.ntmps195
  go_wp2_with fail
  refine (cut_none 58 l _ HI.out).mono ?_
  rintro e w1 ⟨rfl, b1⟩
  go_wp2_with fail
  refine (trim_any [] _ (by simp)).mono ?_
  rintro e w2 ⟨rfl, b2⟩
  go_wp2
  go_ret
  exact ⟨rfl, HR.out.on (onn b1 b2)⟩

theorem setL_length (l : List Sm.F) (v : List UInt8) : (setL l v).length = l.length := by
  rcases List.eq_nil_or_concat l with rfl | ⟨p, f, rfl⟩
  · rfl
  · rw [List.concat_eq_append, setL_app]; simp
theorem new_block0 (w : World) (o : Obj) : (w.alloc o).heap[w.heap.size]? = some o := by
  show (w.heap.push o)[w.heap.size]? = some o
  simp

set_option maxHeartbeats 3200000 in
set_option maxRecDepth 100000 in
theorem bg_some {B C r : Nat} {S A V : Value} {out : List (List Sm.F)} {vs : List Value} {cur : List Sm.F} {val : List UInt8} {w0 W : World} (h : Rd B C r S A V out vs cur val w0 W) (hp : Nm cur) (hv : val.length ≤ 1000000) (l : List UInt8) (hl : l.length ≤ 1000000) (k : Nat) (hk : k < l.length) (hi : Lib.indexByte l 58 = k)
    (nm vl : List UInt8) (hnm : nm = l.take k) (hvl : vl = Lib.trimS (l.drop (k + 1)) [32, 9]) (hn : nm.length ≤ 1000000) (hvn : vl.length ≤ 1000000) :
    Calls Tryz.prog 195 #[.pointer (some ⟨r, 0, none⟩), .string ⟨l.toArray⟩] W fun e w' => ∃ q, e = .returned (.bool q) ∧ q = (Sm.nok nm && Sm.lok vl && !(cur.length == 40) && (Sm.fnd cur nm).isNone) ∧
      (q = false → Rd B C r S A V out vs cur val w0 w') ∧ (q = true → ∃ A' V', Rd B C r S A' V' out vs (setL cur val ++ [(nm, [])]) vl w0 w') := by
  have cC : ∀ W, Calls Tryz.prog 110 #[.string ⟨l.toArray⟩, .string ⟨#[58]⟩] W fun e w' => e = .returned (.tuple #[.string ⟨nm.toArray⟩, .string ⟨(l.drop (k + 1)).toArray⟩, .bool true]) ∧ Below W.heap.size W w' := fun W => by rw [hnm]; exact cut_some 58 l k W hl hk hi
  have cT : ∀ W, Calls Tryz.prog 141 #[.string ⟨(l.drop (k + 1)).toArray⟩, .string ⟨#[32, 9]⟩] W fun e w' => e = .returned (.string ⟨vl.toArray⟩) ∧ Below W.heap.size W w' := fun W => by rw [hvl]; exact trim_any _ W (by simp; omega)
  have HC := Lib.hid cC
  have HT := Lib.hid cT
  have HR := Lib.hid h
  clear cC cT hnm hvl hi h
  generalize l.drop (k + 1) = v0 at HC HT
  cases q1 : Sm.nok nm with
  | false =>
    have cN : ∀ W, Calls Tryz.prog 166 #[.string ⟨nm.toArray⟩] W fun e w' => e = .returned (.bool false) ∧ w' = W := fun W => by rw [← q1]; exact rn_any nm W hn
    go_enter Tryz.func195, Tryz.ntmps195
    go_wp2_with fail
    refine (HC.out _).mono ?_
    rintro e w1 ⟨rfl, b1⟩
    go_wp2_with fail
    refine (HT.out _).mono ?_
    rintro e w2 ⟨rfl, b2⟩
    go_wp2_with (go_at_call 166; with_reducible refine (cN _).mono ?_; rintro x w' ⟨rfl, rfl⟩)
    go_ret
    exact ⟨false, rfl, by simp, fun _ => HR.out.on (onn b1 b2), (fun e => by cases e)⟩
  | true =>
    have cN : ∀ W, Calls Tryz.prog 166 #[.string ⟨nm.toArray⟩] W fun e w' => e = .returned (.bool true) ∧ w' = W := fun W => by rw [← q1]; exact rn_any nm W hn
    cases q2 : Sm.lok vl with
    | false =>
      have cL : ∀ W, Calls Tryz.prog 208 #[.string ⟨vl.toArray⟩] W fun e w' => e = .returned (.bool false) ∧ Below W.heap.size W w' := fun W => by rw [← q2]; exact line_any vl W hvn
      go_enter Tryz.func195, Tryz.ntmps195
      go_wp2_with fail
      refine (HC.out _).mono ?_
      rintro e w1 ⟨rfl, b1⟩
      go_wp2_with fail
      refine (HT.out _).mono ?_
      rintro e w2 ⟨rfl, b2⟩
      go_wp2_with (go_at_call 166; with_reducible refine (cN _).mono ?_; rintro x w' ⟨rfl, rfl⟩)
      refine (cL _).mono ?_
      rintro e w3 ⟨rfl, b3⟩
      go_wp2
      go_ret
      exact ⟨false, rfl, by simp, fun _ => HR.out.on (onn (onn b1 b2) b3), (fun e => by cases e)⟩
    | true =>
      have cL : ∀ W, Calls Tryz.prog 208 #[.string ⟨vl.toArray⟩] W fun e w' => e = .returned (.bool true) ∧ Below W.heap.size W w' := fun W => by rw [← q2]; exact line_any vl W hvn
      have hcl := hp.n
      by_cases q3 : cur.length = 40
      · have q3b : ((cur.length : Int) == 40) = true := by rw [beq_iff_eq]; omega
        have HQ : Hid (false = (true && true && !(cur.length == 40) && (Sm.fnd cur nm).isNone)) := by show _ = _; simp [q3]
        go_enter Tryz.func195, Tryz.ntmps195
        go_wp2_with fail
        refine (HC.out _).mono ?_
        rintro e w1 ⟨rfl, b1⟩
        go_wp2_with fail
        refine (HT.out _).mono ?_
        rintro e w2 ⟨rfl, b2⟩
        go_wp2_with (go_at_call 166; with_reducible refine (cN _).mono ?_; rintro x w' ⟨rfl, rfl⟩)
        refine (cL _).mono ?_
        rintro e w3 ⟨rfl, b3⟩
        have R3 := HR.out.on (onn (onn b1 b2) b3)
        have c1 := R3.c1
        obtain ⟨X, cA, rfl⟩ := isSlice R3.hA
        have HR3 := Lib.hid R3
        clear R3 HR
        go_wp2
        go_ret
        exact ⟨false, rfl, HQ.out, fun _ => HR3.out, (fun e => by cases e)⟩
      · have q3b : ((cur.length : Int) == 40) = false := by rw [beq_eq_false_iff_ne]; omega
        obtain ⟨q4, hq4⟩ : ∃ q, q = Sm.fnd cur nm := ⟨_, rfl⟩
        have HQ : Hid ((true && true && !(cur.length == 40) && (Sm.fnd cur nm).isNone) = q4.isNone) := by show _ = _; rw [hq4]; simp [q3]
        have cF := fun W (hA : Sl W A cur) => finq_any A cur nm W hA hp hn
        rw [← hq4] at cF
        have HF := Lib.hid cF
        clear cF hq4 q3
        cases q4 with
        | some i =>
          rw [show ix (some i) = (i : Int) from rfl] at HF
          go_enter Tryz.func195, Tryz.ntmps195
          go_wp2_with fail
          refine (HC.out _).mono ?_
          rintro e w1 ⟨rfl, b1⟩
          go_wp2_with fail
          refine (HT.out _).mono ?_
          rintro e w2 ⟨rfl, b2⟩
          go_wp2_with (go_at_call 166; with_reducible refine (cN _).mono ?_; rintro x w' ⟨rfl, rfl⟩)
          refine (cL _).mono ?_
          rintro e w3 ⟨rfl, b3⟩
          have R3 := HR.out.on (onn (onn b1 b2) b3)
          have c1 := R3.c1
          obtain ⟨X, cA, rfl⟩ := isSlice R3.hA
          have HR3 := Lib.hid R3
          clear R3 HR
          go_wp2_with fail
          refine (HF.out _ (sl_owned HR3.out.hA)).mono ?_
          rintro e w4 ⟨rfl, b4⟩
          go_wp2
          go_ret
          exact ⟨false, rfl, HQ.out.symm, fun _ => HR3.out.on b4, (fun e => by cases e)⟩
        | none =>
          rw [show ix none = -1 from rfl] at HF
          obtain ⟨i0, hi0, hz0, hz1, hz2⟩ := info_parts infoF
          obtain ⟨i5, hi5, hy0, hy1, hy2⟩ := info_parts infoByte
          go_enter Tryz.func195, Tryz.ntmps195
          go_wp2_with fail
          refine (HC.out _).mono ?_
          rintro e w1 ⟨rfl, b1⟩
          go_wp2_with fail
          refine (HT.out _).mono ?_
          rintro e w2 ⟨rfl, b2⟩
          go_wp2_with (go_at_call 166; with_reducible refine (cN _).mono ?_; rintro x w' ⟨rfl, rfl⟩)
          refine (cL _).mono ?_
          rintro e w3 ⟨rfl, b3⟩
          have R3 := HR.out.on (onn (onn b1 b2) b3)
          have c1 := R3.c1
          obtain ⟨X, cA, rfl⟩ := isSlice R3.hA
          have HR3 := Lib.hid R3
          clear R3 HR
          go_wp2_with fail
          refine (HF.out _ (sl_owned HR3.out.hA)).mono ?_
          rintro e w4 ⟨rfl, b4⟩
          have HR4 := Lib.hid (HR3.out.on b4)
          clear HR3 c1
          go_wp2_with fail
          refine (endF_any HR4.out (by omega) hv).mono ?_
          rintro e w5 ⟨rfl, V5, R5⟩
          have hcu : (setL cur val).length ≤ 60 := by rw [setL_length]; exact hcl
          obtain ⟨cu, hcu0⟩ : ∃ c, c = setL cur val := ⟨_, rfl⟩
          rw [← hcu0] at R5 hcu
          have HCU := Lib.hid hcu0
          clear hcu0
          have HD := Lib.hid R5.drew
          have d1 := R5.c1
          have df1 := R5.fz 1
          clear HR4
          go_wp2_with fail
          go_region_law (first
            | (go_simp; go_at_call 44; refine (clone_any nm _ hn).mono ?_; rintro e wc ⟨rfl, bc⟩; have Rc := HD.out.on bc; have k1 := Rc.c1; have kf := Rc.fz 1; have Ra := Rc.on ((Below.refl _ _).alloc (Nat.le_refl _) (.cells #[.string ⟨nm.toArray⟩, .string ⟨#[]⟩] 52)); have m1 := Ra.c1; have mf := Ra.fz 1; have HRa := Lib.hid Ra; clear Ra Rc)
            | (refine step_append_lies _ rfl _ _ 31 rfl C 52 i0 _ 2 32 Tryz.underlying31 hi0 hz0 hz1 hz2 rfl (by decide) _ _ _ rfl HRa.out.hA ⟨wc.heap.size, 0, none⟩ 1 1 [.string ⟨nm.toArray⟩, .string ⟨#[]⟩] rfl rfl (World.news_of_block (new_block0 wc _)) (by intro u hu; simp at hu; rcases hu with rfl | rfl <;> rfl) (by decide) (by unfold maxLen; omega) (by omega) (by have := HRa.out.Cs; simpa using this) _ rfl ?_; intro g cp w6 hown hgrow _ _; obtain ⟨q0, qf0⟩ := HRa.out.appAC hgrow))
          all_goals
            have HB := Lib.hid (HRa.out.appA (A' := .slice (some ⟨g, 0, none⟩) (cu.length + 1) cp) (f := (nm, [])) hgrow (by simpa using hown))
            clear hown hgrow HRa
            have p2 := HB.out.c2
            have pB : B ≤ (w6.setCell ⟨r, 1, none⟩ (.slice (some ⟨g, 0, none⟩) (cu.length + 1) cp)).heap.size := Nat.le_trans HB.out.CB HB.out.Cs
            have pown := HB.out.hV
            go_wp2_with (at_builtin; refine Lib.wpList_append_own_string _ rfl _ _ 120 9 rfl B 5 i5 Tryz.underlying120 Tryz.underlying9 hi5 hy0 hy1 hy2 _ _ _ rfl pown ⟨vl.toArray⟩ rfl ?b3 ?b4 ?b5 ?_)
            case b3 => have : (ByteArray.mk vl.toArray).size = vl.length := by simp [ByteArray.size]
                       unfold maxLen; simp at this ⊢; omega
            case b4 => have : (ByteArray.mk vl.toArray).size = vl.length := by simp [ByteArray.size]
                       simp at this ⊢; omega
            case b5 => exact pB
            intro v7 w7 hown7 hgrow7 _
            have hown7' : w7.ownsRow B 5 1 v7 vl.length (Lib.byteCells vl) := by simpa [Lib.byteCells, Lib.strCells] using hown7
            have HR7 := Lib.hid (HB.out.appV hgrow7 hown7')
            obtain ⟨g7, gf7⟩ := HB.out.appC hgrow7
            obtain ⟨X7, k7, rfl⟩ := isSlice hown7
            clear hown7 hown7' hgrow7 HB pown
            go_wp2
            go_ret
            exact ⟨true, rfl, HQ.out.symm, (fun e => by cases e), fun _ => ⟨_, _, by rw [← HCU.out]; exact HR7.out⟩⟩

end Go.Proofs.YtfoangkkagijcaaGreatDoor.Stz
