/- The walk of readFiles. -/
import Derived.Test.YtmlmdncepgcimaaGreatDoorKa
import Derived.Test.YtmlmdncepgcimaaGreatDoorKb
import Derived.Test.YtmlmdncepgcimaaGreatDoorXr
import Derived.Test.YtmlmdncepgcimaaGreatDoorXa
import Derived.Test.YtmlmdncepgcimaaGreatDoorBh
import Derived.Test.YtmlmdncepgcimaaGreatDoorBl
namespace Go.Proofs.YtmlmdncepgcimaaGreatDoor
open Go.RowKit Go.Shelf Go.Sort

theorem info61 : (Tryz.prog.info? 61).map (fun i => (i.zero, i.size, i.bytes)) = some (some (.agg #[.string ⟨#[]⟩, .string ⟨#[]⟩]), 2, 32) := by kernel_rfl
abbrev Fw (W : World) (B : Nat) (v : Value) (F : List Fl2) : Prop := W.ownsRow B 61 2 v F.length (fcs F)
theorem fw_fs {W : World} {B : Nat} {v : Value} {F : List Fl2} (h : Fw W B v F) : Fs W v F := by
  have h' := h
  rcases h'.2 with ⟨rfl, h0⟩ | ⟨g, cap, cur, rfl, hb, hg, hnc, hcm, hcs, htake⟩
  · exact ⟨.inl ⟨List.length_eq_zero_iff.1 h0, none, 0, rfl⟩⟩
  · refine ⟨.inr ⟨g, 0, cap, rfl, hnc, (Array.getElem?_eq_some_iff.1 hg).1, fun i hi => ?_, fun i hi => ?_⟩⟩
    · rw [show (0 + i * 2) = i * 2 + 0 from by omega, World.ownsRow.cellAt h (i * 2 + 0) (by omega), fcs_get F i 0 hi (by omega)]; rfl
    · rw [show (0 + i * 2 + 1) = i * 2 + 1 from by omega, World.ownsRow.cellAt h (i * 2 + 1) (by omega), fcs_get F i 1 hi (by omega)]; rfl
theorem fw_sl {W : World} {B : Nat} {v : Value} {F : List Fl2} (h : Fw W B v F) : ∃ A c, v = .slice A F.length c := by
  rcases h.2 with ⟨rfl, h0⟩ | ⟨g, cap, cur, rfl, _⟩
  · exact ⟨none, 0, by rw [h0]⟩
  · exact ⟨_, cap, rfl⟩
theorem fw_on {W W' : World} {B : Nat} {v : Value} {F : List Fl2} (h : Fw W B v F) (k : Below W.heap.size W W') : Fw W' B v F := kc_own h (kc_below k)
/-- One more file is appended. -/
theorem wpList_apF {W : World} {B : Nat} {S : Value} {F : List Fl2} (p d : List UInt8) (h : Fw W B S F) (hl : F.length ≤ 1000000) (hB : B ≤ W.heap.size)
    {ops : Array Oper} {rest : List Oper} {o : Oper} {a : Act} {Q : Exit → Act → World → Prop} (hg : o.guard = none) (s x : Operand) (hop : o.op = Op.call { callee := Callee.builtin Builtin.append, args := #[s, x], argTypes := #[27, 27] }) (hs : a.eval s = S) (N : Nat) (hx : a.eval x = .slice (some ⟨N, 0, none⟩) 1 1) (hN : N = W.heap.size)
    (K : ∀ g c w6, Fw w6 B (.slice (some ⟨g, 0, none⟩) (F.length + 1) c) (F ++ [(p, d)]) → (∀ B', B' ≤ B → Below B' W w6) → wpList Tryz.prog ops Q rest (a.put o.dst (.slice (some ⟨g, 0, none⟩) (F.length + 1) c)) w6) :
    wpList Tryz.prog ops Q (o :: rest) a (W.alloc (flo (p, d))) := by
  subst hN
  obtain ⟨i0, hi0, hz0, hz1, hz2⟩ := infoQ info61
  have news : ∀ j u, ([Value.string ⟨p.toArray⟩, .string ⟨d.toArray⟩])[j]? = some u → (W.alloc (flo (p, d))).cell? ((⟨W.heap.size, 0, none⟩ : Addr).add j) = some u := World.news_of_block (nb0 W _)
  have ones : ∀ u ∈ [Value.string ⟨p.toArray⟩, .string ⟨d.toArray⟩], u.oneCell' = true := by intro u hu; simp at hu; rcases hu with rfl | rfl <;> rfl
  refine wpList_append_lies _ hg s x 27 hop B 61 i0 _ 2 32 Tryz.underlying27 hi0 hz0 hz1 hz2 rfl (by decide) _ _ _ hs (h.alloc _) ⟨W.heap.size, 0, none⟩ 1 1 _ hx rfl news ones (by decide) (by unfold maxLen; omega) (by omega) (by rw [World.size_alloc]; omega) _ rfl ?_
  intro g' c' w6 hown hgr _ _
  refine K g' c' w6 ?_ (fun B' hB' => ((bA1 W _).mono (Nat.le_trans hB' hB)).grown hgr (by rw [World.size_alloc]; omega) (fun j e => Nat.le_trans hB' (h.lt j e).1))
  unfold Fw
  rw [List.length_append, fcs_snoc]
  exact hown
def slLen : Value → Nat | .slice _ k _ => k | _ => 0
/-- A path that may be in an archive. -/
def Pf (F : List Fl2) : Prop := ∀ f ∈ F, ∀ x ∈ f.1, x ≠ 32 ∧ x ≠ 10
theorem fln_rest (f : Fl2) (rest : List UInt8) : fln f ++ rest = f.1 ++ 32 :: (Lib.itoa f.2.length ++ 10 :: (f.2 ++ 10 :: rest)) := by unfold fln; simp
def MaxC (w : World) : Prop := ∃ m : Int, w.cell? ⟨2, 0, none⟩ = some (.int .i64 m)
set_option maxHeartbeats 3200000 in
set_option maxRecDepth 100000 in
theorem readf_good (F : List Fl2) (w : World) (hF : Pf F) (hn : F.length ≤ 1000) (hl : (F.flatMap fln).length ≤ 1000000) (m : Int) (hm : w.cell? ⟨2, 0, none⟩ = some (.int .i64 m)) (ht : Lib.TabIs Tryz.prog w "internal/strconv.uint64pow10" .u64 Lib.pow10Tab) :
    Calls Tryz.prog 111 #[.string ⟨(F.flatMap fln).toArray⟩] w fun e w' => ∃ v, e = .returned (.tuple #[v, .bool true]) ∧ Fw w' w.heap.size v F ∧ Below w.heap.size w w' := by
  have HF := Lib.hid hF
  have HL := Lib.hid hl
  have HM := Lib.hid hm
  have HT := Lib.hid ht
  clear hF hl hm ht
  go_enter Tryz.func111, Tryz.ntmps111
  go_wp2
  go_loopw [0, 4] (fun s v W => ∃ k : Nat, k ≤ F.length ∧ s = .string ⟨((F.drop k).flatMap fln).toArray⟩ ∧ Hid (Below w.heap.size w W) ∧ Hid (Fw W w.heap.size v (F.take k))) (fun _ v _ => F.length - slLen v)
  case atStart => exact ⟨0, Nat.zero_le _, by simp, Below.refl _ _, World.ownsRow_nil _ _ _ _⟩
  case round =>
    obtain ⟨k, hk, rfl, HB, HW⟩ := hrel
    obtain ⟨U1, U2, rfl⟩ := fw_sl HW.out
    by_cases hlt : k < F.length
    · have HTk : Hid (F.take (k + 1) = F.take k ++ [F[k]]) := List.take_succ_eq_append_getElem hlt
      have HD : Hid ((F.drop k).flatMap fln = F[k].1 ++ 32 :: (Lib.itoa F[k].2.length ++ 10 :: (F[k].2 ++ 10 :: (F.drop (k + 1)).flatMap fln))) := by
        show _ = _
        rw [List.drop_eq_getElem_cons hlt, List.flatMap_cons, fln_rest]
      have hDl : ((F.drop k).flatMap fln).length ≤ 1000000 := by
        have e : (F.flatMap fln) = ((F.take k).flatMap fln) ++ ((F.drop k).flatMap fln) := by rw [← List.flatMap_append, List.take_append_drop]
        have := HL.out
        rw [e, List.length_append] at this
        omega
      have hpf := HF.out F[k] (List.getElem_mem hlt)
      have HTl : Hid ((F.take k).length = k) := by show _ = _; simp; omega
      generalize F.take k = G at HW HTk HTl
      generalize F[k] = f at HTk HD hpf
      obtain ⟨fp, fd⟩ := f
      dsimp only at HD hpf
      rw [HD.out] at hDl
      have cC := Arc.cutf_good fp fd ((F.drop (k + 1)).flatMap fln) hpf hDl m wr ((HB.out.cell (block_lt_of_cell HM.out)).trans HM.out) (Lib.tabBelow_of_tabIs HT.out wr HB.out)
      rw [← HD.out] at cC
      have hne : ((F.drop k).flatMap fln) ≠ [] := by rw [HD.out]; simp
      have hse : ((F.drop k).flatMap fln).isEmpty = false := by rw [List.isEmpty_eq_false_iff]; exact hne
      generalize (F.drop k).flatMap fln = s at cC hse
      clear hpf hDl hne HD
      go_wp2_with fail
      refine cC.mono ?_
      rintro e w1 ⟨rfl, b1⟩
      have HW1 := Lib.hid (fw_on (fw_on HW.out b1) (bA1 w1 (flo (fp, fd))))
      have HB1 := Lib.hid (bon (bon HB.out b1) (bA1 w1 (flo (fp, fd))))
      have hW1 := HW1.out
      have hB1 := HB1.out
      have c0 : (w1.alloc (flo (fp, fd))).cell? ⟨w1.heap.size, 0, none⟩ = some (.string ⟨fp.toArray⟩) := by simp
      have c1 : (w1.alloc (flo (fp, fd))).cell? ⟨w1.heap.size, 1, none⟩ = some (.string ⟨fd.toArray⟩) := by simp
      clear cC b1 HB HW
      go_wp2_with (first | (at_builtin; refine wpList_apF fp fd hW1 (by have := HTl.out; omega) hB1.size rfl _ _ rfl rfl _ rfl (World.size_alloc _ _).symm ?_; intro g6 c6 w6 hI6 hB6) | fail)
      refine ⟨⟨k + 1, hlt, rfl, hB1.trans (hB6 _ (Nat.le_refl _)), ?_⟩, ?_⟩
      · rw [HTk.out]; exact hI6
      · have := HTl.out; simp only [slLen]; omega
    · obtain rfl : k = F.length := by omega
      rw [List.take_of_length_le (Nat.le_refl _)] at HW ⊢
      rw [List.drop_of_length_le (Nat.le_refl _)]
      go_wp2
      go_ret2
      exact ⟨_, rfl, HW.out, HB.out⟩
set_option maxHeartbeats 3200000 in
set_option maxRecDepth 100000 in
theorem readf_no (F : List Fl2) (p r : List UInt8) (z : Nat) (hz : z < 1000000000) (hr : r.length ≤ z) (hp : ∀ x ∈ p, x ≠ 32 ∧ x ≠ 10) (w : World) (hF : Pf F) (hn : F.length ≤ 1000) (hl : (F.flatMap fln ++ (p ++ 32 :: (Lib.itoa z ++ 10 :: r))).length ≤ 1000000) (m : Int) (hm : w.cell? ⟨2, 0, none⟩ = some (.int .i64 m)) (ht : Lib.TabIs Tryz.prog w "internal/strconv.uint64pow10" .u64 Lib.pow10Tab) :
    Calls Tryz.prog 111 #[.string ⟨(F.flatMap fln ++ (p ++ 32 :: (Lib.itoa z ++ 10 :: r))).toArray⟩] w fun e w' => e = .returned (.tuple #[.slice none 0 0, .bool false]) ∧ Below w.heap.size w w' := by
  have HTa : Hid (∀ W, Below w.heap.size w W → Calls Tryz.prog 163 #[.string ⟨(p ++ 32 :: (Lib.itoa z ++ 10 :: r)).toArray⟩] W fun e w' => e = .returned (.tuple #[.agg #[.string ⟨#[]⟩, .string ⟨#[]⟩], .string ⟨#[]⟩, .bool false]) ∧ Below W.heap.size W w') := fun W hW => Arc.cutf_no p r z hz hr hp (by rw [List.length_append] at hl; omega) m W ((hW.cell (block_lt_of_cell hm)).trans hm) (Lib.tabBelow_of_tabIs ht W hW)
  have htne : (p ++ 32 :: (Lib.itoa z ++ 10 :: r)).isEmpty = false := by simp
  generalize p ++ 32 :: (Lib.itoa z ++ 10 :: r) = tl at HTa htne hl ⊢
  have HF := Lib.hid hF
  have HL := Lib.hid hl
  have HM := Lib.hid hm
  have HT := Lib.hid ht
  clear hF hl hm ht
  go_enter Tryz.func111, Tryz.ntmps111
  go_wp2
  go_loopw [0, 4] (fun s v W => ∃ k : Nat, k ≤ F.length ∧ s = .string ⟨((F.drop k).flatMap fln ++ tl).toArray⟩ ∧ Hid (Below w.heap.size w W) ∧ Hid (Fw W w.heap.size v (F.take k))) (fun _ v _ => F.length - slLen v)
  case atStart => exact ⟨0, Nat.zero_le _, by simp, Below.refl _ _, World.ownsRow_nil _ _ _ _⟩
  case round =>
    obtain ⟨k, hk, rfl, HB, HW⟩ := hrel
    obtain ⟨U1, U2, rfl⟩ := fw_sl HW.out
    by_cases hlt : k < F.length
    · have HTk : Hid (F.take (k + 1) = F.take k ++ [F[k]]) := List.take_succ_eq_append_getElem hlt
      have HD : Hid ((F.drop k).flatMap fln ++ tl = F[k].1 ++ 32 :: (Lib.itoa F[k].2.length ++ 10 :: (F[k].2 ++ 10 :: ((F.drop (k + 1)).flatMap fln ++ tl)))) := by
        show _ = _
        rw [List.drop_eq_getElem_cons hlt, List.flatMap_cons, List.append_assoc, fln_rest]
      have hDl : ((F.drop k).flatMap fln ++ tl).length ≤ 1000000 := by
        have e : (F.flatMap fln) = ((F.take k).flatMap fln) ++ ((F.drop k).flatMap fln) := by rw [← List.flatMap_append, List.take_append_drop]
        have := HL.out
        rw [e, List.append_assoc, List.length_append] at this
        omega
      have hpf := HF.out F[k] (List.getElem_mem hlt)
      have HTl : Hid ((F.take k).length = k) := by show _ = _; simp; omega
      generalize F.take k = G at HW HTk HTl
      generalize F[k] = f at HTk HD hpf
      obtain ⟨fp, fd⟩ := f
      dsimp only at HD hpf
      rw [HD.out] at hDl
      have cC := Arc.cutf_good fp fd ((F.drop (k + 1)).flatMap fln ++ tl) hpf hDl m wr ((HB.out.cell (block_lt_of_cell HM.out)).trans HM.out) (Lib.tabBelow_of_tabIs HT.out wr HB.out)
      rw [← HD.out] at cC
      have hne : ((F.drop k).flatMap fln ++ tl) ≠ [] := by rw [HD.out]; simp
      have hse : ((F.drop k).flatMap fln ++ tl).isEmpty = false := by rw [List.isEmpty_eq_false_iff]; exact hne
      generalize (F.drop k).flatMap fln ++ tl = s at cC hse
      clear hpf hDl hne HD
      go_wp2_with fail
      refine cC.mono ?_
      rintro e w1 ⟨rfl, b1⟩
      have HW1 := Lib.hid (fw_on (fw_on HW.out b1) (bA1 w1 (flo (fp, fd))))
      have HB1 := Lib.hid (bon (bon HB.out b1) (bA1 w1 (flo (fp, fd))))
      have hW1 := HW1.out
      have hB1 := HB1.out
      have c0 : (w1.alloc (flo (fp, fd))).cell? ⟨w1.heap.size, 0, none⟩ = some (.string ⟨fp.toArray⟩) := by simp
      have c1 : (w1.alloc (flo (fp, fd))).cell? ⟨w1.heap.size, 1, none⟩ = some (.string ⟨fd.toArray⟩) := by simp
      clear cC b1 HB HW
      go_wp2_with (first | (at_builtin; refine wpList_apF fp fd hW1 (by have := HTl.out; omega) hB1.size rfl _ _ rfl rfl _ rfl (World.size_alloc _ _).symm ?_; intro g6 c6 w6 hI6 hB6) | fail)
      refine ⟨⟨k + 1, hlt, rfl, hB1.trans (hB6 _ (Nat.le_refl _)), ?_⟩, ?_⟩
      · rw [HTk.out]; exact hI6
      · have := HTl.out; simp only [slLen]; omega
    · obtain rfl : k = F.length := by omega
      have cC := HTa.out wr HB.out
      rw [List.drop_of_length_le (Nat.le_refl _), List.flatMap_nil, List.nil_append]
      generalize F.take F.length = G at HW
      go_wp2_with fail
      refine cC.mono ?_
      rintro e w1 ⟨rfl, b1⟩
      have k1 := bon (bon HB.out b1) (bA1 w1 (.cells #[.string ⟨#[]⟩, .string ⟨#[]⟩] 61))
      clear cC HTa
      go_wp2
      go_ret2
      exact ⟨rfl, k1⟩
end Go.Proofs.YtmlmdncepgcimaaGreatDoor
