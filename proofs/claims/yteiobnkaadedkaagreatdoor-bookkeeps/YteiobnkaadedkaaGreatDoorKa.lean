/- The keeper's lines of a book. -/
import Derived.Test.YteiobnkaadedkaaGreatDoorPa
namespace Go.Proofs.YteiobnkaadedkaaGreatDoor
open Go.RowKit Go.Sort Go.Maps
/-- A book as the keeper writes it. -/
def lnz (P : Bk) (N : Nat → Bk) (l : List (List UInt8)) : List UInt8 := l.flatMap fun k => k ++ [61] ++ gtx P N k ++ [59]
theorem lnz_snoc (P : Bk) (N : Nat → Bk) (l : List (List UInt8)) (i : Nat) (hi : i < l.length) : lnz P N (l.take (i + 1)) = lnz P N (l.take i) ++ (l[i] ++ [61] ++ gtx P N l[i] ++ [59]) := by
  unfold lnz
  rw [List.take_add_one, List.flatMap_append, List.getElem?_eq_getElem hi]
  simp
theorem lnz_len (P : Bk) (N : Nat → Bk) (l : List (List UInt8)) (h : ∀ x ∈ l, x.length ≤ 1000 ∧ (gtx P N x).length ≤ 1000) : (lnz P N l).length ≤ l.length * 2002 := by
  induction l with
  | nil => simp [lnz]
  | cons a l ih =>
    have h1 := h a (by simp)
    have h2 := ih fun x hx => h x (by simp [hx])
    have e : lnz P N (a :: l) = (a ++ [61] ++ gtx P N a ++ [59]) ++ lnz P N l := by simp [lnz]
    rw [e]
    simp only [List.length_append, List.length_cons, List.length_nil]
    omega
theorem cat_app (a b : List UInt8) : ((⟨a.toArray⟩ : ByteArray) ++ (⟨b.toArray⟩ : ByteArray)) = ⟨(a ++ b).toArray⟩ := by
  apply ByteArray.ext
  simp
set_option maxHeartbeats 4000000 in
set_option maxRecDepth 100000 in
theorem klines_any (b d pm : Nat) (ns : Nat → Nat) (dn : Bool) (A P : Bk) (N : Nat → Bk) (w : World) (h : BK w b d pm ns dn P N) (hG : Gp P N) (hA : Srt A) (hl : A.length ≤ 1000) (ho : ∀ x, lkL x A = ov P N x) (hat : ∀ i, i < 37 → ∀ x t, lkL x (N i) = some t → shf x = i) (hk : ∀ x ∈ A.map (·.1), x.length ≤ 1000 ∧ (gtx P N x).length ≤ 1000) :
    Calls Tryz.prog 19 #[.pointer (some ⟨b, 0, none⟩)] w fun x w' => x = .returned (.string ⟨(lnz P N (A.map (·.1))).toArray⟩) ∧ Below w.heap.size w w' := by
  have cB := bnames_any b d pm ns dn A P N w h hG hA hl ho hat
  have H := Lib.hid h
  obtain ⟨ks, hks⟩ : ∃ ks, ks = A.map (·.1) := ⟨_, rfl⟩
  have hkl : ks.length ≤ 1000 := by rw [hks, List.length_map]; omega
  rw [← hks] at cB hk ⊢
  have HK := Lib.hid hk
  clear h hG hA hl ho hat hks hk
  go_enter Tryz.func19, Tryz.ntmps19
  go_wp2_with fail
  refine cB.mono ?_
  rintro x w1 ⟨v, rfl, hT, hb⟩
  have hT := hT.tx
  obtain ⟨g, cp, rfl⟩ := tx_sl hT
  have HT := Lib.hid hT
  have HB := Lib.hid hb
  clear cB hT hb
  go_wp2_with fail
  go_loopw [3, 5] (fun sv iv W => ∃ i : Nat, i ≤ ks.length ∧ sv = .string ⟨(lnz P N (ks.take i)).toArray⟩ ∧ iv = .int .i64 i ∧ Below w1.heap.size w1 W) (fun _ iv _ => ks.length - (intOf iv).toNat)
  case atStart => exact ⟨0, Nat.zero_le _, by simp [lnz], rfl, Below.refl _ _⟩
  case round =>
    obtain ⟨i, hi, rfl, rfl, hW⟩ := hrel
    by_cases hlt : i < ks.length
    · obtain ⟨gb, rfl, hgb, hcell⟩ : ∃ gb, g = some ⟨gb, 0, none⟩ ∧ gb < w1.heap.size ∧ w1.cell? ⟨gb, i, none⟩ = some (.string ⟨ks[i].toArray⟩) := by
        rcases HT.out.is with ⟨h1, _⟩ | ⟨gb, c, h1, _, h2, h3⟩
        · rw [h1] at hlt; simp at hlt
        · cases h1; exact ⟨gb, rfl, h2, h3 i hlt⟩
      have e1 := lnz_snoc P N ks i hlt
      obtain ⟨hkx, hgx⟩ := HK.out _ (List.getElem_mem hlt)
      have hac := lnz_len P N (ks.take i) fun x hx => HK.out x (List.mem_of_mem_take hx)
      rw [List.length_take] at hac
      have hcl := (hW.cell (p := ⟨gb, i, none⟩) hgb).trans hcell
      have hbd := (Below.refl wr.heap.size wr).drew
      have hbk := ((H.out.up HB.out).up hW).up hbd
      have HS := Lib.hid e1
      generalize ks[i] = kx at HS e1 hkx hcl hcell hgx
      generalize lnz P N (ks.take i) = acc at HS e1 hac ⊢
      have lcX : wr.drew.cell? ⟨gb, i, none⟩ = some (.string ⟨kx.toArray⟩) := hcl
      have cG := get_any b d pm ns dn P N kx wr.drew hbk hkx
      have HW := Lib.hid (hW.trans (hbd.mono hW.size))
      have HCL := Lib.hid lcX
      clear e1 hcell hbd
      go_wp2_with fail
      refine wp_region_held (S := fun W => W.cell? ⟨gb, i, none⟩ = some (.string ⟨kx.toArray⟩)) (by kernel_rfl) ?_
      refine take_d (some 14) (i := 0) (v := .string ⟨acc.toArray⟩) rfl rfl (by as_aux_lemma => kernel_rfl) (by as_aux_lemma => kernel_rfl) (by as_aux_lemma => kernel_rfl) (fun _ _ _ h => h) (.inl ⟨by kernel_rfl, fun w' _ => by simp [go_sem]⟩) lcX ?_
      refine take_d (some 15) (i := 1) (v := .slice (some ⟨gb, 0, none⟩) ks.length cp) rfl rfl (by as_aux_lemma => kernel_rfl) (by as_aux_lemma => kernel_rfl) (by as_aux_lemma => kernel_rfl) (fun _ _ _ h => h) (.inl ⟨by kernel_rfl, fun w' _ => by simp [go_sem]⟩) lcX ?_
      refine take_d (some 16) (i := 2) (v := .int .i64 i) rfl rfl (by as_aux_lemma => kernel_rfl) (by as_aux_lemma => kernel_rfl) (by as_aux_lemma => kernel_rfl) (fun _ _ _ h => h) (.inl ⟨by kernel_rfl, fun w' _ => by simp [go_sem]⟩) lcX ?_
      refine take_d (some 17) (i := 3) (v := .pointer (some ⟨gb, i, none⟩)) rfl rfl (by as_aux_lemma => kernel_rfl) (by as_aux_lemma => kernel_rfl) (by as_aux_lemma => kernel_rfl) (fun _ _ _ h => h) (.inl ⟨by kernel_rfl, fun w' _ => by simp [go_sem, hlt]⟩) lcX ?_
      refine take_d (some 18) (i := 4) (v := .string ⟨kx.toArray⟩) rfl rfl (by as_aux_lemma => kernel_rfl) (by as_aux_lemma => kernel_rfl) (by as_aux_lemma => kernel_rfl) (fun _ _ _ h => h) (.inl ⟨by kernel_rfl, fun w' hw => by simp [go_sem, hw]⟩) lcX ?_
      refine take_d (some 19) (i := 5) (v := .string ⟨(kx ++ [61]).toArray⟩) rfl rfl (by as_aux_lemma => kernel_rfl) (by as_aux_lemma => kernel_rfl) (by as_aux_lemma => kernel_rfl) (fun _ _ _ h => h) (.inl ⟨by kernel_rfl, fun w' _ => by simp [go_sem]; rw [if_neg (by omega), cat_app]⟩) lcX ?_
      refine take_d (some 20) (i := 6) (v := .pointer (some ⟨b, 0, none⟩)) rfl rfl (by as_aux_lemma => kernel_rfl) (by as_aux_lemma => kernel_rfl) (by as_aux_lemma => kernel_rfl) (fun _ _ _ h => h) (.inl ⟨by kernel_rfl, fun w' _ => by simp [go_sem]⟩) lcX ?_
      refine take_d (some 21) (i := 7) (v := .slice (some ⟨gb, 0, none⟩) ks.length cp) rfl rfl (by as_aux_lemma => kernel_rfl) (by as_aux_lemma => kernel_rfl) (by as_aux_lemma => kernel_rfl) (fun _ _ _ h => h) (.inl ⟨by kernel_rfl, fun w' _ => by simp [go_sem]⟩) lcX ?_
      refine take_d (some 22) (i := 8) (v := .int .i64 i) rfl rfl (by as_aux_lemma => kernel_rfl) (by as_aux_lemma => kernel_rfl) (by as_aux_lemma => kernel_rfl) (fun _ _ _ h => h) (.inl ⟨by kernel_rfl, fun w' _ => by simp [go_sem]⟩) lcX ?_
      refine take_d (some 23) (i := 9) (v := .pointer (some ⟨gb, i, none⟩)) rfl rfl (by as_aux_lemma => kernel_rfl) (by as_aux_lemma => kernel_rfl) (by as_aux_lemma => kernel_rfl) (fun _ _ _ h => h) (.inl ⟨by kernel_rfl, fun w' _ => by simp [go_sem, hlt]⟩) lcX ?_
      refine take_d (some 24) (i := 10) (v := .string ⟨kx.toArray⟩) rfl rfl (by as_aux_lemma => kernel_rfl) (by as_aux_lemma => kernel_rfl) (by as_aux_lemma => kernel_rfl) (fun _ _ _ h => h) (.inl ⟨by kernel_rfl, fun w' hw => by simp [go_sem, hw]⟩) lcX ?_
      simp only [Act.put, List.setIfInBounds_toArray, List.set_cons_succ, List.set_cons_zero]
      refine wpAnyH_all (rs := [11]) (by as_aux_lemma => kernel_rfl) (by simp) fun j hj => ?_
      obtain rfl : j = 11 := by simpa using hj
      refine wpOp_want rfl (by kernel_rfl) ?_
      unfold Oper.wp
      simp [go_sem]
      refine cG.mono ?_
      rintro y w3 ⟨rfl, hb3⟩
      replace lcX : w3.cell? ⟨gb, i, none⟩ = some (.string ⟨kx.toArray⟩) := (hb3.cell (p := ⟨gb, i, none⟩) (block_lt_of_cell lcX)).trans lcX
      refine ⟨lcX, ?_⟩
      refine take_d (some 26) (i := 12) (v := .string ⟨(kx ++ [61] ++ gtx P N kx).toArray⟩) rfl rfl (by as_aux_lemma => kernel_rfl) (by as_aux_lemma => kernel_rfl) (by as_aux_lemma => kernel_rfl) (fun _ _ _ h => h) (.inl ⟨by kernel_rfl, fun w' _ => by simp [go_sem]; rw [if_neg (by omega), cat_app]; simp⟩) lcX ?_
      refine take_d (some 27) (i := 13) (v := .string ⟨(kx ++ [61] ++ gtx P N kx ++ [59]).toArray⟩) rfl rfl (by as_aux_lemma => kernel_rfl) (by as_aux_lemma => kernel_rfl) (by as_aux_lemma => kernel_rfl) (fun _ _ _ h => h) (.inl ⟨by kernel_rfl, fun w' _ => by simp [go_sem]; rw [if_neg (by omega), cat_app]; simp⟩) lcX ?_
      refine take_d (some 28) (i := 14) (v := .string ⟨(acc ++ (kx ++ [61] ++ gtx P N kx ++ [59])).toArray⟩) rfl rfl (by as_aux_lemma => kernel_rfl) (by as_aux_lemma => kernel_rfl) (by as_aux_lemma => kernel_rfl) (fun _ _ _ h => h) (.inl ⟨by kernel_rfl, fun w' _ => by simp [go_sem]; rw [if_neg (by omega), cat_app]⟩) lcX ?_
      refine take_d (some 3) (i := 15) (v := .string ⟨(acc ++ (kx ++ [61] ++ gtx P N kx ++ [59])).toArray⟩) rfl rfl (by as_aux_lemma => kernel_rfl) (by as_aux_lemma => kernel_rfl) (by as_aux_lemma => kernel_rfl) (fun _ _ _ h => h) (.inl ⟨by kernel_rfl, fun w' _ => by simp [go_sem]⟩) lcX ?_
      simp only [Act.put, List.setIfInBounds_toArray, List.set_cons_succ, List.set_cons_zero]
      refine wpAnyH_done (by as_aux_lemma => kernel_rfl) ?_ _
      have HW3 := Lib.hid (HW.out.trans (hb3.mono HW.out.size))
      clear cG hb3 lcX HW hcl hW hbk HCL
      generalize hz : acc ++ (kx ++ [61] ++ gtx P N kx ++ [59]) = z at HS
      go_wp2_with fail
      exact ⟨⟨i + 1, hlt, by rw [HS.out], by go_num, HW3.out⟩, by simp [intOf]; omega⟩
    · obtain rfl : i = ks.length := by omega
      have hbl := HB.out.trans (hW.mono HB.out.size)
      rw [List.take_length]
      go_wp2
      go_ret
      exact ⟨rfl, hbl⟩
set_option maxRecDepth 100000 in
theorem pick_all (x y : Int) (w : World) (hx : -9223372036854775808 ≤ x) (hx' : x ≤ 9223372036854775807) (hy : 0 < y) (hy' : y ≤ 9223372036854775807) : Calls Tryz.prog 21 #[.int .i64 x, .int .i64 y] w fun e w' => (∃ r : Int, e = .returned (.int .i64 r) ∧ 0 ≤ r ∧ r < y) ∧ w' = w := by
  have e2 : ∀ z : Int, wrap64 (z % y) = z % y := fun z => by
    have h1 := Int.emod_nonneg z (show y ≠ 0 by omega)
    have h2 := Int.emod_lt_of_pos z hy
    unfold wrap64
    omega
  by_cases h0 : 0 ≤ x
  · have e1 := e2 x
    go_enter Tryz.func21, Tryz.ntmps21
    go_wp2
    go_ret
    exact ⟨⟨x % y, by simp [e1], Int.emod_nonneg x (by omega), Int.emod_lt_of_pos x hy⟩, rfl⟩
  · have hw : 0 ≤ IntKind.u64.wrap x := by unfold IntKind.wrap; simp [IntKind.signed, IntKind.bits]; omega
    have h1 := Int.tmod_nonneg y hw
    have h2 := Int.tmod_lt_of_pos (IntKind.u64.wrap x) hy
    have e1 : wrap64 ((IntKind.u64.wrap x).tmod y) = (IntKind.u64.wrap x).tmod y := by unfold wrap64; omega
    have H1 := Lib.hid h1
    have H2 := Lib.hid h2
    clear h1 h2 hw
    go_enter Tryz.func21, Tryz.ntmps21
    go_wp2
    go_ret
    exact ⟨⟨_, by simp, H1.out, H2.out⟩, rfl⟩
end Go.Proofs.YteiobnkaadedkaaGreatDoor
