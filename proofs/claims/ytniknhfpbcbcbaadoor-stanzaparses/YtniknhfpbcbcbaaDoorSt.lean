/- The walk of the reference's text of a stanza. -/
import Derived.Test.YtniknhfpbcbcbaaDoorSw
import Derived.Test.YtniknhfpbcbcbaaDoorSx
namespace Go.Proofs.YtniknhfpbcbcbaaDoor
open Go.RowKit Go.Shelf Go.Sort

/-- A library's variable holds some number. -/
structure MaxL (w : World) : Prop where
  out : ∃ m : Int, w.cell? ⟨1, 0, none⟩ = some (.int .i64 m)
theorem MaxL.on {w w' : World} (h : MaxL w) (b : Below w.heap.size w w') : MaxL w' := by
  obtain ⟨m, hm⟩ := h.out
  exact ⟨m, by rw [b.cell (block_lt_of_cell hm)]; exact hm⟩
/-- Lines in a row. -/
structure Ls (W : World) (g : Nat) (ls : List (List UInt8)) : Prop where
  lt : g < W.heap.size
  c : ∀ j (hj : j < ls.length), W.cell? ⟨g, j, none⟩ = some (.string ⟨ls[j].toArray⟩)
theorem Ls.on {W w' : World} {g : Nat} {ls : List (List UInt8)} (h : Ls W g ls) (k : Below W.heap.size W w') : Ls w' g ls :=
  ⟨Nat.lt_of_lt_of_le h.lt k.size, fun j hj => by rw [k.cell h.lt]; exact h.c j hj⟩

theorem split_any (v : List UInt8) (w : World) (hm : MaxL w) (hl : v.length ≤ 1000000) :
    Calls Tryd.prog 72 #[.string ⟨v.toArray⟩, .string ⟨#[10]⟩] w fun e w' => e = .returned (.slice (some ⟨w.heap.size, 0, none⟩) (Sm.spl v).length (Sm.spl v).length) ∧ Below w.heap.size w w' ∧ Ls w' w.heap.size (Sm.spl v) := by
  obtain ⟨m, hm⟩ := hm.out
  refine (Tryd.strings_Split ⟨v.toArray⟩ ⟨#[10]⟩ m w (by simp [ByteArray.size]; omega) hm (by decide)).mono ?_
  rintro e w' ⟨rfl, rfl⟩
  rw [split_n, split_eq]
  refine ⟨rfl, (Below.refl _ _).alloc (Nat.le_refl _) _, by simp, fun j hj => ?_⟩
  rw [World.cell?_alloc_at _ _ _ _ (by simp)]
  simp [hj]

/-- A field's text behind so many lines. -/
def pl (n : List UInt8) (ls : List (List UInt8)) (j : Nat) : List UInt8 := if j = 0 then [] else n ++ (58 :: (Sm.l0 (ls.headD []) ++ ((ls.take j).drop 1).flatMap Sm.ln))
theorem pl_all (f : Sm.F) : pl f.1 (Sm.spl f.2) (Sm.spl f.2).length = Sm.ft f := by
  have h := Sm.spl_ne f.2
  unfold pl Sm.ft Sm.vt
  cases hs : Sm.spl f.2 with
  | nil => exact absurd hs h
  | cons x r => simp
theorem pl_one (n : List UInt8) (ls : List (List UInt8)) (h : 0 < ls.length) : pl n ls 1 = n ++ (58 :: Sm.l0 ls[0]) := by
  cases ls with
  | nil => simp at h
  | cons x r => simp [pl]
theorem pl_step (n : List UInt8) (ls : List (List UInt8)) (j : Nat) (h : j < ls.length) (hj : 0 < j) : pl n ls (j + 1) = pl n ls j ++ Sm.ln ls[j] := by
  unfold pl
  rw [if_neg (by omega), if_neg (by omega), List.take_succ_eq_append_getElem h, List.drop_append_of_le_length (by simp; omega), List.flatMap_append]
  simp

theorem pl_le (n : List UInt8) (ls : List (List UInt8)) (j : Nat) (hj : j ≤ ls.length) : (pl n ls j).length ≤ (pl n ls ls.length).length := by
  unfold pl
  by_cases h0 : j = 0
  · simp [h0]
  · rw [if_neg h0, if_neg (by omega), List.take_length]
    have e : ls.drop 1 = (ls.take j).drop 1 ++ ls.drop j := by
      rw [← List.drop_append_of_le_length (by simp; omega), List.take_append_drop]
    rw [e, List.flatMap_append]
    simp
theorem str_eq {a : ByteArray} {l : List UInt8} (h : a.data.toList = l) : Value.string a = .string ⟨l.toArray⟩ := by
  subst h; simp

set_option maxHeartbeats 3200000 in
set_option maxRecDepth 100000 in
theorem xt_row (b o c : Nat) (l : List Sm.F) (w : World) (h : Fl w b o l) (hz : Sz l) (hT : (Sm.txt l).length ≤ 1000000) (hm : MaxL w) :
    Calls Tryd.prog 67 #[.slice (some ⟨b, o, none⟩) l.length c] w fun e w' => e = .returned (.string ⟨(Sm.txt l).toArray⟩) ∧ Below w.heap.size w w' := by
  obtain ⟨R, hR⟩ : ∃ R, R = Sm.txt l := ⟨_, rfl⟩
  have HR := Lib.hid hR
  rw [← hR] at hT ⊢
  clear hR
  have hn := hz.n
  have HZ := Lib.hid hz
  clear hz
  go_enter Tryd.func67, Tryd.ntmps67
  go_wp2
  go_loopw [3, 10] (fun v i W => ∃ k : Nat, k ≤ l.length ∧ i = .int .i64 k ∧ v = .string ⟨(Sm.txt (l.take k)).toArray⟩ ∧ Below w.heap.size w W) (fun _ i _ => l.length - (intOf i).toNat)
  case atStart => exact ⟨0, Nat.zero_le _, rfl, rfl, Below.refl _ _⟩
  case round =>
    obtain ⟨k, hk, rfl, rfl, hW⟩ := hrel
    by_cases hlt : k < l.length
    · have hF := h.on hW
      have c0 := hF.c0 k hlt
      have c1 := hF.c1 k hlt
      have hfs := HZ.out.s l[k] (List.getElem_mem hlt)
      have bA : Below w.heap.size w (wr.alloc (.cells #[.string ⟨l[k].1.toArray⟩, .string ⟨l[k].2.toArray⟩] 92)) := hW.alloc hW.size _
      have hle := txt_len (l := l) (k + 1)
      rw [txt_take hlt, ← HR.out] at hle
      have HTX := Lib.hid (txt_take hlt)
      have hPL := pl_all l[k]
      obtain ⟨P, hP⟩ : ∃ P, P = Sm.txt (l.take k) := ⟨_, rfl⟩
      rw [← hP] at hle HTX ⊢
      clear hP
      go_wp2_with fail
      refine (split_any l[k].2 _ (hm.on bA) (by omega)).mono ?_
      rintro e w1 ⟨rfl, b1, L1⟩
      have d0 : w1.cell? ⟨wr.heap.size, 0, none⟩ = some (.string ⟨l[k].1.toArray⟩) := by rw [b1.cell (by simp)]; simp
      have hlin := fun j hj => Sm.spl_len l[k].2 (Sm.spl l[k].2)[j] (List.getElem_mem (n := j) hj)
      have hsn := (Sm.spl_sum l[k].2).2
      have hsp : 0 < (Sm.spl l[k].2).length := List.length_pos_iff.2 (Sm.spl_ne _)
      obtain ⟨ls, hls⟩ : ∃ ls, ls = Sm.spl l[k].2 := ⟨_, rfl⟩
      rw [← hls] at L1 hlin hsn hPL hsp ⊢
      clear hls
      replace L1 : Ls w1 (wr.heap.size + 1) ls := by simpa using L1
      have HPL := Lib.hid hPL
      have HLI := Lib.hid hlin
      clear hPL hlin
      have hple : ∀ j, j ≤ ls.length → (P ++ pl l[k].1 ls j).length ≤ 1000000 := fun j hj => by
        have h1 := pl_le l[k].1 ls j hj
        rw [HPL.out] at h1
        simp at hle ⊢; omega
      have HPE := Lib.hid hple
      clear hple
      go_wp2_with fail
      go_loop [3, 18] (fun v i => ∃ j : Nat, j ≤ ls.length ∧ i = .int .i64 j ∧ v = .string ⟨(P ++ pl l[k].1 ls j).toArray⟩) (fun _ i => ls.length - (intOf i).toNat)
      case atStart => exact ⟨0, Nat.zero_le _, rfl, by simp [pl]⟩
      case round =>
        obtain ⟨j, hj, rfl, rfl⟩ := hrel
        by_cases hjl : j < ls.length
        · have cj := L1.c j hjl
          have hjx := HLI.out j hjl
          have hq := HPE.out j hj
          simp only [List.length_append] at hq
          by_cases hj0 : j = 0
          · subst hj0
            have hp1 := pl_one l[k].1 ls hjl
            have HP1 := Lib.hid hp1
            clear hp1
            have hxx : ls[0].length ≤ 400 := by omega
            cases hx : ls[0] with
            | nil =>
              rw [hx] at cj HP1
              go_wp2_with fail
              exact ⟨⟨1, by omega, by go_num, str_eq (by rw [HP1.out]; simp [pl, Sm.l0])⟩, by simp [intOf]; omega⟩
            | cons a r =>
              obtain ⟨x, hxe⟩ : ∃ x, x = a :: r := ⟨_, rfl⟩
              have hxi : x.isEmpty = false := by rw [hxe]; rfl
              have hl0 : Sm.l0 x = 32 :: (x ++ [10]) := by rw [hxe]; simp [Sm.l0]
              have HL0 := Lib.hid hl0
              rw [hx, ← hxe] at cj HP1 hxx
              clear hx hxe hl0
              go_wp2_with fail
              exact ⟨⟨1, by omega, by go_num, str_eq (by rw [HP1.out, HL0.out]; simp [pl])⟩, by simp [intOf]; omega⟩
          · have hjp : 0 < j := Nat.pos_of_ne_zero hj0
            have hjb : ((j : Int) == 0) = false := by rw [beq_eq_false_iff_ne]; omega
            have HPS := Lib.hid (pl_step l[k].1 ls j hjl hjp)
            have hxx : ls[j].length ≤ 400 := by omega
            generalize ls[j] = x at cj HPS hxx
            clear hjx
            cases hd : (x.head? == some 46) with
            | true =>
              have HLN := Lib.hid (show Sm.ln x = [32, 46] ++ (x ++ [10]) from by unfold Sm.ln; rw [if_pos (by simpa using hd)]; rfl)
              have cP : ∀ W, Calls Tryd.prog 62 #[.string ⟨x.toArray⟩, .string ⟨#[46]⟩] W fun e w' => e = .returned (.bool true) ∧ w' = W := fun W => by rw [← hd]; exact hp46 x W
              go_wp2_with (go_at_call 62; with_reducible refine (cP _).mono ?_; rintro x w' ⟨rfl, rfl⟩)
              exact ⟨⟨j + 1, hjl, by go_num, str_eq (by rw [HPS.out, HLN.out]; simp)⟩, by simp [intOf]; omega⟩
            | false =>
              have HLN := Lib.hid (show Sm.ln x = [32] ++ (x ++ [10]) from by unfold Sm.ln; rw [if_neg (by simpa using hd)]; rfl)
              have cP : ∀ W, Calls Tryd.prog 62 #[.string ⟨x.toArray⟩, .string ⟨#[46]⟩] W fun e w' => e = .returned (.bool false) ∧ w' = W := fun W => by rw [← hd]; exact hp46 x W
              go_wp2_with (go_at_call 62; with_reducible refine (cP _).mono ?_; rintro x w' ⟨rfl, rfl⟩)
              exact ⟨⟨j + 1, hjl, by go_num, str_eq (by rw [HPS.out, HLN.out]; simp)⟩, by simp [intOf]; omega⟩
        · have hjl' : j = ls.length := by omega
          subst hjl'
          rw [HPL.out]
          go_wp2_with fail
          exact ⟨⟨k + 1, hlt, by go_num, by rw [HTX.out], onn bA b1⟩, by simp [intOf]; omega⟩
    · have hkl : k = l.length := by omega
      subst hkl
      rw [List.take_length, ← HR.out]
      go_wp2
      go_ret
      exact ⟨rfl, hW⟩

theorem xt_nil (A : Option Addr) (c : Nat) (w : World) : Calls Tryd.prog 67 #[.slice A 0 c] w fun e w' => e = .returned (.string ⟨#[]⟩) ∧ w' = w := by
  go_enter Tryd.func67, Tryd.ntmps67
  go_wp2
  refine wp_loop_rounds 1 ?_
  rw [rounds_succ]
  go_wp2
  go_ret
  exact ⟨rfl, rfl⟩
theorem xt_any (v : Value) (l : List Sm.F) (w : World) (h : Sl w v l) (hz : Sz l) (hT : (Sm.txt l).length ≤ 1000000) (hm : MaxL w) :
    Calls Tryd.prog 67 #[v] w fun e w' => e = .returned (.string ⟨(Sm.txt l).toArray⟩) ∧ Below w.heap.size w w' := by
  rcases h.is with ⟨rfl, A, c, rfl⟩ | ⟨b, o, c, rfl, _, hf⟩
  · exact (xt_nil A c w).mono fun _ _ ⟨he, hw⟩ => ⟨he, by rw [hw]; exact Below.refl _ _⟩
  · exact xt_row b o c l w hf hz hT hm

end Go.Proofs.YtniknhfpbcbcbaaDoor
