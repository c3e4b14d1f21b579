/- whole, right. -/
import Derived.Test.YteiobnkaadedkaaGreatDoorBn
import Derived.Test.YteiobnkaadedkaaGreatDoorSk
import Derived.Test.YteiobnkaadedkaaGreatDoorMk
import Derived.Lib.OthersKept
namespace Go.Proofs.YteiobnkaadedkaaGreatDoor
open Go.RowKit Go.Sort Go.Maps

theorem hv177 (w : World) : (zeroValue 177).run Tryz.prog w = .ok (.agg (Array.replicate 256 (.bool false))) w := by kernel_rfl
theorem noany {s : List UInt8} {i : Nat} (h : ∀ j, j < i → ∀ c, s[j]? = some c → c ≠ 9 ∧ c ≠ 10) : prts (s.take i) = false := by
  rw [prts_whole]
  refine ⟨fun hm => ?_, fun hm => ?_⟩
  · obtain ⟨j, hj, e⟩ := List.mem_iff_getElem.1 hm
    simp at hj e
    exact (h j (by omega) 9 (by rw [List.getElem?_eq_getElem (by omega), e])).1 rfl
  · obtain ⟨j, hj, e⟩ := List.mem_iff_getElem.1 hm
    simp at hj e
    exact (h j (by omega) 10 (by rw [List.getElem?_eq_getElem (by omega), e])).2 rfl
theorem iat_below {w wx : World} {k : Nat} {b : ByteArray} (h : Below w.heap.size w wx) (hk : w.heap.size ≤ k) (i : Nat) : Below w.heap.size w (wx.iterAt k b i) :=
  ⟨h.os, h.tape, h.output, by simpa [World.iterAt] using h.size, fun j hj => by
    show (wx.heap.setIfInBounds k _)[j]? = _
    rw [Array.getElem?_setIfInBounds_ne (by omega)]
    exact h.block j hj⟩
theorem irune_hi (r : Nat) (w : World) (h1 : 128 ≤ r) (h2 : r ≤ 1114111) (h4 : r < 55296 ∨ 57343 < r) : Calls Tryz.prog 113 #[.string ⟨#[9, 10]⟩, .int .i32 r] w fun x w' => x = .returned (.int .i64 (-1)) ∧ Below w.heap.size w w' := by
  by_cases e : r = 65533
  · subst e; exact irune_err w
  · exact irune_no r w (by omega) (by omega) (by omega) (by omega)
theorem get_list (s : List UInt8) (i : Nat) (hi : i < s.length) : (ByteArray.mk s.toArray).get! i = s[i] := by
  show (s.toArray)[i]! = _
  simp [hi]
theorem ix_lo (b : UInt8) : Lib.indexByte [9, 10] b = if b = 9 then 0 else if b = 10 then 1 else -1 := by
  unfold Lib.indexByte
  by_cases h : b = 9
  · subst h; rfl
  · rw [if_neg h]
    have h1 : ((9 : UInt8) == b) = false := by rw [beq_eq_false_iff_ne]; exact fun e => h e.symm
    rw [h1]
    by_cases h2 : b = 10
    · subst h2; rfl
    · rw [if_neg h2]
      have h3 : ((10 : UInt8) == b) = false := by rw [beq_eq_false_iff_ne]; exact fun e => h2 e.symm
      simp [Lib.indexByte, h3]
set_option maxRecDepth 100000 in
set_option maxHeartbeats 2000000 in
theorem iany_short (s : List UInt8) (w : World) (hs : s.length ≤ 8) : Calls Tryz.prog 92 #[.string ⟨s.toArray⟩, .string ⟨#[9, 10]⟩] w fun x w' => ∃ n : Int, x = .returned (.int .i64 n) ∧ decide (0 ≤ n) = prts s ∧ Below w.heap.size w w' := by
  have cU := fun W => Tryz.strings_shouldUseASCIISet s.length W
  have h8 : decide ((8 : Int) < (s.length : Int)) = false := decide_eq_false (by omega)
  rw [h8] at cU
  go_enter Tryz.func92, Tryz.ntmps92
  go_wp2_with (go_at_call 114; refine (cU _).mono ?_; rintro e w' ⟨rfl, hw⟩; rw [hw]; clear hw w')
  go_loopw [9, 10] (fun _ _ wx => ∃ i : Nat, i ≤ s.length ∧ wx.heap[w.heap.size]? = some (.stringIter ⟨s.toArray⟩ i) ∧ Below w.heap.size w wx ∧ Hid (∀ j, j < i → ∀ c, s[j]? = some c → c ≠ 9 ∧ c ≠ 10)) (fun _ _ wx => s.length - wx.iterPos w.heap.size)
  case atStart => exact ⟨0, Nat.zero_le _, nb0 _ _, (Below.refl _ _).alloc (Nat.le_refl _) _, fun j hj => absurd hj (Nat.not_lt_zero _)⟩
  case round =>
    obtain ⟨i, hi, hk, hb, HN⟩ := hrel
    have hsz : (ByteArray.mk s.toArray).size = s.length := by simp [ByteArray.size]
    have HP : Hid (wr.iterPos w.heap.size = i) := by show _ = _; unfold World.iterPos; rw [hk]
    by_cases hlt : i < s.length
    · by_cases hlo : s[i].toNat < 128
      · have hnx := fun ty => Lib.run_next_ascii_at (P := Tryz.prog) wr w.heap.size ⟨s.toArray⟩ i ty hk (by rw [hsz]; exact hlt) hlo
        rw [show (ByteArray.mk s.toArray)[i]'(by rw [hsz]; exact hlt) = s[i] from rfl] at hnx
        have hb2 := iat_below (k := w.heap.size) (b := ⟨s.toArray⟩) hb (Nat.le_refl _) (i + 1)
        have hk2 := Lib.iterAt_heap wr w.heap.size ⟨s.toArray⟩ i (i + 1) hk
        have HSi : Hid (s[i]? = some s[i]) := List.getElem?_eq_getElem hlt
        have HMem := Lib.hid (List.getElem_mem hlt)
        generalize s[i] = b at hlo hnx HSi HMem
        have cR := Tryz.strings_IndexRune_ascii ⟨#[9, 10]⟩ b.toNat (wr.iterAt w.heap.size ⟨s.toArray⟩ (i + 1)) (by omega) (by omega)
        rw [show Lib.indexByte (ByteArray.mk #[9, 10]).data.toList ((b.toNat : Int)).toNat.toUInt8 = if b = 9 then 0 else if b = 10 then 1 else -1 from by rw [show ((b.toNat : Int)).toNat.toUInt8 = b by simp]; exact ix_lo b] at cR
        by_cases h9 : b = 9 ∨ b = 10
        · obtain ⟨z, hz, hz0⟩ : ∃ z : Int, (if b = 9 then (0 : Int) else if b = 10 then 1 else -1) = z ∧ 0 ≤ z := by
            rcases h9 with rfl | rfl
            · exact ⟨0, rfl, by omega⟩
            · exact ⟨1, rfl, by omega⟩
          rw [hz] at cR
          have HY : Hid (prts s = true) := by
            show _ = _
            unfold prts
            rw [List.any_eq_true]
            exact ⟨b, HMem.out, by rcases h9 with rfl | rfl <;> rfl⟩
          clear hz h9 HSi HMem HN hk hb hsz
          go_wp2_with fail
          refine cR.mono ?_
          rintro e w3 ⟨rfl, hw⟩
          rw [hw]
          clear cR hw
          go_wp2
          go_ret
          exact ⟨_, rfl, by rw [HY.out]; simp, hb2⟩
        · rw [if_neg (fun e => h9 (.inl e)), if_neg (fun e => h9 (.inr e))] at cR
          have HN2 : Hid (∀ j, j < i + 1 → ∀ c, s[j]? = some c → c ≠ 9 ∧ c ≠ 10) := fun j hj c hc => by
            by_cases e : j = i
            · subst e
              rw [HSi.out] at hc; cases hc
              exact ⟨fun e => h9 (.inl e), fun e => h9 (.inr e)⟩
            · exact HN.out j (by omega) c hc
          clear h9 HSi HMem HN hk hb hsz
          go_wp2_with fail
          refine cR.mono ?_
          rintro e w3 ⟨rfl, hw⟩
          rw [hw]
          clear cR hw
          go_wp2
          refine ⟨⟨i + 1, hlt, hk2, hb2, HN2⟩, ?_⟩
          rw [HP.out, show (wr.iterAt w.heap.size ⟨s.toArray⟩ (i + 1)).iterPos w.heap.size = i + 1 by unfold World.iterPos; rw [hk2]]
          omega
      · have hnx := fun ty => Lib.run_next_any_at (P := Tryz.prog) wr w.heap.size ⟨s.toArray⟩ i ty hk (by rw [hsz]; exact hlt)
        obtain ⟨d1, d2, d3, d4, d5, d6⟩ := dec_hi ⟨s.toArray⟩ i (by rw [hsz]; exact hlt) (by rw [get_list s i hlt]; omega)
        rw [hsz] at d5
        have HN2 : Hid (∀ j, j < i + (Utf8.decode ⟨s.toArray⟩ i).2 → ∀ c, s[j]? = some c → c ≠ 9 ∧ c ≠ 10) := fun j hj c hc => by
          by_cases e : j < i
          · exact HN.out j e c hc
          · have hjl := (List.getElem?_eq_some_iff.1 hc).1
            have h7 := d6 j (by omega) hj
            rw [get_list s j hjl, (List.getElem?_eq_some_iff.1 hc).2] at h7
            exact ⟨fun e => by rw [e] at h7; simp at h7, fun e => by rw [e] at h7; simp at h7⟩
        clear d6
        generalize Utf8.decode ⟨s.toArray⟩ i = q at hnx d1 d2 d3 d4 d5 HN2
        obtain ⟨r, n⟩ := q
        dsimp only at hnx d1 d2 d3 d4 d5 HN2
        have hb2 := iat_below (k := w.heap.size) (b := ⟨s.toArray⟩) hb (Nat.le_refl _) (i + n)
        have hk2 := Lib.iterAt_heap wr w.heap.size ⟨s.toArray⟩ i (i + n) hk
        have cR := irune_hi r (wr.iterAt w.heap.size ⟨s.toArray⟩ (i + n)) d1 d2 d3
        clear hk hb hsz HN hlo d1 d2 d3
        go_wp2_with fail
        refine cR.mono ?_
        rintro e w3 ⟨rfl, b3⟩
        have hk3 := (b3.block _ (Array.getElem?_eq_some_iff.1 hk2).1).trans hk2
        have hb3 := hb2.trans (b3.mono hb2.size)
        clear cR b3 hk2 hb2
        go_wp2
        refine ⟨⟨i + n, d5, hk3, hb3, HN2⟩, ?_⟩
        rw [HP.out, show w3.iterPos w.heap.size = i + n by unfold World.iterPos; rw [hk3]]
        omega
    · obtain rfl : i = s.length := by omega
      have hnx := fun ty => Lib.run_next_end_at (P := Tryz.prog) wr w.heap.size ⟨s.toArray⟩ s.length ty hk (by rw [hsz]; omega)
      have HY : Hid (prts s = false) := by
        have := noany HN.out
        rwa [List.take_length] at this
      clear HN hk hsz
      go_wp2
      go_ret
      exact ⟨_, rfl, by rw [HY.out]; rfl, hb⟩
theorem iany_any (s : List UInt8) (w : World) (hs : s.length ≤ 1000000) : Calls Tryz.prog 92 #[.string ⟨s.toArray⟩, .string ⟨#[9, 10]⟩] w fun x w' => ∃ n : Int, x = .returned (.int .i64 n) ∧ decide (0 ≤ n) = prts s ∧ Below w.heap.size w w' := by
  by_cases h8 : s.length ≤ 8
  · exact iany_short s w h8
  · have hsz : (ByteArray.mk s.toArray).size = s.length := by simp [ByteArray.size]
    refine (Tryz.strings_IndexAny_long hv177 ⟨s.toArray⟩ ⟨#[9, 10]⟩ w (by decide) (by rw [hsz]; omega) (by rw [hsz]; omega) (by decide) ?_).mono ?_
    · intro j b hj
      match j, hj with
      | 0, hj => simp at hj; subst hj; decide
      | 1, hj => simp at hj; subst hj; decide
      | j + 2, hj => simp at hj
    · rintro x w' ⟨rfl, rfl⟩
      exact ⟨_, rfl, ia_prts s, ((Below.refl _ _).alloc (Nat.le_refl _) _).alloc (by simp) _⟩
theorem whole_any (s : List UInt8) (w : World) (hs : s.length ≤ 1000000) : Calls Tryz.prog 53 #[.string ⟨s.toArray⟩] w fun x w' => x = .returned (.bool (!prts s)) ∧ Below w.heap.size w w' := by
  have cI := iany_any s w hs
  have cC : Calls Tryz.prog 74 #[.string ⟨s.toArray⟩, .string ⟨#[9, 10]⟩] w fun x w' => x = .returned (.bool (prts s)) ∧ Below w.heap.size w w' := by
    go_enter Tryz.func74, Tryz.ntmps74
    go_wp2_with fail
    refine cI.mono ?_
    rintro x w1 ⟨n, rfl, hn, b1⟩
    have HN := Lib.hid hn
    clear hn cI
    go_wp2
    go_ret
    exact ⟨ret_bool HN.out, b1⟩
  clear cI
  generalize prts s = z at cC
  go_enter Tryz.func53, Tryz.ntmps53
  go_wp2_with fail
  refine cC.mono ?_
  rintro x w1 ⟨rfl, b1⟩
  go_wp2
  go_ret
  exact ⟨rfl, b1⟩
/-- May it be written there? -/
def rgt (k s : List UInt8) : Bool := decide (1 ≤ k.length) && decide (k.length ≤ 24) && !prts k && decide (s.length ≤ 300) && !prts s
theorem rgt_iff (k s : List UInt8) : rgt k s = true ↔ (Whole k ∧ 1 ≤ k.length ∧ k.length ≤ 24) ∧ (Whole s ∧ s.length ≤ 300) := by
  unfold rgt
  rw [← prts_whole, ← prts_whole]
  simp only [Bool.and_eq_true, decide_eq_true_eq, Bool.not_eq_true']
  constructor
  · rintro ⟨⟨⟨⟨h1, h2⟩, h3⟩, h4⟩, h5⟩; exact ⟨⟨h3, h1, h2⟩, h5, h4⟩
  · rintro ⟨⟨h3, h1, h2⟩, h5, h4⟩; exact ⟨⟨⟨⟨h1, h2⟩, h3⟩, h4⟩, h5⟩
set_option maxRecDepth 100000 in
theorem right_any (k s : List UInt8) (w : World) (hk : k.length ≤ 1000000) (hs : s.length ≤ 1000000) : Calls Tryz.prog 28 #[.string ⟨k.toArray⟩, .string ⟨s.toArray⟩] w fun x w' => x = .returned (.bool (rgt k s)) ∧ Below w.heap.size w w' := by
  have c1 := whole_any k w hk
  have c2 := fun W => whole_any s W hs
  obtain ⟨z, hz⟩ : ∃ z, z = rgt k s := ⟨_, rfl⟩
  rw [← hz]
  unfold rgt at hz
  by_cases h1 : 1 ≤ k.length
  · have h1' : (1 : Int) ≤ (k.length : Int) := by omega
    rw [decide_eq_true h1, Bool.true_and] at hz
    by_cases h2 : k.length ≤ 24
    · have h2' : (k.length : Int) ≤ 24 := by omega
      rw [decide_eq_true h2, Bool.true_and] at hz
      cases hp : prts k with
      | true =>
        rw [hp] at c1 hz
        simp at hz
        subst hz
        go_enter Tryz.func28, Tryz.ntmps28
        go_wp2_with fail
        refine c1.mono ?_
        rintro x w1 ⟨rfl, b1⟩
        go_wp2
        go_ret
        exact ⟨rfl, b1⟩
      | false =>
        rw [hp] at c1 hz
        rw [Bool.not_false, Bool.true_and] at hz
        by_cases h3 : s.length ≤ 300
        · have h3' : (s.length : Int) ≤ 300 := by omega
          rw [decide_eq_true h3, Bool.true_and] at hz
          rw [← hz] at c2
          clear hz h1 h2 h3
          go_enter Tryz.func28, Tryz.ntmps28
          go_wp2_with fail
          refine c1.mono ?_
          rintro x w1 ⟨rfl, b1⟩
          go_wp2_with fail
          refine (c2 _).mono ?_
          rintro x w2 ⟨rfl, b2⟩
          go_wp2
          go_ret
          exact ⟨rfl, b1.trans (b2.mono b1.size)⟩
        · have h3' : ¬ (s.length : Int) ≤ 300 := by omega
          rw [decide_eq_false h3, Bool.false_and] at hz
          subst hz
          clear h1 h2 h3
          go_enter Tryz.func28, Tryz.ntmps28
          go_wp2_with fail
          refine c1.mono ?_
          rintro x w1 ⟨rfl, b1⟩
          go_wp2
          go_ret
          exact ⟨rfl, b1⟩
    · have h2' : ¬ (k.length : Int) ≤ 24 := by omega
      rw [decide_eq_false h2] at hz
      simp at hz
      subst hz
      clear h1 h2 c1 c2
      go_enter Tryz.func28, Tryz.ntmps28
      go_wp2
      go_ret
      exact ⟨rfl, Below.refl _ _⟩
  · have h1' : ¬ (1 : Int) ≤ (k.length : Int) := by omega
    rw [decide_eq_false h1] at hz
    simp at hz
    subst hz
    clear h1 c1 c2
    go_enter Tryz.func28, Tryz.ntmps28
    go_wp2
    go_ret
    exact ⟨rfl, Below.refl _ _⟩
end Go.Proofs.YteiobnkaadedkaaGreatDoor
