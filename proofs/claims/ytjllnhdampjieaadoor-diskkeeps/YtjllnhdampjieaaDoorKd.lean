/- The keeper's fact of the disk: what was made safe stays. -/
import Derived.Test.YtjllnhdampjieaaDoorKc
namespace Go.Proofs.YtjllnhdampjieaaDoor
open Go.RowKit Go.Sort Go.Maps

theorem pd_new (w : World) : PD (w.alloc (dko none 0 false 0 false 0)) w.heap.size none [] false 0 false 0 := ⟨nb0 _ _, fun _ => rfl, fun _ h => (by cases h), Srt.nil⟩
abbrev sL1 : Kv Ent := [([97], ⟨[120, 121], none⟩)]
abbrev sL2 : Kv Ent := [([97], ⟨[120, 121], some [120, 121]⟩)]
abbrev sL3 : Kv Ent := [([97], ⟨[117, 118, 119], some [120, 121]⟩)]
abbrev sL4 : Kv Ent := [([97], ⟨[117, 118, 119], some [120, 121]⟩), ([98], ⟨[122], none⟩)]
theorem s1 : wL [] false 0 false 0 [97] [120, 121] = sL1 ∧ wc false 0 [97] = 0 ∧ wcd [] false 0 false 0 [97] [120, 121] = 0 := ⟨rfl, rfl, rfl⟩
theorem s2 : sL sL1 false 0 [97] = sL2 ∧ tc sL1 false 0 [97] = 0 ∧ tcd sL1 false 0 [97] = 0 := ⟨rfl, rfl, rfl⟩
theorem s3 : wL sL2 false 0 false 0 [97] [117, 118, 119] = sL3 ∧ wcd sL2 false 0 false 0 [97] [117, 118, 119] = 0 := ⟨rfl, rfl⟩
theorem s4 : wL sL3 false 0 false 0 [98] [122] = sL4 ∧ wc false 0 [98] = 0 ∧ wcd sL3 false 0 false 0 [98] [122] = 0 := ⟨rfl, rfl, rfl⟩
theorem s5 : stL sL4 0 = sL2 ∧ ent [97] sL2 = ⟨[120, 121], some [120, 121]⟩ ∧ rdc [97] sL2 = 0 ∧ (nms sL2).length = 1 := ⟨rfl, rfl, rfl, nms_len _⟩
theorem bn_small {L : Kv Ent} (h : ∀ p ∈ L, p.2.now.length ≤ 1000 ∧ (p.2.sf.getD []).length ≤ 1000) (hs : Srt L) : Bn 1000 L := ⟨fun _ _ ha => h _ ((lk_iff hs).1 ha)⟩
set_option maxHeartbeats 4000000 in
set_option maxRecDepth 100000 in
theorem safe_any (w : World) : Calls Tryd.prog 22 #[] w fun x w' => x = .returned (.bool true) ∧ Below w.heap.size w w' := by
  have hd0 := pd_new w
  have hB : Below w.heap.size w (w.alloc (dko none 0 false 0 false 0)) := (Below.refl _ _).alloc (Nat.le_refl _) _
  have HB := Lib.hid hB
  clear hB
  have cA := write_any w.heap.size none [] false 0 false 0 [97] [120, 121] _ hd0 (by omega) (by simp) (by simp) (by simp [tot]) (by simp)
  rw [s1.1, s1.2.1, s1.2.2, show evv 0 = .nilIface from rfl] at cA
  have hs1 : tot nl sL1 = 2 := rfl
  have hs2 : tot nl sL2 = 2 := rfl
  have hs3 : tot nl sL3 = 3 := rfl
  have hs4 : tot nl sL4 = 4 := rfl
  clear hd0
  go_enter Tryd.func22, Tryd.ntmps22
  go_wp2_with fail
  refine cA.mono ?_
  rintro y W1 ⟨rfl, hp1⟩
  obtain ⟨b, hb⟩ : ∃ b, b = w.heap.size := ⟨_, rfl⟩
  rw [← hb] at HB hp1 ⊢
  have hbe := Lib.hid hb
  clear hb cA
  obtain ⟨⟨mb1, hd1, hm1⟩, hk1⟩ := hp1
  have cB := sync_any b mb1 sL1 false 0 false 0 [97] W1 hd1 (by omega) (by simp) (by omega) (by simp)
  rw [s2.1, s2.2.1, s2.2.2, show evv 0 = .nilIface from rfl] at cB
  have HH := Lib.hid (And.intro hm1 hk1)
  clear hm1 hk1 hd1
  go_wp2_with fail
  refine cB.mono ?_
  rintro y W2 ⟨rfl, hp2⟩
  have hp2 := Po.then HH.out.2 HH.out.1 hp2
  obtain ⟨⟨mb2, hd2, hm2⟩, hk2⟩ := hp2
  have cC := write_any b mb2 sL2 false 0 false 0 [97] [117, 118, 119] W2 hd2 (by omega) (by simp) (by simp) (by omega) (by simp)
  rw [s3.1, s1.2.1, s3.2, show evv 0 = .nilIface from rfl] at cC
  clear HH cB
  have HH := Lib.hid (And.intro hm2 hk2)
  clear hm2 hk2 hd2
  go_wp2_with fail
  refine cC.mono ?_
  rintro y W3 ⟨rfl, hp3⟩
  have hp3 := Po.then HH.out.2 HH.out.1 hp3
  obtain ⟨⟨mb3, hd3, hm3⟩, hk3⟩ := hp3
  have cD := write_any b mb3 sL3 false 0 false 0 [98] [122] W3 hd3 (by omega) (by simp) (by simp) (by omega) (by simp)
  rw [s4.1, s4.2.1, s4.2.2, show evv 0 = .nilIface from rfl] at cD
  clear HH cC
  have HH := Lib.hid (And.intro hm3 hk3)
  clear hm3 hk3 hd3
  go_wp2_with fail
  refine cD.mono ?_
  rintro y W4 ⟨rfl, hp4⟩
  have hp4 := Po.then HH.out.2 HH.out.1 hp4
  obtain ⟨⟨mb4, hd4, hm4⟩, hk4⟩ := hp4
  have hn4 : ∀ k ∈ nms sL4, k.length ≤ 1000 := fun k hk => by
    obtain ⟨a, ha⟩ := nms_mem.1 hk
    simp at ha
    rcases ha with ⟨rfl, _⟩ | ⟨rfl, _⟩ <;> simp
  have cE := start_any b mb4 sL4 false 0 false 0 0 W4 hd4 (bn_small (by simp) hd4.srt) (by simp) hn4 (by omega)
  rw [s5.1] at cE
  clear HH cD hn4
  have HH := Lib.hid (And.intro hm4 hk4)
  clear hm4 hk4 hd4
  go_wp2_with fail
  refine cE.mono ?_
  rintro y W5 ⟨rfl, hp5⟩
  have hp5 := Po.then HH.out.2 HH.out.1 hp5
  obtain ⟨⟨mb5, hd5, hm5⟩, hk5⟩ := hp5
  have cF := read_any b mb5 sL2 false (-1) false 0 [97] W5 hd5 (by simp)
  rw [s5.2.1, s5.2.2.1, show evv 0 = .nilIface from rfl] at cF
  clear HH cE
  have HH := Lib.hid (And.intro hm5 hk5)
  go_wp2_with fail
  refine cF.mono ?_
  rintro y W6 ⟨rfl, hb6⟩
  have cG := list_any b mb5 sL2 false (-1) false 0 W6 (hd5.up hb6) (by simp)
  have HB6 := Lib.hid hb6
  clear cF hd5 hb6 hm5 hk5
  go_wp2_with fail
  refine cG.mono ?_
  rintro y W7 ⟨v, rfl, hT, hb7⟩
  obtain ⟨A, cp, rfl⟩ := tx_sl hT
  rw [s5.2.2.2]
  have hbl : Below w.heap.size w W7 := by
    have h1 : Below b _ W5 := HH.out.2.below (B := b) (by rw [hbe.out, World.size_alloc]; omega) fun k hk hx => by
      rcases hx with hx | hx
      · omega
      · cases hx
    rw [← hbe.out]
    have h2 := HB.out.trans h1
    have hbe' := hbe.out
    have h3 := h2.trans (HB6.out.mono (by have := h2.size; omega))
    exact h3.trans (hb7.mono (by have := h3.size; omega))
  clear cG HB6 HH HB hT hb7
  go_wp2
  go_ret
  exact ⟨rfl, hbl⟩
end Go.Proofs.YtjllnhdampjieaaDoor
