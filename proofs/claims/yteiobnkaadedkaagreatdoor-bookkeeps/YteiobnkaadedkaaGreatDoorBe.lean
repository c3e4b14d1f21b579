/- The walk of print. -/
import Derived.Test.YteiobnkaadedkaaGreatDoorBc
namespace Go.Proofs.YteiobnkaadedkaaGreatDoor
open Go.RowKit Go.Sort Go.Maps

theorem lm_ok {w w' : World} {b m n : Nat} {M : Bk} (h : w.ownsMap Tryz.prog 9 Rv m n (toD lv M)) (hb : m ≠ b) (k : Lib.OthersKept 5 (some b) w w') : w'.ownsMap Tryz.prog 9 Rv m n (toD lv M) := by
  obtain ⟨es, cl, h1, h2⟩ := h
  exact ⟨es, cl, k m _ h1 (fun e => hb (by cases e; rfl)) (fun c f e => by cases e), h2⟩
theorem Txo.ok {w w' : World} {b : Nat} {v : Value} {l : List (List UInt8)} (h : Txo w v l) (hb : ∀ g o, w.heap[g]? = some o → (∃ cs fz, o = .cells cs 9 fz) → g ≠ b) (k : Lib.OthersKept 5 (some b) w w') : Txo w' v l := by
  rcases h.is with h | ⟨g, c, cs, fz, h1, h2, h3⟩
  · exact ⟨.inl h⟩
  · exact ⟨.inr ⟨g, c, cs, fz, h1, ok_cell k h2 (hb g _ h2 ⟨_, _, rfl⟩) (by decide), h3⟩⟩
theorem bd_blk {B b : Nat} {l : List UInt8} {w : World} (h : Bd B b l w) : ∃ cs, w.heap[b]? = some (.cells cs 137 (0, 0)) := by
  rcases h.is with h | h
  · obtain ⟨_, v, hb, _⟩ := h; exact ⟨_, hb⟩
  · obtain ⟨_, v, hb, _⟩ := h; exact ⟨_, hb⟩
theorem bd_ne {B b : Nat} {l : List UInt8} {w : World} (h : Bd B b l w) : ∀ g o, w.heap[g]? = some o → (∃ cs fz, o = .cells cs 9 fz) → g ≠ b := fun g o ho ⟨cs, fz, e⟩ hg => by
  obtain ⟨cs', hb⟩ := bd_blk h
  subst hg e
  rw [ho] at hb
  cases hb
theorem prt_succ {M : Bk} {k : Nat} (h : k < M.length) : prt (M.take (k + 1)) = prt (M.take k) ++ M[k].1 ++ [9] ++ M[k].2 ++ [10] := by
  unfold prt
  rw [List.take_succ_eq_append_getElem h, List.flatMap_append]
  simp [lnt]
/-- What print keeps. -/
structure Pr (w : World) (m b : Nat) (M : Bk) (v : Value) (l : List UInt8) (W : World) : Prop where
  bd : Bd w.heap.size b l W
  tx : Txo W v (M.map (·.1))
  lm : Lm W m M
  bl : Below w.heap.size w W
theorem Pr.step {w : World} {m b : Nat} {M : Bk} {v : Value} {l l' : List UInt8} {W W' : World} (h : Pr w m b M v l W) (hm : m ≠ b) (hd : Bd w.heap.size b l' W') (hb : Below w.heap.size W W') (hk : Lib.OthersKept 5 (some b) W W') : Pr w m b M v l' W' :=
  ⟨hd, h.tx.ok (bd_ne h.bd) hk, lm_ok h.lm hm hk, h.bl.trans hb⟩
theorem prt_le {M : Bk} (h : Gd M) (hn : M.length ≤ 1000) (k : Nat) : (prt (M.take k)).length ≤ 326000 := by
  have h1 := prt_len (M := M.take k) ⟨h.srt.sublist (List.take_sublist _ _), fun p hp => h.nm p (List.mem_of_mem_take hp), fun p hp => h.tx p (List.mem_of_mem_take hp)⟩
  have h2 : (M.take k).length ≤ 1000 := by rw [List.length_take]; omega
  omega
theorem txo_sl {W : World} {v : Value} {l : List (List UInt8)} (h : Txo W v l) : ∃ A c, v = .slice A l.length c := by
  rcases h.is with ⟨h1, h2⟩ | ⟨g, c, cs, fz, h1, h2, h3⟩
  · subst h1; exact ⟨_, _, h2⟩
  · exact ⟨_, _, h1⟩
theorem txo_at {W : World} {A : Option Addr} {n c : Nat} {l : List (List UInt8)} (h : Txo W (.slice A n c) l) {i : Nat} (hi : i < l.length) : ∃ g, A = some ⟨g, 0, none⟩ ∧ W.cell? ⟨g, i, none⟩ = some (.string ⟨l[i].toArray⟩) := by
  rcases h.is with ⟨h1, h2⟩ | ⟨g, c', cs, fz, h1, h2, h3⟩
  · subst h1; simp at hi
  · cases h1; exact ⟨g, rfl, by unfold World.cell?; rw [h2]; exact h3 i hi⟩
set_option maxHeartbeats 1600000 in
set_option maxRecDepth 100000 in
theorem print_any (m : Nat) (M : Bk) (w : World) (h : Lm w m M) (hG : Gd M) (hn : M.length ≤ 1000) : Calls Tryz.prog 57 #[.map (some m)] w fun x w' => x = .returned (.string ⟨(prt M).toArray⟩) ∧ Below w.heap.size w w' := by
  have hlt := h.lt
  have bA := (Below.refl w.heap.size w).alloc (Nat.le_refl _) (.cells #[.pointer none, .slice none 0 0] 137 (0, 0))
  have hA := h.alloc (.cells #[.pointer none, .slice none 0 0] 137 (0, 0))
  have cK := keys_any m M _ hA hG.srt (by omega)
  have HG := Lib.hid hG
  clear hG h
  go_enter Tryz.func57, Tryz.ntmps57
  go_wp2_with fail
  refine cK.mono ?_
  rintro x w1 ⟨rfl, cS⟩
  rw [World.size_alloc] at cS
  go_wp2_with fail
  refine cS.mono ?_
  rintro x w2 ⟨v, rfl, hT, hb2⟩
  obtain ⟨A, cp, rfl⟩ := txo_sl hT
  have hP0 : Pr w m w.heap.size M (.slice A (M.map (·.1)).length cp) [] w2 := ⟨(show Bd w.heap.size w.heap.size [] _ from ⟨Lib.fresh_isBuilder 137 5 w, by simp⟩).on (by simpa using hb2), hT, by
    obtain ⟨es, cl, h1, h2⟩ := hA
    exact ⟨es, cl, (hb2.block m (by omega)).trans h1, h2⟩, bA.trans (hb2.mono (by omega))⟩
  have hml : (M.map (·.1)).length = M.length := List.length_map ..
  rw [hml]
  rw [hml] at hP0
  obtain ⟨b, hb, hne, hP1⟩ : ∃ b, w.heap.size = b ∧ m ≠ b ∧ Pr w m b M (.slice A M.length cp) [] w2 := ⟨_, rfl, by omega, hP0⟩
  have HP0 := Lib.hid hP1
  rw [hb]
  clear cK cS hT hb2 hA bA hP0 hml hP1 hlt hb
  go_wp2_with fail
  go_loopw [10] (fun i W => ∃ k : Nat, k ≤ M.length ∧ i = .int .i64 k ∧ Pr w m b M (.slice A M.length cp) (prt (M.take k)) W) (fun i _ => M.length - (intOf i).toNat)
  case atStart => exact ⟨0, Nat.zero_le _, rfl, by simpa [prt] using HP0.out⟩
  case round =>
    obtain ⟨k, hk, rfl, hP⟩ := hrel
    by_cases hlt : k < M.length
    · obtain ⟨g, rfl, hc⟩ := txo_at hP.tx (i := k) (by simpa using hlt)
      have hle := prt_le HG.out hn k
      have hnm := HG.out.nm M[k] (List.getElem_mem hlt)
      have htx := HG.out.tx M[k] (List.getElem_mem hlt)
      have HS := Lib.hid (prt_succ hlt)
      have htk : txt M[k].1 M = M[k].2 := by
        unfold txt
        rw [(lk_iff HG.out.srt).2 (show (M[k].1, M[k].2) ∈ M from List.getElem_mem hlt)]
        rfl
      have HT := Lib.hid htk
      have hnl := hnm.2.2
      have htl := htx.2
      clear htk hnm htx
      simp only [List.getElem_map] at hc
      generalize M[k].1 = nm at hc HS HT hnl
      generalize M[k].2 = tx at HS HT htl
      generalize hl : prt (M.take k) = l at hP hle HS
      clear hl
      have c1 := bd_str w.heap.size b l nm wr hP.bd (by omega) (by omega)
      have HP := Lib.hid hP
      clear hP
      go_wp2_with fail
      refine c1.mono ?_
      rintro x w3 ⟨rfl, d3, b3, k3⟩
      have hP3 := HP.out.step hne d3 b3 k3
      have c2 := bd_byte w.heap.size b (l ++ nm) 9 w3 d3 (by simp; omega)
      clear c1 d3 b3 k3 hc HP
      go_wp2_with fail
      refine c2.mono ?_
      rintro x w4 ⟨rfl, d4, b4, k4⟩
      have hP4 := hP3.step hne d4 b4 k4
      have hlk := (lmlook hP4.lm nm (by omega)).1
      rw [HT.out] at hlk
      have hfl := fld77 ⟨tx.toArray⟩
      unfold lv at hlk
      have c3 := bd_str w.heap.size b (l ++ nm ++ [9]) tx w4 d4 (by simp; omega) (by omega)
      have HP4 := Lib.hid hP4
      clear c2 d4 b4 k4 hP3 hP4
      go_wp2_with fail
      refine c3.mono ?_
      rintro x w5 ⟨rfl, d5, b5, k5⟩
      have hP5 := HP4.out.step hne d5 b5 k5
      have c4 := bd_byte w.heap.size b (l ++ nm ++ [9] ++ tx) 10 w5 d5 (by simp; omega)
      clear c3 d5 b5 k5 HP4 hlk hfl
      go_wp2_with fail
      refine c4.mono ?_
      rintro x w6 ⟨rfl, d6, b6, k6⟩
      have hP6 := hP5.step hne d6 b6 k6
      clear c4 d6 b6 k6 hP5
      go_wp2_with fail
      exact ⟨⟨k + 1, hlt, by go_num, by rw [HS.out]; exact hP6⟩, by simp [intOf]; omega⟩
    · obtain rfl : k = M.length := by omega
      rw [List.take_length] at hP
      have c1 := Tryz.Builder_String_any w.heap.size b (prt M) wr hP.bd.is hP.bl.size
      have hbl := hP.bl
      clear hP
      go_wp2_with fail
      refine c1.mono ?_
      rintro x w3 ⟨rfl, b3⟩
      go_wp2
      go_ret
      exact ⟨rfl, hbl.trans b3⟩
end Go.Proofs.YteiobnkaadedkaaGreatDoor
