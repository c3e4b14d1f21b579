/- Cut, Room, Start of either disk; sameTexts. -/
import Derived.Test.YtjllnhdampjieaaDoorPb
namespace Go.Proofs.YtjllnhdampjieaaDoor
open Go.RowKit Go.Sort Go.Maps

theorem same_nil (A A' : Option Addr) (c c' : Nat) (w : World) : Calls Tryd.prog 18 #[.slice A 0 c, .slice A' 0 c'] w fun x w' => x = .returned (.bool true) ∧ w' = w := by
  go_enter Tryd.func18, Tryd.ntmps18
  go_wp2
  refine wp_loop_rounds 1 ?_
  rw [rounds_succ]
  go_wp2
  go_ret
  exact ⟨rfl, rfl⟩
set_option maxHeartbeats 1600000 in
set_option maxRecDepth 100000 in
theorem same_row (b c b' c' : Nat) (l : List (List UInt8)) (w : World) (hn : l.length ≤ 1000) (h : ∀ i (hi : i < l.length), w.cell? ⟨b, i, none⟩ = some (.string ⟨l[i].toArray⟩)) (h' : ∀ i (hi : i < l.length), w.cell? ⟨b', i, none⟩ = some (.string ⟨l[i].toArray⟩)) : Calls Tryd.prog 18 #[.slice (some ⟨b, 0, none⟩) l.length c, .slice (some ⟨b', 0, none⟩) l.length c'] w fun x w' => x = .returned (.bool true) ∧ Below w.heap.size w w' := by
  have H := Lib.hid h
  have H' := Lib.hid h'
  clear h h'
  go_enter Tryd.func18, Tryd.ntmps18
  go_wp2
  go_loopw [5] (fun i W => ∃ k : Nat, k ≤ l.length ∧ i = .int .i64 k ∧ Below w.heap.size w W) (fun i _ => l.length - (intOf i).toNat)
  case atStart => exact ⟨0, Nat.zero_le _, rfl, Below.refl _ _⟩
  case round =>
    obtain ⟨k, hk, rfl, hW⟩ := hrel
    by_cases hlt : k < l.length
    · have c0 := (hW.cell (block_lt_of_cell (H.out k hlt))).trans (H.out k hlt)
      have c1 := (hW.cell (block_lt_of_cell (H'.out k hlt))).trans (H'.out k hlt)
      go_wp2
      go_quiet (fail)
      go_wp2
      exact ⟨⟨k + 1, hlt, by go_num, below_drewN hW _⟩, by simp [intOf]; omega⟩
    · go_wp2
      go_ret
      exact ⟨rfl, hW⟩
theorem same_any (B B' : Nat) (v v' : Value) (l : List (List UInt8)) (w : World) (h : Tx B w v l) (h' : Tx B' w v' l) (hn : l.length ≤ 1000) : Calls Tryd.prog 18 #[v, v'] w fun x w' => x = .returned (.bool true) ∧ Below w.heap.size w w' := by
  rcases h.is with ⟨h1, rfl⟩ | ⟨b, c, rfl, h0, h2, h3⟩
  · subst h1
    rcases h'.is with ⟨_, rfl⟩ | ⟨b', c', rfl, _, _, _⟩
    · exact (same_nil _ _ _ _ w).mono fun x w' ⟨h1, h2⟩ => ⟨h1, by rw [h2]; exact Below.refl _ _⟩
    · exact (same_nil _ _ _ _ w).mono fun x w' ⟨h1, h2⟩ => ⟨h1, by rw [h2]; exact Below.refl _ _⟩
  · rcases h'.is with ⟨h4, rfl⟩ | ⟨b', c', rfl, _, _, h6⟩
    · subst h4
      exact (same_nil _ _ _ _ w).mono fun x w' ⟨h1, h2⟩ => ⟨h1, by rw [h2]; exact Below.refl _ _⟩
    · exact same_row b c b' c' l w hn h3 h6

section
variable {w W : World} {b c i m : Nat} {mb : Option Nat} {K : Kv Rx} {L : Kv Ent} {e : Bool} {cc : Int} {bd : Bool} {r lf bt : Int}
/-- What is left to do behind the program's Cut, or Room. -/
structure A1 (w : World) (b c i o : Nat) (n : Int) (W W2 : World) : Prop where
  f : F29 W W2
  lt : c < W2.heap.size
  cell : ∃ z : Int, W2.cell? ⟨c, o, none⟩ = some (.int .i64 z)
  fz : W2.frozen? ⟨c, o, none⟩ = false
  j : J w b c i (W2.setCell ⟨c, o, none⟩ (.int .i64 (max n (-1))))
  f2 : F29 W2 (W2.setCell ⟨c, o, none⟩ (.int .i64 (max n (-1))))
theorem act_cut (h : JX w b c i mb m K L e cc bd r lf bt W) (n : Int) (hn : n ≤ 9223372036854775807) : Calls Tryd.prog 13 #[.pointer (some ⟨b, 0, none⟩), .int .i64 n] W fun x W2 => x = .returned (.tuple #[]) ∧ A1 w b c i 1 n W W2 := by
  refine (cut_any b mb L e cc bd r n W h.pd).mono fun x W2 ⟨hx, hpd, hkp⟩ => ⟨hx, ?_⟩
  obtain ⟨hF, hbl, hrd, mb', hpd, hne, hmb⟩ := h.prog (Po.same hpd (kp_dx hkp))
  have hr := rc_of hrd.blk
  have ho : Ro c m L (max n (-1)) bt W2 (W2.setCell ⟨c, 1, none⟩ (.int .i64 (max n (-1)))) := Ro.same (hrd.set kp1 (heap_set hrd.blk)) (kp_rx kp1)
  obtain ⟨h1, h2⟩ := j_ref (i := i) h.hb h.hc h.hm hbl hpd hrd hne hmb ho ⟨pw_cut n, h.jn.rm, h.jn.bn, h.jn.len, h.jn.ky, hn, by omega⟩
  exact ⟨hF, hr.lt, ⟨_, hr.c1⟩, hr.f1, h2, h1⟩
theorem act_room (h : JX w b c i mb m K L e cc bd r lf bt W) (n : Int) : Calls Tryd.prog 14 #[.pointer (some ⟨b, 0, none⟩), .int .i64 n] W fun x W2 => x = .returned (.tuple #[]) ∧ A1 w b c i 2 n W W2 := by
  refine (room_any b mb L e cc bd r n W h.pd).mono fun x W2 ⟨hx, hpd, hkp⟩ => ⟨hx, ?_⟩
  obtain ⟨hF, hbl, hrd, mb', hpd, hne, hmb⟩ := h.prog (Po.same hpd (kp_dx hkp))
  have hr := rc_of hrd.blk
  have ho : Ro c m L lf (max n (-1)) W2 (W2.setCell ⟨c, 2, none⟩ (.int .i64 (max n (-1)))) := Ro.same (hrd.set kp1 (heap_set hrd.blk)) (kp_rx kp1)
  obtain ⟨h1, h2⟩ := j_ref (i := i) h.hb h.hc h.hm hbl hpd hrd hne hmb ho ⟨h.jn.pw, rm_cut n, h.jn.bn, h.jn.len, h.jn.ky, h.jn.c1, h.jn.l1⟩
  exact ⟨hF, hr.lt, ⟨_, hr.c2⟩, hr.f2, h2, h1⟩
theorem bn1000 {L : Kv Ent} (h : Bn 200 L) : Bn 1000 L := ⟨fun k a ha => by have := h.is k a ha; omega⟩
theorem stL_len (L : Kv Ent) (n : Int) : (stL L n).length ≤ L.length := List.length_filterMap_le _ _
theorem act_start (h : JX w b c i mb m K L e cc bd r lf bt W) (hi : i < 60) (n : Int) (hn : n ≤ 9223372036854775807) : Calls Tryd.prog 15 #[.pointer (some ⟨b, 0, none⟩), .int .i64 n] W fun x W2 => x = .returned (.tuple #[]) ∧ F29 W W2 ∧ Calls Tryd.prog 16 #[.pointer (some ⟨c, 0, none⟩), .int .i64 n] W2 fun y W3 => y = .returned (.tuple #[]) ∧ F29 W2 W3 ∧ J w b c i W3 := by
  have hkl : ∀ k ∈ nms L, k.length ≤ 1000 := fun k hk => by
    obtain ⟨a, ha⟩ := nms_mem.1 hk
    have := h.jn.ky k a ((lk_iff h.pd.srt).2 ha)
    omega
  have hlen := h.jn.len
  refine (start_any b mb L e cc bd r n W h.pd (bn1000 h.jn.bn) (by omega) hkl hn).mono fun x W2 ⟨hx, hp⟩ => ?_
  obtain ⟨hF, hbl, hrd, mb', hpd, hne, hmb⟩ := h.prog hp
  refine ⟨hx, hF, ?_⟩
  refine (rstart_any c m K L lf bt n W2 hrd (bn1000 h.jn.bn) (by omega) hkl hn).mono fun y W3 ⟨hy, ho⟩ => ?_
  have hj : Jn i (stL L n) false (-1) bd r (-1) bt := by
    refine ⟨⟨.inr ⟨rfl, rfl⟩⟩, h.jn.rm, ⟨fun k a ha => ?_⟩, by have := stL_len L n; omega, fun k a ha => ?_, by omega, by omega⟩
    · rw [stL_lk h.pd.srt] at ha
      exact gl_le (fun e' he => h.jn.bn.is k e' he) a ha
    · rw [stL_lk h.pd.srt] at ha
      obtain ⟨e', he, _⟩ := Option.bind_eq_some_iff.1 ha
      exact h.jn.ky k e' he
  obtain ⟨h1, h2⟩ := j_ref (i := i) h.hb h.hc h.hm hbl hpd hrd hne hmb ho hj
  exact ⟨hy, h1, h2⟩
end
end Go.Proofs.YtjllnhdampjieaaDoor
