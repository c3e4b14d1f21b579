/- The law's own small functions: short, texts, sameTexts, sameStatus. -/
import Derived.Test.YtoojbpldhhbkbaaGreatDoorHk
namespace Go.Proofs.YtoojbpldhhbkbaaGreatDoor
open Go.RowKit Go.Shelf Go.Sort

theorem lshort_any (e : Int) (u r : List UInt8) (w : World) : Calls Tryz.prog 4 #[.agg #[.int .i64 e, .string ⟨u.toArray⟩, .string ⟨r.toArray⟩]] w fun x w' =>
    x = .returned (.bool (decide (u.length ≤ 100) && decide (r.length ≤ 100))) ∧ Below w.heap.size w w' := by
  have hb : ∀ o, Below w.heap.size w (w.alloc o) := fun o => (Below.refl _ _).alloc (Nat.le_refl _) _
  by_cases h1 : u.length ≤ 100
  all_goals by_cases h2 : r.length ≤ 100
  all_goals
    go_enter Tryz.func4, Tryz.ntmps4
    go_wp2
    go_ret
    exact ⟨ret_bool (by apply Bool.eq_iff_iff.2; constructor <;> intro hh <;> simp at hh ⊢ <;> omega), hb _⟩
theorem texts_long (A : Option Addr) (n c : Nat) (w : World) (h : 40 < n) : Calls Tryz.prog 5 #[.slice A n c] w fun e w' => e = .returned (.bool false) ∧ w' = w := by
  go_enter Tryz.func5, Tryz.ntmps5
  go_wp2
  go_ret
  exact ⟨rfl, rfl⟩
theorem texts_nil (A : Option Addr) (c : Nat) (w : World) : Calls Tryz.prog 5 #[.slice A 0 c] w fun e w' => e = .returned (.bool true) ∧ w' = w := by
  go_enter Tryz.func5, Tryz.ntmps5
  go_wp2
  refine wp_loop_rounds 1 ?_
  rw [rounds_succ]
  go_wp2
  go_ret
  exact ⟨rfl, rfl⟩
set_option maxHeartbeats 1600000 in
theorem texts_row (b o c : Nat) (l : List (List UInt8)) (w : World) (h : Sr w b o l) (hn : l.length ≤ 40) : Calls Tryz.prog 5 #[.slice (some ⟨b, o, none⟩) l.length c] w fun e w' => e = .returned (.bool (l.all fun s => decide (s.length ≤ 100))) ∧ w' = w := by
  obtain ⟨r, hr⟩ : ∃ r, r = (l.all fun s => decide (s.length ≤ 100)) := ⟨_, rfl⟩
  rw [← hr]
  have HR := Lib.hid hr
  have HF := Lib.hid h
  clear h hr
  go_enter Tryz.func5, Tryz.ntmps5
  go_wp2
  go_loop [3] (fun i => ∃ k : Nat, k ≤ l.length ∧ i = .int .i64 k ∧ Hid (∀ j (hj : j < l.length), j < k → decide (l[j].length ≤ 100) = true)) (fun i => l.length - (intOf i).toNat)
  case atStart => exact ⟨0, Nat.zero_le _, rfl, fun j _ h => absurd h (Nat.not_lt_zero _)⟩
  case round =>
    obtain ⟨k, hk, rfl, HP⟩ := hrel
    by_cases hlt : k < l.length
    · have c0 := HF.out.c k hlt
      by_cases h1 : l[k].length ≤ 100
      · have HG : Hid (∀ j (hj : j < l.length), j < k + 1 → decide (l[j].length ≤ 100) = true) := fun j hj h => by
          by_cases e : j = k
          · subst e; exact decide_eq_true h1
          · exact HP.out j hj (by omega)
        go_wp2
        exact ⟨⟨k + 1, hlt, by go_num, HG⟩, by simp [intOf]; omega⟩
      · have hr : r = false := by rw [HR.out]; exact all_f k hlt (decide_eq_false h1)
        subst hr
        go_wp2
        go_ret
        exact ⟨rfl, rfl⟩
    · have hr : r = true := by rw [HR.out]; exact all_t (fun j hj => HP.out j hj (by omega))
      subst hr
      go_wp2
      go_ret
      exact ⟨rfl, rfl⟩
theorem texts_any (v : Value) (l : List (List UInt8)) (w : World) (h : Ss w v l) : Calls Tryz.prog 5 #[v] w fun e w' => e = .returned (.bool (txs l)) ∧ Below w.heap.size w w' := by
  have up : ∀ {y : Bool} {e : Ending} {w' : World}, (e = .returned (.bool y) ∧ w' = w) → txs l = y → e = .returned (.bool (txs l)) ∧ Below w.heap.size w w' := fun ⟨h1, h2⟩ hy => ⟨by rw [h1, hy], by rw [h2]; exact Below.refl _ _⟩
  rcases h.is with ⟨rfl, A, c, rfl⟩ | ⟨b, o, c, rfl, _, hf⟩
  · exact (texts_nil A c w).mono fun _ _ h => up h rfl
  · by_cases hn : l.length ≤ 40
    · exact (texts_row b o c l w hf hn).mono fun _ _ h => up h (by unfold txs; rw [decide_eq_true hn]; rfl)
    · exact (texts_long _ _ c w (by omega)).mono fun _ _ h => up h (by unfold txs; rw [decide_eq_false hn]; rfl)
theorem same_nil (A A' : Option Addr) (c c' : Nat) (w : World) : Calls Tryz.prog 40 #[.slice A 0 c, .slice A' 0 c'] w fun x w' => x = .returned (.bool true) ∧ Below w.heap.size w w' := by
  go_enter Tryz.func40, Tryz.ntmps40
  go_wp2
  refine wp_loop_rounds 1 ?_
  rw [rounds_succ]
  go_wp2
  go_ret
  exact ⟨rfl, Below.refl _ _⟩
set_option maxHeartbeats 1600000 in
theorem same_row (b o c b' o' c' : Nat) (l : List (List UInt8)) (w : World) (h : Sr w b o l) (h' : Sr w b' o' l) (hn : l.length ≤ 1000000) : Calls Tryz.prog 40 #[.slice (some ⟨b, o, none⟩) l.length c, .slice (some ⟨b', o', none⟩) l.length c'] w fun x w' => x = .returned (.bool true) ∧ Below w.heap.size w w' := by
  have HF := Lib.hid h
  have HG := Lib.hid h'
  clear h h'
  go_enter Tryz.func40, Tryz.ntmps40
  go_wp2
  go_loopw [5] (fun i W => ∃ k : Nat, k ≤ l.length ∧ i = .int .i64 k ∧ Below w.heap.size w W) (fun i _ => l.length - (intOf i).toNat)
  case atStart => exact ⟨0, Nat.zero_le _, rfl, Below.refl _ _⟩
  case round =>
    obtain ⟨k, hk, rfl, hW⟩ := hrel
    by_cases hlt : k < l.length
    · have hD := hW.drew
      have c0 := (HF.out.on hD).c k hlt
      have d0 := (HG.out.on hD).c k hlt
      go_wp2
      go_region
      all_goals go_wp2
      all_goals exact ⟨⟨k + 1, hlt, by go_num, hD⟩, by simp [intOf]; omega⟩
    · go_wp2
      go_ret
      exact ⟨rfl, hW⟩
theorem same_any (v v' : Value) (l : List (List UInt8)) (w : World) (h : Ss w v l) (h' : Ss w v' l) (hn : l.length ≤ 1000000) : Calls Tryz.prog 40 #[v, v'] w fun x w' => x = .returned (.bool true) ∧ Below w.heap.size w w' := by
  by_cases h0 : l = []
  · subst h0
    obtain ⟨A, c, rfl⟩ := h.sl
    obtain ⟨A', c', rfl⟩ := h'.sl
    exact same_nil A A' c c' w
  · rcases h.is with ⟨h1, _⟩ | ⟨b, o, c, rfl, _, hs⟩
    · exact absurd h1 h0
    · rcases h'.is with ⟨h1, _⟩ | ⟨b', o', c', rfl, _, hs'⟩
      · exact absurd h1 h0
      · exact same_row b o c b' o' c' l w hs hs' hn
set_option maxRecDepth 100000 in
theorem eqvv (e : Int) (u r : List UInt8) (w : World) : (Op.equalIn 10000 23 (.agg #[.int .i64 e, .string ⟨u.toArray⟩, .string ⟨r.toArray⟩]) (.agg #[.int .i64 e, .string ⟨u.toArray⟩, .string ⟨r.toArray⟩])).run Tryz.prog w = .ok true w := by
  have u3 := Tryz.underlying3
  have a3 := Tryz.isAgg3
  have z3 := Tryz.sizeOf3
  have u9 := Tryz.underlying9
  have a9 := Tryz.isAgg9
  have z9 := Tryz.sizeOf9
  rw [show (10000 : Nat) = 9999 + 1 from rfl, run_equalIn_agg _ _ _ _ _ fields23 stood23]
  simp only [Program.fieldsOf, Tryz.underlying23]
  go_simp
set_option maxRecDepth 100000 in
set_option maxHeartbeats 3200000 in
theorem sames_any (x : Sta) (A A' B B' : Option Addr) (m m' c c' p p' d d' : Nat) (w : World) (hW : Ss w (.slice A m c) x.W) (hT : Ss w (.slice A' m' c') x.T) (hV : Ss w (.slice B p d) x.W) (hU : Ss w (.slice B' p' d') x.T) (hn : x.W.length ≤ 1000) (hn' : x.T.length ≤ 1000) :
    Calls Tryz.prog 13 #[stv x.n x.e x.u x.r x.held (.slice A m c) (.slice A' m' c'), stv x.n x.e x.u x.r x.held (.slice B p d) (.slice B' p' d')] w fun y w' => y = .returned (.bool true) ∧ Below w.heap.size w w' := by
  have b1 := bA1 w (sto x.n x.e x.u x.r x.held (.slice A m c) (.slice A' m' c') 29)
  have b2 := bA1 (w.alloc (sto x.n x.e x.u x.r x.held (.slice A m c) (.slice A' m' c') 29)) (sto x.n x.e x.u x.r x.held (.slice B p d) (.slice B' p' d') 26)
  have S1 := (stc_new w x.n x.e x.u x.r x.held (.slice A m c) (.slice A' m' c') 29).on b2
  have S2 := stc_new (w.alloc (sto x.n x.e x.u x.r x.held (.slice A m c) (.slice A' m' c') 29)) x.n x.e x.u x.r x.held (.slice B p d) (.slice B' p' d') 26
  have b12 := bt2 b1 b2
  have c1 := same_any _ _ x.W _ (hW.on b12) (hV.on b12) (by omega)
  have HT := Lib.hid (hT.on b12)
  have HU := Lib.hid (hU.on b12)
  have HS1 := Lib.hid S1
  have HS2 := Lib.hid S2
  have HB := Lib.hid b12
  have hE := eqvv x.e x.u x.r
  have hG := guard23
  have hz : (w.alloc (sto x.n x.e x.u x.r x.held (.slice A m c) (.slice A' m' c') 29)).heap.size = w.heap.size + 1 := by simp
  clear b1 b2 b12 hW hT hV hU
  go_enter Tryz.func13, Tryz.ntmps13
  go_wp2_with fail
  with_reducible refine c1.mono ?_
  rintro y w3 ⟨rfl, b3⟩
  have c2 := same_any _ _ x.T w3 (HT.out.on b3) (HU.out.on b3) (by omega)
  obtain ⟨_, a0, a1, a2, a3, a4, a5, a6⟩ := HS1.out.on b3
  have S3 := HS2.out.on b3
  rw [hz] at S3
  obtain ⟨_, d0, d1, d2, d3, d4, d5, d6⟩ := S3
  clear c1
  go_wp2_with fail
  with_reducible refine c2.mono ?_
  rintro y w4 ⟨rfl, b4⟩
  go_wp2
  go_ret
  exact ⟨rfl, bt2 HB.out (bt2 b3 b4)⟩
end Go.Proofs.YtoojbpldhhbkbaaGreatDoor
