/- The walks of the law's fields, sameFields, lined. -/
import Derived.Test.YtniknhfpbcbcbabDoorMc
namespace Go.Proofs.YtniknhfpbcbcbabDoor
open Go.RowKit Go.Shelf Go.Sort

def f1 (f : Sm.F) : Bool := decide (f.1.length ≤ 100) && decide (f.2.length ≤ 400)
def fo (l : List Sm.F) : Bool := decide (l.length ≤ 60) && l.all f1
theorem sz_of {l : List Sm.F} (h : fo l = true) : Sz l := by
  unfold fo at h
  rw [Bool.and_eq_true, List.all_eq_true] at h
  exact ⟨by simpa using h.1, fun f hf => by have := h.2 f hf; simp [f1] at this; omega⟩

theorem fo_long (A : Option Addr) (n c : Nat) (w : World) (h : 60 < n) : Calls Tryd.prog 7 #[.slice A n c] w fun e w' => e = .returned (.bool false) ∧ w' = w := by
  go_enter Tryd.func7, Tryd.ntmps7
  go_wp2
  go_ret
  exact ⟨rfl, rfl⟩
theorem fo_nil (A : Option Addr) (c : Nat) (w : World) : Calls Tryd.prog 7 #[.slice A 0 c] w fun e w' => e = .returned (.bool true) ∧ w' = w := by
  go_enter Tryd.func7, Tryd.ntmps7
  go_wp2
  refine wp_loop_rounds 1 ?_
  rw [rounds_succ]
  go_wp2
  go_ret
  exact ⟨rfl, rfl⟩

set_option maxHeartbeats 1600000 in
set_option maxRecDepth 100000 in
theorem fo_row (b o c : Nat) (l : List Sm.F) (w : World) (h : Fl w b o l) (hn : l.length ≤ 60) : Calls Tryd.prog 7 #[.slice (some ⟨b, o, none⟩) l.length c] w fun e w' => e = .returned (.bool (l.all f1)) ∧ w' = w := by
  obtain ⟨r, hr⟩ : ∃ r, r = l.all f1 := ⟨_, rfl⟩
  have HR := Lib.hid hr
  rw [← hr]
  clear hr
  have HF := Lib.hid h
  clear h
  go_enter Tryd.func7, Tryd.ntmps7
  go_wp2
  go_loop [3] (fun i => ∃ k : Nat, k ≤ l.length ∧ i = .int .i64 k ∧ Hid (∀ j (hj : j < l.length), j < k → f1 l[j] = true)) (fun i => l.length - (intOf i).toNat)
  case atStart => exact ⟨0, Nat.zero_le _, rfl, fun j _ h => absurd h (Nat.not_lt_zero _)⟩
  case round =>
    obtain ⟨k, hk, rfl, HP⟩ := hrel
    by_cases hlt : k < l.length
    · have c0 := HF.out.c0 k hlt
      have c1 := HF.out.c1 k hlt
      have HN : Hid (f1 l[k] = false → r = false) := fun e => by
        rw [HR.out, List.all_eq_false]
        exact ⟨l[k], List.getElem_mem hlt, by simp [e]⟩
      have HM : Hid (f1 l[k] = true → ∀ j (hj : j < l.length), j < k + 1 → f1 l[j] = true) := fun e j hj h => by
        by_cases e2 : j = k
        · subst e2; exact e
        · exact HP.out j hj (by omega)
      by_cases h1 : l[k].1.length ≤ 100
      · by_cases h2 : l[k].2.length ≤ 400
        · have HG := Lib.hid (HM.out (by simp [f1, h1, h2]))
          clear HN HM
          go_wp2
          exact ⟨⟨k + 1, hlt, by go_num, HG⟩, by simp [intOf]; omega⟩
        · have HG := Lib.hid (HN.out (by simp [f1, h2]))
          clear HN HM
          go_wp2
          go_ret
          exact ⟨ret_bool HG.out.symm, rfl⟩
      · have HG := Lib.hid (HN.out (by simp [f1, h1]))
        clear HN HM
        go_wp2
        go_ret
        exact ⟨ret_bool HG.out.symm, rfl⟩
    · have hall : l.all f1 = true := by
        rw [List.all_eq_true]
        intro f hf
        obtain ⟨j, hj, rfl⟩ := List.getElem_of_mem hf
        exact HP.out j hj (by omega)
      have HG := Lib.hid (HR.out.trans hall)
      go_wp2
      go_ret
      exact ⟨ret_bool HG.out.symm, rfl⟩
theorem fo_any (v : Value) (l : List Sm.F) (w : World) (h : Sl w v l) : Calls Tryd.prog 7 #[v] w fun e w' => e = .returned (.bool (fo l)) ∧ w' = w := by
  rcases h.is with ⟨rfl, A, c, rfl⟩ | ⟨b, o, c, rfl, hc, hf⟩
  · exact fo_nil A c w
  · by_cases hn : l.length ≤ 60
    · rw [show fo l = l.all f1 from by simp [fo, hn]]
      exact fo_row b o c l w hf hn
    · rw [show fo l = false from by simp [fo, hn]]
      exact fo_long _ _ c w (by omega)

theorem same_nil (A A' : Option Addr) (c c' : Nat) (w : World) : Calls Tryd.prog 11 #[.slice A 0 c, .slice A' 0 c'] w fun x w' => x = .returned (.bool true) ∧ w' = w := by
  go_enter Tryd.func11, Tryd.ntmps11
  go_wp2
  refine wp_loop_rounds 1 ?_
  rw [rounds_succ]
  go_wp2
  go_ret
  exact ⟨rfl, rfl⟩

set_option maxHeartbeats 1600000 in
set_option maxRecDepth 100000 in
theorem same_row (b o c b' o' c' : Nat) (l : List Sm.F) (w : World) (h : Fl w b o l) (h' : Fl w b' o' l) (hn : l.length ≤ 1000000) : Calls Tryd.prog 11 #[.slice (some ⟨b, o, none⟩) l.length c, .slice (some ⟨b', o', none⟩) l.length c'] w fun x w' => x = .returned (.bool true) ∧ Below w.heap.size w w' := by
  have HF := Lib.hid h
  have HG := Lib.hid h'
  clear h h'
  go_enter Tryd.func11, Tryd.ntmps11
  go_wp2
  go_loopw [5] (fun i W => ∃ k : Nat, k ≤ l.length ∧ i = .int .i64 k ∧ Below w.heap.size w W) (fun i _ => l.length - (intOf i).toNat)
  case atStart => exact ⟨0, Nat.zero_le _, rfl, Below.refl _ _⟩
  case round =>
    obtain ⟨k, hk, rfl, hW⟩ := hrel
    by_cases hlt : k < l.length
    · have hD := hW.drew
      have c0 := (HF.out.on hD).c0 k hlt
      have c1 := (HF.out.on hD).c1 k hlt
      have d0 := (HG.out.on hD).c0 k hlt
      have d1 := (HG.out.on hD).c1 k hlt
      go_wp2
      go_region
      all_goals go_wp2
      all_goals exact ⟨⟨k + 1, hlt, by go_num, hD⟩, by simp [intOf]; omega⟩
    · go_wp2
      go_ret
      exact ⟨rfl, hW⟩
theorem same_any (v v' : Value) (l : List Sm.F) (w : World) (h : Sl w v l) (h' : Sl w v' l) (hn : l.length ≤ 1000000) : Calls Tryd.prog 11 #[v, v'] w fun x w' => x = .returned (.bool true) ∧ Below w.heap.size w w' := by
  have nil := fun A A' c c' => (same_nil A A' c c' w).mono fun x w' ⟨h1, h2⟩ => show x = Ending.returned (.bool true) ∧ Below w.heap.size w w' from ⟨h1, by rw [h2]; exact Below.refl _ _⟩
  rcases h.is with ⟨rfl, A, c, rfl⟩ | ⟨b, o, c, rfl, _, hf⟩
  · rcases h'.is with ⟨_, A', c', rfl⟩ | ⟨b', o', c', rfl, _, _⟩
    · exact nil A A' c c'
    · exact nil A _ c c'
  · rcases h'.is with ⟨rfl, A', c', rfl⟩ | ⟨b', o', c', rfl, _, hf'⟩
    · exact nil _ A' c c'
    · exact same_row b o c b' o' c' l w hf hf' hn
/-- A row of owned rows: its cells, and what each is. -/
structure Rw (W : World) (S : Value) (o : List (List Sm.F)) : Prop where
  ex : ∃ (A : Option Addr) (c : Nat), S = .slice A o.length c
  at' : ∀ i (hi : i < o.length), ∃ g c v, S = .slice (some ⟨g, 0, none⟩) o.length c ∧ W.cell? ⟨g, i, none⟩ = some v ∧ Sl W v o[i]
theorem Rw.on {W W' : World} {S : Value} {o : List (List Sm.F)} (h : Rw W S o) (b : Below W.heap.size W W') : Rw W' S o :=
  ⟨h.ex, fun i hi => by
    obtain ⟨g, c, v, h1, h2, h3⟩ := h.at' i hi
    exact ⟨g, c, v, h1, by rw [b.cell (block_lt_of_cell h2)]; exact h2, h3.on b⟩⟩
theorem rw_of {W : World} {B : Nat} {S : Value} {vs : List Value} {o : List (List Sm.F)} (h : W.ownsRow B 22 1 S vs.length vs) (hl : vs.length = o.length) (hv : ∀ i (hi : i < vs.length) (hj : i < o.length), W.ownsRow B 37 2 vs[i] o[i].length (fcl o[i])) : Rw W S o := by
  refine ⟨?_, fun i hi => ?_⟩
  · obtain ⟨X, c, h1⟩ := isSlice h
    exact ⟨X, c, by rw [h1, hl]⟩
  · have hi' : i < vs.length := by omega
    obtain ⟨g, c, rfl⟩ := Go.Joins.ownsRow_form h (by omega)
    refine ⟨g, c, vs[i], by rw [hl], ?_, sl_owned (hv i hi' hi)⟩
    have := h.cellAt (g := g) i (by omega)
    rw [this]
    simp [hi']


/-- The text of lined, and what is read of it. -/
def lnd : List UInt8 := [35, 32, 120, 10, 65, 58, 32, 98, 10, 32, 99, 10, 32, 46, 46, 100, 10, 10, 69, 58, 102, 10]
theorem lnd_run : run 0 [] [] (Sm.spl lnd) = .ok [[([65], [98, 10, 99, 10, 46, 100])], [([69], [102])]] := by rfl

theorem sl_one {W : World} {v : Value} {f : Sm.F} (h : Sl W v [f]) : ∃ b o c, v = .slice (some ⟨b, o, none⟩) 1 c ∧ W.cell? ⟨b, o, none⟩ = some (.string ⟨f.1.toArray⟩) ∧ W.cell? ⟨b, o + 1, none⟩ = some (.string ⟨f.2.toArray⟩) := by
  rcases h.is with ⟨h0, _⟩ | ⟨b, o, c, rfl, _, hf⟩
  · cases h0
  · exact ⟨b, o, c, rfl, by simpa using hf.c0 0 (by simp), by simpa using hf.c1 0 (by simp)⟩

set_option maxHeartbeats 1600000 in
set_option maxRecDepth 100000 in
theorem lined_any (w : World) : Calls Tryd.prog 8 #[] w fun x w' => x = .returned (.bool true) ∧ Below w.heap.size w w' := by
  have A := parse_any lnd w (by decide)
  rw [lnd_run] at A
  have HA := Lib.hid A
  clear A
  go_enter Tryd.func8, Tryd.ntmps8
  go_wp2_with fail
  refine HA.out.mono ?_
  rintro e w1 ⟨S, vs, rfl, o1, l1, r1, b1⟩
  have R := rw_of o1 l1 r1
  clear o1 l1 r1 HA
  obtain ⟨g, c, v, rfl, q0, s0⟩ := R.at' 0 (by decide)
  obtain ⟨g', c', v', e1, q1, s1⟩ := R.at' 1 (by decide)
  cases e1
  obtain ⟨b, o, d, rfl, p0, p1⟩ := sl_one s0
  obtain ⟨b', o', d', rfl, p2, p3⟩ := sl_one s1
  clear R s0 s1
  go_wp2_with fail
  go_ret
  exact ⟨rfl, b1⟩

theorem sm_up (c : UInt8) : Sm.sm (Lib.upperB c) = Sm.sm c := by
  have h : ∀ n : Fin 256, Sm.sm (Lib.upperB (UInt8.ofNat n.val)) = Sm.sm (UInt8.ofNat n.val) := by decide +kernel
  have := h ⟨c.toNat, c.toNat_lt⟩
  simpa using this
theorem small_up (n : List UInt8) : Sm.small (Lib.toUpperA n) = Sm.small n := by
  unfold Sm.small Lib.toUpperA
  rw [List.map_map]
  congr 1
  funext c
  exact sm_up c
theorem upper_any (n : List UInt8) (w : World) (hn : n.all Sm.nb = true) (hl : n.length ≤ 1000000) : Calls Tryd.prog 13 #[.string ⟨n.toArray⟩] w fun e w' => e = .returned (.string ⟨(Lib.toUpperA n).toArray⟩) ∧ Below w.heap.size w w' := by
  refine Tryd.strings_ToUpper_ascii ⟨n.toArray⟩ w (by simp [ByteArray.size]; omega) (fun j b hb => ?_)
  have hm : b ∈ n := List.mem_of_getElem? (by simpa using hb)
  have := List.all_eq_true.1 hn b hm
  unfold Sm.nb at this
  simp only [Bool.and_eq_true, decide_eq_true_eq] at this
  omega
end Go.Proofs.YtniknhfpbcbcbabDoor
