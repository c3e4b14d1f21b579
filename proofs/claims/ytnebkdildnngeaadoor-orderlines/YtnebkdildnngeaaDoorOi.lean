/- What is wrong with edges; Rings. -/
import Derived.Test.YtnebkdildnngeaaDoorOh
namespace Go.Proofs.YtnebkdildnngeaaDoor
open Go.RowKit Go.Sort

/-- An edge that has a number that is none of them. -/
def bade (n : Int) (e : E) : Bool := decide (e.1 < 0) || decide (n ≤ e.1) || decide (e.2 < 0) || decide (n ≤ e.2)
inductive Ro where
  | ok : Ro
  | lim : Ro
  | at : Nat → Ro
def roL (n : Int) (l : List E) : Ro := match l.findIdx? (bade n) with | none => .ok | some i => .at i
def ro (n : Int) (l : List E) : Ro := if n < 0 ∨ 40 < n then .lim else roL n l
/-- An error, as it lies in memory. -/
def Ev (W : World) : Ro → Value → Prop
  | .ok, v => v = .nilIface
  | .lim, v => v = .iface 24 (.int .i64 4)
  | .at i, v => ∃ q, v = .iface 60 (pt q) ∧ W.heap[q]? = some (.cells #[.int .i64 2, .int .i64 i] 61)
theorem Ev.on {W W' : World} {r : Ro} {v : Value} (h : Ev W r v) (k : Below W.heap.size W W') : Ev W' r v := by
  cases r with
  | ok => exact h
  | lim => exact h
  | «at» i =>
    obtain ⟨q, h1, h2⟩ := h
    exact ⟨q, h1, (k.block q (Array.getElem?_eq_some_iff.1 h2).1).trans h2⟩
theorem rn_of {n : Nat} {l : List E} (h : l.findIdx? (bade n) = none) : Rn n l := by
  rw [List.findIdx?_eq_none_iff] at h
  intro e he
  have := h e he
  unfold bade at this
  simp at this
  omega
set_option maxHeartbeats 1600000 in
set_option maxRecDepth 100000 in
theorem right_lim (n : Int) (v : Value) (w : World) (h : n < 0 ∨ 40 < n) : Calls Tryd.prog 13 #[.int .i64 n, v] w fun e w' => e = .returned (.iface 24 (.int .i64 4)) ∧ w' = w := by
  rcases h with h | h
  · go_enter Tryd.func13, Tryd.ntmps13
    go_wp2
    go_ret
    exact ⟨rfl, rfl⟩
  · have h0 : ¬ n < 0 := by omega
    go_enter Tryd.func13, Tryd.ntmps13
    go_wp2
    go_ret
    exact ⟨rfl, rfl⟩
set_option maxHeartbeats 1600000 in
set_option maxRecDepth 100000 in
theorem right_in (n : Nat) (A : Option Addr) (c : Nat) (l : List E) (w : World) (hn : n ≤ 40) (hl : l.length ≤ 1000000) (h : Es w (.slice A l.length c) l) : Calls Tryd.prog 13 #[.int .i64 n, .slice A l.length c] w fun e w' => ∃ v, e = .returned v ∧ Ev w' (roL n l) v ∧ Below w.heap.size w w' := by
  obtain ⟨r, hr⟩ : ∃ r, r = roL n l := ⟨_, rfl⟩
  have HR := Lib.hid hr
  rw [← hr]
  have HE := Lib.hid h
  clear hr h
  have h0 : ¬ (n : Int) < 0 := by omega
  have h1 : ¬ (40 : Int) < (n : Int) := by omega
  go_enter Tryd.func13, Tryd.ntmps13
  go_wp2
  go_loopw [16] (fun i W => ∃ k : Nat, k ≤ l.length ∧ i = .int .i64 k ∧ Below w.heap.size w W ∧ Hid (∀ j (hj : j < l.length), j < k → bade n l[j] = false)) (fun i _ => l.length - (intOf i).toNat)
  case atStart => exact ⟨0, Nat.zero_le _, rfl, Below.refl _ _, fun j _ h => absurd h (Nat.not_lt_zero _)⟩
  case round =>
    obtain ⟨k, hk, rfl, hW, HP⟩ := hrel
    by_cases hlt : k < l.length
    · obtain ⟨b, o, rfl, hEr⟩ := es_row (HE.out.on hW) (by omega)
      have c0 := hEr.c0 k hlt
      have c1 := hEr.c1 k hlt
      have HB : Hid (bade n l[k] = true → r = .at k) := fun h => by rw [HR.out]; unfold roL; rw [fi_yes k hlt h (fun j hj hjk => HP.out j hj hjk)]
      have HN : Hid (bade n l[k] = false → ∀ j (hj : j < l.length), j < k + 1 → bade n l[j] = false) := fun h j hj hjk => by
        by_cases e : j = k
        · subst e; exact h
        · exact HP.out j hj (by omega)
      generalize l[k] = e at c0 c1 HB HN
      obtain ⟨x, y⟩ := e
      dsimp only at c0 c1
      have b1 := bA1 wr (.cells #[.int .i64 x, .int .i64 y] 51)
      have k1 := bon hW b1
      have HQ : Hid (∀ W, Below w.heap.size w W → bade n (x, y) = true → ∃ v, Ending.returned (.iface 60 (pt W.heap.size)) = .returned v ∧ Ev (W.alloc (.cells #[.int .i64 2, .int .i64 k] 61)) r v ∧ Below w.heap.size w (W.alloc (.cells #[.int .i64 2, .int .i64 k] 61))) := fun W hWW hb => ⟨_, rfl, by rw [HB.out hb]; exact ⟨_, rfl, nb0 _ _⟩, bon hWW (bA1 W _)⟩
      clear hEr HB hW b1
      by_cases t1 : x < 0
      · have hb : bade n (x, y) = true := by unfold bade; simp [t1]
        have HQ2 := Lib.hid (HQ.out _ k1 hb); rw [World.size_alloc] at HQ2
        clear HQ hb
        go_wp2
        go_ret
        exact HQ2.out
      · by_cases t2 : (n : Int) ≤ x
        · have hb : bade n (x, y) = true := by unfold bade; simp [t2]
          have HQ2 := Lib.hid (HQ.out _ k1 hb); rw [World.size_alloc] at HQ2
          clear HQ hb
          go_wp2
          go_ret
          exact HQ2.out
        · by_cases t3 : y < 0
          · have hb : bade n (x, y) = true := by unfold bade; simp [t3]
            have HQ2 := Lib.hid (HQ.out _ k1 hb); rw [World.size_alloc] at HQ2
            clear HQ hb
            go_wp2
            go_ret
            exact HQ2.out
          · by_cases t4 : (n : Int) ≤ y
            · have hb : bade n (x, y) = true := by unfold bade; simp [t4]
              have HQ2 := Lib.hid (HQ.out _ k1 hb); rw [World.size_alloc] at HQ2
              clear HQ hb
              go_wp2
              go_ret
              exact HQ2.out
            · have hb : bade n (x, y) = false := by unfold bade; simp [t1, t2, t3, t4]
              have HN2 := Lib.hid (HN.out hb)
              clear HQ hb
              go_wp2
              exact ⟨⟨k + 1, hlt, by go_num, k1, HN2.out⟩, by simp [intOf]; omega⟩
    · have hr : r = .ok := by rw [HR.out]; unfold roL; rw [fi_no (fun j hj => HP.out j hj (by omega))]
      go_wp2
      go_ret
      exact ⟨_, rfl, by rw [hr]; rfl, hW⟩
end Go.Proofs.YtnebkdildnngeaaDoor
