/- version.Parse, whole: the version that a text is. -/
import Derived.Test.YtmlmdncepgcimaaGreatDoorPe
import Derived.Test.YtmlmdncepgcimaaGreatDoorZac
import Derived.Test.YtmlmdncepgcimaaGreatDoorTb
import Derived.Test.YtmlmdncepgcimaaGreatDoorDa
namespace Go.Proofs.YtmlmdncepgcimaaGreatDoor
open Go.RowKit Go.Shelf Go.Sort

/-- What version.Parse hands back. -/
def pvVal : Option (Int × List UInt8 × List UInt8) → Value
  | none => .tuple #[.agg #[.int .i64 0, .string ⟨#[]⟩, .string ⟨#[]⟩], .iface 32 (.int .i64 3)]
  | some (e, u, r) => .tuple #[.agg #[.int .i64 e, .string ⟨u.toArray⟩, .string ⟨r.toArray⟩], .nilIface]

theorem lc_small {c : UInt8} {y u r : List UInt8} (h : Vm.lc c y = some (u, r)) : u.length ≤ y.length ∧ r.length ≤ y.length := by
  rcases Vm.lc_idx c y with ⟨_, h2⟩ | ⟨k, hk, _, h2⟩
  · rw [h2] at h; cases h
  · rw [h2] at h; cases h; simp; omega

theorem parse_any (s : List UInt8) (w : World) (htab : Lib.TabIs Tryz.prog w "internal/strconv.uint64pow10" .u64 Lib.pow10Tab) :
    Calls Tryz.prog 77 #[.string ⟨s.toArray⟩] w fun x w' => x = .returned (pvVal (Vm.pv s)) ∧ Below w.heap.size w w' := by
  by_cases hs : 40 < s.length
  · have : Vm.pv s = none := by unfold Vm.pv; rw [if_pos hs]
    rw [this]; exact parse_long s w hs
  · have hs' : s.length ≤ 40 := by omega
    rcases Vm.fc_idx 58 s with ⟨hi, hf⟩ | ⟨k, hk, hi, hf⟩
    · have hpv : Vm.pv s = match Vm.lc 45 s with
          | none => if Vm.rt 0 s [] = true then some (0, s, []) else none
          | some (u, r) => if r = [] then none else if Vm.rt 0 u r = true then some (0, u, r) else none := by
        unfold Vm.pv; rw [if_neg hs, hf]; rfl
      rw [hpv]
      rcases Vm.lc_idx 45 s with ⟨hj, hl⟩ | ⟨j, hjl, hj, hl⟩
      · rw [hl]
        cases hb : Vm.rt 0 s [] with
        | true => simpa [pvVal, hb] using parse_n0t s w hs' hi hj ⟨hb⟩ htab
        | false => simpa [pvVal, hb] using parse_n0f s w hs' hi hj ⟨hb⟩ htab
      · rw [hl]
        by_cases hr : s.drop (j + 1) = []
        · simpa [pvVal, hr] using parse_n1 s w hs' hi j hjl hj _ rfl hr htab
        · have hre : (s.drop (j + 1)).isEmpty = false := by
            cases hd : s.drop (j + 1) with
            | nil => exact absurd hd hr
            | cons c t => rfl
          have hsm := lc_small hl
          cases hb : Vm.rt 0 (s.take j) (s.drop (j + 1)) with
          | true =>
            have := parse_n2t s w hs' hi j hjl hj _ _ rfl rfl hre (by omega) (by omega) ⟨hb⟩ htab
            simp only [hr, if_false, hb, if_true]
            exact this
          | false =>
            have := parse_n2f s w hs' hi j hjl hj _ _ rfl rfl hre (by omega) (by omega) ⟨hb⟩ htab
            simp only [hr, if_false, hb, Bool.false_eq_true]
            exact this
    · cases hp : Vm.pep (s.take k) with
      | none =>
        have hpv : Vm.pv s = none := by unfold Vm.pv; rw [if_neg hs, hf]; simp only [hp]
        rw [hpv]; exact parse_f s w hs' k hk hi _ _ rfl rfl hp htab
      | some n =>
        have hpv : Vm.pv s = match Vm.lc 45 (s.drop (k + 1)) with
            | none => if Vm.rt n (s.drop (k + 1)) [] = true then some ((n : Int), s.drop (k + 1), []) else none
            | some (u, r) => if r = [] then none else if Vm.rt n u r = true then some ((n : Int), u, r) else none := by
          unfold Vm.pv; rw [if_neg hs, hf]; simp only [hp]; rfl
        rw [hpv]
        have hn : Ep n := Vm.pep_lt hp
        have hyl : (s.drop (k + 1)).length ≤ 40 := by simp; omega
        rcases Vm.lc_idx 45 (s.drop (k + 1)) with ⟨hj, hl⟩ | ⟨j, hjl, hj, hl⟩
        · rw [hl]
          cases hb : Vm.rt n (s.drop (k + 1)) [] with
          | true =>
            have := parse_s0t s w hs' k hk hi _ _ rfl rfl hyl n hn hp hj ⟨hb⟩ htab
            simp only [if_true]; exact this
          | false =>
            have := parse_s0f s w hs' k hk hi _ _ rfl rfl hyl n hn hp hj ⟨hb⟩ htab
            simp only [Bool.false_eq_true, if_false]; exact this
        · rw [hl]
          by_cases hr : (s.drop (k + 1)).drop (j + 1) = []
          · have := parse_s1 s w hs' k hk hi _ _ rfl rfl hyl n hn hp j hjl hj _ rfl hr htab
            simp only [hr, if_true]; exact this
          · have hre : ((s.drop (k + 1)).drop (j + 1)).isEmpty = false := by
              cases hd : (s.drop (k + 1)).drop (j + 1) with
              | nil => exact absurd hd hr
              | cons c t => rfl
            have hsm := lc_small hl
            cases hb : Vm.rt n ((s.drop (k + 1)).take j) ((s.drop (k + 1)).drop (j + 1)) with
            | true =>
              have := parse_s2t s w hs' k hk hi _ _ rfl rfl hyl n hn hp j hjl hj _ _ rfl rfl hre (by omega) (by omega) ⟨hb⟩ htab
              simp only [hr, if_false, hb, if_true]; exact this
            | false =>
              have := parse_s2f s w hs' k hk hi _ _ rfl rfl hyl n hn hp j hjl hj _ _ rfl rfl hre (by omega) (by omega) ⟨hb⟩ htab
              simp only [hr, if_false, hb, Bool.false_eq_true]; exact this

end Go.Proofs.YtmlmdncepgcimaaGreatDoor

/- The walks of depend's cutSign, parseVersion, parseTerm. -/
namespace Go.Proofs.YtmlmdncepgcimaaGreatDoor
open Go.RowKit Go.Shelf Go.Sort

theorem cutS_hit {s : List UInt8} : ∀ {k : Nat}, 1 ≤ k → k < 6 → (∀ j, 1 ≤ j → j < k → (sgt j).isPrefixOf s = false) → (sgt k).isPrefixOf s = true → cutS s = (k, s.drop (sgt k).length)
  | 1, _, _, _, h => by unfold cutS; rw [if_pos h]; rfl
  | 2, _, _, f, h => by unfold cutS; rw [if_neg (by rw [f 1 (by omega) (by omega)]; simp), if_pos h]; rfl
  | 3, _, _, f, h => by unfold cutS; rw [if_neg (by rw [f 1 (by omega) (by omega)]; simp), if_neg (by rw [f 2 (by omega) (by omega)]; simp), if_pos h]; rfl
  | 4, _, _, f, h => by unfold cutS; rw [if_neg (by rw [f 1 (by omega) (by omega)]; simp), if_neg (by rw [f 2 (by omega) (by omega)]; simp), if_neg (by rw [f 3 (by omega) (by omega)]; simp), if_pos h]; rfl
  | 5, _, _, f, h => by unfold cutS; rw [if_neg (by rw [f 1 (by omega) (by omega)]; simp), if_neg (by rw [f 2 (by omega) (by omega)]; simp), if_neg (by rw [f 3 (by omega) (by omega)]; simp), if_neg (by rw [f 4 (by omega) (by omega)]; simp), if_pos h]; rfl
theorem cutS_no {s : List UInt8} (f : ∀ j, 1 ≤ j → j < 6 → (sgt j).isPrefixOf s = false) : cutS s = (0, s) := by
  unfold cutS
  rw [if_neg (by rw [f 1 (by omega) (by omega)]; simp), if_neg (by rw [f 2 (by omega) (by omega)]; simp), if_neg (by rw [f 3 (by omega) (by omega)]; simp), if_neg (by rw [f 4 (by omega) (by omega)]; simp), if_neg (by rw [f 5 (by omega) (by omega)]; simp)]

/-- The table of the signs, as it lies in memory. -/
structure Sg (W : World) : Prop where
  lt : 3 < W.heap.size
  c : ∀ i, i < 6 → W.cell? ⟨3, i, none⟩ = some (.string ⟨(sgt i).toArray⟩)
theorem Sg.on {W w' : World} (h : Sg W) (k : Below W.heap.size W w') : Sg w' :=
  ⟨Nat.lt_of_lt_of_le h.lt k.size, fun i hi => by rw [k.cell (p := ⟨3, i, none⟩) h.lt]; exact h.c i hi⟩

theorem pfx_any (s : List UInt8) (p : List UInt8) (w : World) : Calls Tryz.prog 144 #[.string ⟨s.toArray⟩, .string ⟨p.toArray⟩] w fun e w' => e = .returned (.tuple #[.string ⟨(if p.isPrefixOf s then s.drop p.length else s).toArray⟩, .bool (p.isPrefixOf s)]) ∧ w' = w :=
  Tryz.strings_CutPrefix ⟨s.toArray⟩ ⟨p.toArray⟩ w
theorem ret_op {a b : Nat} {x y : List UInt8} (h : (a, x) = (b, y)) : Ending.returned (.tuple #[.int .i64 (a : Int), .string ⟨x.toArray⟩]) = .returned (.tuple #[.int .i64 (b : Int), .string ⟨y.toArray⟩]) := by cases h; rfl

set_option maxHeartbeats 800000 in
set_option maxRecDepth 100000 in
theorem cutsign_any (s : List UInt8) (w : World) (hG : Sg w) : Calls Tryz.prog 191 #[.string ⟨s.toArray⟩] w fun e w' => e = .returned (.tuple #[.int .i64 ((cutS s).1 : Int), .string ⟨(cutS s).2.toArray⟩]) ∧ Below w.heap.size w w' := by
  obtain ⟨a, b, hab⟩ : ∃ a b, cutS s = (a, b) := ⟨_, _, rfl⟩
  have HA := Lib.hid hab
  rw [hab]
  clear hab
  have HG := Lib.hid hG
  clear hG
  go_enter Tryz.func191, Tryz.ntmps191
  go_wp2
  go_loopw [4] (fun i W => ∃ k : Nat, 1 ≤ k ∧ k ≤ 6 ∧ i = .int .i64 k ∧ W = w ∧ Hid (∀ j, 1 ≤ j → j < k → (sgt j).isPrefixOf s = false)) (fun i _ => 6 - (intOf i).toNat)
  case atStart => exact ⟨1, by omega, by omega, rfl, rfl, fun j _ _ => by omega⟩
  case round =>
    obtain ⟨k, h1, h6, rfl, rfl, HP⟩ := hrel
    by_cases hlt : k < 6
    · have hc := HG.out.c k hlt
      have cP := fun W => pfx_any s (sgt k) W
      have hk : (k : Int) < 6 := by omega
      cases hp : (sgt k).isPrefixOf s with
      | true =>
        have HR := Lib.hid ((cutS_hit h1 hlt HP.out hp).symm.trans HA.out)
        rw [hp] at cP
        simp only [if_true] at cP
        clear hp
        go_wp2_with (go_at_call 144; refine (cP _).mono ?_; rintro e w' ⟨rfl, rfl⟩)
        go_ret2
        exact ⟨ret_op HR.out, Below.refl _ _⟩
      | false =>
        have HM : Hid (∀ j, 1 ≤ j → j < k + 1 → (sgt j).isPrefixOf s = false) := fun j h h' => by
          by_cases e : j = k
          · subst e; exact hp
          · exact HP.out j h (by omega)
        rw [hp] at cP
        clear hp
        go_wp2_with (go_at_call 144; refine (cP _).mono ?_; rintro e w' ⟨rfl, rfl⟩)
        exact ⟨⟨k + 1, by omega, by omega, by go_num, trivial, HM⟩, by simp [intOf]; omega⟩
    · obtain rfl : k = 6 := by omega
      have HR := Lib.hid ((cutS_no HP.out).symm.trans HA.out)
      go_wp2
      go_ret2
      exact ⟨ret_op HR.out, Below.refl _ _⟩

end Go.Proofs.YtmlmdncepgcimaaGreatDoor

/- The walks of depend's parseVersion, parseTerm. -/
namespace Go.Proofs.YtmlmdncepgcimaaGreatDoor
open Go.RowKit Go.Shelf Go.Sort

/-- What parseVersion answers. -/
def pvB : Option (Int × List UInt8 × List UInt8) → Value
  | some (e, u, r) => .tuple #[.agg #[.int .i64 e, .string ⟨u.toArray⟩, .string ⟨r.toArray⟩], .bool true]
  | none => .tuple #[.agg #[.int .i64 0, .string ⟨#[]⟩, .string ⟨#[]⟩], .bool false]
theorem rdV_none {s : List UInt8} (h : Vm.pv s = none) : rdV s = none := by unfold rdV; rw [h]
theorem rdV_yes {s : List UInt8} {e : Int} {u r : List UInt8} (h : Vm.pv s = some (e, u, r)) (h2 : Vm.pt e u r = s) : rdV s = some (e, u, r) := by unfold rdV; rw [h]; simp [h2]
theorem rdV_no {s : List UInt8} {e : Int} {u r : List UInt8} (h : Vm.pv s = some (e, u, r)) (h2 : ¬ Vm.pt e u r = s) : rdV s = none := by unfold rdV; rw [h]; simp [h2]
theorem pv_rt {s : List UInt8} {e : Int} {u r : List UInt8} (h : Vm.pv s = some (e, u, r)) : Vm.rt e u r = true := by
  unfold Vm.pv at h
  split at h
  · cases h
  · split at h
    · cases h
    · split at h
      · split at h
        · cases h; assumption
        · cases h
      · split at h
        · cases h
        · split at h
          · cases h; assumption
          · cases h
theorem retv {o p : Option (Int × List UInt8 × List UInt8)} (h : o = p) : Ending.returned (pvB o) = .returned (pvB p) := by rw [h]
theorem bt2 {w w1 w2 : World} (h : Below w.heap.size w w1) (k : Below w1.heap.size w1 w2) : Below w.heap.size w w2 := h.trans (k.mono h.size)
abbrev Tab (w : World) : Prop := Lib.TabIs Tryz.prog w "internal/strconv.uint64pow10" .u64 Lib.pow10Tab
theorem tab_on {w w' : World} (h : Tab w) (k : Below w.heap.size w w') : Tab w' := Lib.tabBelow_of_tabIs h w' k

theorem bA1 (w : World) (A : Obj) : Below w.heap.size w (w.alloc A) := (Below.refl _ _).alloc (Nat.le_refl _) _
theorem res3 {W : World} {g : Nat} {x0 x1 x2 : Value} (y0 y1 y2 : Value) (o : Obj) (k0 : W.cell? ⟨g, 0, none⟩ = some x0) (k1 : W.cell? ⟨g, 1, none⟩ = some x1) (k2 : W.cell? ⟨g, 2, none⟩ = some x2) :
    ((((W.setCell ⟨g, 0, none⟩ y0).setCell ⟨g, 1, none⟩ y1).setCell ⟨g, 2, none⟩ y2).alloc o).cell? ⟨g, 0, none⟩ = some y0 ∧ ((((W.setCell ⟨g, 0, none⟩ y0).setCell ⟨g, 1, none⟩ y1).setCell ⟨g, 2, none⟩ y2).alloc o).cell? ⟨g, 1, none⟩ = some y1 ∧ ((((W.setCell ⟨g, 0, none⟩ y0).setCell ⟨g, 1, none⟩ y1).setCell ⟨g, 2, none⟩ y2).alloc o).cell? ⟨g, 2, none⟩ = some y2 :=
  ⟨((bA1 _ o).cell (p := ⟨g, 0, none⟩) (by simpa using block_lt_of_cell k0)).trans (by simp [go_sem, k0]), ((bA1 _ o).cell (p := ⟨g, 1, none⟩) (by simpa using block_lt_of_cell k0)).trans (by simp [go_sem, k1]), ((bA1 _ o).cell (p := ⟨g, 2, none⟩) (by simpa using block_lt_of_cell k0)).trans (by simp [go_sem, k2])⟩
set_option maxHeartbeats 800000 in
set_option maxRecDepth 100000 in
theorem pver_none (s : List UInt8) (w : World) (h : Vm.pv s = none) (htab : Tab w) : Calls Tryz.prog 192 #[.string ⟨s.toArray⟩] w fun x w' => x = .returned (pvB (rdV s)) ∧ Below w.heap.size w w' := by
  have cP := fun W (hW : Below w.heap.size w W) => parse_any s W (tab_on htab hW)
  rw [h] at cP
  rw [rdV_none h]
  unfold pvVal at cP
  unfold pvB
  clear htab h
  go_enter Tryz.func192, Tryz.ntmps192
  go_wp2_with fail
  refine (cP _ (bA1 _ _)).mono ?_
  rintro e w1 ⟨rfl, hb1⟩
  obtain ⟨k0, k1, k2, kf, kg⟩ := kept3 (g := w.heap.size) (x0 := .int .i64 0) (x1 := .string ⟨#[]⟩) (x2 := .string ⟨#[]⟩) (by simp) (by simp) (by simp) (by simp) (by simp) hb1
  have hW1 : Below w.heap.size w w1 := (bA1 _ _).trans (hb1.mono (by simp))
  go_wp2
  exact bodyPost_ret (v := .tuple #[.agg #[.int .i64 0, .string ⟨#[]⟩, .string ⟨#[]⟩], .bool false]) (by obtain ⟨q0, q1, q2⟩ := res3 (.int .i64 0) (.string ⟨#[]⟩) (.string ⟨#[]⟩) (.cells #[.int .i64 0, .string ⟨#[]⟩, .string ⟨#[]⟩] 23) k0 k1 k2; simp [results, Tryz.results192, go_sem, q0, q1, q2]) rfl ⟨rfl, (((hW1.setCell (Nat.le_refl _) _).setCell (Nat.le_refl _) _).setCell (Nat.le_refl _) _).alloc (by simpa using hW1.size) _⟩

set_option maxHeartbeats 800000 in
set_option maxRecDepth 100000 in
theorem pver_some (s : List UInt8) (e : Int) (u r : List UInt8) (w : World) (h : Vm.pv s = some (e, u, r)) (htab : Tab w) : Calls Tryz.prog 192 #[.string ⟨s.toArray⟩] w fun x w' => x = .returned (pvB (rdV s)) ∧ Below w.heap.size w w' := by
  have cP := fun W (hW : Below w.heap.size w W) => parse_any s W (tab_on htab hW)
  rw [h] at cP
  unfold pvVal at cP
  obtain ⟨b0, b1, b2, b3, b4⟩ := Vm.rt_parts (pv_rt h)
  obtain ⟨t, ht⟩ : ∃ t, t = Vm.pt e u r := ⟨_, rfl⟩
  have cQ : ∀ W, Below w.heap.size w W → Calls Tryz.prog 45 #[.agg #[.int .i64 e, .string ⟨u.toArray⟩, .string ⟨r.toArray⟩]] W fun x w' => x = .returned (.string ⟨t.toArray⟩) ∧ Below W.heap.size W w' := fun W hW => by rw [ht]; exact print_any e u r W (by omega) (by omega) (by omega) (by omega) (tab_on htab hW)
  clear htab b0 b1 b2 b3 b4
  have HE : Hid (if t = s then rdV s = some (e, u, r) else rdV s = none) := by
    show (if t = s then rdV s = some (e, u, r) else rdV s = none)
    by_cases h2 : t = s
    · rw [if_pos h2]; exact rdV_yes h (by rw [← ht]; exact h2)
    · rw [if_neg h2]; exact rdV_no h (by rw [← ht]; exact h2)
  obtain ⟨p, hp⟩ : ∃ p, p = rdV s := ⟨_, rfl⟩
  rw [← hp]
  have HP := Lib.hid hp
  clear ht h hp
  go_enter Tryz.func192, Tryz.ntmps192
  go_wp2_with fail
  refine (cP _ (bA1 _ _)).mono ?_
  rintro x w1 ⟨rfl, hb1⟩
  obtain ⟨k0, k1, k2, kf, kg⟩ := kept3 (g := w.heap.size) (x0 := .int .i64 0) (x1 := .string ⟨#[]⟩) (x2 := .string ⟨#[]⟩) (by simp) (by simp) (by simp) (by simp) (by simp) hb1
  have hW1 : Below w.heap.size w w1 := (bA1 _ _).trans (hb1.mono (by simp))
  go_wp2_with fail
  refine (cQ _ (hW1.alloc hW1.size _)).mono ?_
  rintro x w2 ⟨rfl, hb2⟩
  have hX : Below w1.heap.size w1 w2 := (bA1 _ _).trans (hb2.mono (by simp))
  obtain ⟨r0, r1, r2, rf, rg⟩ := kept3 k0 k1 k2 kf kg hX
  obtain ⟨v0, v1, v2, vf, vg⟩ := kept3 (g := w1.heap.size) (x0 := .int .i64 e) (x1 := .string ⟨u.toArray⟩) (x2 := .string ⟨r.toArray⟩) (by simp) (by simp) (by simp) (by simp) (by simp) hb2
  have hW2 := bt2 hW1 hX
  clear k0 k1 k2 kf kg hb1 hb2 cP cQ hX
  by_cases h2 : t = s
  · have HR : Hid (p = some (e, u, r)) := HP.out.trans (by have := HE.out; rw [if_pos h2] at this; exact this)
    subst h2
    clear HE HP
    go_wp2
    exact bodyPost_ret (v := .tuple #[.agg #[.int .i64 e, .string ⟨u.toArray⟩, .string ⟨r.toArray⟩], .bool true]) (by simp [results, Tryz.results192, go_sem, r0, r1, r2]) rfl ⟨by rw [HR.out]; rfl, ((hW2.setCell (Nat.le_refl _) _).setCell (Nat.le_refl _) _).setCell (Nat.le_refl _) _⟩
  · have HR : Hid (p = none) := HP.out.trans (by have := HE.out; rw [if_neg h2] at this; exact this)
    clear HE HP
    have h3 : (!t == s) = true := by simp [h2]
    go_wp2
    exact bodyPost_ret (v := .tuple #[.agg #[.int .i64 0, .string ⟨#[]⟩, .string ⟨#[]⟩], .bool false]) (by simp [results, Tryz.results192, go_sem, r0, r1, r2]) rfl ⟨by rw [HR.out]; rfl, ((hW2.setCell (Nat.le_refl _) _).setCell (Nat.le_refl _) _).setCell (Nat.le_refl _) _⟩

theorem pver_any (s : List UInt8) (w : World) (htab : Tab w) : Calls Tryz.prog 192 #[.string ⟨s.toArray⟩] w fun x w' => x = .returned (pvB (rdV s)) ∧ Below w.heap.size w w' := by
  cases h : Vm.pv s with
  | none => exact pver_none s w h htab
  | some p => obtain ⟨e, u, r⟩ := p; exact pver_some s e u r w h htab

end Go.Proofs.YtmlmdncepgcimaaGreatDoor

/- The walks of version.Compare and version.Is. -/
namespace Go.Proofs.YtmlmdncepgcimaaGreatDoor
open Go.RowKit

theorem short_any (e : Int) (u r : List UInt8) (w : World) : Calls Tryz.prog 35 #[.agg #[.int .i64 e, .string ⟨u.toArray⟩, .string ⟨r.toArray⟩]] w fun x w' =>
    x = .returned (.bool (decide (u.length ≤ 100) && decide (r.length ≤ 100))) ∧ w' = w.alloc (.cells #[.int .i64 e, .string ⟨u.toArray⟩, .string ⟨r.toArray⟩] 23) := by
  by_cases h1 : u.length ≤ 100
  all_goals by_cases h2 : r.length ≤ 100
  all_goals
    go_enter Tryz.func35, Tryz.ntmps35
    go_wp2
    go_ret
    exact ⟨ret_bool (by apply Bool.eq_iff_iff.2; constructor <;> intro hh <;> simp at hh ⊢ <;> omega), rfl⟩

theorem iv_none (c op : Int) (hop : op < 1 ∨ 5 < op) : Vm.iv c op = (op == 0) := by
  unfold Vm.iv
  have q1 : (op == 1) = false := beq_eq_false_iff_ne.2 (by omega)
  have q2 : (op == 2) = false := beq_eq_false_iff_ne.2 (by omega)
  have q3 : (op == 3) = false := beq_eq_false_iff_ne.2 (by omega)
  have q4 : (op == 4) = false := beq_eq_false_iff_ne.2 (by omega)
  have q5 : (op == 5) = false := beq_eq_false_iff_ne.2 (by omega)
  simp [q1, q2, q3, q4, q5]

end Go.Proofs.YtmlmdncepgcimaaGreatDoor

/- Versions held against each other; terms that are short enough. -/
namespace Go.Proofs.YtmlmdncepgcimaaGreatDoor
open Go.RowKit Go.Sort

theorem bon {w w1 w2 : World} (h : Below w.heap.size w w1) (k : Below w1.heap.size w1 w2) : Below w.heap.size w w2 := h.trans (k.mono h.size)
theorem bdn {B : Nat} {a w : World} (h : Below B a w) (n : Nat) : Below B a (w.drewN n) := h.trans ⟨rfl, rfl, rfl, Nat.le_refl _, fun _ _ => rfl⟩
theorem b1c (w : World) (A : Obj) : Below w.heap.size w (w.alloc A) := (Below.refl _ _).alloc (Nat.le_refl _) _
theorem b2c (w : World) (A B : Obj) : Below w.heap.size w ((w.alloc A).alloc B) := bon (b1c w A) (b1c _ B)
theorem b4c (w : World) (A B C D : Obj) : Below w.heap.size w ((((w.alloc A).alloc B).alloc C).alloc D) := bon (bon (b2c w A B) (b1c _ C)) (b1c _ D)

/-- A version as a value. -/
abbrev vv (e : Int) (u r : List UInt8) : Value := .agg #[.int .i64 e, .string ⟨u.toArray⟩, .string ⟨r.toArray⟩]
/-- A term as a value. -/
abbrev tv (t : Tm) : Value := .agg #[.string ⟨t.n.toArray⟩, .int .i64 t.o, .int .i64 t.e, .string ⟨t.u.toArray⟩, .string ⟨t.r.toArray⟩]
theorem retb {a b : Bool} (h : a = b) : Ending.returned (.bool a) = .returned (.bool b) := by rw [h]

theorem short_b (e : Int) (u r : List UInt8) (w : World) : Calls Tryz.prog 35 #[vv e u r] w fun x w' => x = .returned (.bool (decide (u.length ≤ 100) && decide (r.length ≤ 100))) ∧ Below w.heap.size w w' := by
  refine (short_any e u r w).mono ?_
  rintro x w' ⟨rfl, rfl⟩
  exact ⟨rfl, b1c _ _⟩

/-- A term short enough; terms; lists of terms. -/
def t1 (t : Tm) : Bool := decide (t.n.length ≤ 60) && (decide (t.u.length ≤ 100) && decide (t.r.length ≤ 100))
def fla (l : List Tm) : Bool := decide (l.length ≤ 40) && l.all t1
def tla (l : List (List Tm)) : Bool := decide (l.length ≤ 40) && l.all fla

theorem flat_long (A : Option Addr) (n c : Nat) (w : World) (h : 40 < n) : Calls Tryz.prog 37 #[.slice A n c] w fun e w' => e = .returned (.bool false) ∧ w' = w := by
  go_enter Tryz.func37, Tryz.ntmps37
  go_wp2
  go_ret
  exact ⟨rfl, rfl⟩
theorem flat_nil (A : Option Addr) (c : Nat) (w : World) : Calls Tryz.prog 37 #[.slice A 0 c] w fun e w' => e = .returned (.bool true) ∧ w' = w := by
  go_enter Tryz.func37, Tryz.ntmps37
  go_wp2
  refine wp_loop_rounds 1 ?_
  rw [rounds_succ]
  go_wp2
  go_ret
  exact ⟨rfl, rfl⟩

set_option maxHeartbeats 1600000 in
set_option maxRecDepth 100000 in
theorem flat_row (b o c : Nat) (l : List Tm) (w : World) (h : Tl w b o l) (hn : l.length ≤ 40) : Calls Tryz.prog 37 #[.slice (some ⟨b, o, none⟩) l.length c] w fun e w' => e = .returned (.bool (l.all t1)) ∧ Below w.heap.size w w' := by
  obtain ⟨r, hr⟩ : ∃ r, r = l.all t1 := ⟨_, rfl⟩
  have HR := Lib.hid hr
  rw [← hr]
  clear hr
  have HF := Lib.hid h
  clear h
  go_enter Tryz.func37, Tryz.ntmps37
  go_wp2
  go_loopw [3] (fun i W => ∃ k : Nat, k ≤ l.length ∧ i = .int .i64 k ∧ Below w.heap.size w W ∧ Hid (∀ j (hj : j < l.length), j < k → t1 l[j] = true)) (fun i _ => l.length - (intOf i).toNat)
  case atStart => exact ⟨0, Nat.zero_le _, rfl, Below.refl _ _, fun j _ h => absurd h (Nat.not_lt_zero _)⟩
  case round =>
    obtain ⟨k, hk, rfl, hW, HP⟩ := hrel
    by_cases hlt : k < l.length
    · have hT := HF.out.on hW
      have c0 := hT.c0 k hlt
      have c2 := hT.c2 k hlt
      have c3 := hT.c3 k hlt
      have c4 := hT.c4 k hlt
      have HN : Hid (t1 l[k] = false → r = false) := fun e => by
        rw [HR.out, List.all_eq_false]
        exact ⟨l[k], List.getElem_mem hlt, by simp [e]⟩
      have HM : Hid (t1 l[k] = true → ∀ j (hj : j < l.length), j < k + 1 → t1 l[j] = true) := fun e j hj h => by
        by_cases e2 : j = k
        · subst e2; exact e
        · exact HP.out j hj (by omega)
      have cS := fun W => short_b l[k].e l[k].u l[k].r W
      clear hT
      by_cases h1 : l[k].n.length ≤ 60
      · cases hs : (decide (l[k].u.length ≤ 100) && decide (l[k].r.length ≤ 100)) with
        | true =>
          have HG := Lib.hid (HM.out (by unfold t1; rw [hs]; simp [h1]))
          rw [hs] at cS
          clear HN HM hs
          go_wp2_with (go_at_call 35; refine (cS _).mono ?_; rintro x w1 ⟨rfl, bw1⟩)
          exact ⟨⟨k + 1, hlt, by go_num, bon hW bw1, HG⟩, by simp [intOf]; omega⟩
        | false =>
          have HG := Lib.hid (HN.out (by unfold t1; rw [hs]; simp))
          rw [hs] at cS
          clear HN HM hs
          go_wp2_with (go_at_call 35; refine (cS _).mono ?_; rintro x w1 ⟨rfl, bw1⟩)
          go_ret
          exact ⟨retb HG.out.symm, bon hW bw1⟩
      · have HG := Lib.hid (HN.out (by unfold t1; simp [h1]))
        clear HN HM
        go_wp2_with (go_at_call 35; refine (cS _).mono ?_; rintro x w1 ⟨rfl, bw1⟩)
        go_ret
        exact ⟨retb HG.out.symm, hW⟩
    · have hall : l.all t1 = true := by
        rw [List.all_eq_true]
        intro f hf
        obtain ⟨j, hj, rfl⟩ := List.getElem_of_mem hf
        exact HP.out j hj (by omega)
      have HG := Lib.hid (HR.out.trans hall)
      go_wp2
      go_ret
      exact ⟨retb HG.out.symm, hW⟩
theorem flat_any (v : Value) (l : List Tm) (w : World) (h : Ts w v l) : Calls Tryz.prog 37 #[v] w fun e w' => e = .returned (.bool (fla l)) ∧ Below w.heap.size w w' := by
  rcases h.is with ⟨rfl, A, c, rfl⟩ | ⟨b, o, c, rfl, hc, hf⟩
  · exact (flat_nil A c w).mono fun x w' ⟨h1, h2⟩ => ⟨h1, by rw [h2]; exact Below.refl _ _⟩
  · by_cases hn : l.length ≤ 40
    · rw [show fla l = l.all t1 from by simp [fla, hn]]
      exact flat_row b o c l w hf hn
    · rw [show fla l = false from by simp [fla, hn]]
      exact (flat_long _ _ c w (by omega)).mono fun x w' ⟨h1, h2⟩ => ⟨h1, by rw [h2]; exact Below.refl _ _⟩
end Go.Proofs.YtmlmdncepgcimaaGreatDoor

/- The walks of the law's terms, of provided, of the closures over terms. -/
namespace Go.Proofs.YtmlmdncepgcimaaGreatDoor
open Go.RowKit Go.Sort

theorem terms_long (A : Option Addr) (n c : Nat) (w : World) (h : 40 < n) : Calls Tryz.prog 36 #[.slice A n c] w fun e w' => e = .returned (.bool false) ∧ w' = w := by
  go_enter Tryz.func36, Tryz.ntmps36
  go_wp2
  go_ret
  exact ⟨rfl, rfl⟩
theorem terms_nil (A : Option Addr) (c : Nat) (w : World) : Calls Tryz.prog 36 #[.slice A 0 c] w fun e w' => e = .returned (.bool true) ∧ w' = w := by
  go_enter Tryz.func36, Tryz.ntmps36
  go_wp2
  refine wp_loop_rounds 1 ?_
  rw [rounds_succ]
  go_wp2
  go_ret
  exact ⟨rfl, rfl⟩
set_option maxHeartbeats 1600000 in
set_option maxRecDepth 100000 in
theorem terms_row (b o c : Nat) (l : List (List Tm)) (w : World) (h : Al w b o l) (hn : l.length ≤ 40) : Calls Tryz.prog 36 #[.slice (some ⟨b, o, none⟩) l.length c] w fun e w' => e = .returned (.bool (l.all fla)) ∧ Below w.heap.size w w' := by
  obtain ⟨r, hr⟩ : ∃ r, r = l.all fla := ⟨_, rfl⟩
  have HR := Lib.hid hr
  rw [← hr]
  clear hr
  have HF := Lib.hid h
  clear h
  go_enter Tryz.func36, Tryz.ntmps36
  go_wp2
  go_loopw [3] (fun i W => ∃ k : Nat, k ≤ l.length ∧ i = .int .i64 k ∧ Below w.heap.size w W ∧ Hid (∀ j (hj : j < l.length), j < k → fla l[j] = true)) (fun i _ => l.length - (intOf i).toNat)
  case atStart => exact ⟨0, Nat.zero_le _, rfl, Below.refl _ _, fun j _ h => absurd h (Nat.not_lt_zero _)⟩
  case round =>
    obtain ⟨k, hk, rfl, hW, HP⟩ := hrel
    by_cases hlt : k < l.length
    · obtain ⟨v, c0, hv⟩ := (HF.out.on hW).c k hlt
      have HN : Hid (fla l[k] = false → r = false) := fun e => by
        rw [HR.out, List.all_eq_false]
        exact ⟨l[k], List.getElem_mem hlt, by simp [e]⟩
      have HM : Hid (fla l[k] = true → ∀ j (hj : j < l.length), j < k + 1 → fla l[j] = true) := fun e j hj h => by
        by_cases e2 : j = k
        · subst e2; exact e
        · exact HP.out j hj (by omega)
      have cS := flat_any v l[k] wr hv
      clear hv
      cases hs : fla l[k] with
      | true =>
        have HG := Lib.hid (HM.out hs)
        rw [hs] at cS
        clear HN HM hs
        go_wp2_with (go_at_call 37; refine cS.mono ?_; rintro x w1 ⟨rfl, bw1⟩)
        exact ⟨⟨k + 1, hlt, by go_num, bon hW bw1, HG⟩, by simp [intOf]; omega⟩
      | false =>
        have HG := Lib.hid (HN.out hs)
        rw [hs] at cS
        clear HN HM hs
        go_wp2_with (go_at_call 37; refine cS.mono ?_; rintro x w1 ⟨rfl, bw1⟩)
        go_ret
        exact ⟨retb HG.out.symm, bon hW bw1⟩
    · have hall : l.all fla = true := by
        rw [List.all_eq_true]
        intro f hf
        obtain ⟨j, hj, rfl⟩ := List.getElem_of_mem hf
        exact HP.out j hj (by omega)
      have HG := Lib.hid (HR.out.trans hall)
      go_wp2
      go_ret
      exact ⟨retb HG.out.symm, hW⟩
theorem terms_any (v : Value) (l : List (List Tm)) (w : World) (h : As w v l) : Calls Tryz.prog 36 #[v] w fun e w' => e = .returned (.bool (tla l)) ∧ Below w.heap.size w w' := by
  rcases h.is with ⟨rfl, A, c, rfl⟩ | ⟨b, o, c, rfl, hc, hf⟩
  · exact (terms_nil A c w).mono fun x w' ⟨h1, h2⟩ => ⟨h1, by rw [h2]; exact Below.refl _ _⟩
  · by_cases hn : l.length ≤ 40
    · rw [show tla l = l.all fla from by simp [tla, hn]]
      exact terms_row b o c l w hf hn
    · rw [show tla l = false from by simp [tla, hn]]
      exact (terms_long _ _ c w (by omega)).mono fun x w' ⟨h1, h2⟩ => ⟨h1, by rw [h2]; exact Below.refl _ _⟩

/-- A term short enough to be held against others. -/
structure Sh (t : Tm) : Prop where
  u : t.u.length ≤ 100
  r : t.r.length ≤ 100
theorem sh_of {t : Tm} (h : t1 t = true) : Sh t := by
  unfold t1 at h; simp only [Bool.and_eq_true, decide_eq_true_eq] at h; exact ⟨h.2.1, h.2.2⟩
/-- Is what is provided as it is asked? -/
def pv (p t : Tm) : Bool := t.o == 0 || (p.o == 3 && Vm.iv (Vm.cv p.e p.u p.r t.e t.u t.r) t.o)

/-- A term in a block of its own. -/
structure Tc (W : World) (a : Nat) (t : Tm) : Prop where
  c0 : W.cell? ⟨a, 0, none⟩ = some (.string ⟨t.n.toArray⟩)
  c1 : W.cell? ⟨a, 1, none⟩ = some (.int .i64 t.o)
  c2 : W.cell? ⟨a, 2, none⟩ = some (.int .i64 t.e)
  c3 : W.cell? ⟨a, 3, none⟩ = some (.string ⟨t.u.toArray⟩)
  c4 : W.cell? ⟨a, 4, none⟩ = some (.string ⟨t.r.toArray⟩)
theorem Tc.on {W w' : World} {a : Nat} {t : Tm} (h : Tc W a t) (k : Below W.heap.size W w') : Tc w' a t :=
  ⟨by rw [k.cell (block_lt_of_cell h.c0)]; exact h.c0, by rw [k.cell (block_lt_of_cell h.c1)]; exact h.c1, by rw [k.cell (block_lt_of_cell h.c2)]; exact h.c2, by rw [k.cell (block_lt_of_cell h.c3)]; exact h.c3, by rw [k.cell (block_lt_of_cell h.c4)]; exact h.c4⟩
theorem tc_new (w : World) (t : Tm) : Tc (w.alloc (.cells #[.string ⟨t.n.toArray⟩, .int .i64 t.o, .int .i64 t.e, .string ⟨t.u.toArray⟩, .string ⟨t.r.toArray⟩] 83)) w.heap.size t :=
  ⟨by simp, by simp, by simp, by simp, by simp⟩

/-- Is it one of the name, and as it is asked? -/
def nv (t p : Tm) : Bool := p.n == t.n && pv p t

end Go.Proofs.YtmlmdncepgcimaaGreatDoor
