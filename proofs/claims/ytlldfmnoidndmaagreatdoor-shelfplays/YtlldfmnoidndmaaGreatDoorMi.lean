/- The walks of a disk's List, Read, Write, Sync, Move, Remove. -/
import Derived.Test.YtlldfmnoidndmaaGreatDoorMy2
import Derived.Test.YtlldfmnoidndmaaGreatDoorIt
namespace Go.Proofs.YtlldfmnoidndmaaGreatDoor.Dsk
open Go.RowKit Go.Sort Go.Maps

/-- Texts in a row, a slice of them. -/
structure Tx (B : Nat) (W : World) (v : Value) (l : List (List UInt8)) : Prop where
  is : (l = [] ∧ v = .slice none 0 0) ∨ ∃ b c, v = .slice (some ⟨b, 0, none⟩) l.length c ∧ B ≤ b ∧ b < W.heap.size ∧ ∀ i (hi : i < l.length), W.cell? ⟨b, i, none⟩ = some (.string ⟨l[i].toArray⟩)
theorem Tx.on {B : Nat} {W w' : World} {v : Value} {l : List (List UInt8)} (h : Tx B W v l) (k : Below W.heap.size W w') : Tx B w' v l := by
  rcases h.is with h | ⟨b, c, h1, h0, h2, h3⟩
  · exact ⟨.inl h⟩
  · exact ⟨.inr ⟨b, c, h1, h0, Nat.lt_of_lt_of_le h2 k.size, fun i hi => by rw [k.cell (p := ⟨b, i, none⟩) h2]; exact h3 i hi⟩⟩
theorem tx_own {W : World} {B : Nat} {v : Value} {l : List (List UInt8)} (h : W.ownsRow B 9 1 v l.length (l.map encStr)) (hv : v = .slice none 0 0 → l = []) : Tx B W v l := by
  rcases h.2 with ⟨hn, _⟩ | ⟨g, cap, cur, rfl, hbase, hb, h1, h2, h3, h4⟩
  · exact ⟨.inl ⟨hv hn, hn⟩⟩
  · refine ⟨.inr ⟨g, cap, rfl, hbase, (Array.getElem?_eq_some_iff.1 hb).1, fun i hi => ?_⟩⟩
    have e1 : cur[i]? = some (encStr l[i]) := by
      have := congrArg (·[i]?) h4
      simp only [List.getElem?_take, List.getElem?_map] at this
      rw [if_pos (by omega), List.getElem?_eq_getElem hi] at this
      simpa using this
    simp [World.cell?, hb, e1, encStr]
def nms {α : Type} (L : Kv α) : List (List UInt8) := (L.map (·.1)).mergeSort fun x y => decide (x ≤ y)

theorem list_any (b : Nat) (mb : Option Nat) (L : Kv Ent) (e : Bool) (c : Int) (bd : Bool) (r : Int) (w : World) (h : PD w b mb L e c bd r) (hn : L.length ≤ 1000000) : Calls Tryz.prog 29 #[.pointer (some ⟨b, 0, none⟩)] w fun x w' => ∃ v, x = .returned v ∧ Tx (w.heap.size + 1) w' v (nms L) ∧ Below w.heap.size w w' := by
  have c0 := (dc_of h.blk).c0
  have cK := callsIn_wide.1 (Tryz.maps_Keys_73 mb w)
  cases mb with
  | none =>
    have hL := h.nil rfl
    subst hL
    have cS := callsIn_wide.1 (Tryz.slices_Sorted_keys_nil_43_73 w)
    go_enter Tryz.func29, Tryz.ntmps29
    go_wp2_with fail
    refine cK.mono ?_
    rintro x w1 ⟨rfl, rfl⟩
    go_wp2_with fail
    refine cS.mono ?_
    rintro x w2 ⟨v, ss, rfl, rfl, hrow, hnil, hb⟩
    have hv : v = .slice none 0 0 := hnil.2 rfl
    subst hv
    go_wp2
    go_ret
    exact ⟨_, rfl, ⟨.inl ⟨by simp [nms], rfl⟩⟩, ((Below.refl _ _).alloc (Nat.le_refl _) _).trans (hb.mono (by simp))⟩
  | some m =>
    have cS := callsIn_wide.1 (Tryz.slices_Sorted_keys_43_73 m L.length (toD pv L) Rv w (h.map m rfl) (by rw [toD_size]; unfold maxLen; omega) (by rw [toD_size]; omega))
    go_enter Tryz.func29, Tryz.ntmps29
    go_wp2_with fail
    refine cK.mono ?_
    rintro x w1 ⟨rfl, rfl⟩
    go_wp2_with fail
    refine cS.mono ?_
    rintro x w2 ⟨v, ss, rfl, hp, hrow, hnil, hb⟩
    rw [toD_keys] at hp
    have e1 : (ss.mergeSort fun x y => decide (x ≤ y)) = nms L := mergeSort_of_perm hp
    have e2 : ss.length = (nms L).length := by rw [← e1, List.length_mergeSort]
    rw [e1, e2] at hrow
    have ht : Tx (w.heap.size + 1) w2 v (nms L) := tx_own (by simpa using hrow) fun hv => by
      have := hnil.1 hv
      subst this
      exact List.length_eq_zero_iff.1 e2.symm
    clear hrow hnil e1 e2 hp cS cK
    go_wp2
    go_ret
    exact ⟨_, rfl, ht, ((Below.refl _ _).alloc (Nat.le_refl _) _).trans (hb.mono (by simp))⟩
/-- What is told of a file. -/
def evv (n : Int) : Value := if n = 0 then .nilIface else .iface 33 (.int .i64 n)
def rdc (k : List UInt8) (L : Kv Ent) : Int := if (lkL k L).isSome then 0 else 7
set_option maxHeartbeats 800000 in
set_option maxRecDepth 100000 in
theorem read_any (b : Nat) (mb : Option Nat) (L : Kv Ent) (e : Bool) (c : Int) (bd : Bool) (r : Int) (k : List UInt8) (w : World) (h : PD w b mb L e c bd r) (hk : k.length ≤ 1000000) : Calls Tryz.prog 78 #[.pointer (some ⟨b, 0, none⟩), .string ⟨k.toArray⟩] w fun x w' => x = .returned (.tuple #[.string ⟨(ent k L).now.toArray⟩, evv (rdc k L)]) ∧ Below w.heap.size w w' := by
  have c0 := (dc_of h.blk).c0
  have hy := (look_any h k hk w (fun _ _ => rfl)).2
  have HE : Hid ((lkL k L).isSome = false → ent k L = zent) := fun hz => by
    unfold ent
    cases hl : lkL k L with
    | none => rfl
    | some a => rw [hl] at hz; cases hz
  have bA := fun y => (Below.refl w.heap.size w).alloc (Nat.le_refl _) (eno y)
  unfold rdc
  clear h
  generalize ent k L = y at hy HE ⊢
  unfold pv at hy
  generalize (lkL k L).isSome = z at hy HE ⊢
  cases z with
  | true =>
    go_enter Tryz.func78, Tryz.ntmps78
    go_wp2
    go_ret2
    exact ⟨rfl, bA y⟩
  | false =>
    have := HE.out rfl
    subst this
    go_enter Tryz.func78, Tryz.ntmps78
    go_wp2
    go_ret2
    exact ⟨rfl, bA zent⟩

/-- A disk behind a change. -/
structure Po (b : Nat) (mb : Option Nat) (L : Kv Ent) (e : Bool) (c : Int) (bd : Bool) (r : Int) (w w' : World) : Prop where
  is : ∃ mb', PD w' b mb' L e c bd r ∧ ∀ m, mb' = some m → mb = some m ∨ w.heap.size ≤ m
  kp : Kp (DX b mb) w w'
theorem Po.then {b : Nat} {mb mb' : Option Nat} {L : Kv Ent} {e : Bool} {c : Int} {bd : Bool} {r : Int} {w w1 w2 : World} (hk : Kp (DX b mb) w w1) (hm : ∀ m, mb' = some m → mb = some m ∨ w.heap.size ≤ m) (h : Po b mb' L e c bd r w1 w2) : Po b mb L e c bd r w w2 := by
  obtain ⟨⟨mb2, h1, h2⟩, h3⟩ := h
  refine ⟨⟨mb2, h1, fun m hm' => ?_⟩, hk.trans h3 fun i hi hx => ?_⟩
  · rcases h2 m hm' with h4 | h4
    · exact hm m h4
    · exact .inr (Nat.le_trans hk.size h4)
  · rcases hx with hx | hx
    · exact .inl hx
    · rcases hm i hx with h4 | h4
      · exact .inr h4
      · omega
theorem Po.same {b : Nat} {mb : Option Nat} {L : Kv Ent} {e : Bool} {c : Int} {bd : Bool} {r : Int} {w w' : World} (h : PD w' b mb L e c bd r) (hk : Kp (DX b mb) w w') : Po b mb L e c bd r w w' := ⟨⟨mb, h, fun _ hm => .inl hm⟩, hk⟩
theorem Po.put {b : Nat} {mb : Option Nat} {L : Kv Ent} {e : Bool} {c : Int} {bd : Bool} {r : Int} {w w' : World} (h : Pu b mb L e c bd r w w') : Po b mb L e c bd r w w' := by
  obtain ⟨⟨m, h1, h2⟩, h3⟩ := h
  exact ⟨⟨some m, h1, fun m' hm => by cases hm; exact h2.is⟩, h3⟩
theorem Po.below {b : Nat} {mb : Option Nat} {L : Kv Ent} {e : Bool} {c : Int} {bd : Bool} {r : Int} {w w1 w2 : World} (hk : Below w.heap.size w w1) (h : Po b mb L e c bd r w1 w2) : Po b mb L e c bd r w w2 := Po.then (Kp.of hk) (fun _ hm => .inl hm) h
theorem kp_dx {b : Nat} {mb : Option Nat} {w w' : World} (h : Kp (fun k => k = b) w w') : Kp (DX b mb) w w' := h.mono fun _ h => .inl h

/-- What Write tells, and leaves. -/
def nok (k : List UInt8) : Bool := decide (1 ≤ k.length) && decide (k.length ≤ 80)
def wcd (L : Kv Ent) (e : Bool) (c : Int) (bd : Bool) (r : Int) (k s : List UInt8) : Int := if nok k = false then 1 else if pwr e c = false then 14 else if fit L k s bd r = false then 12 else 0
def wL (L : Kv Ent) (e : Bool) (c : Int) (bd : Bool) (r : Int) (k s : List UInt8) : Kv Ent := if nok k = true ∧ pwr e c = true ∧ fit L k s bd r = true then putL k ⟨s, (ent k L).sf⟩ L else L
def wc (e : Bool) (c : Int) (k : List UInt8) : Int := if nok k = true then chg e c else c

set_option maxHeartbeats 3200000 in
set_option maxRecDepth 100000 in
theorem write_any (b : Nat) (mb : Option Nat) (L : Kv Ent) (e : Bool) (c : Int) (bd : Bool) (r : Int) (k s : List UInt8) (w : World) (h : PD w b mb L e c bd r) (hc : c ≤ 9223372036854775807) (hk : k.length ≤ 1000000) (hs : s.length ≤ 1000000) (hT : tot nl L ≤ 1000000000) (hn : L.length < 5000) :
    Calls Tryz.prog 105 #[.pointer (some ⟨b, 0, none⟩), .string ⟨k.toArray⟩, .string ⟨s.toArray⟩] w fun x w' => x = .returned (evv (wcd L e c bd r k s)) ∧ Po b mb (wL L e c bd r k s) e (wc e c k) bd r w w' := by
  obtain ⟨x, hx⟩ : ∃ x, x = evv (wcd L e c bd r k s) := ⟨_, rfl⟩
  obtain ⟨L', hL'⟩ : ∃ L', L' = wL L e c bd r k s := ⟨_, rfl⟩
  obtain ⟨c', hc'⟩ : ∃ c', c' = wc e c k := ⟨_, rfl⟩
  rw [← hx, ← hL', ← hc']
  unfold wcd at hx
  unfold wL at hL'
  unfold wc at hc'
  have cN : Calls Tryz.prog 146 #[.string ⟨k.toArray⟩] w fun x w' => x = .returned (.bool (nok k)) ∧ w' = w := named_any k w
  cases hz : nok k with
  | false =>
    rw [hz] at cN hx hL' hc'
    simp only [if_true, Bool.false_eq_true, false_and, if_false] at hx hL' hc'
    subst hx hL' hc'
    go_enter Tryz.func105, Tryz.ntmps105
    go_wp2_with fail
    refine cN.mono ?_
    rintro x w1 ⟨rfl, rfl⟩
    go_wp2
    go_ret
    exact ⟨rfl, Po.same h (Kp.refl _ _)⟩
  | true =>
    rw [hz] at cN hx hL' hc'
    simp only [Bool.true_eq_false, if_false, true_and, if_true] at hx hL' hc'
    have cC := change_any b mb L e c bd r w h hc
    unfold chv at cC
    cases hp : pwr e c with
    | false =>
      rw [hp] at cC hx hL'
      simp only [if_true, Bool.false_eq_true, false_and, if_false] at hx hL' cC
      subst hx hL' hc'
      go_enter Tryz.func105, Tryz.ntmps105
      go_wp2_with fail
      refine cN.mono ?_
      rintro x w1 ⟨rfl, rfl⟩
      go_wp2_with fail
      refine cC.mono ?_
      rintro x w2 ⟨rfl, hd, hkp⟩
      go_wp2
      go_ret
      exact ⟨rfl, Po.same hd (kp_dx hkp)⟩
    | true =>
      rw [hp] at cC hx hL'
      simp only [Bool.true_eq_false, if_false, true_and, if_true] at hx hL' cC
      rw [← hc'] at cC
      have cF := fun w2 (hd : PD w2 b mb L e c' bd r) => fits_any b mb L e c' bd r k s w2 hd hk hs hT hn
      cases hf : fit L k s bd r with
      | false =>
        rw [hf] at cF hx hL'
        simp only [if_true, Bool.false_eq_true, if_false] at hx hL'
        subst hx hL'
        clear hc'
        go_enter Tryz.func105, Tryz.ntmps105
        go_wp2_with fail
        refine cN.mono ?_
        rintro x w1 ⟨rfl, rfl⟩
        go_wp2_with fail
        refine cC.mono ?_
        rintro x w2 ⟨rfl, hd, hkp⟩
        have cF' := cF w2 hd
        go_wp2_with fail
        refine cF'.mono ?_
        rintro x w3 ⟨rfl, hb3⟩
        go_wp2
        go_ret
        exact ⟨rfl, Po.then (kp_dx hkp) (fun _ hm => .inl hm) (Po.same (hd.up hb3) (Kp.of hb3))⟩
      | true =>
        rw [hf] at cF hx hL'
        simp only [Bool.true_eq_false, if_false, if_true] at hx hL'
        subst hx
        clear hc'
        go_enter Tryz.func105, Tryz.ntmps105
        go_wp2_with fail
        refine cN.mono ?_
        rintro x w1 ⟨rfl, rfl⟩
        go_wp2_with fail
        refine cC.mono ?_
        rintro x w2 ⟨rfl, hd, hkp⟩
        have cF' := cF w2 hd
        go_wp2_with fail
        refine cF'.mono ?_
        rintro x w3 ⟨rfl, hb3⟩
        have hd3 := hd.up hb3
        have c0 := (dc_of hd3.blk).c0
        have hy := (look_any hd3 k hk w3 (fun _ _ => rfl)).1
        have HL : Hid (L' = putL k ⟨s, (ent k L).sf⟩ L) := hL'
        clear hL' cF cF' cC cN
        generalize ent k L = y at hy HL
        have hb4 := (Below.refl w3.heap.size w3).alloc (Nat.le_refl _) (eno y)
        have hd4 := hd3.up hb4
        have cL := clone_any s (w3.alloc (eno y)) hs
        unfold pv at hy
        have HD := Lib.hid hd4
        have H3 := Lib.hid (kp_dx (mb := mb) hkp)
        have HX := Lib.hid (nb0 w3 (eno y))
        have HB := Lib.hid (hb3.trans (hb4.mono hb3.size))
        have hlt := (Array.getElem?_eq_some_iff.1 hd3.blk).1
        have H33 := Lib.hid hd3
        have HB3 := Lib.hid hb3
        clear hd4 hd3 hd hb4 hb3 hkp
        go_wp2_with fail
        refine cL.mono ?_
        rintro x w5 ⟨rfl, hb5⟩
        have hX5 : w5.heap[w3.heap.size]? = some (eno y) := (hb5.block _ (by simp)).trans HX.out
        have x0 : w5.cell? ⟨w3.heap.size, 0, none⟩ = some (.string ⟨y.now.toArray⟩) := by simp [World.cell?, hX5]
        have x1 : w5.cell? ⟨w3.heap.size, 1, none⟩ = some (.string ⟨(y.sf.getD []).toArray⟩) := by simp [World.cell?, hX5]
        have x2 : w5.cell? ⟨w3.heap.size, 2, none⟩ = some (.bool y.sf.isSome) := by simp [World.cell?, hX5]
        have g0 : w5.frozen? ⟨w3.heap.size, 0, none⟩ = false := by simp [World.frozen?, hX5]
        have hl5 : w3.heap.size < w5.heap.size := (Array.getElem?_eq_some_iff.1 hX5).1
        have hd5 := HD.out.up hb5
        have hb6 : Below w3.heap.size w3 (w5.setCell ⟨w3.heap.size, 0, none⟩ (.string ⟨s.toArray⟩)) := (((Below.refl w3.heap.size w3).alloc (Nat.le_refl _) (eno y)).trans (hb5.mono (by simp))).setCell (Nat.le_refl _) _
        have hd6 : PD (w5.setCell ⟨w3.heap.size, 0, none⟩ (.string ⟨s.toArray⟩)) b mb L e c' bd r := H33.out.up hb6
        have cP := put_any b mb L e c' bd r k ⟨s, y.sf⟩ _ hd6 hk hT hs (by omega)
        rw [← HL.out] at cP
        have HB6 := Lib.hid hb6
        clear hb6 hd6 hd5 hb5 hX5 HL HX HD H33
        unfold pv at cP
        go_wp2_with fail
        refine cP.mono ?_
        rintro z w7 ⟨rfl, hpu⟩
        have hfin := Po.then H3.out (fun _ hm => Or.inl hm) (Po.below HB3.out (Po.below HB6.out (Po.put hpu)))
        clear cP hpu
        go_wp2
        go_ret
        exact ⟨rfl, hfin⟩
end Go.Proofs.YtlldfmnoidndmaaGreatDoor.Dsk
