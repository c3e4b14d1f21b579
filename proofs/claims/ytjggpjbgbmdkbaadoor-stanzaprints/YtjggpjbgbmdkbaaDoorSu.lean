/- The walk of the law StanzaPrints. -/
import Derived.Test.YtjggpjbgbmdkbaaDoorSq
namespace Go.Proofs.YtjggpjbgbmdkbaaDoor
open Go.RowKit Go.Shelf Go.Sort

def f1 (f : Sm.F) : Bool := decide (f.1.length ≤ 100) && decide (f.2.length ≤ 400)
def fo (l : List Sm.F) : Bool := decide (l.length ≤ 60) && l.all f1
theorem sz_of {l : List Sm.F} (h : fo l = true) : Sz l := by
  unfold fo at h
  rw [Bool.and_eq_true, List.all_eq_true] at h
  exact ⟨by simpa using h.1, fun f hf => by have := h.2 f hf; simpa [f1] using this⟩

theorem fo_long (A : Option Addr) (n c : Nat) (w : World) (h : 60 < n) : Calls Tryd.prog 29 #[.slice A n c] w fun e w' => e = .returned (.bool false) ∧ w' = w := by
  go_enter Tryd.func29, Tryd.ntmps29
  go_wp2
  go_ret
  exact ⟨rfl, rfl⟩
theorem fo_nil (A : Option Addr) (c : Nat) (w : World) : Calls Tryd.prog 29 #[.slice A 0 c] w fun e w' => e = .returned (.bool true) ∧ w' = w := by
  go_enter Tryd.func29, Tryd.ntmps29
  go_wp2
  refine wp_loop_rounds 1 ?_
  rw [rounds_succ]
  go_wp2
  go_ret
  exact ⟨rfl, rfl⟩

set_option maxHeartbeats 1600000 in
set_option maxRecDepth 100000 in
theorem fo_row (b o c : Nat) (l : List Sm.F) (w : World) (h : Fl w b o l) (hn : l.length ≤ 60) : Calls Tryd.prog 29 #[.slice (some ⟨b, o, none⟩) l.length c] w fun e w' => e = .returned (.bool (l.all f1)) ∧ w' = w := by
  obtain ⟨r, hr⟩ : ∃ r, r = l.all f1 := ⟨_, rfl⟩
  have HR := Lib.hid hr
  rw [← hr]
  clear hr
  have HF := Lib.hid h
  clear h
  go_enter Tryd.func29, Tryd.ntmps29
  go_wp2
  go_loop [3] (fun i => ∃ k : Nat, k ≤ l.length ∧ i = .int .i64 k ∧ Hid (∀ j (hj : j < l.length), j < k → f1 l[j] = true)) (fun i => l.length - (intOf i).toNat)
  case atStart => exact ⟨0, Nat.zero_le _, rfl, fun j _ h => absurd h (Nat.not_lt_zero _)⟩
  case round =>
    obtain ⟨k, hk, rfl, HP⟩ := hrel
    by_cases hlt : k < l.length
    · have c0 := HF.out.c0 k hlt
      have c1 := HF.out.c1 k hlt
      have HN : Hid (f1 l[k] = false → r = false) := fun e => by
        rw [HR.out, List.all_eq_false]
        exact ⟨l[k], List.getElem_mem hlt, by simp [e]⟩
      have HM : Hid (f1 l[k] = true → ∀ j (hj : j < l.length), j < k + 1 → f1 l[j] = true) := fun e j hj h => by
        by_cases e2 : j = k
        · subst e2; exact e
        · exact HP.out j hj (by omega)
      by_cases h1 : l[k].1.length ≤ 100
      · by_cases h2 : l[k].2.length ≤ 400
        · have HG := Lib.hid (HM.out (by simp [f1, h1, h2]))
          clear HN HM
          go_wp2
          exact ⟨⟨k + 1, hlt, by go_num, HG⟩, by simp [intOf]; omega⟩
        · have HG := Lib.hid (HN.out (by simp [f1, h2]))
          clear HN HM
          go_wp2
          go_ret
          exact ⟨ret_bool HG.out.symm, rfl⟩
      · have HG := Lib.hid (HN.out (by simp [f1, h1]))
        clear HN HM
        go_wp2
        go_ret
        exact ⟨ret_bool HG.out.symm, rfl⟩
    · have hall : l.all f1 = true := by
        rw [List.all_eq_true]
        intro f hf
        obtain ⟨j, hj, rfl⟩ := List.getElem_of_mem hf
        exact HP.out j hj (by omega)
      have HG := Lib.hid (HR.out.trans hall)
      go_wp2
      go_ret
      exact ⟨ret_bool HG.out.symm, rfl⟩
theorem fo_any (v : Value) (l : List Sm.F) (w : World) (h : Sl w v l) : Calls Tryd.prog 29 #[v] w fun e w' => e = .returned (.bool (fo l)) ∧ w' = w := by
  rcases h.is with ⟨rfl, A, c, rfl⟩ | ⟨b, o, c, rfl, hc, hf⟩
  · exact fo_nil A c w
  · by_cases hn : l.length ≤ 60
    · rw [show fo l = l.all f1 from by simp [fo, hn]]
      exact fo_row b o c l w hf hn
    · rw [show fo l = false from by simp [fo, hn]]
      exact fo_long _ _ c w (by omega)

set_option maxHeartbeats 800000 in
theorem xprint_any (v : Value) (l : List Sm.F) (w : World) (h : Sl w v l) (hz : Sz l) (hm : MaxL w) : Calls Tryd.prog 30 #[v] w fun e w' => e = .returned (prVal l (.int .i64 1) (.int .i64 0)) ∧ Below w.heap.size w w' := by
  have hts := txt_small hz
  have cT := fun W hW hM => xt_any v l W hW hz hts hM
  have cR := fun W hW hM => xs_any v l W hW hz hM
  have HS := Lib.hid h
  unfold prVal
  cases hr : Sm.rgt l with
  | false =>
    rw [hr] at cR
    have HR := Lib.hid cR
    clear cR cT h hr hz hts
    go_enter Tryd.func30, Tryd.ntmps30
    go_wp2_with fail
    refine (HR.out _ HS.out hm).mono ?_
    rintro e w1 ⟨rfl, b1⟩
    go_wp2
    go_ret2
    exact ⟨rfl, b1⟩
  | true =>
    rw [hr] at cR
    obtain ⟨t, ht⟩ : ∃ t, t = Sm.txt l := ⟨_, rfl⟩
    rw [← ht] at cT hts ⊢
    have HR := Lib.hid cR
    have HT := Lib.hid cT
    clear cR cT h hr hz ht
    go_enter Tryd.func30, Tryd.ntmps30
    go_wp2_with fail
    refine (HR.out _ HS.out hm).mono ?_
    rintro e w1 ⟨rfl, b1⟩
    go_wp2_with fail
    refine (HT.out _ (HS.out.on b1) (hm.on b1)).mono ?_
    rintro e w2 ⟨rfl, b2⟩
    go_wp2
    go_ret2
    exact ⟨rfl, onn b1 b2⟩

/-- What either side tells of l: a text, an error. -/
structure Pr (l : List Sm.F) (t : List UInt8) (er : Value) (en : Int) : Prop where
  x : prVal l (.int .i64 1) (.int .i64 0) = .tuple #[.string ⟨t.toArray⟩, .int .i64 en]
  y : prVal l (.iface 25 (.int .i64 1)) .nilIface = .tuple #[.string ⟨t.toArray⟩, er]
  b : ∀ w, ErrT w → Calls Tryd.prog 12 #[er, .int .i64 en] w fun x w' => x = .returned (.bool true) ∧ Below w.heap.size w w'
theorem pr_of (l : List Sm.F) : ∃ t er en, Pr l t er en := by
  cases h : Sm.rgt l with
  | true => exact ⟨Sm.txt l, _, 0, by simp [prVal, h], by simp [prVal, h], fun w _ => bare_nil w⟩
  | false => exact ⟨[], _, 1, by simp [prVal, h], by simp [prVal, h], fun w hg => bare_errno 1 w hg⟩
theorem get_of (l : List Sm.F) (n : List UInt8) : ∃ (x : List UInt8) (q : Bool), getVal (Sm.gets l n) = .tuple #[.string ⟨x.toArray⟩, .bool q] := by
  cases Sm.gets l n with
  | none => exact ⟨[], false, rfl⟩
  | some v => exact ⟨v, true, rfl⟩

set_option maxHeartbeats 1600000 in
set_option maxRecDepth 100000 in
theorem prints_no (v : Value) (l : List Sm.F) (n : List UInt8) (w : World) (h : Sl w v l) (hf : fo l = false) :
    Calls Tryd.prog 7 #[v, .string ⟨n.toArray⟩] w fun x w' => x = .returned (.bool true) ∧ Below w.heap.size w w' := by
  have cF := fo_any v l w h
  rw [hf] at cF
  go_enter Tryd.func7, Tryd.ntmps7
  go_wp2_with (go_at_call 29; refine cF.mono ?_; rintro x w' ⟨rfl, rfl⟩)
  go_ret
  exact ⟨rfl, Below.refl _ _⟩
set_option maxHeartbeats 1600000 in
set_option maxRecDepth 100000 in
theorem prints_long (v : Value) (l : List Sm.F) (n : List UInt8) (w : World) (h : Sl w v l) (hf : fo l = true) (hn : 100 < n.length) :
    Calls Tryd.prog 7 #[v, .string ⟨n.toArray⟩] w fun x w' => x = .returned (.bool true) ∧ Below w.heap.size w w' := by
  have cF := fo_any v l w h
  rw [hf] at cF
  go_enter Tryd.func7, Tryd.ntmps7
  go_wp2_with (go_at_call 29; refine cF.mono ?_; rintro x w' ⟨rfl, rfl⟩)
  go_ret
  exact ⟨rfl, Below.refl _ _⟩

set_option maxHeartbeats 3200000 in
set_option maxRecDepth 100000 in
theorem prints_m (v : Value) (l : List Sm.F) (n : List UInt8) (w : World) (h : Sl w v l) (hf : fo l = true) (hn : n.length ≤ 100) (hm : MaxL w) (hg : ErrT w) :
    Calls Tryd.prog 7 #[v, .string ⟨n.toArray⟩] w fun x w' => x = .returned (.bool true) ∧ Below w.heap.size w w' := by
  have hz := sz_of hf
  have hn6 : n.length ≤ 1000000 := by omega
  have cF := fo_any v l w h
  rw [hf] at cF
  obtain ⟨t, er, en, P⟩ := pr_of l
  obtain ⟨x, q, hG⟩ := get_of l n
  obtain ⟨s, hs⟩ : ∃ s, s = Sm.small n := ⟨_, rfl⟩
  obtain ⟨g, hgt⟩ : ∃ g, g = Sm.rgt l := ⟨_, rfl⟩
  have A1 := Lib.hid (fun W hW hM => xprint_any v l W hW hz hM)
  have A2 := Lib.hid (fun W hW => print_any v l W hW hz)
  have A3 := Lib.hid (fun W hW => xget_any v l n W hW hz hn6)
  have A4 := Lib.hid (fun W hW => get_any v l n W hW hz hn6)
  have A5 := Lib.hid (fun W hW => right_any v l W hW hz)
  have A6 := Lib.hid (fun W hW hM => xs_any v l W hW hz hM)
  have A7 := Lib.hid (fun W => small_any n W hn6)
  have A8 := Lib.hid (fun W => xsmall_any n W hn6)
  rw [P.x] at A1
  rw [P.y] at A2
  rw [hG] at A3 A4
  rw [← hgt] at A5 A6
  rw [← hs] at A7 A8
  have HS := Lib.hid h
  clear h hG hgt hs hz hf
  go_enter Tryd.func7, Tryd.ntmps7
  go_wp2_with (go_at_call 29; refine cF.mono ?_; rintro x w' ⟨rfl, rfl⟩)
  refine (A1.out _ HS.out hm).mono ?_
  rintro e w1 ⟨rfl, b1⟩
  go_wp2_with fail
  refine (A2.out _ (HS.out.on b1)).mono ?_
  rintro e w2 ⟨rfl, b2'⟩
  have b2 := onn b1 b2'
  go_wp2_with fail
  refine (A3.out _ (HS.out.on b2)).mono ?_
  rintro e w3 ⟨rfl, b3'⟩
  have b3 := onn b2 b3'
  go_wp2_with fail
  refine (A4.out _ (HS.out.on b3)).mono ?_
  rintro e w4 ⟨rfl, b4'⟩
  have b4 := onn b3 b4'
  go_wp2_with fail
  refine (P.b _ (hg.on b4)).mono ?_
  rintro e w5 ⟨rfl, b5'⟩
  have b5 := onn b4 b5'
  go_wp2_with fail
  refine (A5.out _ (HS.out.on b5)).mono ?_
  rintro e w6 ⟨rfl, b6'⟩
  have b6 := onn b5 b6'
  go_wp2_with fail
  refine (A6.out _ (HS.out.on b6) (hm.on b6)).mono ?_
  rintro e w7 ⟨rfl, b7'⟩
  have b7 := onn b6 b7'
  go_wp2_with fail
  refine (A7.out _).mono ?_
  rintro e w8 ⟨rfl, b8'⟩
  have b8 := onn b7 b8'
  go_wp2_with fail
  refine (A8.out _).mono ?_
  rintro e w9 ⟨rfl, b9'⟩
  have b9 := onn b8 b9'
  go_wp2
  go_ret
  exact ⟨rfl, b9⟩

theorem prints_any (v : Value) (l : List Sm.F) (n : List UInt8) (w : World) (h : Sl w v l) (hm : MaxL w) (hg : ErrT w) :
    Calls Tryd.prog 7 #[v, .string ⟨n.toArray⟩] w fun x w' => x = .returned (.bool true) ∧ Below w.heap.size w w' := by
  cases hf : fo l with
  | false => exact prints_no v l n w h hf
  | true =>
    by_cases hn : n.length ≤ 100
    · exact prints_m v l n w h hf hn hm hg
    · exact prints_long v l n w h hf (by omega)

end Go.Proofs.YtjggpjbgbmdkbaaDoor
