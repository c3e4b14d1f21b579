/- The law StatusTells, whole. -/
import Derived.Test.YtoojbpldhhbkbaaGreatDoorHo
import Derived.Test.YtoojbpldhhbkbaaGreatDoorHm
namespace Go.Proofs.YtoojbpldhhbkbaaGreatDoor
open Go.RowKit Go.Shelf Go.Sort

theorem xps_any (s : List UInt8) (w : World) (hs : s.length ≤ 400) (ht : Tab w) (g : Gb w) : Calls Tryz.prog 11 #[.string ⟨s.toArray⟩] w fun e w' => XPar s e w w' := by
  by_cases h5 : (spk 32 (s.count 32) s).length = 5
  · obtain ⟨w0, w1, w2, w3, w4, hL⟩ := five h5
    exact xp_walk s w0 w1 w2 w3 w4 hs hL w ht g
  · exact xp_len s hs w g h5
set_option maxRecDepth 100000 in
set_option maxHeartbeats 6400000 in
theorem tells_no (n e : Int) (u r : List UInt8) (held : Bool) (A A' : Option Addr) (c c' : Nat) (W T : List (List UInt8)) (text : List UInt8) (w : World) (hW : Ss w (.slice A W.length c) W) (hT : Ss w (.slice A' T.length c') T)
    (h : ¬ ((decide (u.length ≤ 100) && decide (r.length ≤ 100)) = true ∧ txs W = true ∧ txs T = true ∧ text.length ≤ 400)) :
    Calls Tryz.prog 3 #[stv n e u r held (.slice A W.length c) (.slice A' T.length c'), .string ⟨text.toArray⟩] w fun y w' => y = .returned (.bool true) ∧ Below w.heap.size w w' := by
  have b1 := bA1 w (sto n e u r held (.slice A W.length c) (.slice A' T.length c') 26)
  have S1 := stc_new w n e u r held (.slice A W.length c) (.slice A' T.length c') 26
  have c1 := lshort_any e u r (w.alloc (sto n e u r held (.slice A W.length c) (.slice A' T.length c') 26))
  have HB := Lib.hid b1
  have HS := Lib.hid S1
  have HW := Lib.hid (hW.on b1)
  have HT := Lib.hid (hT.on b1)
  have HH := Lib.hid h
  clear b1 S1 hW hT h
  generalize (decide (u.length ≤ 100) && decide (r.length ≤ 100)) = y1 at HH c1
  cases y1 with
  | false =>
    clear HH
    go_enter Tryz.func3, Tryz.ntmps3
    go_wp2_with fail
    with_reducible refine c1.mono ?_
    rintro y w2 ⟨rfl, b2⟩
    go_wp2
    go_ret
    exact ⟨rfl, bt2 HB.out b2⟩
  | true =>
    go_enter Tryz.func3, Tryz.ntmps3
    go_wp2_with fail
    with_reducible refine c1.mono ?_
    rintro y w2 ⟨rfl, b2⟩
    clear c1
    have c2 := texts_any _ W w2 (HW.out.on b2)
    generalize txs W = y2 at HH c2
    obtain ⟨_, a0, a1, a2, a3, a4, a5, a6⟩ := HS.out.on b2
    go_wp2_with fail
    with_reducible refine c2.mono ?_
    rintro y w3 ⟨rfl, b3⟩
    have b23 := bt2 b2 b3
    clear c2 a0 a1 a2 a3 a4 a5 a6 b2 b3
    cases y2 with
    | false =>
      clear HH
      go_wp2
      go_ret
      exact ⟨rfl, bt2 HB.out b23⟩
    | true =>
      have c3 := texts_any _ T w3 (HT.out.on b23)
      generalize txs T = y3 at HH c3
      obtain ⟨_, a0, a1, a2, a3, a4, a5, a6⟩ := HS.out.on b23
      go_wp2_with fail
      with_reducible refine c3.mono ?_
      rintro y w4 ⟨rfl, b4⟩
      have b24 := bt2 b23 b4
      clear c3 a0 a1 a2 a3 a4 a5 a6 b23 b4
      cases y3 with
      | false =>
        clear HH
        go_wp2
        go_ret
        exact ⟨rfl, bt2 HB.out b24⟩
      | true =>
        have h4 : (400 : Int) < (text.length : Int) := by have := HH.out; simp at this; omega
        clear HH
        go_wp2
        go_ret
        exact ⟨rfl, bt2 HB.out b24⟩
theorem tells_any (x : Sta) (A A' : Option Addr) (c c' : Nat) (text : List UInt8) (w : World) (hW : Ss w (.slice A x.W.length c) x.W) (hT : Ss w (.slice A' x.T.length c') x.T) (i : In64 x.e) (ht : Tab w) (g : Gb w) (hE : ErrT w) :
    Calls Tryz.prog 3 #[stv x.n x.e x.u x.r x.held (.slice A x.W.length c) (.slice A' x.T.length c'), .string ⟨text.toArray⟩] w fun y w' => y = .returned (.bool true) ∧ Below w.heap.size w w' := by
  by_cases h : (decide (x.u.length ≤ 100) && decide (x.r.length ≤ 100)) = true ∧ txs x.W = true ∧ txs x.T = true ∧ text.length ≤ 400
  · exact tells_go x.n x.e x.u x.r x.held A A' c c' x.W x.T text w hW hT i ht g hE h.1 h.2.1 h.2.2.1 h.2.2.2 fun s w h1 h2 h3 => xps_any s w h1 h2 h3
  · exact tells_no x.n x.e x.u x.r x.held A A' c c' x.W x.T text w hW hT h
end Go.Proofs.YtoojbpldhhbkbaaGreatDoor
