/- The reference's ParseStatus. -/
import Derived.Test.YtoojbpldhhbkbaaGreatDoorHj
namespace Go.Proofs.YtoojbpldhhbkbaaGreatDoor
open Go.RowKit Go.Shelf Go.Sort

theorem split_any (s : List UInt8) (c : UInt8) (hs : s.length ≤ 1000) (w : World) (h : Gb w) :
    Calls Tryz.prog 35 #[.string ⟨s.toArray⟩, .string ⟨#[c]⟩] w fun e w' => (∃ A k, e = .returned (.slice A (spk c (s.count c) s).length k) ∧ Ss w' (.slice A (spk c (s.count c) s).length k) (spk c (s.count c) s) ∧ NewA A w.heap.size) ∧ Below w.heap.size w w' := by
  obtain ⟨m, hm⟩ := h.m
  have e1 : (ByteArray.mk s.toArray).size = s.length := by simp [ByteArray.size]
  have e2 : Lib.countB ⟨s.toArray⟩ ⟨#[c]⟩ = s.count c := by unfold Lib.countB; exact Lib.count_one c s
  refine (Tryz.strings_Split ⟨s.toArray⟩ ⟨#[c]⟩ m w (by rw [e1]; omega) hm (by simp [ByteArray.size])).mono ?_
  rintro e w' ⟨rfl, rfl⟩
  rw [e2, splitB_spk]
  have hl : (spk c (s.count c) s).length = s.count c + 1 := by
    have := Lib.splitB_all ⟨#[c]⟩ (by simp [ByteArray.size]) 0 (s.count c) ⟨s.toArray⟩ e2
    rw [splitB_spk, List.length_map] at this
    exact this
  rw [← hl]
  refine ⟨⟨_, _, rfl, ⟨Or.inr ⟨_, _, _, rfl, Nat.le_refl _, by simp, fun i hi => ?_⟩⟩, fun p hp => by cases hp; exact Nat.le_refl _⟩, bA1 _ _⟩
  simp only [Nat.zero_add]
  simp [hi]
theorem rets11 {a : Act} {W : World} {g : Nat} {y0 y1 y2 y3 y4 y5 y6 v : Value} {Q : Ending → World → Prop} (h : At7 W g y0 y1 y2 y3 y4 y5 y6) (hd : a.defers = []) (h2 : a.tmps.getD 2 undef = .pointer (some ⟨g, 0, none⟩)) (h3 : a.tmps.getD 3 undef = v)
    (hQ : Q (.returned (.tuple #[.agg #[y0, y1, y2, y3, y4, y5, y6], v])) W) : bodyPost Tryz.prog Tryz.f11 Q Exit.ret a W := by
  obtain ⟨c0, c1, c2, c3, c4, c5, c6⟩ := h
  rw [Array.getD_eq_getD_getElem?] at h2 h3
  exact bodyPost_ret (v := .tuple #[.agg #[y0, y1, y2, y3, y4, y5, y6], v]) (by simp [results, Tryz.results11, go_sem, h2, h3, c0, c1, c2, c3, c4, c5, c6]) hd hQ
/-- What ParseStatus answers. -/
structure XPar (s : List UInt8) (e : Ending) (w w' : World) : Prop where
  out : ((e = .returned (.tuple #[stv 0 0 [] [] false (.slice none 0 0) (.slice none 0 0), .int .i64 3]) ∧ rds s = none) ∨
    (∃ x A n c A' n' c', e = .returned (.tuple #[stv x.n x.e x.u x.r x.held (.slice A n c) (.slice A' n' c'), .int .i64 0]) ∧ Ss w' (.slice A n c) x.W ∧ Ss w' (.slice A' n' c') x.T ∧ rds s = some x)) ∧ Below w.heap.size w w'
theorem onv_eq (l : List UInt8) : onv (one l) = .tuple #[.int .i64 ((one l).getD 0), .bool (one l).isSome] := by cases one l <;> rfl
theorem xp_len (s : List UInt8) (hs : s.length ≤ 400) (w : World) (g : Gb w) (h5 : (spk 32 (s.count 32) s).length ≠ 5) : Calls Tryz.prog 11 #[.string ⟨s.toArray⟩] w fun e w' => XPar s e w w' := by
  have b0 := bA1 w (stz 26)
  have kR := k7_new w 26
  have cS := split_any s 32 (by omega) _ (g.on b0)
  have HB := Lib.hid b0
  have HR := Lib.hid (rdsR_words h5)
  have h5' : (((spk 32 (s.count 32) s).length : Int) == 5) = false := by rw [beq_eq_false_iff_ne]; omega
  generalize spk 32 (s.count 32) s = L at cS h5'
  clear b0 g h5
  go_enter Tryz.func11, Tryz.ntmps11
  go_wp2_with fail
  refine cS.mono ?_
  rintro e w1 ⟨⟨A, k, rfl, hS, _⟩, b1⟩
  clear cS
  have kT := kR.on b1
  obtain ⟨kl, k0, k1, k2, k3, k4, k5, k6, kf⟩ := kR.on b1
  clear kR
  go_wp2
  exact rets11 (res7 kT (.int .i64 0) (.int .i64 0) (.string ⟨#[]⟩) (.string ⟨#[]⟩) (.bool false) (.slice none 0 0) (.slice none 0 0)) rfl rfl rfl ⟨Or.inl ⟨rfl, HR.out⟩, set7_below (bt2 HB.out b1) (Nat.le_refl _) _ _ _ _ _ _ _⟩
/-- A status that is being read. -/
structure Sx (W : World) (q : Nat) (n e : Int) (u r : List UInt8) (held : Bool) (vW vT : Value) : Prop where
  at7 : At7 W q (.int .i64 n) (.int .i64 e) (.string ⟨u.toArray⟩) (.string ⟨r.toArray⟩) (.bool held) vW vT
  lt : q < W.heap.size
  f : ∀ j, W.frozen? ⟨q, j, none⟩ = false
/-- Where ParseStatus stands: its result's block, the words, the status that is being read. -/
structure Cx (w W : World) (q b o : Nat) (ws : List (List UInt8)) (n e : Int) (u r : List UInt8) (held : Bool) (vW vT : Value) : Prop where
  hq : w.heap.size < q
  hb : b ≠ q
  sx : Sx W q n e u r held vW vT
  k7 : K7 W w.heap.size
  sr : Sr W b o ws
  bl : Below w.heap.size w W
variable {w W : World} {q b o : Nat} {ws : List (List UInt8)} {n e : Int} {u r : List UInt8} {held : Bool} {vW vT : Value}
theorem Cx.on (h : Cx w W q b o ws n e u r held vW vT) {W' : World} (k : Below W.heap.size W W') : Cx w W' q b o ws n e u r held vW vT :=
  ⟨h.hq, h.hb, ⟨h.sx.at7.on k h.sx.lt, Nat.lt_of_lt_of_le h.sx.lt k.size, fun j => by rw [k.frozen h.sx.lt]; exact h.sx.f j⟩, h.k7.on k, h.sr.on k, bt2 h.bl k⟩
theorem k7_set {g i : Nat} {y : Value} (h : K7 W g) (hg : g ≠ q) : K7 (W.setCell ⟨q, i, none⟩ y) g :=
  ⟨by simpa using h.lt, by rw [cell_set_ne hg]; exact h.c0, by rw [cell_set_ne hg]; exact h.c1, by rw [cell_set_ne hg]; exact h.c2, by rw [cell_set_ne hg]; exact h.c3, by rw [cell_set_ne hg]; exact h.c4, by rw [cell_set_ne hg]; exact h.c5, by rw [cell_set_ne hg]; exact h.c6, fun j => by simpa using h.f j⟩
theorem sr_set {i : Nat} {y : Value} (h : Sr W b o ws) (hb : b ≠ q) : Sr (W.setCell ⟨q, i, none⟩ y) b o ws :=
  ⟨by simpa using h.lt, fun j hj => by rw [cell_set_ne hb]; exact h.c j hj⟩
theorem Cx.set (h : Cx w W q b o ws n e u r held vW vT) (i : Nat) (y : Value) {n' e' : Int} {u' r' : List UInt8} {held' : Bool} {vW' vT' : Value} (hA : At7 (W.setCell ⟨q, i, none⟩ y) q (.int .i64 n') (.int .i64 e') (.string ⟨u'.toArray⟩) (.string ⟨r'.toArray⟩) (.bool held') vW' vT') : Cx w (W.setCell ⟨q, i, none⟩ y) q b o ws n' e' u' r' held' vW' vT' :=
  ⟨h.hq, h.hb, ⟨hA, by simpa using h.sx.lt, fun j => by simpa using h.sx.f j⟩, k7_set h.k7 (by have := h.hq; omega), sr_set h.sr h.hb, h.bl.setCell (Nat.le_of_lt h.hq) _⟩
theorem Cx.set0 (h : Cx w W q b o ws n e u r held vW vT) (n' : Int) : Cx w (W.setCell ⟨q, 0, none⟩ (.int .i64 n')) q b o ws n' e u r held vW vT := by
  obtain ⟨c0, c1, c2, c3, c4, c5, c6⟩ := h.sx.at7
  exact h.set 0 _ ⟨by simp [go_sem, c0], by simp [go_sem, c1], by simp [go_sem, c2], by simp [go_sem, c3], by simp [go_sem, c4], by simp [go_sem, c5], by simp [go_sem, c6]⟩
theorem Cx.set1 (h : Cx w W q b o ws n e u r held vW vT) (e' : Int) : Cx w (W.setCell ⟨q, 1, none⟩ (.int .i64 e')) q b o ws n e' u r held vW vT := by
  obtain ⟨c0, c1, c2, c3, c4, c5, c6⟩ := h.sx.at7
  exact h.set 1 _ ⟨by simp [go_sem, c0], by simp [go_sem, c1], by simp [go_sem, c2], by simp [go_sem, c3], by simp [go_sem, c4], by simp [go_sem, c5], by simp [go_sem, c6]⟩
theorem Cx.set2 (h : Cx w W q b o ws n e u r held vW vT) (u' : List UInt8) : Cx w (W.setCell ⟨q, 2, none⟩ (.string ⟨u'.toArray⟩)) q b o ws n e u' r held vW vT := by
  obtain ⟨c0, c1, c2, c3, c4, c5, c6⟩ := h.sx.at7
  exact h.set 2 _ ⟨by simp [go_sem, c0], by simp [go_sem, c1], by simp [go_sem, c2], by simp [go_sem, c3], by simp [go_sem, c4], by simp [go_sem, c5], by simp [go_sem, c6]⟩
theorem Cx.set3 (h : Cx w W q b o ws n e u r held vW vT) (r' : List UInt8) : Cx w (W.setCell ⟨q, 3, none⟩ (.string ⟨r'.toArray⟩)) q b o ws n e u r' held vW vT := by
  obtain ⟨c0, c1, c2, c3, c4, c5, c6⟩ := h.sx.at7
  exact h.set 3 _ ⟨by simp [go_sem, c0], by simp [go_sem, c1], by simp [go_sem, c2], by simp [go_sem, c3], by simp [go_sem, c4], by simp [go_sem, c5], by simp [go_sem, c6]⟩
theorem Cx.set4 (h : Cx w W q b o ws n e u r held vW vT) (held' : Bool) : Cx w (W.setCell ⟨q, 4, none⟩ (.bool held')) q b o ws n e u r held' vW vT := by
  obtain ⟨c0, c1, c2, c3, c4, c5, c6⟩ := h.sx.at7
  exact h.set 4 _ ⟨by simp [go_sem, c0], by simp [go_sem, c1], by simp [go_sem, c2], by simp [go_sem, c3], by simp [go_sem, c4], by simp [go_sem, c5], by simp [go_sem, c6]⟩
theorem Cx.set5 (h : Cx w W q b o ws n e u r held vW vT) (v : Value) : Cx w (W.setCell ⟨q, 5, none⟩ v) q b o ws n e u r held v vT := by
  obtain ⟨c0, c1, c2, c3, c4, c5, c6⟩ := h.sx.at7
  exact h.set 5 _ ⟨by simp [go_sem, c0], by simp [go_sem, c1], by simp [go_sem, c2], by simp [go_sem, c3], by simp [go_sem, c4], by simp [go_sem, c5], by simp [go_sem, c6]⟩
theorem Cx.set6 (h : Cx w W q b o ws n e u r held vW vT) (v : Value) : Cx w (W.setCell ⟨q, 6, none⟩ v) q b o ws n e u r held vW v := by
  obtain ⟨c0, c1, c2, c3, c4, c5, c6⟩ := h.sx.at7
  exact h.set 6 _ ⟨by simp [go_sem, c0], by simp [go_sem, c1], by simp [go_sem, c2], by simp [go_sem, c3], by simp [go_sem, c4], by simp [go_sem, c5], by simp [go_sem, c6]⟩
theorem Cx.drew (h : Cx w W q b o ws n e u r held vW vT) : Cx w W.drew q b o ws n e u r held vW vT := h.on (Below.refl _ _).drew
end Go.Proofs.YtoojbpldhhbkbaaGreatDoor
