/- The walk of depend's rightTerm. -/
import Derived.Test.YtglfdipepofcjabDoorTe
namespace Go.Proofs.YtglfdipepofcjabDoor
open Go.RowKit Go.Shelf Go.Sort

/-- A term that may be. -/
def tok (t : Tm) : Bool := nmo t.n && (if t.o = 0 then decide (t.e = 0) && (decide (t.u = []) && decide (t.r = [])) else decide (0 < t.o) && (decide (t.o < 6) && Vm.rt t.e t.u t.r))
/-- Of numbers that a word holds, and short. -/
structure Shn (t : Tm) : Prop where
  o0 : -9223372036854775808 ≤ t.o
  o1 : t.o ≤ 9223372036854775807
  e0 : -9223372036854775808 ≤ t.e
  e1 : t.e ≤ 9223372036854775807
  u : t.u.length ≤ 200
  r : t.r.length ≤ 200
def tmv (t : Tm) : Value := .agg #[.string ⟨t.n.toArray⟩, .int .i64 t.o, .int .i64 t.e, .string ⟨t.u.toArray⟩, .string ⟨t.r.toArray⟩]

set_option maxHeartbeats 800000 in
set_option maxRecDepth 100000 in
theorem rterm_no (t : Tm) (w : World) (hn : nmo t.n = false) : Calls Tryd.prog 56 #[tmv t] w fun x w' => x = .returned (.bool (tok t)) ∧ Below w.heap.size w w' := by
  have HK : Hid (tok t = false) := by show tok t = false; unfold tok; rw [hn]; rfl
  have cN := fun W => name_any t.n W
  rw [hn] at cN
  unfold tmv
  go_enter Tryd.func56, Tryd.ntmps56
  go_wp2_with fail
  refine (cN _).mono ?_
  rintro x w1 ⟨rfl, b1⟩
  go_wp2
  go_ret
  exact ⟨ret_bool HK.out.symm, bt2 (bA1 _ _) b1⟩
set_option maxHeartbeats 800000 in
set_option maxRecDepth 100000 in
theorem rterm_any0 (t : Tm) (w : World) (hn : nmo t.n = true) (ho : t.o = 0) : Calls Tryd.prog 56 #[tmv t] w fun x w' => x = .returned (.bool (tok t)) ∧ Below w.heap.size w w' := by
  obtain ⟨y, hy⟩ : ∃ y, y = tok t := ⟨_, rfl⟩
  have HK : Hid (y = (decide (t.e = 0) && (decide (t.u = []) && decide (t.r = [])))) := by show y = _; rw [hy]; unfold tok; rw [hn, if_pos ho]; rfl
  rw [← hy]
  have cN := fun W => name_any t.n W
  rw [hn] at cN
  unfold tmv
  rw [ho]
  clear ho hn hy
  go_enter Tryd.func56, Tryd.ntmps56
  go_wp2_with fail
  refine (cN _).mono ?_
  rintro x w1 ⟨rfl, b1⟩
  have tK := (K5.new w (.string ⟨t.n.toArray⟩) (.int .i64 0) (.int .i64 t.e) (.string ⟨t.u.toArray⟩) (.string ⟨t.r.toArray⟩) 68).on b1
  have hb := bt2 (bA1 _ _) b1
  obtain ⟨t0, t1, t2, t3, t4, tf, tl⟩ := tK
  clear b1 cN
  go_wp2
  all_goals
    go_ret
    refine ⟨ret_bool ?_, hb⟩
    rw [HK.out]
    simp_all

set_option maxHeartbeats 800000 in
set_option maxRecDepth 100000 in
theorem rterm_op (t : Tm) (w : World) (h : Shn t) (hT : Tab w) (hn : nmo t.n = true) (ho : ¬ t.o = 0) : Calls Tryd.prog 56 #[tmv t] w fun x w' => x = .returned (.bool (tok t)) ∧ Below w.heap.size w w' := by
  obtain ⟨y, hy⟩ : ∃ y, y = tok t := ⟨_, rfl⟩
  have HK : Hid (y = (decide (0 < t.o) && (decide (t.o < 6) && Vm.rt t.e t.u t.r))) := by show y = _; rw [hy]; unfold tok; rw [hn, if_neg ho]; rfl
  rw [← hy]
  have cN := fun W => name_any t.n W
  rw [hn] at cN
  have cR := fun W (hW : Below w.heap.size w W) => right_any t.e t.u t.r W h.e0 h.e1 h.u h.r (tab_on hT hW)
  obtain ⟨z, hz⟩ : ∃ z, z = Vm.rt t.e t.u t.r := ⟨_, rfl⟩
  rw [← hz] at cR HK
  unfold tmv
  clear hn hy hT hz h
  go_enter Tryd.func56, Tryd.ntmps56
  go_wp2_with fail
  refine (cN _).mono ?_
  rintro x w1 ⟨rfl, b1⟩
  have tK := (K5.new w (.string ⟨t.n.toArray⟩) (.int .i64 t.o) (.int .i64 t.e) (.string ⟨t.u.toArray⟩) (.string ⟨t.r.toArray⟩) 68).on b1
  have hb := bt2 (bA1 _ _) b1
  obtain ⟨t0, t1, t2, t3, t4, tf, tl⟩ := tK
  clear b1 cN
  by_cases h0 : 0 < t.o
  · by_cases h6 : t.o < 6
    · go_wp2_with fail
      refine (cR _ hb).mono ?_
      rintro x w2 ⟨rfl, b2⟩
      go_wp2
      go_ret
      exact ⟨ret_bool (by rw [HK.out]; simp [h0, h6]), bt2 hb b2⟩
    · go_wp2
      go_ret
      exact ⟨ret_bool (by rw [HK.out]; simp; intro _ _; omega), hb⟩
  · go_wp2
    go_ret
    exact ⟨ret_bool (by rw [HK.out]; simp; intro _ _; omega), hb⟩

/-- Whether a term may be. -/
theorem rterm_any (t : Tm) (w : World) (h : Shn t) (hT : Tab w) : Calls Tryd.prog 56 #[tmv t] w fun x w' => x = .returned (.bool (tok t)) ∧ Below w.heap.size w w' := by
  cases hn : nmo t.n with
  | false => exact rterm_no t w hn
  | true =>
    by_cases ho : t.o = 0
    · exact rterm_any0 t w hn ho
    · exact rterm_op t w h hT hn ho

end Go.Proofs.YtglfdipepofcjabDoor
