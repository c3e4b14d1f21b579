/- What is done with a setting: the program's Choice and the document's, walked. -/
import Derived.Test.YtlldfmnoidndmaaGreatDoorProg
import Derived.WalkKit
import Derived.OwnWalk
import Derived.BigCall
import Derived.Deep.Slices
import Derived.ChangeSame
import Derived.Lib.Hide
import Derived.Lib.QuietBelow
import Derived.WideShapes
import Derived.WalkSpells
import Derived.WalkLawsBesides
import Derived.Deep.QuietTactic
import Derived.BigQuiet
import Derived.BigRegion
namespace Go.Proofs.YtlldfmnoidndmaaGreatDoor.Cho
open Go.RowKit

theorem ret_bool {a b : Bool} (h : a = b) : Ending.returned (.bool a) = .returned (.bool b) := by rw [h]
theorem ret_int {k : IntKind} {a b : Int} (h : a = b) : Ending.returned (.int k a) = .returned (.int k b) := by rw [h]
/-- A text that may be, behind a pointer. -/
structure Tp (w : World) (v : Value) (o : Option ByteArray) : Prop where
  is : (o = none ∧ v = .pointer none) ∨ ∃ b s, o = some s ∧ v = .pointer (some b) ∧ w.cell? b = some (.string s)
def sm (a b : Option ByteArray) : Bool := match a, b with
  | some s, some t => s.toList == t.toList
  | _, _ => false
theorem Tp.on {w w' : World} {v : Value} {o : Option ByteArray} (h : Tp w v o) (k : Below w.heap.size w w') : Tp w' v o := by
  rcases h.is with h | ⟨b, s, h1, h2, h3⟩
  · exact ⟨.inl h⟩
  · exact ⟨.inr ⟨b, s, h1, h2, by rw [k.cell (block_lt_of_cell h3)]; exact h3⟩⟩
theorem same_any (u v : Value) (a b : Option ByteArray) (w : World) (ha : Tp w u a) (hb : Tp w v b) : Calls Tryz.prog 136 #[u, v] w fun e w' => e = .returned (.bool (sm a b)) ∧ Below w.heap.size w w' := by
  rcases ha.is with ⟨rfl, rfl⟩ | ⟨p, s, rfl, rfl, h1⟩
  · go_enter Tryz.func136, Tryz.ntmps136
    go_wp2
    go_region
    go_wp2
    go_ret
    exact ⟨rfl, (Below.refl _ _).drew⟩
  · rcases hb.is with ⟨rfl, rfl⟩ | ⟨q, t, rfl, rfl, h2⟩
    · clear ha hb
      go_enter Tryz.func136, Tryz.ntmps136
      go_wp2
      go_region
      go_wp2
      go_ret
      exact ⟨rfl, (Below.refl _ _).drew⟩
    · clear ha hb
      go_enter Tryz.func136, Tryz.ntmps136
      go_wp2
      go_region
      go_wp2
      go_ret
      exact ⟨rfl, (Below.refl _ _).drew⟩
theorem sm_comm (a b : Option ByteArray) : sm a b = sm b a := by
  unfold sm
  cases a <;> cases b <;> first | rfl | exact Bool.beq_comm
/-- What is done with a setting. -/
def cho (o n x : Option ByteArray) : Int :=
  if x = none then 1 else if o = none ∧ n = none then 0 else if sm n x = true then 1 else if o = none then 2 else if sm o x = true then 1 else if sm o n = true then 0 else 2

set_option maxHeartbeats 1600000 in
theorem choice_any (u v z : Value) (o n x : Option ByteArray) (w : World) (hu : Tp w u o) (hv : Tp w v n) (hz : Tp w z x) : Calls Tryz.prog 95 #[u, v, z] w fun e w' => e = .returned (.int .i64 (cho o n x)) ∧ Below w.heap.size w w' := by
  have c1 := same_any v z n x w hv hz
  have c2 := fun w1 (b : Below w.heap.size w w1) => same_any u z o x w1 (hu.on b) (hz.on b)
  have c3 := fun w1 (b : Below w.heap.size w w1) => same_any u v o n w1 (hu.on b) (hv.on b)
  obtain ⟨r, hr⟩ : ∃ r, r = cho o n x := ⟨_, rfl⟩
  rw [← hr]
  unfold cho at hr
  rcases hz.is with ⟨rfl, rfl⟩ | ⟨p, s, rfl, rfl, h1⟩
  · rw [if_pos rfl] at hr
    subst hr
    clear c1 c2 c3 hu hv hz
    go_enter Tryz.func95, Tryz.ntmps95
    go_wp2
    go_ret
    exact ⟨rfl, Below.refl _ _⟩
  · rw [if_neg (by simp)] at hr
    rcases hu.is with ⟨rfl, rfl⟩ | ⟨q, t, rfl, rfl, h2⟩
    · rcases hv.is with ⟨rfl, rfl⟩ | ⟨p', s', rfl, rfl, h3⟩
      · rw [if_pos ⟨rfl, rfl⟩] at hr
        subst hr
        clear c1 c2 c3 hu hv hz
        go_enter Tryz.func95, Tryz.ntmps95
        go_wp2
        go_ret
        exact ⟨rfl, Below.refl _ _⟩
      · rw [if_neg (by simp)] at hr
        clear c2 c3 hu hv hz
        cases hs : sm (some s') (some s)
        all_goals
          rw [hs] at c1 hr
          simp at hr
          subst hr
          go_enter Tryz.func95, Tryz.ntmps95
          go_wp2_with fail
          refine c1.mono ?_
          rintro e w1 ⟨rfl, b1⟩
          go_wp2
          go_ret
          exact ⟨rfl, b1⟩
    · rw [if_neg (by simp)] at hr
      clear hz hu
      have HV := Lib.hid hv
      clear hv
      cases hs : sm n (some s) with
      | true =>
        rw [hs] at c1 hr
        simp at hr
        subst hr
        clear c2 c3
        rcases HV.out.is with ⟨rfl, rfl⟩ | ⟨p', s', rfl, rfl, h3⟩
        all_goals
          go_enter Tryz.func95, Tryz.ntmps95
          go_wp2_with fail
          refine c1.mono ?_
          rintro e w1 ⟨rfl, b1⟩
          go_wp2
          go_ret
          exact ⟨rfl, b1⟩
      | false =>
        rw [hs] at c1 hr
        cases hs2 : sm (some t) (some s) with
        | true =>
          rw [hs2] at hr
          simp only [hs2] at c2
          simp at hr
          subst hr
          clear c3
          rcases HV.out.is with ⟨rfl, rfl⟩ | ⟨p', s', rfl, rfl, h3⟩
          all_goals
            go_enter Tryz.func95, Tryz.ntmps95
            go_wp2_with fail
            refine c1.mono ?_
            rintro e w1 ⟨rfl, b1⟩
            go_wp2_with fail
            refine (c2 w1 b1).mono ?_
            rintro e w2 ⟨rfl, b2⟩
            go_wp2
            go_ret
            exact ⟨rfl, b1.trans (b2.mono b1.size)⟩
        | false =>
          rw [hs2] at hr
          simp only [hs2] at c2
          cases hs3 : sm (some t) n
          all_goals
            rw [hs3] at hr
            simp only [hs3] at c3
            simp at hr
            subst hr
            rcases HV.out.is with ⟨rfl, rfl⟩ | ⟨p', s', rfl, rfl, h3⟩
            all_goals
              go_enter Tryz.func95, Tryz.ntmps95
              go_wp2_with fail
              refine c1.mono ?_
              rintro e w1 ⟨rfl, b1⟩
              go_wp2_with fail
              refine (c2 w1 b1).mono ?_
              rintro e w2 ⟨rfl, b2⟩
              have b12 := b1.trans (b2.mono b1.size)
              go_wp2_with fail
              refine (c3 w2 b12).mono ?_
              rintro e w3 ⟨rfl, b3⟩
              go_wp2
              go_ret
              exact ⟨rfl, b12.trans (b3.mono b12.size)⟩

end Go.Proofs.YtlldfmnoidndmaaGreatDoor.Cho
