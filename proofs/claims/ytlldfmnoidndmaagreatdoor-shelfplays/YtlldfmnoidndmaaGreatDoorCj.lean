/- What is done with a setting: the reference's Choice. -/
import Derived.Test.YtlldfmnoidndmaaGreatDoorCh
namespace Go.Proofs.YtlldfmnoidndmaaGreatDoor.Cho
open Go.RowKit

theorem rsame_any (u v : Value) (a b : Option ByteArray) (w : World) (ha : Tp w u a) (hb : Tp w v b) : Calls Tryz.prog 102 #[u, v] w fun e w' => e = .returned (.bool (sm a b)) ∧ Below w.heap.size w w' := by
  rcases ha.is with ⟨rfl, rfl⟩ | ⟨p, s, rfl, rfl, h1⟩
  · go_enter Tryz.func102, Tryz.ntmps102
    go_wp2
    go_ret
    exact ⟨rfl, (Below.refl _ _)⟩
  · rcases hb.is with ⟨rfl, rfl⟩ | ⟨q, t, rfl, rfl, h2⟩
    · clear ha hb
      go_enter Tryz.func102, Tryz.ntmps102
      go_wp2
      go_ret
      exact ⟨rfl, (Below.refl _ _)⟩
    · clear ha hb
      go_enter Tryz.func102, Tryz.ntmps102
      go_wp2
      go_region
      go_wp2
      go_ret
      exact ⟨rfl, (Below.refl _ _).drew⟩

set_option maxHeartbeats 1600000 in
theorem rchoice_any (u v z : Value) (o n x : Option ByteArray) (w : World) (hu : Tp w u o) (hv : Tp w v n) (hz : Tp w z x) : Calls Tryz.prog 56 #[u, v, z] w fun e w' => e = .returned (.int .i64 (cho o n x)) ∧ Below w.heap.size w w' := by
  have c1 := rsame_any v z n x w hv hz
  have c2 := fun w1 (b : Below w.heap.size w w1) => rsame_any u z o x w1 (hu.on b) (hz.on b)
  have c3 := fun w1 (b : Below w.heap.size w w1) => rsame_any v u n o w1 (hv.on b) (hu.on b)
  rw [sm_comm n o] at c3
  obtain ⟨r, hr⟩ : ∃ r, r = cho o n x := ⟨_, rfl⟩
  rw [← hr]
  unfold cho at hr
  rcases hz.is with ⟨rfl, rfl⟩ | ⟨p, s, rfl, rfl, h1⟩
  · rw [if_pos rfl] at hr
    subst hr
    clear c1 c2 c3 hu hv hz
    go_enter Tryz.func56, Tryz.ntmps56
    go_wp2
    go_ret
    exact ⟨rfl, Below.refl _ _⟩
  · rw [if_neg (by simp)] at hr
    rcases hu.is with ⟨rfl, rfl⟩ | ⟨q, t, rfl, rfl, h2⟩
    · rcases hv.is with ⟨rfl, rfl⟩ | ⟨p', s', rfl, rfl, h3⟩
      · rw [if_pos ⟨rfl, rfl⟩] at hr
        subst hr
        clear c1 c2 c3 hu hv hz
        go_enter Tryz.func56, Tryz.ntmps56
        go_wp2
        go_ret
        exact ⟨rfl, Below.refl _ _⟩
      · rw [if_neg (by simp)] at hr
        clear c2 c3 hu hv hz
        cases hs : sm (some s') (some s)
        all_goals
          rw [hs] at c1 hr
          simp at hr
          subst hr
          go_enter Tryz.func56, Tryz.ntmps56
          go_wp2_with fail
          refine c1.mono ?_
          rintro e w1 ⟨rfl, b1⟩
          go_wp2
          go_ret
          exact ⟨rfl, b1⟩
    · rw [if_neg (by simp)] at hr
      clear hz hu
      have HV := Lib.hid hv
      clear hv
      cases hs : sm n (some s) with
      | true =>
        rw [hs] at c1 hr
        simp at hr
        subst hr
        clear c2 c3
        rcases HV.out.is with ⟨rfl, rfl⟩ | ⟨p', s', rfl, rfl, h3⟩
        all_goals
          go_enter Tryz.func56, Tryz.ntmps56
          go_wp2_with fail
          refine c1.mono ?_
          rintro e w1 ⟨rfl, b1⟩
          go_wp2
          go_ret
          exact ⟨rfl, b1⟩
      | false =>
        rw [hs] at c1 hr
        cases hs2 : sm (some t) (some s) with
        | true =>
          rw [hs2] at hr
          simp only [hs2] at c2
          simp at hr
          subst hr
          clear c3
          rcases HV.out.is with ⟨rfl, rfl⟩ | ⟨p', s', rfl, rfl, h3⟩
          all_goals
            go_enter Tryz.func56, Tryz.ntmps56
            go_wp2_with fail
            refine c1.mono ?_
            rintro e w1 ⟨rfl, b1⟩
            go_wp2_with fail
            refine (c2 w1 b1).mono ?_
            rintro e w2 ⟨rfl, b2⟩
            go_wp2
            go_ret
            exact ⟨rfl, b1.trans (b2.mono b1.size)⟩
        | false =>
          rw [hs2] at hr
          simp only [hs2] at c2
          cases hs3 : sm (some t) n
          all_goals
            rw [hs3] at hr
            simp only [hs3] at c3
            simp at hr
            subst hr
            rcases HV.out.is with ⟨rfl, rfl⟩ | ⟨p', s', rfl, rfl, h3⟩
            all_goals
              go_enter Tryz.func56, Tryz.ntmps56
              go_wp2_with fail
              refine c1.mono ?_
              rintro e w1 ⟨rfl, b1⟩
              go_wp2_with fail
              refine (c2 w1 b1).mono ?_
              rintro e w2 ⟨rfl, b2⟩
              have b12 := b1.trans (b2.mono b1.size)
              go_wp2_with fail
              refine (c3 w2 b12).mono ?_
              rintro e w3 ⟨rfl, b3⟩
              go_wp2
              go_ret
              exact ⟨rfl, b12.trans (b3.mono b12.size)⟩

end Go.Proofs.YtlldfmnoidndmaaGreatDoor.Cho
