/- version.Parse, whole: the version that a text is. -/
import Derived.Test.YtlldfmnoidndmaaGreatDoorPe
import Derived.Test.YtlldfmnoidndmaaGreatDoorVx
namespace Go.Proofs.YtlldfmnoidndmaaGreatDoor
open Go.RowKit Go.Shelf Go.Sort

/-- What version.Parse hands back. -/
def pvVal : Option (Int × List UInt8 × List UInt8) → Value
  | none => .tuple #[.agg #[.int .i64 0, .string ⟨#[]⟩, .string ⟨#[]⟩], .iface 33 (.int .i64 3)]
  | some (e, u, r) => .tuple #[.agg #[.int .i64 e, .string ⟨u.toArray⟩, .string ⟨r.toArray⟩], .nilIface]

theorem lc_small {c : UInt8} {y u r : List UInt8} (h : Vm.lc c y = some (u, r)) : u.length ≤ y.length ∧ r.length ≤ y.length := by
  rcases Vm.lc_idx c y with ⟨_, h2⟩ | ⟨k, hk, _, h2⟩
  · rw [h2] at h; cases h
  · rw [h2] at h; cases h; simp; omega

theorem parse_any (s : List UInt8) (w : World) (htab : Lib.TabIs Tryz.prog w "internal/strconv.uint64pow10" .u64 Lib.pow10Tab) :
    Calls Tryz.prog 77 #[.string ⟨s.toArray⟩] w fun x w' => x = .returned (pvVal (Vm.pv s)) ∧ Below w.heap.size w w' := by
  by_cases hs : 40 < s.length
  · have : Vm.pv s = none := by unfold Vm.pv; rw [if_pos hs]
    rw [this]; exact parse_long s w hs
  · have hs' : s.length ≤ 40 := by omega
    rcases Vm.fc_idx 58 s with ⟨hi, hf⟩ | ⟨k, hk, hi, hf⟩
    · have hpv : Vm.pv s = match Vm.lc 45 s with
          | none => if Vm.rt 0 s [] = true then some (0, s, []) else none
          | some (u, r) => if r = [] then none else if Vm.rt 0 u r = true then some (0, u, r) else none := by
        unfold Vm.pv; rw [if_neg hs, hf]; rfl
      rw [hpv]
      rcases Vm.lc_idx 45 s with ⟨hj, hl⟩ | ⟨j, hjl, hj, hl⟩
      · rw [hl]
        cases hb : Vm.rt 0 s [] with
        | true => simpa [pvVal, hb] using parse_n0t s w hs' hi hj ⟨hb⟩ htab
        | false => simpa [pvVal, hb] using parse_n0f s w hs' hi hj ⟨hb⟩ htab
      · rw [hl]
        by_cases hr : s.drop (j + 1) = []
        · simpa [pvVal, hr] using parse_n1 s w hs' hi j hjl hj _ rfl hr htab
        · have hre : (s.drop (j + 1)).isEmpty = false := by
            cases hd : s.drop (j + 1) with
            | nil => exact absurd hd hr
            | cons c t => rfl
          have hsm := lc_small hl
          cases hb : Vm.rt 0 (s.take j) (s.drop (j + 1)) with
          | true =>
            have := parse_n2t s w hs' hi j hjl hj _ _ rfl rfl hre (by omega) (by omega) ⟨hb⟩ htab
            simp only [hr, if_false, hb, if_true]
            exact this
          | false =>
            have := parse_n2f s w hs' hi j hjl hj _ _ rfl rfl hre (by omega) (by omega) ⟨hb⟩ htab
            simp only [hr, if_false, hb, Bool.false_eq_true]
            exact this
    · cases hp : Vm.pep (s.take k) with
      | none =>
        have hpv : Vm.pv s = none := by unfold Vm.pv; rw [if_neg hs, hf]; simp only [hp]
        rw [hpv]; exact parse_f s w hs' k hk hi _ _ rfl rfl hp htab
      | some n =>
        have hpv : Vm.pv s = match Vm.lc 45 (s.drop (k + 1)) with
            | none => if Vm.rt n (s.drop (k + 1)) [] = true then some ((n : Int), s.drop (k + 1), []) else none
            | some (u, r) => if r = [] then none else if Vm.rt n u r = true then some ((n : Int), u, r) else none := by
          unfold Vm.pv; rw [if_neg hs, hf]; simp only [hp]; rfl
        rw [hpv]
        have hn : Ep n := Vm.pep_lt hp
        have hyl : (s.drop (k + 1)).length ≤ 40 := by simp; omega
        rcases Vm.lc_idx 45 (s.drop (k + 1)) with ⟨hj, hl⟩ | ⟨j, hjl, hj, hl⟩
        · rw [hl]
          cases hb : Vm.rt n (s.drop (k + 1)) [] with
          | true =>
            have := parse_s0t s w hs' k hk hi _ _ rfl rfl hyl n hn hp hj ⟨hb⟩ htab
            simp only [if_true]; exact this
          | false =>
            have := parse_s0f s w hs' k hk hi _ _ rfl rfl hyl n hn hp hj ⟨hb⟩ htab
            simp only [Bool.false_eq_true, if_false]; exact this
        · rw [hl]
          by_cases hr : (s.drop (k + 1)).drop (j + 1) = []
          · have := parse_s1 s w hs' k hk hi _ _ rfl rfl hyl n hn hp j hjl hj _ rfl hr htab
            simp only [hr, if_true]; exact this
          · have hre : ((s.drop (k + 1)).drop (j + 1)).isEmpty = false := by
              cases hd : (s.drop (k + 1)).drop (j + 1) with
              | nil => exact absurd hd hr
              | cons c t => rfl
            have hsm := lc_small hl
            cases hb : Vm.rt n ((s.drop (k + 1)).take j) ((s.drop (k + 1)).drop (j + 1)) with
            | true =>
              have := parse_s2t s w hs' k hk hi _ _ rfl rfl hyl n hn hp j hjl hj _ _ rfl rfl hre (by omega) (by omega) ⟨hb⟩ htab
              simp only [hr, if_false, hb, if_true]; exact this
            | false =>
              have := parse_s2f s w hs' k hk hi _ _ rfl rfl hyl n hn hp j hjl hj _ _ rfl rfl hre (by omega) (by omega) ⟨hb⟩ htab
              simp only [hr, if_false, hb, Bool.false_eq_true]; exact this

end Go.Proofs.YtlldfmnoidndmaaGreatDoor
