/- The walk of rightFields. -/
import Derived.Test.YtniknhfpbcbcbabDoorSf
namespace Go.Proofs.YtniknhfpbcbcbabDoor
open Go.RowKit Go.Shelf Go.Sort

def rf (l : List Sm.F) : Bool := decide (1 ≤ l.length) && decide (l.length ≤ 40) && Sm.foks l

theorem rf_nil (A : Option Addr) (c : Nat) (w : World) : Calls Tryd.prog 72 #[.slice A 0 c] w fun e w' => e = .returned (.bool false) ∧ w' = w := by
  go_enter Tryd.func72, Tryd.ntmps72
  go_wp2
  go_ret
  exact ⟨rfl, rfl⟩
theorem rf_long (A : Option Addr) (n c : Nat) (w : World) (h1 : 40 < n) (h2 : n ≤ 60) : Calls Tryd.prog 72 #[.slice A n c] w fun e w' => e = .returned (.bool false) ∧ w' = w := by
  go_enter Tryd.func72, Tryd.ntmps72
  go_wp2
  go_ret
  exact ⟨rfl, rfl⟩

set_option maxHeartbeats 3200000 in
set_option maxRecDepth 100000 in
theorem rf_row (b o c : Nat) (l : List Sm.F) (w : World) (h : Fl w b o l) (hz : Sz l) (hc : l.length ≤ c) (h1 : 1 ≤ l.length) (h40 : l.length ≤ 40) :
    Calls Tryd.prog 72 #[.slice (some ⟨b, o, none⟩) l.length c] w fun e w' => e = .returned (.bool (Sm.foks l)) ∧ Below w.heap.size w w' := by
  obtain ⟨r, hr⟩ : ∃ r, r = Sm.foks l := ⟨_, rfl⟩
  have HR := Lib.hid hr
  rw [← hr]
  clear hr
  have HZ := Lib.hid hz
  clear hz
  go_enter Tryd.func72, Tryd.ntmps72
  go_wp2
  go_loopw [15] (fun i W => ∃ k : Nat, k ≤ l.length ∧ i = .int .i64 k ∧ Below w.heap.size w W ∧ Hid (∀ j (hj : j < l.length), j < k → Sm.fok (l.take j) l[j] = true)) (fun i _ => l.length - (intOf i).toNat)
  case atStart => exact ⟨0, Nat.zero_le _, rfl, Below.refl _ _, fun j _ h => absurd h (Nat.not_lt_zero _)⟩
  case round =>
    obtain ⟨k, hk, rfl, hW, HP⟩ := hrel
    by_cases hlt : k < l.length
    · have hF := h.on hW
      have c0 := hF.c0 k hlt
      have c1 := hF.c1 k hlt
      have hfs := HZ.out.s l[k] (List.getElem_mem hlt)
      have bA : Below w.heap.size w (wr.alloc (.cells #[.string ⟨l[k].1.toArray⟩, .string ⟨l[k].2.toArray⟩] 37)) := hW.alloc hW.size _
      have HFF := Lib.hid (h.on bA)
      have hck : (k : Int) ≤ (c : Int) := by omega
      have b0 : (wr.alloc (.cells #[.string ⟨l[k].1.toArray⟩, .string ⟨l[k].2.toArray⟩] 37)).cell? ⟨wr.heap.size, 0, none⟩ = some (.string ⟨l[k].1.toArray⟩) := by simp
      have b1 : (wr.alloc (.cells #[.string ⟨l[k].1.toArray⟩, .string ⟨l[k].2.toArray⟩] 37)).cell? ⟨wr.heap.size, 1, none⟩ = some (.string ⟨l[k].2.toArray⟩) := by simp
      go_wp2_with fail
      generalize hwz : (wr.alloc (.cells #[.string ⟨l[k].1.toArray⟩, .string ⟨l[k].2.toArray⟩] 37)) = wz at bA HFF b0 b1 ⊢
      clear hwz
      have k0 := cell_regrown b0
      have k1 := cell_regrown b1
      obtain ⟨q1, hq1⟩ : ∃ q, q = Sm.nok l[k].1 := ⟨_, rfl⟩
      obtain ⟨q2, hq2⟩ : ∃ q, q = Sm.vok l[k].2 := ⟨_, rfl⟩
      obtain ⟨q3, hq3⟩ : ∃ q, q = Sm.fnd (l.take k) l[k].1 := ⟨_, rfl⟩
      have hsz : Sz (l.take k) := ⟨by simp; have := HZ.out.n; omega, fun f hf => HZ.out.s f (List.mem_of_mem_take hf)⟩
      have hsl : Sl wz (.slice (some ⟨b, o, none⟩) k c) (l.take k) := ⟨Or.inr ⟨b, o, c, by rw [List.length_take, Nat.min_eq_left (by omega)], by simp; omega, HFF.out.take k⟩⟩
      have d1 : ∀ d os, Calls Tryd.prog 108 #[.string ⟨l[k].1.toArray⟩] (grow (redrawn wz d) os) fun x w'' => x = .returned (.bool q1) ∧ ∃ p : Regrown, w'' = grow (redrawn wz p.d) p.os := fun d os => (rn_any l[k].1 _ (by omega)).mono fun _ _ ⟨he, hw⟩ => ⟨by rw [he, hq1], ⟨d, os⟩, hw⟩
      have d2 : ∀ d os, Calls Tryd.prog 109 #[.string ⟨l[k].2.toArray⟩] (grow (redrawn wz d) os) fun x w'' => x = .returned (.bool q2) ∧ ∃ p : Regrown, w'' = grow (redrawn wz p.d) p.os := fun d os => Calls.regrown_of (by rw [hq2]; exact value_any l[k].2 _ (by omega))
      have d3 : ∀ d os, Calls Tryd.prog 39 #[.slice (some ⟨b, o, none⟩) k c, .string ⟨l[k].1.toArray⟩] (grow (redrawn wz d) os) fun x w'' => x = .returned (.int .i64 (ix q3)) ∧ ∃ p : Regrown, w'' = grow (redrawn wz p.d) p.os := fun d os => Calls.regrown_of (by rw [hq3]; exact find_any _ (l.take k) l[k].1 _ (hsl.on (below_regrown wz d os)) hsz (by omega))
      have HQ : Hid (Sm.fok (l.take k) l[k] = (q1 && q2 && q3.isNone)) := by show Sm.fok _ _ = _; unfold Sm.fok; rw [hq1, hq2, hq3]
      have HNo0 : Hid ((q1 && q2 && q3.isNone) = false → r = false) := fun e => by rw [HR.out]; exact Sm.foks_no k hlt (by rw [HQ.out, e])
      clear hq1 hq2 hq3 hsz hsl HFF b0 b1 c0 c1 hF hfs
      cases q1 with
      | false =>
        have HNo : Hid (r = false) := HNo0.out rfl
        refine wp_region_quiet_below (by kernel_rfl) (by kernel_rfl) ?_
        repeat (any_goals (first | go_big_quiet_step ((first | with_reducible exact d1 _ _ | with_reducible exact d2 _ _ | with_reducible exact d3 _ _)) | quiet_step ((first | with_reducible exact d1 _ _ | with_reducible exact d2 _ _ | with_reducible exact d3 _ _))))
        refine wpQuiet_nil ?_
        intro wq hwq
        have hq := rg bA hwq
        go_wp2_with fail
        go_ret
        exact ⟨ret_bool HNo.out.symm, hq⟩
      | true =>
        cases q2 with
        | false =>
          have HNo : Hid (r = false) := HNo0.out rfl
          refine wp_region_quiet_below (by kernel_rfl) (by kernel_rfl) ?_
          repeat (any_goals (first | go_big_quiet_step ((first | with_reducible exact d1 _ _ | with_reducible exact d2 _ _ | with_reducible exact d3 _ _)) | quiet_step ((first | with_reducible exact d1 _ _ | with_reducible exact d2 _ _ | with_reducible exact d3 _ _))))
          refine wpQuiet_nil ?_
          intro wq hwq
          have hq := rg bA hwq
          go_wp2_with fail
          go_ret
          exact ⟨ret_bool HNo.out.symm, hq⟩
        | true =>
          cases q3 with
          | some i =>
            have HNo : Hid (r = false) := HNo0.out rfl
            rw [show ix (some i) = (i : Int) from rfl] at d3
            refine wp_region_quiet_below (by kernel_rfl) (by kernel_rfl) ?_
            repeat (any_goals (first | go_big_quiet_step ((first | with_reducible exact d1 _ _ | with_reducible exact d2 _ _ | with_reducible exact d3 _ _)) | quiet_step ((first | with_reducible exact d1 _ _ | with_reducible exact d2 _ _ | with_reducible exact d3 _ _))))
            refine wpQuiet_nil ?_
            intro wq hwq
            have hq := rg bA hwq
            go_wp2_with fail
            go_ret
            exact ⟨ret_bool HNo.out.symm, hq⟩
          | none =>
            rw [show ix none = -1 from rfl] at d3
            have HN : Hid (∀ j (hj : j < l.length), j < k + 1 → Sm.fok (l.take j) l[j] = true) := fun j hj h => by
              by_cases e : j = k
              · subst e; rw [HQ.out]; rfl
              · exact HP.out j hj (by omega)
            refine wp_region_quiet_below (by kernel_rfl) (by kernel_rfl) ?_
            repeat (any_goals (first | go_big_quiet_step ((first | with_reducible exact d1 _ _ | with_reducible exact d2 _ _ | with_reducible exact d3 _ _)) | quiet_step ((first | with_reducible exact d1 _ _ | with_reducible exact d2 _ _ | with_reducible exact d3 _ _))))
            refine wpQuiet_nil ?_
            intro wq hwq
            have hq := rg bA hwq
            go_wp2_with fail
            exact ⟨⟨k + 1, hlt, by go_num, hq, HN⟩, by simp [intOf]; omega⟩
    · go_wp2
      go_ret
      exact ⟨ret_bool (by rw [HR.out, Sm.foks_yes (fun j hj => HP.out j hj (by omega))]), hW⟩

end Go.Proofs.YtniknhfpbcbcbabDoor
