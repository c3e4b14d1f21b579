/- The law of Rings. -/
import Derived.Test.YtnebkdildnngeaaDoorOy
namespace Go.Proofs.YtnebkdildnngeaaDoor
open Go.RowKit Go.Sort

theorem cell_of {W : World} {q t : Nat} {cs : Array Value} (h : W.heap[q]? = some (.cells cs t)) (j : Nat) (v : Value) (hv : cs[j]? = some v) : W.cell? ⟨q, j, none⟩ = some v := by
  unfold World.cell?
  rw [h]
  simp [hv]
theorem is_any (r : Ro) (u : Value) (W : World) (hg : ErrT W) (h : Ev W r u) : Calls Tryd.prog 8 #[u, fv r] W fun x w' => x = .returned (.bool true) ∧ Below W.heap.size W w' := by
  rcases r with _ | _ | i
  · obtain rfl : u = .nilIface := h
    exact is_nil W
  · obtain rfl : u = .iface 24 (.int .i64 4) := h
    exact is_errno 4 W hg
  · obtain ⟨q, rfl, hq⟩ := h
    exact is_at 2 i q W hg (cell_of hq 0 _ rfl) (cell_of hq 1 _ rfl)
theorem redges_any (n : Int) (A : Option Addr) (c : Nat) (l : List E) (w : World) (hl : l.length ≤ 1000000) (h : Es w (.slice A l.length c) l) (hF : Fi w) : Calls Tryd.prog 12 #[.int .i64 n, .slice A l.length c] w fun e w' => e = .returned (fv (ro n l)) ∧ Below w.heap.size w w' := by
  by_cases hn : n < 0 ∨ 40 < n
  · have e : ro n l = .lim := by unfold ro; rw [if_pos hn]
    rw [e]
    exact redges_lim n A l.length c w hn
  · obtain ⟨k, rfl, hk⟩ : ∃ k : Nat, n = k ∧ k ≤ 40 := ⟨n.toNat, by omega, by omega⟩
    have e : ro k l = roL k l := by unfold ro; rw [if_neg hn]
    rw [e]
    exact redges_in k A c l w hk hl h hF
/-- What the sets are. -/
def rg (n : Int) (l : List E) : List (List Nat) := match ro n l with
  | .ok => rgs (Om.cl n.toNat (et l)) n.toNat
  | _ => []
theorem rg_ok {n : Nat} {l : List E} (h : ro n l = .ok) : rg n l = rgs (Om.cl n (et l)) n := by unfold rg; rw [h]; rfl
theorem rg_no {n : Int} {l : List E} (h : ro n l ≠ .ok) : rg n l = [] := by
  unfold rg
  rcases e : ro n l with _ | _ | i
  · exact absurd e h
  · rfl
  · rfl
theorem rg_len (n : Int) (l : List E) : (rg n l).length ≤ 40 := by
  by_cases h : ro n l = .ok
  · obtain ⟨k, rfl, hk, _⟩ := ro_ok h
    rw [rg_ok h]
    have := rgs_len (Om.cl k (et l)) k
    omega
  · rw [rg_no h]; simp
theorem rg_at {n : Int} {l : List E} {r : List Nat} (h : r ∈ rg n l) : r.length ≤ 40 := by
  by_cases e : ro n l = .ok
  · obtain ⟨k, rfl, hk, _⟩ := ro_ok e
    rw [rg_ok e] at h
    have := (rgs_at (fun a ha => Om.cl_refl _ ha) h).2.1
    omega
  · rw [rg_no e] at h; simp at h
theorem rrings_any (n : Int) (A : Option Addr) (c : Nat) (l : List E) (w : World) (hl : l.length ≤ 1000000) (h : Es w (.slice A l.length c) l) (hF : Fi w) : Calls Tryd.prog 5 #[.int .i64 n, .slice A l.length c] w fun e w' => ∃ v, e = .returned (.tuple #[v, fv (ro n l)]) ∧ Rl w' w.heap.size v (rg n l) ∧ Below w.heap.size w w' := by
  by_cases hr : ro n l = .ok
  · obtain ⟨k, rfl, hk, hr2⟩ := ro_ok hr
    rw [hr, rg_ok hr, ← rr_rgs (cl_wy _ _)]
    exact rrings_in k A c l w hk hl h hF hr2 (roL_ok hr2)
  · refine (rrings_no n A l.length c (ro n l) w hF hr (fun W b => redges_any n A c l W hl (h.on b) (hF.on b))).mono ?_
    rintro e w1 ⟨rfl, b1⟩
    rw [rg_no hr]
    exact ⟨_, rfl, rl_nil (World.ownsRow_nil _ _ _ _), b1⟩
theorem prings_any (n : Int) (A : Option Addr) (c : Nat) (l : List E) (w : World) (hl : l.length ≤ 1000000) (h : Es w (.slice A l.length c) l) : Calls Tryd.prog 6 #[.int .i64 n, .slice A l.length c] w fun e w' => ∃ v u, e = .returned (.tuple #[v, u]) ∧ Rl w' w.heap.size v (rg n l) ∧ Ev w' (ro n l) u ∧ Below w.heap.size w w' := by
  by_cases hr : ro n l = .ok
  · obtain ⟨k, rfl, hk, hr2⟩ := ro_ok hr
    rw [hr, rg_ok hr]
    refine (Rings_ok k A c l w hk hl h hr2).mono ?_
    rintro e w1 ⟨v, rfl, h1, b1⟩
    exact ⟨v, _, rfl, h1, rfl, b1⟩
  · refine (Rings_no n A c l w hl h hr).mono ?_
    rintro e w1 ⟨v, rfl, h1, b1⟩
    rw [rg_no hr]
    exact ⟨_, v, rfl, rl_nil (World.ownsRow_nil _ _ _ _), h1, b1⟩
set_option maxHeartbeats 1600000 in
set_option maxRecDepth 100000 in
theorem lawRings (n : Int) (A : Option Addr) (c : Nat) (l : List E) (w : World) (h : Es w (.slice A l.length c) l) (hF : Fi w) (hE : ErrT w) : Calls Tryd.prog 3 #[.int .i64 n, .slice A l.length c] w fun e w' => e = .returned (.bool true) ∧ Below w.heap.size w w' := by
  by_cases hlen : 80 < l.length
  · go_enter Tryd.func3, Tryd.ntmps3
    go_wp2
    go_ret
    exact ⟨rfl, Below.refl _ _⟩
  have h80 : ¬ (80 : Int) < (l.length : Int) := by omega
  have cR := rrings_any n A c l w (by omega) h hF
  have HES := Lib.hid h
  have HER := Lib.hid hE
  have hRl := rg_len n l
  have HRa : Hid (∀ r ∈ rg n l, r.length ≤ 40) := fun r hr => rg_at hr
  have HP : Hid (∀ W v, Es W v l → Calls Tryd.prog 6 #[.int .i64 n, v] W fun e w' => ∃ v u, e = .returned (.tuple #[v, u]) ∧ Rl w' W.heap.size v (rg n l) ∧ Ev w' (ro n l) u ∧ Below W.heap.size W w') := fun W v hv => by
    obtain ⟨A', c', rfl⟩ := es_len hv
    exact prings_any n A' c' l W (by omega) hv
  have HI : Hid (∀ W u, ErrT W → Ev W (ro n l) u → Calls Tryd.prog 8 #[u, fv (ro n l)] W fun x w' => x = .returned (.bool true) ∧ Below W.heap.size W w') := fun W u => is_any (ro n l) u W
  have HL : Hid (∀ W, Es W (.slice A l.length c) l → Calls Tryd.prog 7 #[.slice A l.length c] W fun e w' => ∃ v, e = .returned v ∧ Es w' v l ∧ Below W.heap.size W w') := fun W h => ledges_any A c l W (by omega) h
  generalize rg n l = R at cR hRl HRa HP
  generalize ro n l = r at cR HP HI
  clear h hF hE
  obtain ⟨x, y, hxy⟩ : ∃ x y, fau r = (x, y) := ⟨_, _, rfl⟩
  have efv : fv r = .agg #[.int .i64 x, .int .i64 y] := by unfold fv; rw [hxy]
  rw [efv] at cR HI
  clear efv hxy
  go_enter Tryd.func3, Tryd.ntmps3
  go_wp2_with fail
  refine cR.mono ?_
  rintro e w1 ⟨v1, rfl, hR1, b1⟩
  have b2 := bA1 w1 (.cells #[.int .i64 x, .int .i64 y] 26)
  have bb2 := bon b1 b2
  have HR1 := Lib.hid (hR1.on b2)
  have cL := HL.out _ (HES.out.on bb2)
  obtain ⟨R1, R2, rfl⟩ := rl_sl hR1
  clear hR1 cR HL b1
  go_wp2_with fail
  refine cL.mono ?_
  rintro e w3 ⟨v3, rfl, hE3, b3⟩
  have cP := HP.out _ _ hE3
  clear cL hE3 HP
  go_wp2_with fail
  refine cP.mono ?_
  rintro e w4 ⟨v4, u4, rfl, hR4, hE4, b4⟩
  have b24 := bon b3 b4
  have bw4 := bon bb2 b24
  have cI := HI.out _ _ (HER.out.on bw4) hE4
  have q0 : w4.cell? ⟨w1.heap.size, 0, none⟩ = some (.int .i64 x) := by rw [b24.cell (by simp)]; simp
  have q1 : w4.cell? ⟨w1.heap.size, 1, none⟩ = some (.int .i64 y) := by rw [b24.cell (by simp)]; simp
  have HR14 := Lib.hid (HR1.out.on b24)
  have HR4 := Lib.hid hR4
  have HB4 := Lib.hid bw4
  obtain ⟨P1, P2, rfl⟩ := rl_sl hR4
  clear cP HR1 hR4 b24 bw4 b3 b4 hE4 HI bb2 b2
  go_wp2_with fail
  refine cI.mono ?_
  rintro e w5 ⟨rfl, b5⟩
  have HRa5 := Lib.hid (HR14.out.on b5)
  have HRb5 := Lib.hid (HR4.out.on b5)
  have HB5 := Lib.hid (bon HB4.out b5)
  clear cI HR14 HR4 HB4 b5 q0 q1
  go_wp2
  go_loopw [9] (fun i W => ∃ k : Nat, k ≤ R.length ∧ i = .int .i64 k ∧ Hid (Below w.heap.size w W) ∧ Hid (Below w5.heap.size w5 W)) (fun i _ => R.length - (intOf i).toNat)
  case atStart => exact ⟨0, Nat.zero_le _, rfl, HB5, Below.refl _ _⟩
  case round =>
    obtain ⟨k, hk, rfl, HB, HBk⟩ := hrel
    by_cases hlt : k < R.length
    · obtain ⟨g, u, rfl, c1, i1⟩ := rl_at (HRa5.out.on HBk.out) k hlt
      obtain ⟨g', u', rfl, c2, i2⟩ := rl_at (HRb5.out.on HBk.out) k hlt
      have cS := same_any u' u R[k] wr.drew (by have := HRa.out _ (List.getElem_mem hlt); omega) (iw_is (own_on i2 (Below.refl _ _).drew)) (iw_is (own_on i1 (Below.refl _ _).drew))
      have hdr : Below wr.heap.size wr wr.drew := (Below.refl _ _).drew
      clear i1 i2
      go_wp2_with fail
      go_region_law (first | (go_simp; go_at_call 9; refine cS.mono ?_; rintro e w6 ⟨rfl, b6⟩))
      all_goals go_wp2
      all_goals exact ⟨⟨k + 1, hlt, by go_num, bon HB.out (hdr.trans (b6.mono hdr.size)), bon HBk.out (hdr.trans (b6.mono hdr.size))⟩, by simp [intOf]; omega⟩
    · go_wp2
      go_ret
      exact ⟨rfl, HB.out⟩
end Go.Proofs.YtnebkdildnngeaaDoor
