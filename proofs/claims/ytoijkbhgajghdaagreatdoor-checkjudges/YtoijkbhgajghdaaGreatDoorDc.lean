/- The walks of the law's terms, of provided, of the closures over terms. -/
import Derived.Test.YtoijkbhgajghdaaGreatDoorDb
namespace Go.Proofs.YtoijkbhgajghdaaGreatDoor
open Go.RowKit Go.Sort

theorem terms_long (A : Option Addr) (n c : Nat) (w : World) (h : 40 < n) : Calls Tryz.prog 26 #[.slice A n c] w fun e w' => e = .returned (.bool false) ∧ w' = w := by
  go_enter Tryz.func26, Tryz.ntmps26
  go_wp2
  go_ret
  exact ⟨rfl, rfl⟩
theorem terms_nil (A : Option Addr) (c : Nat) (w : World) : Calls Tryz.prog 26 #[.slice A 0 c] w fun e w' => e = .returned (.bool true) ∧ w' = w := by
  go_enter Tryz.func26, Tryz.ntmps26
  go_wp2
  refine wp_loop_rounds 1 ?_
  rw [rounds_succ]
  go_wp2
  go_ret
  exact ⟨rfl, rfl⟩
set_option maxHeartbeats 1600000 in
set_option maxRecDepth 100000 in
theorem terms_row (b o c : Nat) (l : List (List Tm)) (w : World) (h : Al w b o l) (hn : l.length ≤ 40) : Calls Tryz.prog 26 #[.slice (some ⟨b, o, none⟩) l.length c] w fun e w' => e = .returned (.bool (l.all fla)) ∧ Below w.heap.size w w' := by
  obtain ⟨r, hr⟩ : ∃ r, r = l.all fla := ⟨_, rfl⟩
  have HR := Lib.hid hr
  rw [← hr]
  clear hr
  have HF := Lib.hid h
  clear h
  go_enter Tryz.func26, Tryz.ntmps26
  go_wp2
  go_loopw [3] (fun i W => ∃ k : Nat, k ≤ l.length ∧ i = .int .i64 k ∧ Below w.heap.size w W ∧ Hid (∀ j (hj : j < l.length), j < k → fla l[j] = true)) (fun i _ => l.length - (intOf i).toNat)
  case atStart => exact ⟨0, Nat.zero_le _, rfl, Below.refl _ _, fun j _ h => absurd h (Nat.not_lt_zero _)⟩
  case round =>
    obtain ⟨k, hk, rfl, hW, HP⟩ := hrel
    by_cases hlt : k < l.length
    · obtain ⟨v, c0, hv⟩ := (HF.out.on hW).c k hlt
      have HN : Hid (fla l[k] = false → r = false) := fun e => by
        rw [HR.out, List.all_eq_false]
        exact ⟨l[k], List.getElem_mem hlt, by simp [e]⟩
      have HM : Hid (fla l[k] = true → ∀ j (hj : j < l.length), j < k + 1 → fla l[j] = true) := fun e j hj h => by
        by_cases e2 : j = k
        · subst e2; exact e
        · exact HP.out j hj (by omega)
      have cS := flat_any v l[k] wr hv
      clear hv
      cases hs : fla l[k] with
      | true =>
        have HG := Lib.hid (HM.out hs)
        rw [hs] at cS
        clear HN HM hs
        go_wp2_with (go_at_call 27; refine cS.mono ?_; rintro x w1 ⟨rfl, bw1⟩)
        exact ⟨⟨k + 1, hlt, by go_num, bon hW bw1, HG⟩, by simp [intOf]; omega⟩
      | false =>
        have HG := Lib.hid (HN.out hs)
        rw [hs] at cS
        clear HN HM hs
        go_wp2_with (go_at_call 27; refine cS.mono ?_; rintro x w1 ⟨rfl, bw1⟩)
        go_ret
        exact ⟨retb HG.out.symm, bon hW bw1⟩
    · have hall : l.all fla = true := by
        rw [List.all_eq_true]
        intro f hf
        obtain ⟨j, hj, rfl⟩ := List.getElem_of_mem hf
        exact HP.out j hj (by omega)
      have HG := Lib.hid (HR.out.trans hall)
      go_wp2
      go_ret
      exact ⟨retb HG.out.symm, hW⟩
theorem terms_any (v : Value) (l : List (List Tm)) (w : World) (h : As w v l) : Calls Tryz.prog 26 #[v] w fun e w' => e = .returned (.bool (tla l)) ∧ Below w.heap.size w w' := by
  rcases h.is with ⟨rfl, A, c, rfl⟩ | ⟨b, o, c, rfl, hc, hf⟩
  · exact (terms_nil A c w).mono fun x w' ⟨h1, h2⟩ => ⟨h1, by rw [h2]; exact Below.refl _ _⟩
  · by_cases hn : l.length ≤ 40
    · rw [show tla l = l.all fla from by simp [tla, hn]]
      exact terms_row b o c l w hf hn
    · rw [show tla l = false from by simp [tla, hn]]
      exact (terms_long _ _ c w (by omega)).mono fun x w' ⟨h1, h2⟩ => ⟨h1, by rw [h2]; exact Below.refl _ _⟩

/-- A term short enough to be held against others. -/
structure Sh (t : Tm) : Prop where
  u : t.u.length ≤ 100
  r : t.r.length ≤ 100
theorem sh_of {t : Tm} (h : t1 t = true) : Sh t := by
  unfold t1 at h; simp only [Bool.and_eq_true, decide_eq_true_eq] at h; exact ⟨h.2.1, h.2.2⟩
/-- Is what is provided as it is asked? -/
def pv (p t : Tm) : Bool := t.o == 0 || (p.o == 3 && Vm.iv (Vm.cv p.e p.u p.r t.e t.u t.r) t.o)

set_option maxHeartbeats 1600000 in
set_option maxRecDepth 100000 in
theorem provided_any (p t : Tm) (w : World) (hp : Sh p) (ht : Sh t) : Calls Tryz.prog 91 #[tv p, tv t] w fun e w' => e = .returned (.bool (pv p t)) ∧ Below w.heap.size w w' := by
  have cI := fun W => is_b p.e p.u p.r t.o t.e t.u t.r W (by have := hp.u; omega) (by have := hp.r; omega) (by have := ht.u; omega) (by have := ht.r; omega)
  obtain ⟨q, hq⟩ : ∃ q, q = Vm.iv (Vm.cv p.e p.u p.r t.e t.u t.r) t.o := ⟨_, rfl⟩
  rw [← hq] at cI
  have b2 := b2c w (.cells #[.string ⟨p.n.toArray⟩, .int .i64 p.o, .int .i64 p.e, .string ⟨p.u.toArray⟩, .string ⟨p.r.toArray⟩] 112) (.cells #[.string ⟨t.n.toArray⟩, .int .i64 t.o, .int .i64 t.e, .string ⟨t.u.toArray⟩, .string ⟨t.r.toArray⟩] 112)
  unfold pv
  rw [← hq]
  clear hq hp ht
  cases q1 : (t.o == 0) with
  | true =>
    go_enter Tryz.func91, Tryz.ntmps91
    go_wp2_with fail
    go_ret
    exact ⟨rfl, b2⟩
  | false =>
    cases q2 : (p.o == 3) with
    | false =>
      go_enter Tryz.func91, Tryz.ntmps91
      go_wp2_with fail
      go_ret
      exact ⟨rfl, b2⟩
    | true =>
      go_enter Tryz.func91, Tryz.ntmps91
      go_wp2_with fail
      refine (cI _).mono ?_
      rintro e w1 ⟨rfl, b1⟩
      go_wp2_with fail
      go_ret
      exact ⟨retb (by simp), bon b2 b1⟩

/-- A term in a block of its own. -/
structure Tc (W : World) (a : Nat) (t : Tm) : Prop where
  c0 : W.cell? ⟨a, 0, none⟩ = some (.string ⟨t.n.toArray⟩)
  c1 : W.cell? ⟨a, 1, none⟩ = some (.int .i64 t.o)
  c2 : W.cell? ⟨a, 2, none⟩ = some (.int .i64 t.e)
  c3 : W.cell? ⟨a, 3, none⟩ = some (.string ⟨t.u.toArray⟩)
  c4 : W.cell? ⟨a, 4, none⟩ = some (.string ⟨t.r.toArray⟩)
theorem Tc.on {W w' : World} {a : Nat} {t : Tm} (h : Tc W a t) (k : Below W.heap.size W w') : Tc w' a t :=
  ⟨by rw [k.cell (block_lt_of_cell h.c0)]; exact h.c0, by rw [k.cell (block_lt_of_cell h.c1)]; exact h.c1, by rw [k.cell (block_lt_of_cell h.c2)]; exact h.c2, by rw [k.cell (block_lt_of_cell h.c3)]; exact h.c3, by rw [k.cell (block_lt_of_cell h.c4)]; exact h.c4⟩
theorem tc_new (w : World) (t : Tm) : Tc (w.alloc (.cells #[.string ⟨t.n.toArray⟩, .int .i64 t.o, .int .i64 t.e, .string ⟨t.u.toArray⟩, .string ⟨t.r.toArray⟩] 112)) w.heap.size t :=
  ⟨by simp, by simp, by simp, by simp, by simp⟩

/-- Is it one of the name, and as it is asked? -/
def nv (t p : Tm) : Bool := p.n == t.n && pv p t

set_option maxHeartbeats 1600000 in
set_option maxRecDepth 100000 in
theorem clo67 (p t : Tm) (a : Nat) (w : World) (hT : Tc w a t) (hp : Sh p) (ht : Sh t) : Calls Tryz.prog 90 #[tv p, .pointer (some ⟨a, 0, none⟩)] w fun e w' => e = .returned (.bool (nv t p)) ∧ Below w.heap.size w w' := by
  have cI := fun W => provided_any p t W hp ht
  obtain ⟨q, hq⟩ : ∃ q, q = pv p t := ⟨_, rfl⟩
  have b2 := b1c w (.cells #[.string ⟨p.n.toArray⟩, .int .i64 p.o, .int .i64 p.e, .string ⟨p.u.toArray⟩, .string ⟨p.r.toArray⟩] 112)
  have hT2 := hT.on b2
  have d0 := hT2.c0
  have d1 := hT2.c1
  have d2 := hT2.c2
  have d3 := hT2.c3
  have d4 := hT2.c4
  unfold nv
  rw [← hq] at cI ⊢
  clear hq hp ht hT hT2
  cases q1 : (p.n == t.n) with
  | false =>
    go_enter Tryz.func90, Tryz.ntmps90
    go_wp2_with fail
    go_ret
    exact ⟨rfl, b2⟩
  | true =>
    go_enter Tryz.func90, Tryz.ntmps90
    go_wp2_with fail
    refine (cI _).mono ?_
    rintro e w1 ⟨rfl, b1⟩
    go_wp2_with fail
    go_ret
    exact ⟨retb (by simp), bon b2 b1⟩
end Go.Proofs.YtoijkbhgajghdaaGreatDoor
