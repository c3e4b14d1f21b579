/- The walks of the law's terms, of provided, of the closures over terms. -/
import Derived.Test.YtkaeiofolknoeabGreatDoorDb
namespace Go.Proofs.YtkaeiofolknoeabGreatDoor
open Go.RowKit Go.Sort

/-- A term short enough to be held against others. -/
structure Sh (t : Tm) : Prop where
  u : t.u.length ≤ 100
  r : t.r.length ≤ 100
theorem sh_of {t : Tm} (h : t1 t = true) : Sh t := by
  unfold t1 at h; simp only [Bool.and_eq_true, decide_eq_true_eq] at h; exact ⟨h.2.1, h.2.2⟩
/-- Is what is provided as it is asked? -/
def pv (p t : Tm) : Bool := t.o == 0 || (p.o == 3 && Vm.iv (Vm.cv p.e p.u p.r t.e t.u t.r) t.o)

set_option maxHeartbeats 1600000 in
set_option maxRecDepth 100000 in
theorem provided_any (p t : Tm) (w : World) (hp : Sh p) (ht : Sh t) : Calls Tryz.prog 65 #[tv p, tv t] w fun e w' => e = .returned (.bool (pv p t)) ∧ Below w.heap.size w w' := by
  have cI := fun W => is_b p.e p.u p.r t.o t.e t.u t.r W (by have := hp.u; omega) (by have := hp.r; omega) (by have := ht.u; omega) (by have := ht.r; omega)
  obtain ⟨q, hq⟩ : ∃ q, q = Vm.iv (Vm.cv p.e p.u p.r t.e t.u t.r) t.o := ⟨_, rfl⟩
  rw [← hq] at cI
  have b2 := b2c w (.cells #[.string ⟨p.n.toArray⟩, .int .i64 p.o, .int .i64 p.e, .string ⟨p.u.toArray⟩, .string ⟨p.r.toArray⟩] 50) (.cells #[.string ⟨t.n.toArray⟩, .int .i64 t.o, .int .i64 t.e, .string ⟨t.u.toArray⟩, .string ⟨t.r.toArray⟩] 50)
  unfold pv
  rw [← hq]
  clear hq hp ht
  cases q1 : (t.o == 0) with
  | true =>
    go_enter Tryz.func65, Tryz.ntmps65
    go_wp2_with fail
    go_ret
    exact ⟨rfl, b2⟩
  | false =>
    cases q2 : (p.o == 3) with
    | false =>
      go_enter Tryz.func65, Tryz.ntmps65
      go_wp2_with fail
      go_ret
      exact ⟨rfl, b2⟩
    | true =>
      go_enter Tryz.func65, Tryz.ntmps65
      go_wp2_with fail
      refine (cI _).mono ?_
      rintro e w1 ⟨rfl, b1⟩
      go_wp2_with fail
      go_ret
      exact ⟨retb (by simp), bon b2 b1⟩

/-- A term in a block of its own. -/
structure Tc (W : World) (a : Nat) (t : Tm) : Prop where
  c0 : W.cell? ⟨a, 0, none⟩ = some (.string ⟨t.n.toArray⟩)
  c1 : W.cell? ⟨a, 1, none⟩ = some (.int .i64 t.o)
  c2 : W.cell? ⟨a, 2, none⟩ = some (.int .i64 t.e)
  c3 : W.cell? ⟨a, 3, none⟩ = some (.string ⟨t.u.toArray⟩)
  c4 : W.cell? ⟨a, 4, none⟩ = some (.string ⟨t.r.toArray⟩)
theorem Tc.on {W w' : World} {a : Nat} {t : Tm} (h : Tc W a t) (k : Below W.heap.size W w') : Tc w' a t :=
  ⟨by rw [k.cell (block_lt_of_cell h.c0)]; exact h.c0, by rw [k.cell (block_lt_of_cell h.c1)]; exact h.c1, by rw [k.cell (block_lt_of_cell h.c2)]; exact h.c2, by rw [k.cell (block_lt_of_cell h.c3)]; exact h.c3, by rw [k.cell (block_lt_of_cell h.c4)]; exact h.c4⟩
theorem tc_new (w : World) (t : Tm) : Tc (w.alloc (.cells #[.string ⟨t.n.toArray⟩, .int .i64 t.o, .int .i64 t.e, .string ⟨t.u.toArray⟩, .string ⟨t.r.toArray⟩] 50)) w.heap.size t :=
  ⟨by simp, by simp, by simp, by simp, by simp⟩

/-- Is it one of the name, and as it is asked? -/
def nv (t p : Tm) : Bool := p.n == t.n && pv p t

set_option maxHeartbeats 1600000 in
set_option maxRecDepth 100000 in
theorem clo67 (p t : Tm) (a : Nat) (w : World) (hT : Tc w a t) (hp : Sh p) (ht : Sh t) : Calls Tryz.prog 64 #[tv p, .pointer (some ⟨a, 0, none⟩)] w fun e w' => e = .returned (.bool (nv t p)) ∧ Below w.heap.size w w' := by
  have cI := fun W => provided_any p t W hp ht
  obtain ⟨q, hq⟩ : ∃ q, q = pv p t := ⟨_, rfl⟩
  have b2 := b1c w (.cells #[.string ⟨p.n.toArray⟩, .int .i64 p.o, .int .i64 p.e, .string ⟨p.u.toArray⟩, .string ⟨p.r.toArray⟩] 50)
  have hT2 := hT.on b2
  have d0 := hT2.c0
  have d1 := hT2.c1
  have d2 := hT2.c2
  have d3 := hT2.c3
  have d4 := hT2.c4
  unfold nv
  rw [← hq] at cI ⊢
  clear hq hp ht hT hT2
  cases q1 : (p.n == t.n) with
  | false =>
    go_enter Tryz.func64, Tryz.ntmps64
    go_wp2_with fail
    go_ret
    exact ⟨rfl, b2⟩
  | true =>
    go_enter Tryz.func64, Tryz.ntmps64
    go_wp2_with fail
    refine (cI _).mono ?_
    rintro e w1 ⟨rfl, b1⟩
    go_wp2_with fail
    go_ret
    exact ⟨retb (by simp), bon b2 b1⟩
end Go.Proofs.YtkaeiofolknoeabGreatDoor
