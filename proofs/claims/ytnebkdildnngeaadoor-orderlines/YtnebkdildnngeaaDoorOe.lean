/- The closures: together, waits. -/
import Derived.Test.YtnebkdildnngeaaDoorOd
namespace Go.Proofs.YtnebkdildnngeaaDoor
open Go.RowKit Go.Sort

/-- What a captured variable holds. -/
structure Bx (W : World) (b : Nat) (v : Value) : Prop where
  lt : b < W.heap.size
  c : W.cell? ⟨b, 0, none⟩ = some v
theorem Bx.on {W W' : World} {b : Nat} {v : Value} (h : Bx W b v) (k : Below W.heap.size W W') : Bx W' b v := ⟨Nat.lt_of_lt_of_le h.lt k.size, (k.cell h.lt).trans h.c⟩
theorem Bx.kp {W W' : World} {b : Nat} {v : Value} {S : Nat → Prop} (h : Bx W b v) (k : Kp S W W') (hs : ¬ S b) : Bx W' b v := ⟨Nat.lt_of_lt_of_le h.lt k.size, (World.cell?_of_block (w := W) (k.block b h.lt hs)).trans h.c⟩
abbrev pt (b : Nat) : Value := .pointer (some ⟨b, 0, none⟩)
theorem bx_new (w : World) (v : Value) (t : Nat) : Bx (w.alloc (.cells #[v] t)) w.heap.size v := ⟨by simp, by simp⟩
theorem tog_any (a b cb g n : Nat) (M : Om.T) (ha : a < n) (hb : b < n) (w : World) (h : Tb w g n M) (hc : Bx w cb (pt g)) : Calls Tryd.prog 21 #[.int .i64 a, .int .i64 b, pt cb] w fun e w' => e = .returned (.bool (M a b && M b a)) ∧ w' = w := by
  have c0 := hc.c
  have c1 := h.c a b ha hb
  have c2 := h.c b a hb ha
  have ha40 : a < 40 := Nat.lt_of_lt_of_le ha h.le
  have hb40 : b < 40 := Nat.lt_of_lt_of_le hb h.le
  generalize M a b = x at c1
  generalize M b a = y at c2
  clear h hc
  cases x <;> cases y
  all_goals (go_enter Tryd.func21, Tryd.ntmps21; go_wp2; go_ret; exact ⟨rfl, rfl⟩)
/-- The closure together. -/
abbrev tgv (cb : Nat) : Value := .func (Fn.func 21) #[] #[pt cb]
theorem c23_any (a b cb tb ab g n : Nat) (M : Om.T) (ha : a < n) (hb : b < n) (w : World) (h : Tb w g n M) (hc : Bx w cb (pt g)) (ht : Bx w tb (tgv cb)) (hx : Bx w ab (.int .i64 a)) : Calls Tryd.prog 23 #[.int .i64 b, pt tb, pt ab] w fun e w' => e = .returned (.bool (M a b && M b a)) ∧ Below w.heap.size w w' := by
  have c0 := ht.c
  have c1 := hx.c
  have cT := tog_any a b cb g n M ha hb w h hc
  generalize (M a b && M b a) = r at cT
  clear h hc ht hx
  go_enter Tryd.func23, Tryd.ntmps23
  go_wp2_with fail
  refine cT.mono ?_
  rintro e w' ⟨rfl, rfl⟩
  go_wp2
  go_ret
  exact ⟨rfl, Below.refl _ _⟩
theorem c25_any (a b cb tb ab g n : Nat) (M : Om.T) (ha : a < n) (hb : b < n) (w : World) (h : Tb w g n M) (hc : Bx w cb (pt g)) (ht : Bx w tb (tgv cb)) (hx : Bx w ab (.int .i64 a)) : Calls Tryd.prog 25 #[.int .i64 b, pt tb, pt ab] w fun e w' => e = .returned (.bool (M a b && M b a)) ∧ Below w.heap.size w w' := by
  have c0 := ht.c
  have c1 := hx.c
  have cT := tog_any a b cb g n M ha hb w h hc
  generalize (M a b && M b a) = r at cT
  clear h hc ht hx
  go_enter Tryd.func25, Tryd.ntmps25
  go_wp2_with fail
  refine cT.mono ?_
  rintro e w' ⟨rfl, rfl⟩
  go_wp2
  go_ret
  exact ⟨rfl, Below.refl _ _⟩
theorem c29_any (a b bb cb g n : Nat) (M : Om.T) (ha : a < n) (hb : b < n) (w : World) (h : Tb w g n M) (hc : Bx w cb (pt g)) (hx : Bx w bb (.int .i64 b)) : Calls Tryd.prog 29 #[.int .i64 a, pt bb, pt cb] w fun e w' => e = .returned (.bool (!decide (a = b) && M a b)) ∧ Below w.heap.size w w' := by
  have c0 : w.drew.cell? ⟨cb, 0, none⟩ = some (pt g) := hc.c
  have c1 : w.drew.cell? ⟨bb, 0, none⟩ = some (.int .i64 b) := hx.c
  have c2 := h.drew.c a b ha hb
  have ha40 : a < 40 := Nat.lt_of_lt_of_le ha h.le
  have hb40 : b < 40 := Nat.lt_of_lt_of_le hb h.le
  generalize M a b = x at c2
  clear h hc hx
  by_cases e : a = b
  · subst e
    go_enter Tryd.func29, Tryd.ntmps29
    go_wp2
    go_region
    go_wp2
    go_ret
    exact ⟨retb (by simp), (Below.refl _ _).drew⟩
  · have e' : ((a : Int) == (b : Int)) = false := by rw [beq_eq_false_iff_ne]; omega
    have e3 : ((a : Int) != (b : Int)) = true := by rw [bne_iff_ne]; omega
    rw [show (!decide (a = b) && x) = x by simp [e]]
    go_enter Tryd.func29, Tryd.ntmps29
    go_wp2
    go_region
    go_wp2
    go_ret
    exact ⟨rfl, (Below.refl _ _).drew⟩
/-- Who waits, among those that are left. -/
def wts (A : Om.T) (left : List Nat) (b : Nat) : Bool := left.any fun a => !decide (a = b) && A a b
theorem c28_any (b lb cb g n : Nat) (A : Om.T) (left : List Nat) (v : Value) (hl : ∀ a ∈ left, a < n) (hb : b < n) (hn : left.length ≤ 40) (w : World) (h : Tb w g n A) (hc : Bx w cb (pt g)) (hL : Bx w lb v) (hv : Is w v left) : Calls Tryd.prog 28 #[.int .i64 b, pt lb, pt cb] w fun e w' => e = .returned (.bool (wts A left b)) ∧ Below w.heap.size w w' := by
  have b0 := bA1 w (.cells #[.int .i64 b] 3)
  have c0 := (b0.cell hL.lt).trans hL.c
  have cC := con_any29 (pt w.heap.size) (pt cb) v left (fun a => !decide (a = b) && A a b) _ (hv.on b0) (by omega) (fun i hi W hW => c29_any left[i] b w.heap.size cb g n A (hl _ (List.getElem_mem hi)) hb W ((h.on b0).on hW) ((hc.on b0).on hW) ((bx_new w (.int .i64 b) 3).on hW))
  have e : left.any (fun a => !decide (a = b) && A a b) = wts A left b := rfl
  rw [e] at cC
  generalize wts A left b = r at cC
  obtain ⟨A0, c', rfl⟩ := is_len hv
  clear h hc hL hv e hl
  go_enter Tryd.func28, Tryd.ntmps28
  go_wp2_with fail

  refine cC.mono ?_
  rintro e w' ⟨rfl, b1⟩
  go_wp2
  go_ret
  exact ⟨rfl, bon b0 b1⟩
/-- The closure waits. -/
abbrev wtv (lb cb : Nat) : Value := .func (Fn.func 28) #[] #[pt lb, pt cb]
theorem c31_any (b lb cb wb g n : Nat) (A : Om.T) (left : List Nat) (v : Value) (hl : ∀ a ∈ left, a < n) (hb : b < n) (hn : left.length ≤ 40) (w : World) (h : Tb w g n A) (hc : Bx w cb (pt g)) (hL : Bx w lb v) (hv : Is w v left) (hw : Bx w wb (wtv lb cb)) : Calls Tryd.prog 31 #[.int .i64 b, pt wb] w fun e w' => e = .returned (.bool (!wts A left b)) ∧ Below w.heap.size w w' := by
  have c0 := hw.c
  have cC := c28_any b lb cb g n A left v hl hb hn w h hc hL hv
  generalize wts A left b = r at cC
  clear h hc hL hv hw
  go_enter Tryd.func31, Tryd.ntmps31
  go_wp2_with fail
  refine cC.mono ?_
  rintro e w' ⟨rfl, b1⟩
  go_wp2
  go_ret
  exact ⟨rfl, b1⟩
end Go.Proofs.YtnebkdildnngeaaDoor
