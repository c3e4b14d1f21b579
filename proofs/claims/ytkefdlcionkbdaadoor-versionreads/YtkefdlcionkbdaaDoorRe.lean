/- The walk of the law VersionReads. -/
import Derived.Test.YtkefdlcionkbdaaDoorRd
import Derived.Test.YtkefdlcionkbdaaDoorEq
namespace Go.Proofs.YtkefdlcionkbdaaDoor
open Go.RowKit Go.Shelf Go.Sort

structure In64 (e : Int) : Prop where
  lo : -9223372036854775808 ≤ e
  hi : e ≤ 9223372036854775807

set_option maxHeartbeats 1600000 in
set_option maxRecDepth 100000 in
theorem reads_long (s : List UInt8) (e : Int) (u r : List UInt8) (w : World) (hs : 200 < s.length) :
    Calls Tryd.prog 3 #[.string ⟨s.toArray⟩, .agg #[.int .i64 e, .string ⟨u.toArray⟩, .string ⟨r.toArray⟩]] w fun x w' => x = .returned (.bool true) ∧ Below w.heap.size w w' := by
  go_enter Tryd.func3, Tryd.ntmps3
  go_wp2
  go_ret
  exact ⟨rfl, (Below.refl _ _).alloc (Nat.le_refl _) _⟩

set_option maxHeartbeats 1600000 in
set_option maxRecDepth 100000 in
theorem reads_short (s : List UInt8) (e : Int) (u r : List UInt8) (w : World) (hs : s.length ≤ 200) (h1 : (decide (u.length ≤ 100) && decide (r.length ≤ 100)) = false) :
    Calls Tryd.prog 3 #[.string ⟨s.toArray⟩, .agg #[.int .i64 e, .string ⟨u.toArray⟩, .string ⟨r.toArray⟩]] w fun x w' => x = .returned (.bool true) ∧ Below w.heap.size w w' := by
  have bA : Below w.heap.size w (w.alloc (.cells #[.int .i64 e, .string ⟨u.toArray⟩, .string ⟨r.toArray⟩] 23)) := (Below.refl _ _).alloc (Nat.le_refl _) _
  have H1 := Lib.hid h1
  clear h1
  go_enter Tryd.func3, Tryd.ntmps3
  go_wp2_with fail
  refine (lshort_any e u r _).mono ?_
  rintro x w1 ⟨rfl, b1⟩
  rw [H1.out]
  go_wp2
  go_ret
  exact ⟨rfl, onn bA b1⟩

/-- A version in its box. -/
structure Box (W : World) (a : Nat) (e : Int) (u r : List UInt8) : Prop where
  l : a < W.heap.size
  c0 : W.cell? ⟨a, 0, none⟩ = some (.int .i64 e)
  c1 : W.cell? ⟨a, 1, none⟩ = some (.string ⟨u.toArray⟩)
  c2 : W.cell? ⟨a, 2, none⟩ = some (.string ⟨r.toArray⟩)
theorem Box.on {W w' : World} {a : Nat} {e : Int} {u r : List UInt8} (h : Box W a e u r) (k : Below W.heap.size W w') : Box w' a e u r :=
  ⟨Nat.lt_of_lt_of_le h.l k.size, by rw [k.cell h.l]; exact h.c0, by rw [k.cell h.l]; exact h.c1, by rw [k.cell h.l]; exact h.c2⟩
theorem box_new (w : World) (e : Int) (u r : List UInt8) : Box (w.alloc (.cells #[.int .i64 e, .string ⟨u.toArray⟩, .string ⟨r.toArray⟩] 23)) w.heap.size e u r :=
  ⟨by simp, by simp, by simp, by simp⟩
theorem Box.keep {W : World} {a : Nat} {e : Int} {u r : List UInt8} (h : Box W a e u r) (o : Obj) : Box (W.alloc o) a e u r := h.on ((Below.refl _ _).alloc (Nat.le_refl _) _)

/-- What the two Parses hand back, at a text: the version, and the error either way. -/
structure Both (s : List UInt8) (e' : Int) (u' r' : List UInt8) (er : Value) (en : Int) : Prop where
  x : rpVal (Vm.pv s) = .tuple #[.agg #[.int .i64 e', .string ⟨u'.toArray⟩, .string ⟨r'.toArray⟩], .int .i64 en]
  y : pvVal (Vm.pv s) = .tuple #[.agg #[.int .i64 e', .string ⟨u'.toArray⟩, .string ⟨r'.toArray⟩], er]
  b : ∀ w, ErrT w → Calls Tryd.prog 10 #[er, .int .i64 en] w fun x w' => x = .returned (.bool true) ∧ Below w.heap.size w w'

theorem both (s : List UInt8) : ∃ e' u' r' er en, Both s e' u' r' er en := by
  cases h : Vm.pv s with
  | none => exact ⟨0, [], [], _, 3, by rw [h]; rfl, by rw [h]; rfl, fun w hg => bare_errno w hg⟩
  | some v => obtain ⟨e, u, r⟩ := v; exact ⟨e, u, r, _, 0, by rw [h]; rfl, by rw [h]; rfl, fun w _ => bare_nil w⟩

set_option maxHeartbeats 3200000 in
set_option maxRecDepth 100000 in
theorem reads_m (s : List UInt8) (e : Int) (u r : List UInt8) (w : World) (hs : s.length ≤ 200) (h1 : (decide (u.length ≤ 100) && decide (r.length ≤ 100)) = true) (i : In64 e) (htab : Lib.TabIs Tryd.prog w "internal/strconv.uint64pow10" .u64 Lib.pow10Tab) (hg : ErrT w) :
    Calls Tryd.prog 3 #[.string ⟨s.toArray⟩, .agg #[.int .i64 e, .string ⟨u.toArray⟩, .string ⟨r.toArray⟩]] w fun x w' => x = .returned (.bool true) ∧ Below w.heap.size w w' := by
  have hul : u.length ≤ 200 ∧ r.length ≤ 200 := by simp at h1; omega
  obtain ⟨hu, hr⟩ := hul
  have H1 := Lib.hid h1
  clear h1
  obtain ⟨e', u', r', er, en, B⟩ := both s
  have hT := Lib.tabBelow_of_tabIs htab
  clear htab
  have hq := eq23 e' ⟨u'.toArray⟩ ⟨r'.toArray⟩
  have hgd := guard23
  have bA : Below w.heap.size w (w.alloc (.cells #[.int .i64 e, .string ⟨u.toArray⟩, .string ⟨r.toArray⟩] 23)) := (Below.refl _ _).alloc (Nat.le_refl _) _
  go_enter Tryd.func3, Tryd.ntmps3
  go_wp2_with fail
  refine (lshort_any e u r _).mono ?_
  rintro x w1 ⟨rfl, b1⟩
  rw [H1.out]
  have V := (box_new w e u r).on b1
  have bW1 := onn bA b1
  clear b1
  obtain ⟨_, a0, a1, a2⟩ := id V
  go_wp2_with fail
  refine (xparse_any s _ (hT _ bW1)).mono ?_
  rintro x w2 ⟨rfl, b2⟩
  rw [B.x]
  replace V := (V.on b2).keep (.cells #[.int .i64 e', .string ⟨u'.toArray⟩, .string ⟨r'.toArray⟩] 23)
  have X := box_new w2 e' u' r'
  have bW2 : Below w.heap.size w (w2.alloc (.cells #[.int .i64 e', .string ⟨u'.toArray⟩, .string ⟨r'.toArray⟩] 23)) := (onn bW1 b2).alloc (onn bW1 b2).size _
  clear b2 a0 a1 a2
  go_wp2_with fail
  refine (parse_any s _ (hT _ bW2)).mono ?_
  rintro x w3 ⟨rfl, b3⟩
  rw [B.y]
  replace V := (V.on b3).keep (.cells #[.int .i64 e', .string ⟨u'.toArray⟩, .string ⟨r'.toArray⟩] 23)
  replace X := (X.on b3).keep (.cells #[.int .i64 e', .string ⟨u'.toArray⟩, .string ⟨r'.toArray⟩] 23)
  have Y := box_new w3 e' u' r'
  have bW3 : Below w.heap.size w (w3.alloc (.cells #[.int .i64 e', .string ⟨u'.toArray⟩, .string ⟨r'.toArray⟩] 23)) := (onn bW2 b3).alloc (onn bW2 b3).size _
  clear b3
  go_wp2_with fail
  generalize (w3.alloc (.cells #[.int .i64 e', .string ⟨u'.toArray⟩, .string ⟨r'.toArray⟩] 23)) = wr at V X Y bW3 ⊢
  have kA0 := cell_regrown V.c0
  have kA1 := cell_regrown V.c1
  have kA2 := cell_regrown V.c2
  have kX0 := cell_regrown X.c0
  have kX1 := cell_regrown X.c1
  have kX2 := cell_regrown X.c2
  have kY0 := cell_regrown Y.c0
  have kY1 := cell_regrown Y.c1
  have kY2 := cell_regrown Y.c2
  obtain ⟨b, hb⟩ : ∃ b, b = Vm.rt e u r := ⟨_, rfl⟩
  obtain ⟨l, hl⟩ : ∃ l, l = Vm.pt e u r := ⟨_, rfl⟩
  have hgr := hg.on bW3
  have d1 : ∀ d os, Calls Tryd.prog 10 #[er, .int .i64 en] (grow (redrawn wr d) os) fun x w'' => x = .returned (.bool true) ∧ ∃ p : Regrown, w'' = grow (redrawn wr p.d) p.os := fun d os => Calls.regrown_of (B.b _ (hgr.on (below_regrown wr d os)))
  have d2 : ∀ d os, Calls Tryd.prog 11 #[.agg #[.int .i64 e, .string ⟨u.toArray⟩, .string ⟨r.toArray⟩]] (grow (redrawn wr d) os) fun x w'' => x = .returned (.bool b) ∧ ∃ p : Regrown, w'' = grow (redrawn wr p.d) p.os := fun d os => Calls.regrown_of (by rw [hb]; exact right_any e u r _ i.lo i.hi hu hr (tab_regrown (hT.on bW3) bW3.size d os))
  have d3 : ∀ d os, Calls Tryd.prog 12 #[.agg #[.int .i64 e, .string ⟨u.toArray⟩, .string ⟨r.toArray⟩]] (grow (redrawn wr d) os) fun x w'' => x = .returned (.bool b) ∧ ∃ p : Regrown, w'' = grow (redrawn wr p.d) p.os := fun d os => Calls.regrown_of (by rw [hb]; exact xright_any e u r _ i.lo i.hi hu hr (tab_regrown (hT.on bW3) bW3.size d os))
  have d4 : ∀ d os, Calls Tryd.prog 13 #[.agg #[.int .i64 e, .string ⟨u.toArray⟩, .string ⟨r.toArray⟩]] (grow (redrawn wr d) os) fun x w'' => x = .returned (.string ⟨l.toArray⟩) ∧ ∃ p : Regrown, w'' = grow (redrawn wr p.d) p.os := fun d os => Calls.regrown_of (by rw [hl]; exact print_any e u r _ i.lo i.hi hu hr (tab_regrown (hT.on bW3) bW3.size d os))
  have d5 : ∀ d os, Calls Tryd.prog 14 #[.agg #[.int .i64 e, .string ⟨u.toArray⟩, .string ⟨r.toArray⟩]] (grow (redrawn wr d) os) fun x w'' => x = .returned (.string ⟨l.toArray⟩) ∧ ∃ p : Regrown, w'' = grow (redrawn wr p.d) p.os := fun d os => Calls.regrown_of (by rw [hl]; exact xprint_any e u r _ i.lo i.hi hu hr (tab_regrown (hT.on bW3) bW3.size d os))
  clear hb hl B V X Y i hs hu hr H1 hg hgr
  refine wp_region_quiet_below (by kernel_rfl) (by kernel_rfl) ?_
  repeat (any_goals (first | go_big_quiet_step ((first | with_reducible exact d1 _ _ | with_reducible exact d2 _ _ | with_reducible exact d3 _ _ | with_reducible exact d4 _ _ | with_reducible exact d5 _ _)) | quiet_step ((first | with_reducible exact d1 _ _ | with_reducible exact d2 _ _ | with_reducible exact d3 _ _ | with_reducible exact d4 _ _ | with_reducible exact d5 _ _))))
  refine wpQuiet_nil ?_
  intro wq hwq
  have hq' := rg bW3 hwq
  go_wp2
  go_ret
  exact ⟨rfl, hq'⟩

theorem reads_any (s : List UInt8) (e : Int) (u r : List UInt8) (w : World) (i : In64 e) (htab : Lib.TabIs Tryd.prog w "internal/strconv.uint64pow10" .u64 Lib.pow10Tab) (hg : ErrT w) :
    Calls Tryd.prog 3 #[.string ⟨s.toArray⟩, .agg #[.int .i64 e, .string ⟨u.toArray⟩, .string ⟨r.toArray⟩]] w fun x w' => x = .returned (.bool true) ∧ Below w.heap.size w w' := by
  by_cases hs : 200 < s.length
  · exact reads_long s e u r w hs
  · cases h1 : (decide (u.length ≤ 100) && decide (r.length ≤ 100)) with
    | false => exact reads_short s e u r w (by omega) h1
    | true => exact reads_m s e u r w (by omega) h1 i htab hg

end Go.Proofs.YtkefdlcionkbdaaDoor
