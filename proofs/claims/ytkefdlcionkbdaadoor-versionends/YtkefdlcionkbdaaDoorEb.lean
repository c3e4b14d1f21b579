/- The walk of the law VersionEnds. -/
import Derived.Test.YtkefdlcionkbdaaDoorPg
import Derived.Test.YtkefdlcionkbdaaDoorEa
namespace Go.Proofs.YtkefdlcionkbdaaDoor
open Go.RowKit Go.Shelf Go.Sort

def Sh (u r : List UInt8) (b : Bool) : Prop := (decide (u.length ≤ 100) && decide (r.length ≤ 100)) = b
structure In64 (e : Int) : Prop where
  lo : -9223372036854775808 ≤ e
  hi : e ≤ 9223372036854775807
structure RtB (e : Int) (u r : List UInt8) (b : Bool) : Prop where
  out : Vm.rt e u r = b
theorem sh_le {u r : List UInt8} (h : Sh u r true) : u.length ≤ 100 ∧ r.length ≤ 100 := by
  unfold Sh at h; simpa using h

/-- Three boxes of versions that share epoch and revision. -/
structure Nine (W : World) (a b c : Nat) (e : Int) (u v x r : List UInt8) : Prop where
  la : a < W.heap.size
  lb : b < W.heap.size
  lc : c < W.heap.size
  a0 : W.cell? ⟨a, 0, none⟩ = some (.int .i64 e)
  a1 : W.cell? ⟨a, 1, none⟩ = some (.string ⟨u.toArray⟩)
  a2 : W.cell? ⟨a, 2, none⟩ = some (.string ⟨r.toArray⟩)
  b0 : W.cell? ⟨b, 0, none⟩ = some (.int .i64 e)
  b1 : W.cell? ⟨b, 1, none⟩ = some (.string ⟨v.toArray⟩)
  b2 : W.cell? ⟨b, 2, none⟩ = some (.string ⟨r.toArray⟩)
  c0 : W.cell? ⟨c, 0, none⟩ = some (.int .i64 e)
  c1 : W.cell? ⟨c, 1, none⟩ = some (.string ⟨x.toArray⟩)
  c2 : W.cell? ⟨c, 2, none⟩ = some (.string ⟨r.toArray⟩)

theorem Nine.on {W w' : World} {a b c : Nat} {e : Int} {u v x r : List UInt8} (h : Nine W a b c e u v x r) (k : Below W.heap.size W w') : Nine w' a b c e u v x r :=
  ⟨Nat.lt_of_lt_of_le h.la k.size, Nat.lt_of_lt_of_le h.lb k.size, Nat.lt_of_lt_of_le h.lc k.size, by rw [k.cell h.la]; exact h.a0, by rw [k.cell h.la]; exact h.a1, by rw [k.cell h.la]; exact h.a2,
    by rw [k.cell h.lb]; exact h.b0, by rw [k.cell h.lb]; exact h.b1, by rw [k.cell h.lb]; exact h.b2, by rw [k.cell h.lc]; exact h.c0, by rw [k.cell h.lc]; exact h.c1, by rw [k.cell h.lc]; exact h.c2⟩

theorem Nine.cells {W : World} {a b c : Nat} {e : Int} {u v x r : List UInt8} (h : Nine W a b c e u v x r) : W.cell? ⟨a, 0, none⟩ = some (.int .i64 e) ∧ W.cell? ⟨a, 1, none⟩ = some (.string ⟨u.toArray⟩) ∧ W.cell? ⟨a, 2, none⟩ = some (.string ⟨r.toArray⟩) ∧
    W.cell? ⟨b, 0, none⟩ = some (.int .i64 e) ∧ W.cell? ⟨b, 1, none⟩ = some (.string ⟨v.toArray⟩) ∧ W.cell? ⟨b, 2, none⟩ = some (.string ⟨r.toArray⟩) ∧ W.cell? ⟨c, 0, none⟩ = some (.int .i64 e) ∧ W.cell? ⟨c, 1, none⟩ = some (.string ⟨x.toArray⟩) ∧ W.cell? ⟨c, 2, none⟩ = some (.string ⟨r.toArray⟩) :=
  ⟨h.a0, h.a1, h.a2, h.b0, h.b1, h.b2, h.c0, h.c1, h.c2⟩

set_option maxHeartbeats 1600000 in
set_option maxRecDepth 100000 in
theorem ends_s1 (e : Int) (u r m : List UInt8) (n : Int) (w : World) (s1 : Sh u r false) :
    Calls Tryd.prog 6 #[.agg #[.int .i64 e, .string ⟨u.toArray⟩, .string ⟨r.toArray⟩], .string ⟨m.toArray⟩, .int .i64 n] w fun x w' => x = .returned (.bool true) ∧ Below w.heap.size w w' := by
  have hW : Below w.heap.size w (w.alloc (.cells #[.int .i64 e, .string ⟨u.toArray⟩, .string ⟨r.toArray⟩] 23)) := (Below.refl _ _).alloc (Nat.le_refl _) _
  go_enter Tryd.func6, Tryd.ntmps6
  go_wp2_with fail
  refine (kshort_any e u r _).mono ?_
  rintro x w1 ⟨rfl, h1⟩
  rw [show (decide (u.length ≤ 100) && decide (r.length ≤ 100)) = _ from s1]
  go_wp2_with fail
  go_ret
  exact ⟨rfl, Go.Proofs.YtkefdlcionkbdaaDoor.on hW h1⟩

set_option maxHeartbeats 1600000 in
set_option maxRecDepth 100000 in
theorem ends_s2 (e : Int) (u r m : List UInt8) (n : Int) (w : World) (s1 : Sh u r true) (hm : 50 < m.length) :
    Calls Tryd.prog 6 #[.agg #[.int .i64 e, .string ⟨u.toArray⟩, .string ⟨r.toArray⟩], .string ⟨m.toArray⟩, .int .i64 n] w fun x w' => x = .returned (.bool true) ∧ Below w.heap.size w w' := by
  have hW : Below w.heap.size w (w.alloc (.cells #[.int .i64 e, .string ⟨u.toArray⟩, .string ⟨r.toArray⟩] 23)) := (Below.refl _ _).alloc (Nat.le_refl _) _
  go_enter Tryd.func6, Tryd.ntmps6
  go_wp2_with fail
  refine (kshort_any e u r _).mono ?_
  rintro x w1 ⟨rfl, h1⟩
  rw [show (decide (u.length ≤ 100) && decide (r.length ≤ 100)) = _ from s1]
  go_wp2_with fail
  go_ret
  exact ⟨rfl, Go.Proofs.YtkefdlcionkbdaaDoor.on hW h1⟩

theorem str2 (u m : List UInt8) (c : UInt8) : ByteArray.mk u.toArray ++ (ByteArray.mk #[c] ++ ByteArray.mk m.toArray) = ⟨(u ++ c :: m).toArray⟩ := by
  apply ByteArray.ext; simp
theorem str3 (z d : List UInt8) : ByteArray.mk #[49, 46] ++ ByteArray.mk z.toArray ++ ByteArray.mk d.toArray = ⟨(49 :: 46 :: (z ++ d)).toArray⟩ := by
  apply ByteArray.ext; simp
theorem str4 (d : List UInt8) : ByteArray.mk #[49, 46] ++ ByteArray.mk d.toArray = ⟨(49 :: 46 :: d).toArray⟩ := by
  apply ByteArray.ext; simp
theorem rep0 (j : Nat) : Lib.repeatL [48] j = List.replicate j 48 := by
  induction j with
  | zero => rfl
  | succ j ih => rw [List.replicate_succ, ← ih]; rfl

theorem bX {w w2 : World} (A B : Obj) (h : Below w.heap.size w w2) : Below w.heap.size w ((w2.alloc A).alloc B).drew :=
  ((h.alloc h.size _).alloc (by have := h.size; simp; omega) _).drew

theorem nine1 {w2 : World} {a : Nat} {e : Int} {u r : List UInt8} (m : List UInt8) (hl : a < w2.heap.size) (h0 : w2.cell? ⟨a, 0, none⟩ = some (.int .i64 e)) (h1 : w2.cell? ⟨a, 1, none⟩ = some (.string ⟨u.toArray⟩)) (h2 : w2.cell? ⟨a, 2, none⟩ = some (.string ⟨r.toArray⟩)) :
    Nine ((w2.alloc (.cells #[.int .i64 e, .string (⟨u.toArray⟩ ++ (⟨#[126]⟩ ++ ⟨m.toArray⟩)), .string ⟨r.toArray⟩] 23)).alloc (.cells #[.int .i64 e, .string (⟨u.toArray⟩ ++ (⟨#[43]⟩ ++ ⟨m.toArray⟩)), .string ⟨r.toArray⟩] 23)).drew a w2.heap.size (w2.heap.size + 1) e u (u ++ 126 :: m) (u ++ 43 :: m) r := by
  rw [str2, str2]
  have g : ∀ k, ((w2.alloc (.cells #[.int .i64 e, .string ⟨(u ++ 126 :: m).toArray⟩, .string ⟨r.toArray⟩] 23)).alloc (.cells #[.int .i64 e, .string ⟨(u ++ 43 :: m).toArray⟩, .string ⟨r.toArray⟩] 23)).drew.cell? ⟨a, k, none⟩ = w2.cell? ⟨a, k, none⟩ := fun k => ((((Below.refl w2.heap.size w2).alloc (Nat.le_refl _) _).alloc (by simp) _).drew).cell hl
  exact ⟨by simp; omega, by simp; omega, by simp, by rw [g]; exact h0, by rw [g]; exact h1, by rw [g]; exact h2, by simp [go_sem, World.cell?_alloc_past], by simp [go_sem, World.cell?_alloc_past], by simp [go_sem, World.cell?_alloc_past], by simp [go_sem], by simp [go_sem], by simp [go_sem]⟩
theorem nine2 {w2 : World} {a : Nat} {e : Int} {u r : List UInt8} (m : List UInt8) (hl : a < w2.heap.size) (h0 : w2.cell? ⟨a, 0, none⟩ = some (.int .i64 e)) (h1 : w2.cell? ⟨a, 1, none⟩ = some (.string ⟨u.toArray⟩)) (h2 : w2.cell? ⟨a, 2, none⟩ = some (.string ⟨r.toArray⟩)) :
    Nine ((w2.alloc (.cells #[.int .i64 e, .string (⟨u.toArray⟩ ++ (⟨#[43]⟩ ++ ⟨m.toArray⟩)), .string ⟨r.toArray⟩] 23)).alloc (.cells #[.int .i64 e, .string (⟨u.toArray⟩ ++ (⟨#[126]⟩ ++ ⟨m.toArray⟩)), .string ⟨r.toArray⟩] 23)).drew a (w2.heap.size + 1) w2.heap.size e u (u ++ 126 :: m) (u ++ 43 :: m) r := by
  rw [str2, str2]
  have g : ∀ k, ((w2.alloc (.cells #[.int .i64 e, .string ⟨(u ++ 43 :: m).toArray⟩, .string ⟨r.toArray⟩] 23)).alloc (.cells #[.int .i64 e, .string ⟨(u ++ 126 :: m).toArray⟩, .string ⟨r.toArray⟩] 23)).drew.cell? ⟨a, k, none⟩ = w2.cell? ⟨a, k, none⟩ := fun k => ((((Below.refl w2.heap.size w2).alloc (Nat.le_refl _) _).alloc (by simp) _).drew).cell hl
  exact ⟨by simp; omega, by simp, by simp; omega, by rw [g]; exact h0, by rw [g]; exact h1, by rw [g]; exact h2, by simp [go_sem], by simp [go_sem], by simp [go_sem], by simp [go_sem, World.cell?_alloc_past], by simp [go_sem, World.cell?_alloc_past], by simp [go_sem, World.cell?_alloc_past]⟩

/-- What the law's numbers come to. -/
theorem pv_num (j k : Nat) (hj : j < 5) (hk : k < 1000) : Vm.pv (49 :: 46 :: (List.replicate j 48 ++ Lib.decDigits k)) = some (0, 49 :: 46 :: (List.replicate j 48 ++ Lib.decDigits k), []) := by
  have hl : (Lib.decDigits k).length ≤ 3 := Vm.dd_len 2 _ (by rw [show (10 : Nat) ^ (2 + 1) = 1000 from by decide]; omega)
  have hd : ∀ c ∈ Lib.decDigits k, Vm.ok1 (Vm.us 0 []) c = true := fun c hc => by simp [Vm.ok1, (Vm.dd_all k).1 c hc]
  have := pv_nought (u := 49 :: 46 :: (List.replicate j 48 ++ Lib.decDigits k)) (r := []) (rt_nought (by simp [Vm.pr]; omega) rfl (by
    rw [List.all_eq_true]
    intro c hc
    simp only [List.mem_cons, List.mem_append] at hc
    rcases hc with rfl | rfl | hc | hc
    · decide
    · decide
    · rw [(List.mem_replicate.1 hc).2]; decide
    · exact hd c hc) rfl)
  simpa [Vm.pr] using this

theorem cmp_t (e : Int) (u m r : List UInt8) (w : World) (h1 : (u ++ 126 :: m).length ≤ 200) (h2 : u.length ≤ 200) (h3 : r.length ≤ 200) : Calls Tryd.prog 16 #[.agg #[.int .i64 e, .string ⟨(u ++ 126 :: m).toArray⟩, .string ⟨r.toArray⟩], .agg #[.int .i64 e, .string ⟨u.toArray⟩, .string ⟨r.toArray⟩]] w fun x w' => x = .returned (.int .i64 (-1)) ∧ Below w.heap.size w w' := by
  have h := compare_below e (u ++ 126 :: m) r e u r w h1 h3 h2 h3
  rw [Vm.cv_tilde] at h; exact h
theorem cmp_p (e : Int) (u m r : List UInt8) (w : World) (h1 : (u ++ 43 :: m).length ≤ 200) (h2 : u.length ≤ 200) (h3 : r.length ≤ 200) : Calls Tryd.prog 16 #[.agg #[.int .i64 e, .string ⟨(u ++ 43 :: m).toArray⟩, .string ⟨r.toArray⟩], .agg #[.int .i64 e, .string ⟨u.toArray⟩, .string ⟨r.toArray⟩]] w fun x w' => x = .returned (.int .i64 1) ∧ Below w.heap.size w w' := by
  have h := compare_below e (u ++ 43 :: m) r e u r w h1 h3 h2 h3
  rw [Vm.cv_plus] at h; exact h
theorem cmp_tp (e : Int) (u m r : List UInt8) (w : World) (h1 : (u ++ 126 :: m).length ≤ 200) (h2 : (u ++ 43 :: m).length ≤ 200) (h3 : r.length ≤ 200) : Calls Tryd.prog 16 #[.agg #[.int .i64 e, .string ⟨(u ++ 126 :: m).toArray⟩, .string ⟨r.toArray⟩], .agg #[.int .i64 e, .string ⟨(u ++ 43 :: m).toArray⟩, .string ⟨r.toArray⟩]] w fun x w' => x = .returned (.int .i64 (-1)) ∧ Below w.heap.size w w' := by
  have h := compare_below e (u ++ 126 :: m) r e (u ++ 43 :: m) r w h1 h3 h2 h3
  rw [Vm.cv_tp] at h; exact h
theorem cmp_n (j k : Nat) (w : World) (hj : j < 5) (hk : (Lib.decDigits k).length ≤ 3) : Calls Tryd.prog 16 #[.agg #[.int .i64 0, .string ⟨(49 :: 46 :: (List.replicate j 48 ++ Lib.decDigits k)).toArray⟩, .string ⟨#[]⟩], .agg #[.int .i64 0, .string ⟨(49 :: 46 :: Lib.decDigits k).toArray⟩, .string ⟨#[]⟩]] w fun x w' => x = .returned (.int .i64 0) ∧ Below w.heap.size w w' := by
  have h := compare_below 0 (49 :: 46 :: (List.replicate j 48 ++ Lib.decDigits k)) [] 0 (49 :: 46 :: Lib.decDigits k) [] w (by simp; omega) (by decide) (by simp; omega) (by decide)
  rw [Vm.cv_noughts j (Lib.decDigits k) (Vm.dd_all k).1] at h; exact h
theorem read_4 (k : Nat) (h : Vm.pv (49 :: 46 :: Lib.decDigits k) = some (0, 49 :: 46 :: Lib.decDigits k, [])) (w : World) (htab : Lib.TabIs Tryd.prog w "internal/strconv.uint64pow10" .u64 Lib.pow10Tab) :
    Calls Tryd.prog 24 #[.string (⟨#[49, 46]⟩ ++ ⟨(Lib.decDigits k).toArray⟩)] w fun x w' => x = .returned (.agg #[.int .i64 0, .string ⟨(49 :: 46 :: Lib.decDigits k).toArray⟩, .string ⟨#[]⟩]) ∧ Below w.heap.size w w' := by
  have h := read_some _ _ _ _ h w htab
  rw [str4]; exact h

set_option maxHeartbeats 3200000 in
set_option maxRecDepth 100000 in
theorem ends_m (e : Int) (u r m : List UInt8) (n : Int) (w : World) (s1 : Sh u r true) (hm : m.length ≤ 50) (i : In64 e) (htab : Lib.TabIs Tryd.prog w "internal/strconv.uint64pow10" .u64 Lib.pow10Tab) (y1 y2 y3 : Bool) (t1 : RtB e u r y1) (t2 : RtB e (u ++ 126 :: m) r y2) (t3 : RtB e (u ++ 43 :: m) r y3) :
    Calls Tryd.prog 6 #[.agg #[.int .i64 e, .string ⟨u.toArray⟩, .string ⟨r.toArray⟩], .string ⟨m.toArray⟩, .int .i64 n] w fun x w' => x = .returned (.bool true) ∧ Below w.heap.size w w' := by
  have hT := Lib.tabBelow_of_tabIs htab
  clear htab
  obtain ⟨p1, q1⟩ := sh_le s1
  have pv1 : (u ++ 126 :: m).length ≤ 200 := by simp; omega
  have pv2 : (u ++ 43 :: m).length ≤ 200 := by simp; omega
  obtain ⟨k, hk, cK⟩ := pick_any n 1000 (Or.inl rfl)
  obtain ⟨j, hj, cJ⟩ := pick_any n 5 (Or.inr rfl)
  have hk' : k < 1000 := by omega
  have hj' : j < 5 := by omega
  have hdl : (Lib.decDigits k).length ≤ 3 := Vm.dd_len 2 _ (by rw [show (10 : Nat) ^ (2 + 1) = 1000 from by decide]; omega)
  have pvA := pv_num j k hj' hk'
  have pvB := pv_num 0 k (by decide) hk'
  rw [List.replicate_zero, List.nil_append] at pvB
  have HA := Lib.hid pvA
  have HB := Lib.hid pvB
  have HJ := Lib.hid cJ
  have HK := Lib.hid cK
  clear pvA pvB cJ cK hk hj
  have hW : Below w.heap.size w (w.alloc (.cells #[.int .i64 e, .string ⟨u.toArray⟩, .string ⟨r.toArray⟩] 23)) := (Below.refl _ _).alloc (Nat.le_refl _) _
  go_enter Tryd.func6, Tryd.ntmps6
  go_wp2_with fail
  refine (kshort_any e u r _).mono ?_
  rintro x w1 ⟨rfl, h1⟩
  rw [show (decide (u.length ≤ 100) && decide (r.length ≤ 100)) = _ from s1]
  go_wp2_with fail
  refine (held_any _ (hT _ (on hW h1))).mono ?_
  rintro x w2 ⟨rfl, h2'⟩
  have h2 := on h1 h2'
  have hW2 := on hW h2
  obtain ⟨a0, a1, a2, kf, kg⟩ := kept3 (g := w.heap.size) (x0 := .int .i64 e) (x1 := .string ⟨u.toArray⟩) (x2 := .string ⟨r.toArray⟩) (by simp) (by simp) (by simp) (by simp) (by simp) h2
  clear h1 h2 h2'
  go_wp2_with fail
  go_region
  all_goals go_wp2_with fail
  all_goals refine (right_any e u r _ i.lo i.hi (by omega) (by omega) (hT _ (bX _ _ hW2))).mono ?_
  all_goals rintro x w5 ⟨rfl, h5⟩
  all_goals rw [t1.out]
  all_goals have N := by first | exact (nine1 m kg a0 a1 a2).on h5 | exact (nine2 m kg a0 a1 a2).on h5
  all_goals have hW5 := on (bX _ _ hW2) h5
  all_goals clear h5
  all_goals obtain ⟨A0, A1, A2, B0, B1, B2, C0, C1, C2⟩ := N.cells
  all_goals cases y1
  case' false =>
    go_wp2_with fail
    go_ret
    exact ⟨rfl, hW5⟩
  case' false =>
    go_wp2_with fail
    go_ret
    exact ⟨rfl, hW5⟩
  all_goals
    go_wp2_with fail
    refine (right_any e (u ++ 126 :: m) r _ i.lo i.hi pv1 (by omega) (hT _ hW5)).mono ?_
    rintro x w6 ⟨rfl, h6⟩
    rw [t2.out]
    replace N := N.on h6
    have hW6 := on hW5 h6
    clear h6 A0 A1 A2 B0 B1 B2 C0 C1 C2
    obtain ⟨A0, A1, A2, B0, B1, B2, C0, C1, C2⟩ := N.cells
    cases y2
  case' false =>
    go_wp2_with fail
    go_ret
    exact ⟨rfl, hW6⟩
  case' false =>
    go_wp2_with fail
    go_ret
    exact ⟨rfl, hW6⟩
  all_goals
    go_wp2_with fail
    refine (right_any e (u ++ 43 :: m) r _ i.lo i.hi pv2 (by omega) (hT _ hW6)).mono ?_
    rintro x w7 ⟨rfl, h7⟩
    rw [t3.out]
    replace N := N.on h7
    have hW7 := on hW6 h7
    clear h7 A0 A1 A2 B0 B1 B2 C0 C1 C2
    obtain ⟨A0, A1, A2, B0, B1, B2, C0, C1, C2⟩ := N.cells
    cases y3
  case' false =>
    go_wp2_with fail
    go_ret
    exact ⟨rfl, hW7⟩
  case' false =>
    go_wp2_with fail
    go_ret
    exact ⟨rfl, hW7⟩
  all_goals
    go_wp2_with fail
    refine (HK.out _).mono ?_
    rintro x w' ⟨rfl, rfl⟩
    go_wp2_with fail
    refine (HJ.out _).mono ?_
    rintro x w' ⟨rfl, rfl⟩
    go_wp2_with fail
    refine (Tryd.strings_Repeat ⟨#[48]⟩ j _ (by omega) (by simp [ByteArray.size]; omega)).mono ?_
    rintro x w8 ⟨rfl, h8⟩
    rw [show (ByteArray.mk #[48]).data.toList = [48] from rfl, rep0]
    replace N := N.on h8
    have hW8 := on hW7 h8
    clear h8 A0 A1 A2 B0 B1 B2 C0 C1 C2
    go_wp2_with fail
    refine (digits_any k hk' _).mono ?_
    rintro x w9 ⟨rfl, h9⟩
    replace N := N.on h9
    have hW9 := on hW8 h9
    clear h9
    go_wp2_with fail
    rw [str3]
    refine (read_some _ _ _ _ HA.out _ (hT _ hW9)).mono ?_
    rintro x wa ⟨rfl, ha⟩
    replace N := N.on ha
    have hWa := on hW9 ha
    clear ha
    obtain ⟨A0, A1, A2, B0, B1, B2, C0, C1, C2⟩ := N.cells
    go_wp2_with fail
    have bR : Below wa.heap.size wa (wa.alloc (.cells #[.int .i64 0, .string ⟨(49 :: 46 :: (List.replicate j 48 ++ Lib.decDigits k)).toArray⟩, .string ⟨#[]⟩] 23)) := (Below.refl _ _).alloc (Nat.le_refl _) _
    have D0 : (wa.alloc (.cells #[.int .i64 0, .string ⟨(49 :: 46 :: (List.replicate j 48 ++ Lib.decDigits k)).toArray⟩, .string ⟨#[]⟩] 23)).cell? ⟨wa.heap.size, 0, none⟩ = some (.int .i64 0) := by simp
    have D1 : (wa.alloc (.cells #[.int .i64 0, .string ⟨(49 :: 46 :: (List.replicate j 48 ++ Lib.decDigits k)).toArray⟩, .string ⟨#[]⟩] 23)).cell? ⟨wa.heap.size, 1, none⟩ = some (.string ⟨(49 :: 46 :: (List.replicate j 48 ++ Lib.decDigits k)).toArray⟩) := by simp
    have D2 : (wa.alloc (.cells #[.int .i64 0, .string ⟨(49 :: 46 :: (List.replicate j 48 ++ Lib.decDigits k)).toArray⟩, .string ⟨#[]⟩] 23)).cell? ⟨wa.heap.size, 2, none⟩ = some (.string ⟨#[]⟩) := by simp
    generalize (wa.alloc (.cells #[.int .i64 0, .string ⟨(49 :: 46 :: (List.replicate j 48 ++ Lib.decDigits k)).toArray⟩, .string ⟨#[]⟩] 23)) = wr at bR D0 D1 D2 ⊢
    replace N := N.on bR
    have hWr := on hWa bR
    clear A0 A1 A2 B0 B1 B2 C0 C1 C2
    obtain ⟨A0, A1, A2, B0, B1, B2, C0, C1, C2⟩ := N.cells
    have d1 : ∀ d os, Calls Tryd.prog 16 #[.agg #[.int .i64 e, .string ⟨(u ++ 126 :: m).toArray⟩, .string ⟨r.toArray⟩], .agg #[.int .i64 e, .string ⟨u.toArray⟩, .string ⟨r.toArray⟩]] (grow (redrawn wr d) os) fun x w'' => x = .returned (.int .i64 (-1)) ∧ ∃ p : Regrown, w'' = grow (redrawn wr p.d) p.os := fun d os => Calls.regrown_of (cmp_t e u m r _ pv1 (by omega) (by omega))
    have d2 : ∀ d os, Calls Tryd.prog 16 #[.agg #[.int .i64 e, .string ⟨(u ++ 43 :: m).toArray⟩, .string ⟨r.toArray⟩], .agg #[.int .i64 e, .string ⟨u.toArray⟩, .string ⟨r.toArray⟩]] (grow (redrawn wr d) os) fun x w'' => x = .returned (.int .i64 1) ∧ ∃ p : Regrown, w'' = grow (redrawn wr p.d) p.os := fun d os => Calls.regrown_of (cmp_p e u m r _ pv2 (by omega) (by omega))
    have d3 : ∀ d os, Calls Tryd.prog 16 #[.agg #[.int .i64 e, .string ⟨(u ++ 126 :: m).toArray⟩, .string ⟨r.toArray⟩], .agg #[.int .i64 e, .string ⟨(u ++ 43 :: m).toArray⟩, .string ⟨r.toArray⟩]] (grow (redrawn wr d) os) fun x w'' => x = .returned (.int .i64 (-1)) ∧ ∃ p : Regrown, w'' = grow (redrawn wr p.d) p.os := fun d os => Calls.regrown_of (cmp_tp e u m r _ pv1 pv2 (by omega))
    have d4 : ∀ d os, Calls Tryd.prog 26 #[.int .i64 k] (grow (redrawn wr d) os) fun x w'' => x = .returned (.string ⟨(Lib.decDigits k).toArray⟩) ∧ ∃ p : Regrown, w'' = grow (redrawn wr p.d) p.os := fun d os => Calls.regrown_of (digits_any k hk' _)
    have d5 : ∀ d os, Calls Tryd.prog 24 #[.string (⟨#[49, 46]⟩ ++ ⟨(Lib.decDigits k).toArray⟩)] (grow (redrawn wr d) os) fun x w'' => x = .returned (.agg #[.int .i64 0, .string ⟨(49 :: 46 :: Lib.decDigits k).toArray⟩, .string ⟨#[]⟩]) ∧ ∃ p : Regrown, w'' = grow (redrawn wr p.d) p.os := fun d os => Calls.regrown_of (read_4 k HB.out _ (tab_regrown (hT.on hWr) hWr.size d os))
    have d6 : ∀ d os, Calls Tryd.prog 16 #[.agg #[.int .i64 0, .string ⟨(49 :: 46 :: (List.replicate j 48 ++ Lib.decDigits k)).toArray⟩, .string ⟨#[]⟩], .agg #[.int .i64 0, .string ⟨(49 :: 46 :: Lib.decDigits k).toArray⟩, .string ⟨#[]⟩]] (grow (redrawn wr d) os) fun x w'' => x = .returned (.int .i64 0) ∧ ∃ p : Regrown, w'' = grow (redrawn wr p.d) p.os := fun d os => Calls.regrown_of (cmp_n j k _ hj' hdl)
    have kA0 := cell_regrown A0
    have kA1 := cell_regrown A1
    have kA2 := cell_regrown A2
    have kB0 := cell_regrown B0
    have kB1 := cell_regrown B1
    have kB2 := cell_regrown B2
    have kC0 := cell_regrown C0
    have kC1 := cell_regrown C1
    have kC2 := cell_regrown C2
    have kD0 := cell_regrown D0
    have kD1 := cell_regrown D1
    have kD2 := cell_regrown D2
    clear HA HB HJ HK N s1 hm i pv1 pv2 a0 a1 a2 kf kg
    refine wp_region_quiet_below (by kernel_rfl) (by kernel_rfl) ?_
    repeat (any_goals (first | go_big_quiet_step ((first | with_reducible exact d1 _ _ | with_reducible exact d2 _ _ | with_reducible exact d3 _ _ | with_reducible exact d4 _ _ | with_reducible exact d5 _ _ | with_reducible exact d6 _ _)) | quiet_step ((first | with_reducible exact d1 _ _ | with_reducible exact d2 _ _ | with_reducible exact d3 _ _ | with_reducible exact d4 _ _ | with_reducible exact d5 _ _ | with_reducible exact d6 _ _))))
    refine wpQuiet_nil ?_
    intro wq hwq
    have hq := rg hWr hwq
    go_wp2
    go_ret
    exact ⟨rfl, hq⟩

theorem ends_any (e : Int) (u r m : List UInt8) (n : Int) (w : World) (i : In64 e) (htab : Lib.TabIs Tryd.prog w "internal/strconv.uint64pow10" .u64 Lib.pow10Tab) :
    Calls Tryd.prog 6 #[.agg #[.int .i64 e, .string ⟨u.toArray⟩, .string ⟨r.toArray⟩], .string ⟨m.toArray⟩, .int .i64 n] w fun x w' => x = .returned (.bool true) ∧ Below w.heap.size w w' := by
  cases s1 : (decide (u.length ≤ 100) && decide (r.length ≤ 100)) with
  | false => exact ends_s1 e u r m n w s1
  | true =>
    by_cases hm : m.length ≤ 50
    · exact ends_m e u r m n w s1 hm i htab _ _ _ ⟨rfl⟩ ⟨rfl⟩ ⟨rfl⟩
    · exact ends_s2 e u r m n w s1 (by omega)

end Go.Proofs.YtkefdlcionkbdaaDoor
