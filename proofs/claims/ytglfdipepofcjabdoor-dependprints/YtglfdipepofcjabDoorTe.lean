/- The walk of depend's parseTerm. -/
import Derived.Test.YtglfdipepofcjabDoorTd
namespace Go.Proofs.YtglfdipepofcjabDoor
open Go.RowKit Go.Shelf Go.Sort

theorem dwl_le (p : UInt8 → Bool) : ∀ l : List UInt8, (l.dropWhile p).length ≤ l.length
  | [] => by simp
  | c :: l => by
    rw [List.dropWhile_cons]
    split
    · have := dwl_le p l; simp; omega
    · simp
theorem trimR_le (l cs : List UInt8) : (Lib.trimRightS l cs).length ≤ l.length := by
  unfold Lib.trimRightS
  have := dwl_le (cs.contains ·) l.reverse
  simpa using this
theorem trimS_le (l cs : List UInt8) : (Lib.trimS l cs).length ≤ l.length := Nat.le_trans (dwl_le _ _) (trimR_le l cs)
theorem cutV_le (c : UInt8) (l : List UInt8) : (cutV c l).1.length ≤ l.length ∧ (cutV c l).2.1.length ≤ l.length := by
  unfold cutV
  rcases Vm.fc_idx c l with ⟨_, h⟩ | ⟨k, hk, _, h⟩
  · rw [h]; simp
  · rw [h]; simp; omega

theorem sfx_iff (b : List UInt8) : Lib.hasSuffix b [41] = decide (b.getLast? = some 41) := by
  unfold Lib.hasSuffix
  rw [Bool.eq_iff_iff]
  rw [List.isSuffixOf_iff_suffix, decide_eq_true_iff]
  constructor
  · rintro ⟨t, rfl⟩; simp
  · intro h
    obtain ⟨t, rfl⟩ := List.getLast?_eq_some_iff.1 h
    exact ⟨t, rfl⟩
theorem sfx_cut (b : List UInt8) : Lib.trimSuffix b [41] = cutE b := by
  unfold Lib.trimSuffix cutE
  rw [sfx_iff]
  by_cases h : b.getLast? = some 41
  · simp [h, List.dropLast_eq_take]
  · simp [h]
theorem cutE_le (b : List UInt8) : (cutE b).length ≤ b.length := by unfold cutE; split <;> simp
theorem cutS_le (b : List UInt8) : (cutS b).2.length ≤ b.length := by
  unfold cutS; repeat' split
  all_goals simp

/-- What parseTerm answers. -/
def ptB : Option Tm → Value
  | some t => .tuple #[.agg #[.string ⟨t.n.toArray⟩, .int .i64 t.o, .int .i64 t.e, .string ⟨t.u.toArray⟩, .string ⟨t.r.toArray⟩], .bool true]
  | none => .tuple #[.agg #[.string ⟨#[]⟩, .int .i64 0, .int .i64 0, .string ⟨#[]⟩, .string ⟨#[]⟩], .bool false]
theorem rett {o p : Option Tm} (h : o = p) : Ending.returned (ptB o) = .returned (ptB p) := by rw [h]

theorem sfx_any (b : List UInt8) (w : World) (hb : b.length ≤ 1000000) : Calls Tryd.prog 140 #[.string ⟨b.toArray⟩, .string ⟨#[41]⟩] w fun e w' => e = .returned (.tuple #[.string ⟨(cutE b).toArray⟩, .bool (decide (b.getLast? = some 41))]) ∧ w' = w := by
  have := Tryd.strings_CutSuffix ⟨b.toArray⟩ ⟨#[41]⟩ w (by have := size_le hb; omega)
  rw [show Lib.trimSuffix (ByteArray.mk b.toArray).data.toList (ByteArray.mk #[41]).data.toList = cutE b from sfx_cut b, show Lib.hasSuffix (ByteArray.mk b.toArray).data.toList (ByteArray.mk #[41]).data.toList = decide (b.getLast? = some 41) from sfx_iff b] at this
  exact this

/-- A block of a term's five cells. -/
structure K5 (W : World) (g : Nat) (x0 x1 x2 x3 x4 : Value) : Prop where
  c0 : W.cell? ⟨g, 0, none⟩ = some x0
  c1 : W.cell? ⟨g, 1, none⟩ = some x1
  c2 : W.cell? ⟨g, 2, none⟩ = some x2
  c3 : W.cell? ⟨g, 3, none⟩ = some x3
  c4 : W.cell? ⟨g, 4, none⟩ = some x4
  f : ∀ j, W.frozen? ⟨g, j, none⟩ = false
  lt : g < W.heap.size
theorem K5.on {W w' : World} {g : Nat} {x0 x1 x2 x3 x4 : Value} (h : K5 W g x0 x1 x2 x3 x4) (b : Below W.heap.size W w') : K5 w' g x0 x1 x2 x3 x4 :=
  ⟨by rw [b.cell h.lt, h.c0], by rw [b.cell h.lt, h.c1], by rw [b.cell h.lt, h.c2], by rw [b.cell h.lt, h.c3], by rw [b.cell h.lt, h.c4], fun j => by rw [b.frozen h.lt, h.f j], Nat.lt_of_lt_of_le h.lt b.size⟩
theorem K5.new (w : World) (x0 x1 x2 x3 x4 : Value) (t : TypeId) : K5 (w.alloc (.cells #[x0, x1, x2, x3, x4] t)) w.heap.size x0 x1 x2 x3 x4 :=
  ⟨by simp, by simp, by simp, by simp, by simp, by simp, by simp⟩

theorem res5 {W : World} {g : Nat} {x0 x1 x2 x3 x4 : Value} (y0 y1 y2 y3 y4 : Value) (k : K5 W g x0 x1 x2 x3 x4) :
    K5 (((((W.setCell ⟨g, 0, none⟩ y0).setCell ⟨g, 1, none⟩ y1).setCell ⟨g, 2, none⟩ y2).setCell ⟨g, 3, none⟩ y3).setCell ⟨g, 4, none⟩ y4) g y0 y1 y2 y3 y4 :=
  ⟨by simp [go_sem, k.c0], by simp [go_sem, k.c1], by simp [go_sem, k.c2], by simp [go_sem, k.c3], by simp [go_sem, k.c4], fun j => by simp [k.f], by simpa using k.lt⟩
theorem low5 {w W : World} (h : Below w.heap.size w W) (y0 y1 y2 y3 y4 : Value) : Below w.heap.size w (((((W.setCell ⟨w.heap.size, 0, none⟩ y0).setCell ⟨w.heap.size, 1, none⟩ y1).setCell ⟨w.heap.size, 2, none⟩ y2).setCell ⟨w.heap.size, 3, none⟩ y3).setCell ⟨w.heap.size, 4, none⟩ y4) :=
  ((((h.setCell (Nat.le_refl _) _).setCell (Nat.le_refl _) _).setCell (Nat.le_refl _) _).setCell (Nat.le_refl _) _).setCell (Nat.le_refl _) _

set_option maxHeartbeats 800000 in
set_option maxRecDepth 100000 in
theorem pt_no (s a b : List UInt8) (m : Bool) (w : World) (hs : s.length ≤ 100000) (h : cutV 40 (Lib.trimS s bls) = (a, b, m)) (hn : nmo (Lib.trimRightS a bls) = false) : Calls Tryd.prog 106 #[.string ⟨s.toArray⟩] w fun x w' => x = .returned (ptB none) ∧ Below w.heap.size w w' := by
  have l1 := trimS_le s bls
  have l2 := cutV_le 40 (Lib.trimS s bls)
  rw [h] at l2
  have l3 := trimR_le a bls
  simp only at l2
  have cT := fun W => trim3 s W (by omega)
  have cC := fun W => cutc 40 (Lib.trimS s bls) W (by omega)
  rw [h] at cC
  have cR := fun W => trimr3 a W (by omega)
  have cN := fun W => name_any (Lib.trimRightS a bls) W
  rw [hn] at cN
  obtain ⟨n, hn'⟩ : ∃ n, n = Lib.trimRightS a bls := ⟨_, rfl⟩
  rw [← hn'] at cR cN
  obtain ⟨t, ht⟩ : ∃ t, t = Lib.trimS s bls := ⟨_, rfl⟩
  rw [← ht] at cT cC
  clear h hn l1 l2 l3 ht hn'
  unfold ptB
  go_enter Tryd.func106, Tryd.ntmps106
  go_wp2_with fail
  refine (cT _).mono ?_
  rintro x w1 ⟨rfl, b1⟩
  go_wp2_with fail
  refine (cC _).mono ?_
  rintro x w2 ⟨rfl, b2⟩
  go_wp2_with fail
  refine (cR _).mono ?_
  rintro x w3 ⟨rfl, b3⟩
  go_wp2_with fail
  refine (cN _).mono ?_
  rintro x w4 ⟨rfl, b4⟩
  have b14 := bt2 (bt2 (bt2 b1 b2) b3) b4
  have kR := (K5.new w (.string ⟨#[]⟩) (.int .i64 0) (.int .i64 0) (.string ⟨#[]⟩) (.string ⟨#[]⟩) 68).on b14
  have hW4 := bt2 (bA1 _ _) b14
  clear b1 b2 b3 b4 b14 cT cC cR cN
  have q := res5 (.string ⟨#[]⟩) (.int .i64 0) (.int .i64 0) (.string ⟨#[]⟩) (.string ⟨#[]⟩) kR
  have q0 := q.c0
  have q1 := q.c1
  have q2 := q.c2
  have q3 := q.c3
  have q4 := q.c4
  obtain ⟨k0, k1, k2, k3, k4, kf, kl⟩ := kR
  go_wp2
  exact bodyPost_ret (v := .tuple #[.agg #[.string ⟨#[]⟩, .int .i64 0, .int .i64 0, .string ⟨#[]⟩, .string ⟨#[]⟩], .bool false]) (by simp only [results, Tryd.results106]; simp [go_sem, q0, q1, q2, q3, q4]) rfl ⟨rfl, low5 hW4 _ _ _ _ _⟩

set_option maxHeartbeats 1600000 in
set_option maxRecDepth 100000 in
theorem pt_bare (s a b : List UInt8) (w : World) (hs : s.length ≤ 100000) (h : cutV 40 (Lib.trimS s bls) = (a, b, false)) (hn : nmo (Lib.trimRightS a bls) = true) : Calls Tryd.prog 106 #[.string ⟨s.toArray⟩] w fun x w' => x = .returned (ptB (some ⟨Lib.trimRightS a bls, 0, 0, [], []⟩)) ∧ Below w.heap.size w w' := by
  have l1 := trimS_le s bls
  have l2 := cutV_le 40 (Lib.trimS s bls)
  rw [h] at l2
  have l3 := trimR_le a bls
  simp only at l2
  have cT := fun W => trim3 s W (by omega)
  have cC := fun W => cutc 40 (Lib.trimS s bls) W (by omega)
  rw [h] at cC
  have cR := fun W => trimr3 a W (by omega)
  have cN := fun W => name_any (Lib.trimRightS a bls) W
  rw [hn] at cN
  have cL := fun W => clone2 (Lib.trimRightS a bls) W (by omega)
  obtain ⟨n, hn'⟩ : ∃ n, n = Lib.trimRightS a bls := ⟨_, rfl⟩
  rw [← hn'] at cR cN cL ⊢
  obtain ⟨t, ht⟩ : ∃ t, t = Lib.trimS s bls := ⟨_, rfl⟩
  rw [← ht] at cT cC
  clear h hn l1 l2 l3 ht hn'
  unfold ptB
  go_enter Tryd.func106, Tryd.ntmps106
  go_wp2_with fail
  refine (cT _).mono ?_
  rintro x w1 ⟨rfl, b1⟩
  go_wp2_with fail
  refine (cC _).mono ?_
  rintro x w2 ⟨rfl, b2⟩
  go_wp2_with fail
  refine (cR _).mono ?_
  rintro x w3 ⟨rfl, b3⟩
  go_wp2_with fail
  refine (cN _).mono ?_
  rintro x w4 ⟨rfl, b4⟩
  have b14 := bt2 (bt2 (bt2 b1 b2) b3) b4
  have kR := (K5.new w (.string ⟨#[]⟩) (.int .i64 0) (.int .i64 0) (.string ⟨#[]⟩) (.string ⟨#[]⟩) 68).on b14
  have hW4 := bt2 (bA1 _ _) b14
  clear b1 b2 b3 b4 b14 cT cC cR cN
  go_wp2_with fail
  refine (cL _).mono ?_
  rintro x w5 ⟨rfl, b5⟩
  have kR := kR.on b5
  have hW5 := bt2 hW4 b5
  clear b5 cL
  have q := res5 (.string ⟨n.toArray⟩) (.int .i64 0) (.int .i64 0) (.string ⟨#[]⟩) (.string ⟨#[]⟩) kR
  have q' := q.on (bA1 _ (.cells #[.string ⟨n.toArray⟩, .int .i64 0, .int .i64 0, .string ⟨#[]⟩, .string ⟨#[]⟩] 68))
  have q0 := q'.c0
  have q1 := q'.c1
  have q2 := q'.c2
  have q3 := q'.c3
  have q4 := q'.c4
  obtain ⟨k0, k1, k2, k3, k4, kf, kl⟩ := kR
  go_wp2
  exact bodyPost_ret (v := .tuple #[.agg #[.string ⟨n.toArray⟩, .int .i64 0, .int .i64 0, .string ⟨#[]⟩, .string ⟨#[]⟩], .bool true]) (by simp only [results, Tryd.results106]; simp [go_sem, q0, q1, q2, q3, q4]) rfl ⟨rfl, (low5 hW5 _ _ _ _ _).alloc (low5 hW5 _ _ _ _ _).size _⟩

/-- Behind a bracket: whether it ends, which sign, which version. -/
structure Beh (b b' c d : List UInt8) (en : Bool) (op : Nat) (v : Option (Int × List UInt8 × List UInt8)) : Prop where
  e : cutE b = b'
  n : decide (b.getLast? = some 41) = en
  s : cutS b' = (op, c)
  t : Lib.trimS c bls = d
  v : rdV d = v
def behT (n : List UInt8) (en : Bool) (op : Nat) : Option (Int × List UInt8 × List UInt8) → Option Tm
  | some (e, u, r) => if en = true ∧ op ≠ 0 then some ⟨n, (op : Int), e, u, r⟩ else none
  | none => none
theorem beh_none (n : List UInt8) (en : Bool) (op : Nat) : behT n en op none = none := rfl
theorem beh_en (n : List UInt8) (op : Nat) (v : Option (Int × List UInt8 × List UInt8)) : behT n false op v = none := by cases v <;> simp [behT]
theorem beh_op (n : List UInt8) (en : Bool) (v : Option (Int × List UInt8 × List UInt8)) : behT n en 0 v = none := by cases v <;> simp [behT]
theorem beh_some (n : List UInt8) {op : Nat} (h : ¬ op = 0) (e : Int) (u r : List UInt8) : behT n true op (some (e, u, r)) = some ⟨n, (op : Int), e, u, r⟩ := by simp [behT, h]
set_option maxHeartbeats 1600000 in
set_option maxRecDepth 100000 in
theorem pt_more (s a b b' c d : List UInt8) (en : Bool) (op : Nat) (v : Option (Int × List UInt8 × List UInt8)) (w : World) (hs : s.length ≤ 100000) (h : cutV 40 (Lib.trimS s bls) = (a, b, true)) (hn : nmo (Lib.trimRightS a bls) = true) (hB : Beh b b' c d en op v) (hG : Sg w) (hT : Tab w) : Calls Tryd.prog 106 #[.string ⟨s.toArray⟩] w fun x w' => x = .returned (ptB (behT (Lib.trimRightS a bls) en op v)) ∧ Below w.heap.size w w' := by
  have l1 := trimS_le s bls
  have l2 := cutV_le 40 (Lib.trimS s bls)
  rw [h] at l2
  have l3 := trimR_le a bls
  simp only at l2
  have cT := fun W => trim3 s W (by omega)
  have cC := fun W => cutc 40 (Lib.trimS s bls) W (by omega)
  rw [h] at cC
  have cR := fun W => trimr3 a W (by omega)
  have cN := fun W => name_any (Lib.trimRightS a bls) W
  rw [hn] at cN
  have l4 := cutE_le b
  have l5 := cutS_le b'
  have cL := fun W => clone2 (Lib.trimRightS a bls) W (by omega)
  have cX := fun W => sfx_any b W (by omega)
  rw [hB.e, hB.n] at cX
  have cG := fun W (hW : Below w.heap.size w W) => cutsign_any b' W (hG.on hW)
  rw [hB.s] at cG l5
  rw [hB.e] at l4
  simp only at l5
  have cM := fun W => trim3 c W (by omega)
  rw [hB.t] at cM
  have cV := fun W (hW : Below w.heap.size w W) => pver_any d W (tab_on hT hW)
  rw [hB.v] at cV
  obtain ⟨n, hn'⟩ : ∃ n, n = Lib.trimRightS a bls := ⟨_, rfl⟩
  rw [← hn'] at cR cN cL ⊢
  obtain ⟨t, ht⟩ : ∃ t, t = Lib.trimS s bls := ⟨_, rfl⟩
  rw [← ht] at cT cC
  clear h hn l1 l2 l3 l4 l5 ht hn' hB hG hT
  go_enter Tryd.func106, Tryd.ntmps106
  go_wp2_with fail
  refine (cT _).mono ?_
  rintro x w1 ⟨rfl, b1⟩
  go_wp2_with fail
  refine (cC _).mono ?_
  rintro x w2 ⟨rfl, b2⟩
  go_wp2_with fail
  refine (cR _).mono ?_
  rintro x w3 ⟨rfl, b3⟩
  go_wp2_with fail
  refine (cN _).mono ?_
  rintro x w4 ⟨rfl, b4⟩
  have b14 := bt2 (bt2 (bt2 b1 b2) b3) b4
  have h4 : w.heap.size < w4.heap.size := by have := b14.size; simp at this; omega
  have kR := (K5.new w (.string ⟨#[]⟩) (.int .i64 0) (.int .i64 0) (.string ⟨#[]⟩) (.string ⟨#[]⟩) 68).on b14
  have hW4 := bt2 (bA1 _ _) b14
  clear b1 b2 b3 b4 b14 cT cC cR cN
  go_wp2_with fail
  refine (cL _).mono ?_
  rintro x w5 ⟨rfl, b5⟩
  have kT := K5.new w5 (.string ⟨n.toArray⟩) (.int .i64 0) (.int .i64 0) (.string ⟨#[]⟩) (.string ⟨#[]⟩) 68
  have kR := (kR.on b5).on (bA1 _ (.cells #[.string ⟨n.toArray⟩, .int .i64 0, .int .i64 0, .string ⟨#[]⟩, .string ⟨#[]⟩] 68))
  have hW5 := bt2 (bt2 hW4 b5) (bA1 _ (.cells #[.string ⟨n.toArray⟩, .int .i64 0, .int .i64 0, .string ⟨#[]⟩, .string ⟨#[]⟩] 68))
  have h45 : w.heap.size < w5.heap.size := Nat.lt_of_lt_of_le (by assumption) b5.size
  clear b5 cL
  go_wp2_with fail
  refine (cX _).mono ?_
  rintro x _ ⟨rfl, rfl⟩
  go_wp2_with fail
  refine (cG _ hW5).mono ?_
  rintro x w6 ⟨rfl, b6⟩
  go_wp2_with fail
  refine (cM _).mono ?_
  rintro x w7 ⟨rfl, b7⟩
  go_wp2_with fail
  refine (cV _ (bt2 (bt2 hW5 b6) b7)).mono ?_
  rintro x w8 ⟨rfl, b8⟩
  have b58 := bt2 (bt2 b6 b7) b8
  have kR := kR.on b58
  have kT := kT.on b58
  have hW8 := bt2 hW5 b58
  clear b6 b7 b8 b58 cX cG cM cV
  have q := res5 (.string ⟨#[]⟩) (.int .i64 0) (.int .i64 0) (.string ⟨#[]⟩) (.string ⟨#[]⟩) kR
  have HZ : Hid (∀ x y z : Value, K5 (((((w8.setCell ⟨w.heap.size, 0, none⟩ (.string ⟨#[]⟩)).setCell ⟨w.heap.size, 1, none⟩ (.int .i64 0)).setCell ⟨w.heap.size, 2, none⟩ (.int .i64 0)).setCell ⟨w.heap.size, 3, none⟩ (.string ⟨#[]⟩)).setCell ⟨w.heap.size, 4, none⟩ (.string ⟨#[]⟩) |>.alloc (.cells #[x, y, z] 54)) w.heap.size (.string ⟨#[]⟩) (.int .i64 0) (.int .i64 0) (.string ⟨#[]⟩) (.string ⟨#[]⟩)) := fun x y z => q.on (bA1 _ _)
  clear q
  have kTl := kT.lt
  cases v with
  | none =>
    simp only [pvB]
    obtain ⟨k0, k1, k2, k3, k4, kf, kl⟩ := kR
    cases en with
    | false =>
      go_wp2
      have q := HZ.out (.int .i64 0) (.string ⟨#[]⟩) (.string ⟨#[]⟩)
      have q0 := q.c0
      have q1 := q.c1
      have q2 := q.c2
      have q3 := q.c3
      have q4 := q.c4
      exact bodyPost_ret (v := .tuple #[.agg #[.string ⟨#[]⟩, .int .i64 0, .int .i64 0, .string ⟨#[]⟩, .string ⟨#[]⟩], .bool false]) (by simp only [results, Tryd.results106]; simp [go_sem, q0, q1, q2, q3, q4]) rfl ⟨by rw [beh_none]; rfl, (low5 hW8 _ _ _ _ _).alloc (low5 hW8 _ _ _ _ _).size _⟩
    | true =>
      by_cases ho : op = 0
      · subst ho
        go_wp2
        have q := HZ.out (.int .i64 0) (.string ⟨#[]⟩) (.string ⟨#[]⟩)
        have q0 := q.c0
        have q1 := q.c1
        have q2 := q.c2
        have q3 := q.c3
        have q4 := q.c4
        exact bodyPost_ret (v := .tuple #[.agg #[.string ⟨#[]⟩, .int .i64 0, .int .i64 0, .string ⟨#[]⟩, .string ⟨#[]⟩], .bool false]) (by simp only [results, Tryd.results106]; simp [go_sem, q0, q1, q2, q3, q4]) rfl ⟨by rw [beh_none]; rfl, (low5 hW8 _ _ _ _ _).alloc (low5 hW8 _ _ _ _ _).size _⟩
      · have ho' : ¬ (op : Int) = 0 := by omega
        go_wp2
        have q := HZ.out (.int .i64 0) (.string ⟨#[]⟩) (.string ⟨#[]⟩)
        have q0 := q.c0
        have q1 := q.c1
        have q2 := q.c2
        have q3 := q.c3
        have q4 := q.c4
        exact bodyPost_ret (v := .tuple #[.agg #[.string ⟨#[]⟩, .int .i64 0, .int .i64 0, .string ⟨#[]⟩, .string ⟨#[]⟩], .bool false]) (by simp only [results, Tryd.results106]; simp [go_sem, q0, q1, q2, q3, q4]) rfl ⟨by rw [beh_none]; rfl, (low5 hW8 _ _ _ _ _).alloc (low5 hW8 _ _ _ _ _).size _⟩
  | some v =>
    obtain ⟨e, u, r⟩ := v
    simp only [pvB]
    cases en with
    | false =>
      obtain ⟨k0, k1, k2, k3, k4, kf, kl⟩ := kR
      go_wp2
      have q := HZ.out (.int .i64 e) (.string ⟨u.toArray⟩) (.string ⟨r.toArray⟩)
      have q0 := q.c0
      have q1 := q.c1
      have q2 := q.c2
      have q3 := q.c3
      have q4 := q.c4
      exact bodyPost_ret (v := .tuple #[.agg #[.string ⟨#[]⟩, .int .i64 0, .int .i64 0, .string ⟨#[]⟩, .string ⟨#[]⟩], .bool false]) (by simp only [results, Tryd.results106]; simp [go_sem, q0, q1, q2, q3, q4]) rfl ⟨by rw [beh_en]; rfl, (low5 hW8 _ _ _ _ _).alloc (low5 hW8 _ _ _ _ _).size _⟩
    | true =>
      by_cases ho : op = 0
      · subst ho
        obtain ⟨k0, k1, k2, k3, k4, kf, kl⟩ := kR
        go_wp2
        have q := HZ.out (.int .i64 e) (.string ⟨u.toArray⟩) (.string ⟨r.toArray⟩)
        have q0 := q.c0
        have q1 := q.c1
        have q2 := q.c2
        have q3 := q.c3
        have q4 := q.c4
        exact bodyPost_ret (v := .tuple #[.agg #[.string ⟨#[]⟩, .int .i64 0, .int .i64 0, .string ⟨#[]⟩, .string ⟨#[]⟩], .bool false]) (by simp only [results, Tryd.results106]; simp [go_sem, q0, q1, q2, q3, q4]) rfl ⟨by rw [beh_op]; rfl, (low5 hW8 _ _ _ _ _).alloc (low5 hW8 _ _ _ _ _).size _⟩
      · have ho' : ¬ (op : Int) = 0 := by omega
        clear HZ
        have kR := kR.on (bA1 _ (.cells #[.int .i64 e, .string ⟨u.toArray⟩, .string ⟨r.toArray⟩] 54))
        have kT := kT.on (bA1 _ (.cells #[.int .i64 e, .string ⟨u.toArray⟩, .string ⟨r.toArray⟩] 54))
        have hW9 := bt2 hW8 (bA1 _ (.cells #[.int .i64 e, .string ⟨u.toArray⟩, .string ⟨r.toArray⟩] 54))
        have v0 : (w8.alloc (.cells #[.int .i64 e, .string ⟨u.toArray⟩, .string ⟨r.toArray⟩] 54)).cell? ⟨w8.heap.size, 0, none⟩ = some (.int .i64 e) := by simp
        have v1 : (w8.alloc (.cells #[.int .i64 e, .string ⟨u.toArray⟩, .string ⟨r.toArray⟩] 54)).cell? ⟨w8.heap.size, 1, none⟩ = some (.string ⟨u.toArray⟩) := by simp
        have v2 : (w8.alloc (.cells #[.int .i64 e, .string ⟨u.toArray⟩, .string ⟨r.toArray⟩] 54)).cell? ⟨w8.heap.size, 2, none⟩ = some (.string ⟨r.toArray⟩) := by simp
        have h58 : w5.heap.size < w8.heap.size := kTl
        have hne : ¬ w5.heap.size = w8.heap.size := by omega
        have hne2 : ¬ w8.heap.size = w5.heap.size := by omega
        have hne3 : ¬ w.heap.size = w5.heap.size := by omega
        have hne4 : ¬ w5.heap.size = w.heap.size := by omega
        go_wp2
        generalize w8.alloc (.cells #[.int .i64 e, .string ⟨u.toArray⟩, .string ⟨r.toArray⟩] 54) = w9 at *
        generalize w8.heap.size = gv at *
        generalize w5.heap.size = gt at *
        have hgt : w.heap.size ≤ gt := by omega
        clear h58 h45 h4 kTl
        obtain ⟨t0, t1, t2, t3, t4, tf, tl⟩ := kT
        go_region
        have kX : K5 ((((w9.setCell ⟨gt, 1, none⟩ (.int .i64 (op : Int))).setCell ⟨gt, 2, none⟩ (.int .i64 e)).setCell ⟨gt, 3, none⟩ (.string ⟨u.toArray⟩)).setCell ⟨gt, 4, none⟩ (.string ⟨r.toArray⟩)).drew gt (.string ⟨n.toArray⟩) (.int .i64 (op : Int)) (.int .i64 e) (.string ⟨u.toArray⟩) (.string ⟨r.toArray⟩) :=
          ⟨by simp [go_sem, t0], by simp [go_sem, t1], by simp [go_sem, t2], by simp [go_sem, t3], by simp [go_sem, t4], fun j => by simp [tf], by simpa using tl⟩
        have kY : K5 ((((w9.setCell ⟨gt, 1, none⟩ (.int .i64 (op : Int))).setCell ⟨gt, 2, none⟩ (.int .i64 e)).setCell ⟨gt, 3, none⟩ (.string ⟨u.toArray⟩)).setCell ⟨gt, 4, none⟩ (.string ⟨r.toArray⟩)).drew w.heap.size (.string ⟨#[]⟩) (.int .i64 0) (.int .i64 0) (.string ⟨#[]⟩) (.string ⟨#[]⟩) :=
          ⟨by simp [go_sem, kR.c0], by simp [go_sem, kR.c1], by simp [go_sem, kR.c2], by simp [go_sem, kR.c3], by simp [go_sem, kR.c4], fun j => by simp [kR.f], by simpa using kR.lt⟩
        have hX := ((((hW9.setCell (p := ⟨gt, 1, none⟩) hgt (.int .i64 (op : Int))).setCell (p := ⟨gt, 2, none⟩) hgt (.int .i64 e)).setCell (p := ⟨gt, 3, none⟩) hgt (.string ⟨u.toArray⟩)).setCell (p := ⟨gt, 4, none⟩) hgt (.string ⟨r.toArray⟩)).drew
        clear t0 t1 t2 t3 t4 tf tl kR hW9 v0 v1 v2 hne hne2 hgt
        generalize ((((w9.setCell ⟨gt, 1, none⟩ (.int .i64 (op : Int))).setCell ⟨gt, 2, none⟩ (.int .i64 e)).setCell ⟨gt, 3, none⟩ (.string ⟨u.toArray⟩)).setCell ⟨gt, 4, none⟩ (.string ⟨r.toArray⟩)).drew = X at *
        have q := res5 (.string ⟨n.toArray⟩) (.int .i64 (op : Int)) (.int .i64 e) (.string ⟨u.toArray⟩) (.string ⟨r.toArray⟩) kY
        have q0 := q.c0
        have q1 := q.c1
        have q2 := q.c2
        have q3 := q.c3
        have q4 := q.c4
        obtain ⟨t0, t1, t2, t3, t4, tf, tl⟩ := kX
        obtain ⟨k0, k1, k2, k3, k4, kf, kl⟩ := kY
        go_wp2
        exact bodyPost_ret (v := .tuple #[.agg #[.string ⟨n.toArray⟩, .int .i64 (op : Int), .int .i64 e, .string ⟨u.toArray⟩, .string ⟨r.toArray⟩], .bool true]) (by simp only [results, Tryd.results106]; simp [go_sem, q0, q1, q2, q3, q4]) rfl ⟨by rw [beh_some n ho]; rfl, low5 hX _ _ _ _ _⟩

theorem rd_cut (s a b : List UInt8) (h : cutV 40 (Lib.trimS s bls) = (a, b, true)) : rd s = if nmo (Lib.trimRightS a bls) = true then rdB (Lib.trimRightS a bls) b else none := by
  unfold cutV at h
  unfold rd rdT
  cases hf : Vm.fc 40 (Lib.trimS s bls) with
  | none => rw [hf] at h; simp at h
  | some p => obtain ⟨x, y⟩ := p; rw [hf] at h; simp at h; obtain ⟨rfl, rfl⟩ := h; rfl
theorem rd_un (s a b : List UInt8) (h : cutV 40 (Lib.trimS s bls) = (a, b, false)) : rd s = if nmo (Lib.trimRightS a bls) = true then some ⟨Lib.trimRightS a bls, 0, 0, [], []⟩ else none := by
  unfold cutV at h
  unfold rd rdT
  cases hf : Vm.fc 40 (Lib.trimS s bls) with
  | none => rw [hf] at h; simp at h; obtain ⟨rfl, rfl⟩ := h; rfl
  | some p => obtain ⟨x, y⟩ := p; rw [hf] at h; simp at h
theorem rdB_beh (n b : List UInt8) : rdB n b = behT n (decide (b.getLast? = some 41)) (cutS (cutE b)).1 (rdV (Lib.trimS (cutS (cutE b)).2 bls)) := by
  unfold rdB behT
  cases rdV (Lib.trimS (cutS (cutE b)).2 bls) with
  | none => rfl
  | some v => obtain ⟨e, u, r⟩ := v; simp

/-- A term is read. -/
theorem pt_any (s : List UInt8) (w : World) (hs : s.length ≤ 100000) (hG : Sg w) (hT : Tab w) : Calls Tryd.prog 106 #[.string ⟨s.toArray⟩] w fun x w' => x = .returned (ptB (rd s)) ∧ Below w.heap.size w w' := by
  obtain ⟨a, b, m, h⟩ : ∃ a b m, cutV 40 (Lib.trimS s bls) = (a, b, m) := ⟨_, _, _, rfl⟩
  cases hn : nmo (Lib.trimRightS a bls) with
  | false =>
    have hr : rd s = none := by
      cases m with
      | true => rw [rd_cut s a b h, hn]; rfl
      | false => rw [rd_un s a b h, hn]; rfl
    rw [hr]
    exact pt_no s a b m w hs h hn
  | true =>
    cases m with
    | false =>
      rw [rd_un s a b h, hn]
      exact pt_bare s a b w hs h hn
    | true =>
      rw [rd_cut s a b h, hn, if_pos rfl, rdB_beh]
      exact pt_more s a b _ _ _ _ _ _ w hs h hn ⟨rfl, rfl, rfl, rfl, rfl⟩ hG hT

end Go.Proofs.YtglfdipepofcjabDoor
