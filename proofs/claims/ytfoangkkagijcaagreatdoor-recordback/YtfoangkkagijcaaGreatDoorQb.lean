/- The walk of goOn: another line of a field. -/
import Derived.Test.YtfoangkkagijcaaGreatDoorQa
namespace Go.Proofs.YtfoangkkagijcaaGreatDoor.Stz
open Go.RowKit Go.Shelf Go.Sort

section
variable {B C r : Nat} {S A V : Value} {out : List (List Sm.F)} {vs : List Value} {cur : List Sm.F} {val : List UInt8} {w0 W : World}
/-- Behind an append to the value, its slice stored. -/
theorem Rd.appV (h : Rd B C r S A V out vs cur val w0 W) {W' : World} {V' : Value} {val' : List UInt8} (hg : W.grownBy W' V.ownBlock) (hV' : W'.ownsRow B 5 1 V' val'.length (Lib.byteCells val')) :
    Rd B C r S A V' out vs cur val' w0 (W'.setCell ⟨r, 2, none⟩ V') := by
  obtain ⟨bx, hA, hS, be, Cs, ov⟩ := h.grV hg
  have kp : ∀ {b e sz n : Nat} {v : Value} {xs : List Value}, e ≠ 170 → W'.ownsRow b e sz v n xs → (W'.setCell ⟨r, 2, none⟩ V').ownsRow b e sz v n xs := fun he h1 => ownsRow_setCell_other h1 (row_ne h1 bx (Ne.symm he)) _
  exact ⟨by simp [World.setCell, Array.getElem?_modify, bx], h.rB, kp (by decide) hV', kp (by decide) hA, kp (by decide) hS, h.CB, by simpa [World.setCell] using Cs, be.setCell h.rB _, h.ol, fun i hi hj => ⟨kp (by decide) (ov i hi hj), (h.ov i hi hj).2⟩⟩
theorem Rd.appC (h : Rd B C r S A V out vs cur val w0 W) {W' : World} (hg : W.grownBy W' V.ownBlock) : W'.cell? ⟨r, 2, none⟩ = some V ∧ W'.frozen? ⟨r, 2, none⟩ = false := by
  obtain ⟨bx, _⟩ := h.grV hg
  exact ⟨by rw [Lib.cell_of_heap bx]; rfl, Lib.frozen_of_heap bx 2⟩
end

theorem isSlice {w : World} {b e sz n : Nat} {v : Value} {xs : List Value} (h : w.ownsRow b e sz v n xs) : ∃ X c, v = .slice X n c := by
  rcases h.2 with ⟨rfl, rfl⟩ | ⟨g, cap, c, rfl, _⟩
  · exact ⟨_, _, rfl⟩
  · exact ⟨_, _, rfl⟩

/-- A further line without the point that stands for a point. -/
def gl (t : List UInt8) : Option (List UInt8) := if t.head? = some 46 then (if t.tail.head? = some 46 then some t.tail else none) else some t

set_option maxHeartbeats 3200000 in
set_option maxRecDepth 100000 in
/-- Behind the point: the line u. -/
theorem goOn_plain {B C r : Nat} {S A V : Value} {out : List (List Sm.F)} {vs : List Value} {cur : List Sm.F} {val : List UInt8} {w0 W : World} (h : Rd B C r S A V out vs cur val w0 W) (u : List UInt8) (hd : (u.head? == some 46) = false) (hu : u.length ≤ 1000000) (hv : val.length ≤ 1000000) (hc : cur.length ≤ 100) :
    Calls Tryz.prog 194 #[.pointer (some ⟨r, 0, none⟩), .string ⟨u.toArray⟩] W fun e w' => ∃ q, e = .returned (.bool q) ∧ q = (!cur.isEmpty && Sm.lok u) ∧
      (q = true → ∃ V', Rd B C r S A V' out vs cur (val ++ [10] ++ u) w0 w') ∧ (q = false → Rd B C r S A V out vs cur val w0 w') := by
  have cP : ∀ W, Calls Tryz.prog 106 #[.string ⟨u.toArray⟩, .string ⟨#[46]⟩] W fun e w' => e = .returned (.bool false) ∧ w' = W := fun W => by rw [← hd]; exact hp46 u W
  have c1 := h.c1
  obtain ⟨X, cA, rfl⟩ := isSlice h.hA
  cases cur with
  | nil =>
    simp only [List.length_nil] at c1
    have HR := Lib.hid h
    clear h
    go_enter Tryz.func194, Tryz.ntmps194
    go_wp2_with (go_at_call 106; with_reducible refine (cP _).mono ?_; rintro x w' ⟨rfl, rfl⟩)
    go_ret
    exact ⟨false, rfl, rfl, (fun e => by cases e), fun _ => HR.out⟩
  | cons f0 cur0 =>
    obtain ⟨cur, hcur⟩ : ∃ c, c = f0 :: cur0 := ⟨_, rfl⟩
    have hce : cur.isEmpty = false := by rw [hcur]; rfl
    have hcn : ((cur.length : Int) == 0) = false := by rw [beq_eq_false_iff_ne, hcur]; simp; omega
    rw [← hcur] at h hc c1 ⊢
    clear hcur
    cases hlk : Sm.lok u with
    | false =>
      have HQ : Hid ((!cur.isEmpty && false) = false) := by show _ = _; simp
      have cL : ∀ W, Calls Tryz.prog 208 #[.string ⟨u.toArray⟩] W fun e w' => e = .returned (.bool false) ∧ Below W.heap.size W w' := fun W => by rw [← hlk]; exact line_any u W hu
      have HR := Lib.hid h
      clear h
      go_enter Tryz.func194, Tryz.ntmps194
      go_wp2_with (go_at_call 106; with_reducible refine (cP _).mono ?_; rintro x w' ⟨rfl, rfl⟩)
      refine (cL _).mono ?_
      rintro e w1 ⟨rfl, b1⟩
      go_wp2
      go_ret
      exact ⟨false, rfl, HQ.out.symm, (fun e => by cases e), fun _ => HR.out.on b1⟩
    | true =>
      have cL : ∀ W, Calls Tryz.prog 208 #[.string ⟨u.toArray⟩] W fun e w' => e = .returned (.bool true) ∧ Below W.heap.size W w' := fun W => by rw [← hlk]; exact line_any u W hu
      have HQ : Hid ((!cur.isEmpty && true) = true) := by show _ = _; rw [hce]; rfl
      obtain ⟨i0, hi, hz0, hz1, hz2⟩ := info_parts infoByte
      have HR := Lib.hid h
      have hCB := h.CB
      have hCs := h.Cs
      clear h
      go_enter Tryz.func194, Tryz.ntmps194
      go_wp2_with (go_at_call 106; with_reducible refine (cP _).mono ?_; rintro x w' ⟨rfl, rfl⟩)
      refine (cL _).mono ?_
      rintro e w1 ⟨rfl, b1⟩
      have R1 := HR.out.on b1
      have e2 := R1.c2
      have hBw1 : B ≤ w1.heap.size := Nat.le_trans R1.CB R1.Cs
      go_wp2_with (at_builtin; refine wpList_append_own _ rfl _ _ 120 rfl B 5 i0 (.int .u8 0) 1 1 Tryz.underlying120 hi hz0 hz1 hz2 rfl (by decide) _ _ _ rfl (R1.hV.alloc _) ⟨w1.heap.size, 0, none⟩ 1 1 [.int .u8 10] rfl rfl ?a1 ?a2 ?a3 ?a4 ?a5 ?_)
      case a1 =>
        intro j u hj
        match j, hj with
        | 0, hj => simp at hj; subst hj; simp [Addr.add]
      case a2 => intro u hu; simp at hu; subst hu; rfl
      case a3 => unfold maxLen; omega
      case a4 => omega
      case a5 => simp; omega
      intro v2 w2 hown2 hgrow2 _
      have RA := R1.on ((Below.refl _ _).alloc (Nat.le_refl _) (.cells #[.int .u8 10] 5))
      have R2 := RA.appV hgrow2 (own_one (c := 10) hown2)
      obtain ⟨g2, gf2⟩ := RA.appC hgrow2
      obtain ⟨X2, k2, rfl⟩ := isSlice hown2
      have HR2 := Lib.hid R2
      clear hown2 hgrow2 RA R1 R2
      have hBw2 : B ≤ (w2.setCell ⟨r, 2, none⟩ (.slice X2 (val.length + 1) k2)).heap.size := Nat.le_trans HR2.out.CB HR2.out.Cs
      have hown3 := HR2.out.hV
      have e3 := HR2.out.c2
      simp only [List.length_append, List.length_singleton] at hown3 e3
      go_wp2_with (at_builtin; refine Lib.wpList_append_own_string _ rfl _ _ 120 9 rfl B 5 i0 Tryz.underlying120 Tryz.underlying9 hi hz0 hz1 hz2 _ _ _ rfl hown3 ⟨u.toArray⟩ rfl ?b3 ?b4 ?b5 ?_)
      case b3 => have : (ByteArray.mk u.toArray).size = u.length := by simp [ByteArray.size]
                 unfold maxLen; omega
      case b4 => have : (ByteArray.mk u.toArray).size = u.length := by simp [ByteArray.size]
                 omega
      case b5 => exact hBw2
      intro v4 w4 hown4 hgrow4 _
      have hown4' := own_str (l := val ++ [10]) (u := u) (by simpa [ByteArray.size] using hown4)
      have R4 := HR2.out.appV hgrow4 hown4'
      obtain ⟨g4, gf4⟩ := HR2.out.appC hgrow4
      obtain ⟨X4, k4, rfl⟩ := isSlice hown4
      have HR4 := Lib.hid R4
      clear hown4 hown4' hgrow4 R4 HR2 hown3
      go_wp2
      go_ret
      exact ⟨true, rfl, HQ.out.symm, fun _ => ⟨_, HR4.out⟩, fun e => by cases e⟩
set_option maxHeartbeats 3200000 in
set_option maxRecDepth 100000 in
/-- A line with a point ahead of a point. -/
theorem goOn_dot {B C r : Nat} {S A V : Value} {out : List (List Sm.F)} {vs : List Value} {cur : List Sm.F} {val : List UInt8} {w0 W : World} (h : Rd B C r S A V out vs cur val w0 W) (u : List UInt8) (hd : (u.head? == some 46) = true) (hu : u.length ≤ 1000000) (hv : val.length ≤ 1000000) (hc : cur.length ≤ 100) :
    Calls Tryz.prog 194 #[.pointer (some ⟨r, 0, none⟩), .string ⟨(46 :: u).toArray⟩] W fun e w' => ∃ q, e = .returned (.bool q) ∧ q = (!cur.isEmpty && Sm.lok u) ∧
      (q = true → ∃ V', Rd B C r S A V' out vs cur (val ++ [10] ++ u) w0 w') ∧ (q = false → Rd B C r S A V out vs cur val w0 w') := by
  have cP : ∀ W, Calls Tryz.prog 106 #[.string ⟨(46 :: u).toArray⟩, .string ⟨#[46]⟩] W fun e w' => e = .returned (.bool true) ∧ w' = W := fun W => hp46 (46 :: u) W
  have cP2 : ∀ W, Calls Tryz.prog 106 #[.string ⟨u.toArray⟩, .string ⟨#[46]⟩] W fun e w' => e = .returned (.bool true) ∧ w' = W := fun W => by rw [← hd]; exact hp46 u W
  have hxs : (ByteArray.mk (46 :: u).toArray).extract 1 (u.length + 1) = ⟨u.toArray⟩ := by apply ByteArray.ext; simp
  have c1 := h.c1
  obtain ⟨X, cA, rfl⟩ := isSlice h.hA
  cases cur with
  | nil =>
    simp only [List.length_nil] at c1
    have HR := Lib.hid h
    clear h
    go_enter Tryz.func194, Tryz.ntmps194
    go_wp2_with (first | (go_at_call 106; with_reducible refine (cP _).mono ?_; rintro x w' ⟨rfl, rfl⟩) | (go_at_call 106; with_reducible refine (cP2 _).mono ?_; rintro x w' ⟨rfl, rfl⟩))
    go_ret
    exact ⟨false, rfl, rfl, (fun e => by cases e), fun _ => HR.out⟩
  | cons f0 cur0 =>
    obtain ⟨cur, hcur⟩ : ∃ c, c = f0 :: cur0 := ⟨_, rfl⟩
    have hce : cur.isEmpty = false := by rw [hcur]; rfl
    have hcn : ((cur.length : Int) == 0) = false := by rw [beq_eq_false_iff_ne, hcur]; simp; omega
    rw [← hcur] at h hc c1 ⊢
    clear hcur
    cases hlk : Sm.lok u with
    | false =>
      have HQ : Hid ((!cur.isEmpty && false) = false) := by show _ = _; simp
      have cL : ∀ W, Calls Tryz.prog 208 #[.string ⟨u.toArray⟩] W fun e w' => e = .returned (.bool false) ∧ Below W.heap.size W w' := fun W => by rw [← hlk]; exact line_any u W hu
      have HR := Lib.hid h
      clear h
      go_enter Tryz.func194, Tryz.ntmps194
      go_wp2_with (first | (go_at_call 106; with_reducible refine (cP _).mono ?_; rintro x w' ⟨rfl, rfl⟩) | (go_at_call 106; with_reducible refine (cP2 _).mono ?_; rintro x w' ⟨rfl, rfl⟩))
      refine (cL _).mono ?_
      rintro e w1 ⟨rfl, b1⟩
      go_wp2
      go_ret
      exact ⟨false, rfl, HQ.out.symm, (fun e => by cases e), fun _ => HR.out.on b1⟩
    | true =>
      have cL : ∀ W, Calls Tryz.prog 208 #[.string ⟨u.toArray⟩] W fun e w' => e = .returned (.bool true) ∧ Below W.heap.size W w' := fun W => by rw [← hlk]; exact line_any u W hu
      have HQ : Hid ((!cur.isEmpty && true) = true) := by show _ = _; rw [hce]; rfl
      obtain ⟨i0, hi, hz0, hz1, hz2⟩ := info_parts infoByte
      have HR := Lib.hid h
      have hCB := h.CB
      have hCs := h.Cs
      clear h
      go_enter Tryz.func194, Tryz.ntmps194
      go_wp2_with (first | (go_at_call 106; with_reducible refine (cP _).mono ?_; rintro x w' ⟨rfl, rfl⟩) | (go_at_call 106; with_reducible refine (cP2 _).mono ?_; rintro x w' ⟨rfl, rfl⟩))
      refine (cL _).mono ?_
      rintro e w1 ⟨rfl, b1⟩
      have R1 := HR.out.on b1
      have e2 := R1.c2
      have hBw1 : B ≤ w1.heap.size := Nat.le_trans R1.CB R1.Cs
      go_wp2_with (at_builtin; refine wpList_append_own _ rfl _ _ 120 rfl B 5 i0 (.int .u8 0) 1 1 Tryz.underlying120 hi hz0 hz1 hz2 rfl (by decide) _ _ _ rfl (R1.hV.alloc _) ⟨w1.heap.size, 0, none⟩ 1 1 [.int .u8 10] rfl rfl ?a1 ?a2 ?a3 ?a4 ?a5 ?_)
      case a1 =>
        intro j u hj
        match j, hj with
        | 0, hj => simp at hj; subst hj; simp [Addr.add]
      case a2 => intro u hu; simp at hu; subst hu; rfl
      case a3 => unfold maxLen; omega
      case a4 => omega
      case a5 => simp; omega
      intro v2 w2 hown2 hgrow2 _
      have RA := R1.on ((Below.refl _ _).alloc (Nat.le_refl _) (.cells #[.int .u8 10] 5))
      have R2 := RA.appV hgrow2 (own_one (c := 10) hown2)
      obtain ⟨g2, gf2⟩ := RA.appC hgrow2
      obtain ⟨X2, k2, rfl⟩ := isSlice hown2
      have HR2 := Lib.hid R2
      clear hown2 hgrow2 RA R1 R2
      have hBw2 : B ≤ (w2.setCell ⟨r, 2, none⟩ (.slice X2 (val.length + 1) k2)).heap.size := Nat.le_trans HR2.out.CB HR2.out.Cs
      have hown3 := HR2.out.hV
      have e3 := HR2.out.c2
      simp only [List.length_append, List.length_singleton] at hown3 e3
      go_wp2_with (at_builtin; refine Lib.wpList_append_own_string _ rfl _ _ 120 9 rfl B 5 i0 Tryz.underlying120 Tryz.underlying9 hi hz0 hz1 hz2 _ _ _ rfl hown3 ⟨u.toArray⟩ rfl ?b3 ?b4 ?b5 ?_)
      case b3 => have : (ByteArray.mk u.toArray).size = u.length := by simp [ByteArray.size]
                 unfold maxLen; omega
      case b4 => have : (ByteArray.mk u.toArray).size = u.length := by simp [ByteArray.size]
                 omega
      case b5 => exact hBw2
      intro v4 w4 hown4 hgrow4 _
      have hown4' := own_str (l := val ++ [10]) (u := u) (by simpa [ByteArray.size] using hown4)
      have R4 := HR2.out.appV hgrow4 hown4'
      obtain ⟨g4, gf4⟩ := HR2.out.appC hgrow4
      obtain ⟨X4, k4, rfl⟩ := isSlice hown4
      have HR4 := Lib.hid R4
      clear hown4 hown4' hgrow4 R4 HR2 hown3
      go_wp2
      go_ret
      exact ⟨true, rfl, HQ.out.symm, fun _ => ⟨_, HR4.out⟩, fun e => by cases e⟩

set_option maxHeartbeats 800000 in
set_option maxRecDepth 100000 in
/-- A point, and no point behind it. -/
theorem goOn_bad (r : Nat) (W : World) (u : List UInt8) (hd : (u.head? == some 46) = false) (hu : u.length ≤ 1000000) :
    Calls Tryz.prog 194 #[.pointer (some ⟨r, 0, none⟩), .string ⟨(46 :: u).toArray⟩] W fun e w' => e = .returned (.bool false) ∧ w' = W := by
  have cP : ∀ W, Calls Tryz.prog 106 #[.string ⟨(46 :: u).toArray⟩, .string ⟨#[46]⟩] W fun e w' => e = .returned (.bool true) ∧ w' = W := fun W => hp46 (46 :: u) W
  have cP2 : ∀ W, Calls Tryz.prog 106 #[.string ⟨u.toArray⟩, .string ⟨#[46]⟩] W fun e w' => e = .returned (.bool false) ∧ w' = W := fun W => by rw [← hd]; exact hp46 u W
  have hxs : (ByteArray.mk (46 :: u).toArray).extract 1 (u.length + 1) = ⟨u.toArray⟩ := by apply ByteArray.ext; simp
  go_enter Tryz.func194, Tryz.ntmps194
  go_wp2_with (first | (go_at_call 106; with_reducible refine (cP _).mono ?_; rintro x w' ⟨rfl, rfl⟩) | (go_at_call 106; with_reducible refine (cP2 _).mono ?_; rintro x w' ⟨rfl, rfl⟩))
  go_ret
  exact ⟨rfl, rfl⟩

/-- Whether a further line may stand there, and what it adds. -/
def gOk (cur : List Sm.F) (t : List UInt8) : Option (List UInt8) := match gl t with
  | none => none
  | some u => if (!cur.isEmpty && Sm.lok u) = true then some u else none

theorem goOn_any {B C r : Nat} {S A V : Value} {out : List (List Sm.F)} {vs : List Value} {cur : List Sm.F} {val : List UInt8} {w0 W : World} (h : Rd B C r S A V out vs cur val w0 W) (t : List UInt8) (ht : t.length ≤ 1000000) (hv : val.length ≤ 1000000) (hc : cur.length ≤ 100) :
    Calls Tryz.prog 194 #[.pointer (some ⟨r, 0, none⟩), .string ⟨t.toArray⟩] W fun e w' => e = .returned (.bool (gOk cur t).isSome) ∧
      ∀ u, (gOk cur t = some u → ∃ V', Rd B C r S A V' out vs cur (val ++ [10] ++ u) w0 w') ∧ (gOk cur t = none → Rd B C r S A V out vs cur val w0 w') := by
  have fin : ∀ (u : List UInt8), gl t = some u → ∀ e w', (∃ q, e = Ending.returned (.bool q) ∧ q = (!cur.isEmpty && Sm.lok u) ∧ (q = true → ∃ V', Rd B C r S A V' out vs cur (val ++ [10] ++ u) w0 w') ∧ (q = false → Rd B C r S A V out vs cur val w0 w')) →
      e = .returned (.bool (gOk cur t).isSome) ∧ ∀ u, (gOk cur t = some u → ∃ V', Rd B C r S A V' out vs cur (val ++ [10] ++ u) w0 w') ∧ (gOk cur t = none → Rd B C r S A V out vs cur val w0 w') := by
    rintro u hg e w' ⟨q, rfl, hq, h1, h2⟩
    have hk : gOk cur t = if q = true then some u else none := by unfold gOk; rw [hg, hq]
    rw [hk]
    cases q with
    | true => exact ⟨rfl, fun u' => ⟨fun e => by cases e; exact h1 rfl, fun e => by cases e⟩⟩
    | false => exact ⟨rfl, fun u' => ⟨(fun e => by cases e), fun _ => h2 rfl⟩⟩
  cases hd : (t.head? == some 46) with
  | false =>
    have hg : gl t = some t := by unfold gl; rw [if_neg (by simpa using hd)]
    exact (goOn_plain h t hd ht hv hc).mono (fin t hg)
  | true =>
    cases t with
    | nil => simp at hd
    | cons a u =>
      obtain rfl : a = 46 := by simpa using hd
      cases hd2 : (u.head? == some 46) with
      | true =>
        have hg : gl (46 :: u) = some u := by
          have : u.head? = some 46 := by simpa using hd2
          simp [gl, this]
        exact (goOn_dot h u hd2 (by simp at ht; omega) hv hc).mono (fin u hg)
      | false =>
        have hg : gl (46 :: u) = none := by
          have : ¬ u.head? = some 46 := by simpa using hd2
          simp [gl, this]
        have hk : gOk cur (46 :: u) = none := by unfold gOk; rw [hg]
        rw [hk]
        exact (goOn_bad r W u hd2 (by simp at ht; omega)).mono fun e w' ⟨he, hw⟩ => ⟨he, fun u' => ⟨(fun e => by cases e), fun _ => by rw [hw]; exact h⟩⟩

end Go.Proofs.YtfoangkkagijcaaGreatDoor.Stz
