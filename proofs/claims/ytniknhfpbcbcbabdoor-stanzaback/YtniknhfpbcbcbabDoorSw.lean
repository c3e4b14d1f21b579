/- The walk of writeField. -/
import Derived.Test.YtniknhfpbcbcbabDoorBu
import Derived.Test.YtniknhfpbcbcbabDoorSe
namespace Go.Proofs.YtniknhfpbcbcbabDoor
open Go.RowKit Go.Shelf Go.Sort

/-- A builder that is written, a field in its box beside it. -/
structure Wr (B b x : Nat) (f : Sm.F) (t : List UInt8) (w0 W : World) : Prop where
  bd : Bd B b t W
  bx : W.heap[x]? = some (.cells #[.string ⟨f.1.toArray⟩, .string ⟨f.2.toArray⟩] 37 (0, 0))
  ne : x ≠ b
  be : Below B w0 W
theorem Wr.c0 {B b x : Nat} {f : Sm.F} {t : List UInt8} {w0 W : World} (h : Wr B b x f t w0 W) : W.cell? ⟨x, 0, none⟩ = some (.string ⟨f.1.toArray⟩) := by rw [Lib.cell_of_heap h.bx]; rfl
theorem Wr.c1 {B b x : Nat} {f : Sm.F} {t : List UInt8} {w0 W : World} (h : Wr B b x f t w0 W) : W.cell? ⟨x, 1, none⟩ = some (.string ⟨f.2.toArray⟩) := by rw [Lib.cell_of_heap h.bx]; rfl
theorem Wr.on {B b x : Nat} {f : Sm.F} {t : List UInt8} {w0 W w' : World} (h : Wr B b x f t w0 W) (k : Below W.heap.size W w') : Wr B b x f t w0 w' :=
  ⟨h.bd.on k, by rw [k.block x (Array.getElem?_eq_some_iff.1 h.bx).1]; exact h.bx, h.ne, h.be.trans (k.mono h.bd.le)⟩
theorem Wr.str {B b x : Nat} {f : Sm.F} {t : List UInt8} {w0 W : World} (h : Wr B b x f t w0 W) (s : List UInt8) (ht : t.length ≤ 1000000) (hs : s.length ≤ 1000000) :
    Calls Tryd.prog 42 #[.pointer (some ⟨b, 0, none⟩), .string ⟨s.toArray⟩] W fun e w' => e = .returned (.tuple #[.int .i64 s.length, .nilIface]) ∧ Wr B b x f (t ++ s) w0 w' := by
  refine (bd_str B b t s W h.bd ht hs).mono ?_
  rintro e w' ⟨rfl, h1, h2, h3⟩
  exact ⟨rfl, h1, ok_cell h3 h.bx h.ne (by decide), h.ne, h.be.trans h2⟩
theorem Wr.byte {B b x : Nat} {f : Sm.F} {t : List UInt8} {w0 W : World} (h : Wr B b x f t w0 W) (c : UInt8) (ht : t.length ≤ 1000000) :
    Calls Tryd.prog 43 #[.pointer (some ⟨b, 0, none⟩), .int .u8 c.toNat] W fun e w' => e = .returned .nilIface ∧ Wr B b x f (t ++ [c]) w0 w' := by
  refine (bd_byte B b t c W h.bd ht).mono ?_
  rintro e w' ⟨rfl, h1, h2, h3⟩
  exact ⟨rfl, h1, ok_cell h3 h.bx h.ne (by decide), h.ne, h.be.trans h2⟩

theorem hp46 (x : List UInt8) (w : World) : Calls Tryd.prog 76 #[.string ⟨x.toArray⟩, .string ⟨#[46]⟩] w fun e w' => e = .returned (.bool (x.head? == some 46)) ∧ w' = w := by
  refine (Tryd.strings_HasPrefix ⟨x.toArray⟩ ⟨#[46]⟩ w).mono ?_
  rintro e w' ⟨rfl, rfl⟩
  refine ⟨ret_bool ?_, rfl⟩
  cases x with
  | nil => rfl
  | cons c t =>
    rw [Bool.eq_iff_iff]
    simp [Lib.hasPrefix]
    exact ⟨Eq.symm, Eq.symm⟩

theorem ft_cut {f : Sm.F} {x y : List UInt8} {b : Bool} (C : CutIs f.2 x y b) : Sm.ft f = f.1 ++ (58 :: (Sm.l0 x ++ (if b = true then (Sm.spl y).flatMap Sm.ln else []))) := by
  unfold Sm.ft Sm.vt
  rw [C.spl]
  cases b <;> simp
theorem lines_cut {l x y : List UInt8} {b : Bool} (C : CutIs l x y b) : (Sm.spl l).flatMap Sm.ln = Sm.ln x ++ (if b = true then (Sm.spl y).flatMap Sm.ln else []) := by
  rw [C.spl]; cases b <;> simp
theorem wlen {T a r : List UInt8} (h : T = a ++ r) (hT : T.length ≤ 1000000) : a.length ≤ 1000000 ∧ r.length ≤ 1000000 := by
  rw [h] at hT; simp at hT; omega

set_option maxHeartbeats 3200000 in
set_option maxRecDepth 100000 in
theorem wf_any (B b : Nat) (t : List UInt8) (f : Sm.F) (w : World) (h : Bd B b t w) (hT : (t ++ Sm.ft f).length ≤ 1000000) (hfl : f.1.length ≤ 1000000 ∧ f.2.length ≤ 1000000) :
    Calls Tryd.prog 73 #[.pointer (some ⟨b, 0, none⟩), fv f] w fun e w' => e = .returned (.tuple #[]) ∧ Bd B b (t ++ Sm.ft f) w' ∧ Below B w w' := by
  obtain ⟨T, hTe⟩ : ∃ T, T = t ++ Sm.ft f := ⟨_, rfl⟩
  rw [← hTe] at hT ⊢
  obtain ⟨x, y, q, C⟩ := cut_line f.2
  rw [ft_cut C] at hTe
  have HT := Lib.hid hTe
  have HTL := Lib.hid hT
  have hlt : b < w.heap.size := by
    rcases h.is with h1 | h1 <;> exact h1.lt
  have S0 : Wr B b w.heap.size f t w (w.alloc (.cells #[.string ⟨f.1.toArray⟩, .string ⟨f.2.toArray⟩] 37)) :=
    ⟨h.on ((Below.refl _ _).alloc (Nat.le_refl _) _), by simp [World.alloc, -World.alloc_eq], by omega, (Below.refl _ _).alloc h.le _⟩
  clear hTe hT h
  go_enter Tryd.func73, Tryd.ntmps73
  have hlen : t.length + f.1.length + 1 + (Sm.l0 x).length ≤ 1000000 := by
    have := HTL.out; rw [HT.out] at this; simp at this; omega
  have hxl : x.length ≤ 1000000 := by have := C.len; omega
  have hyl : y.length ≤ 1000000 := by
    cases hq : q with
    | true => have := C.less hq; omega
    | false => rw [C.nil hq]; simp
  have hcc := fun W => C.call W hfl.2
  have HCC := Lib.hid hcc
  clear hcc C
  have c0 := S0.c0
  go_wp2_with fail
  refine (S0.str f.1 (by omega) hfl.1).mono ?_
  rintro e w1 ⟨rfl, S1⟩
  go_wp2_with fail
  refine (S1.byte 58 (by simp; omega)).mono ?_
  rintro e w2 ⟨rfl, S2⟩
  have c1 := S2.c1
  go_wp2_with fail
  refine (HCC.out _).mono ?_
  rintro e w3 ⟨rfl, b3⟩
  have S3 := S2.on b3
  clear c0 c1 S0 S1 S2 b3 HCC
  cases x with
  | nil =>
    have HTA : Hid (T = (t ++ f.1 ++ [58] ++ [] ++ [10]) ++ (if q = true then (Sm.spl y).flatMap Sm.ln else [])) := by show T = _; rw [HT.out]; simp [Sm.l0]
    clear HT
    go_wp2_with fail
    refine (S3.str [] (by simp [Sm.l0] at hlen ⊢; omega) (by simp)).mono ?_
    rintro e w4 ⟨rfl, S4⟩
    go_wp2_with fail
    refine (S4.byte 10 (by simp [Sm.l0] at hlen ⊢; omega)).mono ?_
    rintro e w5 ⟨rfl, S5⟩
    have SA := S5
    have HA : Hid (T = (t ++ f.1 ++ [58] ++ [] ++ [10]) ++ (if q = true then (Sm.spl y).flatMap Sm.ln else [])) := HTA
    go_wp2_with fail
    go_loopw [4, 5, 6] (fun v4 v5 v6 W => ∃ (u y' : List UInt8) (q' : Bool) (a : List UInt8), v4 = .string ⟨u.toArray⟩ ∧ v5 = .string ⟨y'.toArray⟩ ∧ v6 = .bool q' ∧ y'.length ≤ 1000000 ∧ Wr B b w.heap.size f a w W ∧ Hid (T = a ++ (if q' = true then (Sm.spl y').flatMap Sm.ln else []))) (fun _ v5 v6 _ => match v6 with | .bool true => strLen v5 + 1 | _ => 0)
    case atStart => exact ⟨_, y, q, _, rfl, rfl, rfl, hyl, SA, HA⟩
    case round =>
      obtain ⟨u, y', q', a, rfl, rfl, rfl, hy', S', HA'⟩ := hrel
      cases q' with
      | false =>
        have hTa : T = a := by have := HA'.out; simpa using this
        go_wp2
        go_end0
        exact ⟨rfl, by rw [hTa]; exact S'.bd, S'.be⟩
      | true =>
        obtain ⟨x', z, q2, C'⟩ := cut_line y'
        have hTz : T = a ++ (Sm.ln x' ++ (if q2 = true then (Sm.spl z).flatMap Sm.ln else [])) := by
          have := HA'.out; rw [if_pos rfl, lines_cut C'] at this; exact this
        have HTZ := Lib.hid hTz
        have hal : a.length + (Sm.ln x').length ≤ 1000000 := by
          have := HTL.out; rw [hTz] at this; simp at this; omega
        have hxl : x'.length ≤ 1000000 := by have := C'.len; omega
        have hzl : z.length ≤ 1000000 := by
          cases hq2 : q2 with
          | true => have := C'.less hq2; omega
          | false => rw [C'.nil hq2]; simp
        have hme : Hid ((match Value.bool q2 with | .bool true => z.length + 1 | _ => 0) < y'.length + 1) := by
          cases hq2 : q2 with
          | true => have := C'.less hq2; show z.length + 1 < y'.length + 1; omega
          | false => show 0 < y'.length + 1; omega
        have hcc := C'.call wr hy'
        have HCC := Lib.hid hcc
        clear hcc C' hTz HA'
        go_wp2_with fail
        refine HCC.out.mono ?_
        rintro e wa ⟨rfl, ba⟩
        have Sa := S'.on ba
        cases hd : (x'.head? == some 46) with
        | true =>
          have hln : Sm.ln x' = [32] ++ ([46] ++ (x' ++ [10])) := by unfold Sm.ln; rw [if_pos (by simpa using hd)]; rfl
          rw [hln] at hal
          simp at hal
          have HTY : Hid (T = (a ++ [32] ++ [46] ++ x' ++ [10]) ++ (if q2 = true then (Sm.spl z).flatMap Sm.ln else [])) := by show T = _; rw [HTZ.out, hln]; simp
          have cP : ∀ W, Calls Tryd.prog 76 #[.string ⟨x'.toArray⟩, .string ⟨#[46]⟩] W fun e w' => e = .returned (.bool true) ∧ w' = W := fun W => by rw [← hd]; exact hp46 x' W
          clear hln
          go_wp2_with fail
          refine (Sa.byte 32 (by omega)).mono ?_
          rintro e wb ⟨rfl, Sb⟩
          go_wp2_with (go_at_call 76; refine (cP _).mono ?_; rintro x w' ⟨rfl, rfl⟩)
          refine (Sb.byte 46 (by simp; omega)).mono ?_
          rintro e wc ⟨rfl, Sc⟩
          go_wp2_with fail
          refine (Sc.str x' (by simp; omega) hxl).mono ?_
          rintro e wd ⟨rfl, Sd⟩
          go_wp2_with fail
          refine (Sd.byte 10 (by simp; omega)).mono ?_
          rintro e we ⟨rfl, Se⟩
          go_wp2_with fail
          exact ⟨⟨_, z, q2, _, rfl, rfl, rfl, hzl, Se, HTY⟩, hme.out⟩
        | false =>
          have hln : Sm.ln x' = [32] ++ (x' ++ [10]) := by unfold Sm.ln; rw [if_neg (by simpa using hd)]; rfl
          rw [hln] at hal
          simp at hal
          have HTY : Hid (T = (a ++ [32] ++ x' ++ [10]) ++ (if q2 = true then (Sm.spl z).flatMap Sm.ln else [])) := by show T = _; rw [HTZ.out, hln]; simp
          have cP : ∀ W, Calls Tryd.prog 76 #[.string ⟨x'.toArray⟩, .string ⟨#[46]⟩] W fun e w' => e = .returned (.bool false) ∧ w' = W := fun W => by rw [← hd]; exact hp46 x' W
          clear hln
          go_wp2_with fail
          refine (Sa.byte 32 (by omega)).mono ?_
          rintro e wb ⟨rfl, Sb⟩
          go_wp2_with (go_at_call 76; refine (cP _).mono ?_; rintro x w' ⟨rfl, rfl⟩)
          refine (Sb.str x' (by simp; omega) hxl).mono ?_
          rintro e wd ⟨rfl, Sd⟩
          go_wp2_with fail
          refine (Sd.byte 10 (by simp; omega)).mono ?_
          rintro e we ⟨rfl, Se⟩
          go_wp2_with fail
          exact ⟨⟨_, z, q2, _, rfl, rfl, rfl, hzl, Se, HTY⟩, hme.out⟩
  | cons c r =>
    obtain ⟨x, hx⟩ : ∃ x, x = c :: r := ⟨_, rfl⟩
    have hxe : x.isEmpty = false := by rw [hx]; rfl
    have hl0 : Sm.l0 x = [32] ++ (x ++ [10]) := by rw [hx]; simp [Sm.l0]
    rw [← hx] at hlen hxl HT ⊢
    rw [hl0] at hlen
    simp at hlen
    have HTA : Hid (T = (t ++ f.1 ++ [58] ++ [32] ++ x ++ [10]) ++ (if q = true then (Sm.spl y).flatMap Sm.ln else [])) := by show T = _; rw [HT.out, hl0]; simp
    clear HT hx hl0
    go_wp2_with fail
    refine (S3.byte 32 (by simp; omega)).mono ?_
    rintro e w4 ⟨rfl, S4⟩
    go_wp2_with fail
    refine (S4.str x (by simp; omega) hxl).mono ?_
    rintro e w5 ⟨rfl, S5⟩
    go_wp2_with fail
    refine (S5.byte 10 (by simp; omega)).mono ?_
    rintro e w6 ⟨rfl, S6⟩
    have SA := S6
    have HA : Hid (T = (t ++ f.1 ++ [58] ++ [32] ++ x ++ [10]) ++ (if q = true then (Sm.spl y).flatMap Sm.ln else [])) := HTA
    go_wp2_with fail
    go_loopw [4, 5, 6] (fun v4 v5 v6 W => ∃ (u y' : List UInt8) (q' : Bool) (a : List UInt8), v4 = .string ⟨u.toArray⟩ ∧ v5 = .string ⟨y'.toArray⟩ ∧ v6 = .bool q' ∧ y'.length ≤ 1000000 ∧ Wr B b w.heap.size f a w W ∧ Hid (T = a ++ (if q' = true then (Sm.spl y').flatMap Sm.ln else []))) (fun _ v5 v6 _ => match v6 with | .bool true => strLen v5 + 1 | _ => 0)
    case atStart => exact ⟨_, y, q, _, rfl, rfl, rfl, hyl, SA, HA⟩
    case round =>
      obtain ⟨u, y', q', a, rfl, rfl, rfl, hy', S', HA'⟩ := hrel
      cases q' with
      | false =>
        have hTa : T = a := by have := HA'.out; simpa using this
        go_wp2
        go_end0
        exact ⟨rfl, by rw [hTa]; exact S'.bd, S'.be⟩
      | true =>
        obtain ⟨x', z, q2, C'⟩ := cut_line y'
        have hTz : T = a ++ (Sm.ln x' ++ (if q2 = true then (Sm.spl z).flatMap Sm.ln else [])) := by
          have := HA'.out; rw [if_pos rfl, lines_cut C'] at this; exact this
        have HTZ := Lib.hid hTz
        have hal : a.length + (Sm.ln x').length ≤ 1000000 := by
          have := HTL.out; rw [hTz] at this; simp at this; omega
        have hxl : x'.length ≤ 1000000 := by have := C'.len; omega
        have hzl : z.length ≤ 1000000 := by
          cases hq2 : q2 with
          | true => have := C'.less hq2; omega
          | false => rw [C'.nil hq2]; simp
        have hme : Hid ((match Value.bool q2 with | .bool true => z.length + 1 | _ => 0) < y'.length + 1) := by
          cases hq2 : q2 with
          | true => have := C'.less hq2; show z.length + 1 < y'.length + 1; omega
          | false => show 0 < y'.length + 1; omega
        have hcc := C'.call wr hy'
        have HCC := Lib.hid hcc
        clear hcc C' hTz HA'
        go_wp2_with fail
        refine HCC.out.mono ?_
        rintro e wa ⟨rfl, ba⟩
        have Sa := S'.on ba
        cases hd : (x'.head? == some 46) with
        | true =>
          have hln : Sm.ln x' = [32] ++ ([46] ++ (x' ++ [10])) := by unfold Sm.ln; rw [if_pos (by simpa using hd)]; rfl
          rw [hln] at hal
          simp at hal
          have HTY : Hid (T = (a ++ [32] ++ [46] ++ x' ++ [10]) ++ (if q2 = true then (Sm.spl z).flatMap Sm.ln else [])) := by show T = _; rw [HTZ.out, hln]; simp
          have cP : ∀ W, Calls Tryd.prog 76 #[.string ⟨x'.toArray⟩, .string ⟨#[46]⟩] W fun e w' => e = .returned (.bool true) ∧ w' = W := fun W => by rw [← hd]; exact hp46 x' W
          clear hln
          go_wp2_with fail
          refine (Sa.byte 32 (by omega)).mono ?_
          rintro e wb ⟨rfl, Sb⟩
          go_wp2_with (go_at_call 76; refine (cP _).mono ?_; rintro x w' ⟨rfl, rfl⟩)
          refine (Sb.byte 46 (by simp; omega)).mono ?_
          rintro e wc ⟨rfl, Sc⟩
          go_wp2_with fail
          refine (Sc.str x' (by simp; omega) hxl).mono ?_
          rintro e wd ⟨rfl, Sd⟩
          go_wp2_with fail
          refine (Sd.byte 10 (by simp; omega)).mono ?_
          rintro e we ⟨rfl, Se⟩
          go_wp2_with fail
          exact ⟨⟨_, z, q2, _, rfl, rfl, rfl, hzl, Se, HTY⟩, hme.out⟩
        | false =>
          have hln : Sm.ln x' = [32] ++ (x' ++ [10]) := by unfold Sm.ln; rw [if_neg (by simpa using hd)]; rfl
          rw [hln] at hal
          simp at hal
          have HTY : Hid (T = (a ++ [32] ++ x' ++ [10]) ++ (if q2 = true then (Sm.spl z).flatMap Sm.ln else [])) := by show T = _; rw [HTZ.out, hln]; simp
          have cP : ∀ W, Calls Tryd.prog 76 #[.string ⟨x'.toArray⟩, .string ⟨#[46]⟩] W fun e w' => e = .returned (.bool false) ∧ w' = W := fun W => by rw [← hd]; exact hp46 x' W
          clear hln
          go_wp2_with fail
          refine (Sa.byte 32 (by omega)).mono ?_
          rintro e wb ⟨rfl, Sb⟩
          go_wp2_with (go_at_call 76; refine (cP _).mono ?_; rintro x w' ⟨rfl, rfl⟩)
          refine (Sb.str x' (by simp; omega) hxl).mono ?_
          rintro e wd ⟨rfl, Sd⟩
          go_wp2_with fail
          refine (Sd.byte 10 (by simp; omega)).mono ?_
          rintro e we ⟨rfl, Se⟩
          go_wp2_with fail
          exact ⟨⟨_, z, q2, _, rfl, rfl, rfl, hzl, Se, HTY⟩, hme.out⟩

theorem txt_take {l : List Sm.F} {k : Nat} (hk : k < l.length) : Sm.txt (l.take (k + 1)) = Sm.txt (l.take k) ++ Sm.ft l[k] := by
  unfold Sm.txt; rw [List.take_succ_eq_append_getElem hk, List.flatMap_append]; simp
theorem txt_len {l : List Sm.F} (k : Nat) : (Sm.txt (l.take k)).length ≤ (Sm.txt l).length := by
  have : Sm.txt l = Sm.txt (l.take k) ++ Sm.txt (l.drop k) := by unfold Sm.txt; rw [← List.flatMap_append, List.take_append_drop]
  rw [this]; simp

set_option maxHeartbeats 1600000 in
set_option maxRecDepth 100000 in
theorem wt_row (b o c : Nat) (l : List Sm.F) (w : World) (h : Fl w b o l) (hz : Sz l) (hT : (Sm.txt l).length ≤ 1000000) :
    Calls Tryd.prog 35 #[.slice (some ⟨b, o, none⟩) l.length c] w fun e w' => e = .returned (.string ⟨(Sm.txt l).toArray⟩) ∧ Below w.heap.size w w' := by
  have hn := hz.n
  have HZ := Lib.hid hz
  clear hz
  have HT := Lib.hid hT
  clear hT
  have b0 : Bd w.heap.size w.heap.size [] (w.alloc (.cells #[.pointer none, .slice none 0 0] 86)) := ⟨Lib.fresh_isBuilder 86 5 w, by simp⟩
  have bw0 : Below w.heap.size w (w.alloc (.cells #[.pointer none, .slice none 0 0] 86)) := (Below.refl _ _).alloc (Nat.le_refl _) _
  go_enter Tryd.func35, Tryd.ntmps35
  go_wp2
  go_loopw [8] (fun i W => ∃ k : Nat, k ≤ l.length ∧ i = .int .i64 k ∧ Below w.heap.size w W ∧ Bd w.heap.size w.heap.size (Sm.txt (l.take k)) W) (fun i _ => l.length - (intOf i).toNat)
  case atStart => exact ⟨0, Nat.zero_le _, rfl, bw0, b0⟩
  case round =>
    obtain ⟨k, hk, rfl, hW, hB⟩ := hrel
    by_cases hlt : k < l.length
    · have hF : Fl wr b o l := ⟨Nat.lt_of_lt_of_le h.lt hW.size, fun i hi => by rw [hW.cell h.lt]; exact h.c0 i hi, fun i hi => by rw [hW.cell h.lt]; exact h.c1 i hi⟩
      have c0 := hF.c0 k hlt
      have c1 := hF.c1 k hlt
      have hfs := HZ.out.s l[k] (List.getElem_mem hlt)
      have bA : Below wr.heap.size wr (wr.alloc (.cells #[.string ⟨l[k].1.toArray⟩, .string ⟨l[k].2.toArray⟩] 37)) := (Below.refl _ _).alloc (Nat.le_refl _) _
      have hB2 := hB.on bA
      have cW := wf_any w.heap.size w.heap.size (Sm.txt (l.take k)) l[k] _ hB2 (by rw [← txt_take hlt]; have := txt_len (l := l) (k + 1); have := HT.out; omega) (by omega)
      rw [← txt_take hlt] at cW
      have HC := Lib.hid cW
      clear cW hB2
      go_wp2_with fail
      refine HC.out.mono ?_
      rintro e w1 ⟨rfl, hB1, b1⟩
      go_wp2_with fail
      exact ⟨⟨k + 1, hlt, by go_num, (hW.alloc hW.size _).trans b1, hB1⟩, by simp [intOf]; omega⟩
    · have hkl : k = l.length := by omega
      subst hkl
      rw [List.take_length] at hB
      go_wp2_with fail
      refine (Tryd.Builder_String_any w.heap.size w.heap.size _ _ hB.is hB.le).mono ?_
      rintro e w1 ⟨rfl, b1⟩
      go_wp2
      go_ret
      exact ⟨rfl, hW.trans b1⟩

theorem wt_nil (A : Option Addr) (c : Nat) (w : World) : Calls Tryd.prog 35 #[.slice A 0 c] w fun e w' => e = .returned (.string ⟨#[]⟩) ∧ Below w.heap.size w w' := by
  have b0 : Bd w.heap.size w.heap.size [] (w.alloc (.cells #[.pointer none, .slice none 0 0] 86)) := ⟨Lib.fresh_isBuilder 86 5 w, by simp⟩
  have bw0 : Below w.heap.size w (w.alloc (.cells #[.pointer none, .slice none 0 0] 86)) := (Below.refl _ _).alloc (Nat.le_refl _) _
  go_enter Tryd.func35, Tryd.ntmps35
  go_wp2
  refine wp_loop_rounds 1 ?_
  rw [rounds_succ]
  go_wp2_with fail
  refine (Tryd.Builder_String_any w.heap.size w.heap.size _ _ b0.is b0.le).mono ?_
  rintro e w1 ⟨rfl, b1⟩
  go_wp2
  go_ret
  exact ⟨rfl, bw0.trans b1⟩
theorem wt_any (v : Value) (l : List Sm.F) (w : World) (h : Sl w v l) (hz : Sz l) (hT : (Sm.txt l).length ≤ 1000000) :
    Calls Tryd.prog 35 #[v] w fun e w' => e = .returned (.string ⟨(Sm.txt l).toArray⟩) ∧ Below w.heap.size w w' := by
  rcases h.is with ⟨rfl, A, c, rfl⟩ | ⟨b, o, c, rfl, _, hf⟩
  · exact wt_nil A c w
  · exact wt_row b o c l w hf hz hT

end Go.Proofs.YtniknhfpbcbcbabDoor
