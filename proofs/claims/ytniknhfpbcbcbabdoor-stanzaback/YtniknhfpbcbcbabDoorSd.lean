/- The walks of strings.Cut at one byte, and of a value's lines. -/
import Derived.Test.YtniknhfpbcbcbabDoorSc
import Derived.Deep.QuietTactic
import Derived.BigQuiet
namespace Go.Proofs.YtniknhfpbcbcbabDoor
open Go.RowKit Go.Shelf

theorem ret_cut {a b c d : ByteArray} {x y : Bool} (h1 : a = b) (h2 : c = d) (h3 : x = y) : Ending.returned (.tuple #[.string a, .string c, .bool x]) = .returned (.tuple #[.string b, .string d, .bool y]) := by rw [h1, h2, h3]
theorem ba_take (l : List UInt8) (k : Nat) : (ByteArray.mk l.toArray).extract 0 k = ⟨(l.take k).toArray⟩ := by apply ByteArray.ext; simp
theorem ba_drop (l : List UInt8) (k : Nat) : (ByteArray.mk l.toArray).extract k l.length = ⟨(l.drop k).toArray⟩ := by
  apply ByteArray.ext; simp; exact List.take_of_length_le (by simp)

theorem lcut_some (c : UInt8) (l : List UInt8) (k : Nat) (w : World) (hl : l.length ≤ 1000000) (hk : k < l.length) (hi : Lib.indexByte l c = k) : Calls Tryd.prog 74 #[.string ⟨l.toArray⟩, .string ⟨#[c]⟩] w fun e w' =>
    e = .returned (.tuple #[.string ⟨(l.take k).toArray⟩, .string ⟨(l.drop (k + 1)).toArray⟩, .bool true]) ∧ ∃ n, w' = w.drewN n := by
  have HI := Lib.hid hi
  clear hi
  go_enter Tryd.func74, Tryd.ntmps74
  go_wp2_with fail
  refine (Tryd.stringslite_Index_one ⟨l.toArray⟩ c _).mono ?_
  rintro e w' ⟨rfl, rfl⟩
  rw [show Lib.indexByte (ByteArray.mk l.toArray).data.toList c = (k : Int) from HI.out]
  have h1 : (k : Int) ≤ (l.length : Int) := by omega
  have h2 : (k : Int) + 1 ≤ (l.length : Int) := by omega
  go_wp2_with fail
  go_quiet (fail)
  go_wp2
  go_ret3
  exact ⟨ret_cut (ba_take l k) (ba_drop l (k + 1)) rfl, _, rfl⟩

theorem lcut_none (c : UInt8) (l : List UInt8) (w : World) (hi : Lib.indexByte l c = -1) : Calls Tryd.prog 74 #[.string ⟨l.toArray⟩, .string ⟨#[c]⟩] w fun e w' =>
    e = .returned (.tuple #[.string ⟨l.toArray⟩, .string ⟨#[]⟩, .bool false]) ∧ ∃ n, w' = w.drewN n := by
  have HI := Lib.hid hi
  clear hi
  go_enter Tryd.func74, Tryd.ntmps74
  go_wp2_with fail
  refine (Tryd.stringslite_Index_one ⟨l.toArray⟩ c _).mono ?_
  rintro e w' ⟨rfl, rfl⟩
  rw [show Lib.indexByte (ByteArray.mk l.toArray).data.toList c = -1 from HI.out]
  go_wp2
  go_ret3
  exact ⟨rfl, 0, rfl⟩

theorem cut_some (c : UInt8) (l : List UInt8) (k : Nat) (w : World) (hl : l.length ≤ 1000000) (hk : k < l.length) (hi : Lib.indexByte l c = k) : Calls Tryd.prog 36 #[.string ⟨l.toArray⟩, .string ⟨#[c]⟩] w fun e w' =>
    e = .returned (.tuple #[.string ⟨(l.take k).toArray⟩, .string ⟨(l.drop (k + 1)).toArray⟩, .bool true]) ∧ Below w.heap.size w w' := by
  have HI := Lib.hid hi
  clear hi
  go_enter Tryd.func36, Tryd.ntmps36
  go_wp2_with fail
  refine (lcut_some c l k _ hl hk HI.out).mono ?_
  rintro e w' ⟨rfl, n, rfl⟩
  go_wp2
  go_ret3
  exact ⟨rfl, below_dn (Below.refl _ _) n⟩
theorem cut_none (c : UInt8) (l : List UInt8) (w : World) (hi : Lib.indexByte l c = -1) : Calls Tryd.prog 36 #[.string ⟨l.toArray⟩, .string ⟨#[c]⟩] w fun e w' =>
    e = .returned (.tuple #[.string ⟨l.toArray⟩, .string ⟨#[]⟩, .bool false]) ∧ Below w.heap.size w w' := by
  have HI := Lib.hid hi
  clear hi
  go_enter Tryd.func36, Tryd.ntmps36
  go_wp2_with fail
  refine (lcut_none c l _ HI.out).mono ?_
  rintro e w' ⟨rfl, n, rfl⟩
  go_wp2
  go_ret3
  exact ⟨rfl, below_dn (Below.refl _ _) n⟩

/-- What strings.Cut at a line feed hands back. -/
structure CutIs (l x y : List UInt8) (b : Bool) : Prop where
  len : x.length ≤ l.length
  less : b = true → y.length < l.length
  spl : Sm.spl l = if b = true then x :: Sm.spl y else [x]
  nil : b = false → y = []
  call : ∀ w, l.length ≤ 1000000 → Calls Tryd.prog 36 #[.string ⟨l.toArray⟩, .string ⟨#[10]⟩] w fun e w' => e = .returned (.tuple #[.string ⟨x.toArray⟩, .string ⟨y.toArray⟩, .bool b]) ∧ Below w.heap.size w w'
theorem cut_line (l : List UInt8) : ∃ x y b, CutIs l x y b := by
  rcases Sm.fc_spl l with ⟨h1, h2⟩ | ⟨k, hk, h1, h2⟩
  · exact ⟨l, [], false, Nat.le_refl _, by simp, by simpa using h2, fun _ => rfl, fun w _ => cut_none 10 l w h1⟩
  · exact ⟨l.take k, l.drop (k + 1), true, by simp; omega, by simp; omega, by simpa using h2, by simp, fun w hl => cut_some 10 l k w hl hk h1⟩

/-- Lines that are left, i of them taken. -/
def restOk (i : Nat) (m : Bool) (l : List UInt8) : Bool := if m = false then true else if i = 0 then Sm.vok l else Sm.mok (Sm.spl l)

theorem restOk_step {i : Nat} {l x y : List UInt8} {b : Bool} (C : CutIs l x y b) : restOk i true l = ((!(decide (0 < i) && (x == []))) && Sm.lok x && restOk (i + 1) b y) := by
  unfold restOk
  cases b with
  | false =>
    have h := C.spl; simp at h
    by_cases hi : i = 0
    · subst hi; simp [Sm.vok, h, Sm.mok]
    · simp [hi, h, Sm.mok, Nat.pos_of_ne_zero hi]
  | true =>
    have h := C.spl; simp at h
    by_cases hi : i = 0
    · subst hi; simp [Sm.vok, h]
    · simp [hi, h, Sm.mok, Nat.pos_of_ne_zero hi]

set_option maxHeartbeats 1600000 in
set_option maxRecDepth 100000 in
theorem value_any (l : List UInt8) (w : World) (hl : l.length ≤ 1000000) : Calls Tryd.prog 109 #[.string ⟨l.toArray⟩] w fun e w' => e = .returned (.bool (Sm.vok l)) ∧ Below w.heap.size w w' := by
  obtain ⟨b, hb⟩ : ∃ b, b = Sm.vok l := ⟨_, rfl⟩
  have HB : Hid (b = restOk 0 true l) := by show b = _; rw [hb]; rfl
  rw [← hb]
  clear hb
  go_enter Tryd.func109, Tryd.ntmps109
  go_wp2
  go_loopw [0, 3, 4] (fun v i m W => ∃ (y : List UInt8) (k : Nat) (q : Bool), v = .string ⟨y.toArray⟩ ∧ i = .int .i64 k ∧ m = .bool q ∧ Hid (q = true → k + y.length ≤ l.length) ∧ k ≤ l.length + 1 ∧ y.length ≤ l.length ∧ Hid (b = restOk k q y) ∧ Below w.heap.size w W) (fun v i m _ => match m with | .bool true => strLen v + 1 | _ => 0)
  case atStart => exact ⟨l, 0, true, rfl, rfl, rfl, fun _ => by omega, by omega, Nat.le_refl _, HB, Below.refl _ _⟩
  case round =>
    obtain ⟨y, k, q, rfl, rfl, rfl, h1, h2, h3, HK, hW⟩ := hrel
    cases q with
    | false =>
      go_wp2
      go_ret
      exact ⟨ret_bool (by rw [HK.out]; rfl), hW⟩
    | true =>
      obtain ⟨x, z, b', C⟩ := cut_line y
      have hst := restOk_step (i := k) C
      have hkb : k + y.length ≤ l.length := h1.out rfl
      have hxl : x.length ≤ 1000000 := by have := C.len; omega
      have HL : Hid (b' = true → z.length < y.length) := C.less
      have HZ : Hid (b' = false → z = []) := C.nil
      have hcc := fun W => C.call W (by omega)
      have HC := Lib.hid hcc
      have HS : Hid (b = ((!(decide (0 < k) && (x == []))) && Sm.lok x && restOk (k + 1) b' z)) := by show b = _; rw [HK.out, hst]
      have hin : Hid ((b' = true → k + 1 + z.length ≤ l.length) ∧ k + 1 ≤ l.length + 1 ∧ z.length ≤ l.length) := by
        refine ⟨fun e => ?_, by omega, ?_⟩
        · have := C.less e; omega
        · cases hb' : b' with
          | true => have := C.less hb'; omega
          | false => rw [C.nil hb']; simp
      have hme : Hid ((match Value.bool b' with | .bool true => z.length + 1 | _ => 0) < y.length + 1) := by
        cases hb' : b' with
        | true => have := C.less hb'; show z.length + 1 < y.length + 1; omega
        | false => show 0 < y.length + 1; omega
      clear hst hcc C HL HZ HK h1
      by_cases hk0 : k = 0
      · subst hk0
        cases hlx : Sm.lok x with
        | true =>
          have HS' : Hid (b = restOk (0 + 1) b' z) := by show b = _; rw [HS.out, hlx]; simp
          have cL : ∀ W, Calls Tryd.prog 120 #[.string ⟨x.toArray⟩] W fun e w' => e = .returned (.bool true) ∧ Below W.heap.size W w' := fun W => by rw [← hlx]; exact line_any x W hxl
          clear HS
          go_wp2_with fail
          refine (HC.out _).mono ?_
          rintro e w1 ⟨rfl, b1⟩
          go_wp2_with fail
          refine (cL _).mono ?_
          rintro e w2 ⟨rfl, b2⟩
          go_wp2_with fail
          exact ⟨⟨z, 0 + 1, b', rfl, by go_num, rfl, hin.out.1, hin.out.2.1, hin.out.2.2, HS', onn (onn hW b1) b2⟩, hme.out⟩
        | false =>
          have HS' : Hid (b = false) := by show b = _; rw [HS.out, hlx]; simp
          have cL : ∀ W, Calls Tryd.prog 120 #[.string ⟨x.toArray⟩] W fun e w' => e = .returned (.bool false) ∧ Below W.heap.size W w' := fun W => by rw [← hlx]; exact line_any x W hxl
          clear HS
          go_wp2_with fail
          refine (HC.out _).mono ?_
          rintro e w1 ⟨rfl, b1⟩
          go_wp2_with fail
          refine (cL _).mono ?_
          rintro e w2 ⟨rfl, b2⟩
          go_wp2_with fail
          go_ret
          exact ⟨ret_bool HS'.out.symm, onn (onn hW b1) b2⟩
      · have hkp : 0 < k := Nat.pos_of_ne_zero hk0
        cases x with
        | nil =>
          have HS' : Hid (b = false) := by show b = _; rw [HS.out]; simp [hkp]
          clear HS
          go_wp2_with fail
          refine (HC.out _).mono ?_
          rintro e w1 ⟨rfl, b1⟩
          go_wp2_with fail
          go_ret
          exact ⟨ret_bool HS'.out.symm, onn hW b1⟩
        | cons c t =>
          obtain ⟨x, hx⟩ : ∃ x, x = c :: t := ⟨_, rfl⟩
          have hxe : x.isEmpty = false := by rw [hx]; rfl
          have hxn : (x == []) = false := by rw [hx]; rfl
          rw [← hx] at hxl HC HS
          clear hx
          cases hlx : Sm.lok x with
          | true =>
            have HS' : Hid (b = restOk (k + 1) b' z) := by show b = _; rw [HS.out, hlx, hxn]; simp
            have cL : ∀ W, Calls Tryd.prog 120 #[.string ⟨x.toArray⟩] W fun e w' => e = .returned (.bool true) ∧ Below W.heap.size W w' := fun W => by rw [← hlx]; exact line_any x W hxl
            clear HS
            go_wp2_with fail
            refine (HC.out _).mono ?_
            rintro e w1 ⟨rfl, b1⟩
            go_wp2_with fail
            refine (cL _).mono ?_
            rintro e w2 ⟨rfl, b2⟩
            go_wp2_with fail
            exact ⟨⟨z, k + 1, b', rfl, by go_num, rfl, hin.out.1, hin.out.2.1, hin.out.2.2, HS', onn (onn hW b1) b2⟩, hme.out⟩
          | false =>
            have HS' : Hid (b = false) := by show b = _; rw [HS.out, hlx]; simp
            have cL : ∀ W, Calls Tryd.prog 120 #[.string ⟨x.toArray⟩] W fun e w' => e = .returned (.bool false) ∧ Below W.heap.size W w' := fun W => by rw [← hlx]; exact line_any x W hxl
            clear HS
            go_wp2_with fail
            refine (HC.out _).mono ?_
            rintro e w1 ⟨rfl, b1⟩
            go_wp2_with fail
            refine (cL _).mono ?_
            rintro e w2 ⟨rfl, b2⟩
            go_wp2_with fail
            go_ret
            exact ⟨ret_bool HS'.out.symm, onn (onn hW b1) b2⟩

end Go.Proofs.YtniknhfpbcbcbabDoor
