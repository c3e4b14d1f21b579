/- The walk of Parse. -/
import Derived.Test.YtfoangkkagijcaaGreatDoorQh
namespace Go.Proofs.YtfoangkkagijcaaGreatDoor.Stz
open Go.RowKit Go.Shelf Go.Sort

/-- Lines read, one by one, from line i on: the stanzas, or the line that is none. -/
def run : Nat → List (List Sm.F) → List Sm.F → List (List UInt8) → Except Nat (List (List Sm.F))
  | _, out, cu, [] => .ok (endO out cu)
  | i, out, cu, x :: xs => match step out cu x with
    | none => .error i
    | some o => run (i + 1) o.1 o.2 xs

theorem cut_line2 (l : List UInt8) : ∃ x y b, CutIs l x y b ∧ (b = true → x.length + 1 + y.length ≤ l.length) := by
  rcases Sm.fc_spl l with ⟨h1, h2⟩ | ⟨k, hk, h1, h2⟩
  · exact ⟨l, [], false, ⟨Nat.le_refl _, by simp, by simpa using h2, fun _ => rfl, fun w _ => cut_none 10 l w h1⟩, by simp⟩
  · exact ⟨l.take k, l.drop (k + 1), true, ⟨by simp; omega, by simp; omega, by simpa using h2, by simp, fun w hl => cut_some 10 l k w hl hk h1⟩, fun _ => by simp; omega⟩

theorem endO_len (out : List (List Sm.F)) (cu : List Sm.F) : (endO out cu).length ≤ out.length + 1 := by
  unfold endO; split <;> simp
theorem step_len {out : List (List Sm.F)} {cu : List Sm.F} {l : List UInt8} {x : List (List Sm.F) × List Sm.F} (h : step out cu l = some x) : x.1.length ≤ out.length + 1 := by
  unfold step at h
  split at h
  · cases h; exact Nat.le_succ _
  · split at h
    · cases h; exact endO_len _ _
    · split at h
      · cases hg : gOk cu (Lib.trimS l [32, 9]) with
        | none => rw [hg] at h; cases h
        | some u => rw [hg] at h; cases h; exact Nat.le_succ _
      · cases hg : bg cu l with
        | none => rw [hg] at h; cases h
        | some u => rw [hg] at h; cases h; exact Nat.le_succ _

/-- What is left to read, as the loop has it. -/
def rest (k : Nat) (q : Bool) (out : List (List Sm.F)) (cu : List Sm.F) (y : List UInt8) : Except Nat (List (List Sm.F)) := if q = true then run k out cu (Sm.spl y) else .ok (endO out cu)
theorem rest_none {k : Nat} {out : List (List Sm.F)} {cu : List Sm.F} {l x y : List UInt8} {b : Bool} (C : CutIs l x y b) (h : step out cu x = none) : rest k true out cu l = .error k := by
  unfold rest; rw [if_pos rfl, C.spl]
  cases b <;> simp [run, h]
theorem rest_some {k : Nat} {out : List (List Sm.F)} {cu : List Sm.F} {l x y : List UInt8} {b : Bool} {o : List (List Sm.F) × List Sm.F} (C : CutIs l x y b) (h : step out cu x = some o) : rest k true out cu l = rest (k + 1) b o.1 o.2 y := by
  unfold rest; rw [if_pos rfl, C.spl]
  cases b <;> simp [run, h]

theorem Rs.on {B r m : Nat} {out : List (List Sm.F)} {cu : List Sm.F} {w0 W W' : World} (h : Rs B r out cu m w0 W) (k : Below W.heap.size W W') : Rs B r out cu m w0 W' := by
  obtain ⟨⟨C, S, A, V, vs, cur, val, hr, h1, h2⟩, h3, h4⟩ := h
  exact ⟨⟨C, S, A, V, vs, cur, val, hr.on k, h1, h2⟩, h3, h4⟩

/-- What Parse hands back: rows of fields, or a place. -/
def Out (w : World) (res : Except Nat (List (List Sm.F))) (e : Ending) (w' : World) : Prop := match res with
  | .error i => ∃ p, e = .returned (.tuple #[.slice none 0 0, .iface 171 (.pointer (some ⟨p, 0, none⟩))]) ∧ w'.heap[p]? = some (.cells #[.int .i64 3, .int .i64 i] 172 (0, 0)) ∧ Below w.heap.size w w'
  | .ok o => ∃ S vs, e = .returned (.tuple #[S, .nilIface]) ∧ w'.ownsRow w.heap.size 31 1 S vs.length vs ∧ vs.length = o.length ∧ (∀ i (hi : i < vs.length) (hj : i < o.length), w'.ownsRow w.heap.size 52 2 vs[i] o[i].length (fcl o[i])) ∧ Below w.heap.size w w'

set_option maxHeartbeats 3200000 in
set_option maxRecDepth 100000 in
theorem parse_any (l : List UInt8) (w : World) (hl : l.length ≤ 1500) : Calls Tryz.prog 91 #[.string ⟨l.toArray⟩] w fun e w' => Out w (run 0 [] [] (Sm.spl l)) e w' := by
  obtain ⟨res, hres⟩ : ∃ r, r = run 0 [] [] (Sm.spl l) := ⟨_, rfl⟩
  have HB : Hid (res = rest 0 true [] [] l) := hres
  rw [← hres]
  clear hres
  have R0 : Rs w.heap.size w.heap.size [] [] 0 w (w.alloc (.cells #[.slice none 0 0, .slice none 0 0, .slice none 0 0] 170)) :=
    ⟨⟨w.heap.size, _, _, _, [], [], [], ⟨new_block0 _ _, Nat.le_refl _, ⟨rfl, Or.inl ⟨rfl, rfl⟩⟩, ⟨rfl, Or.inl ⟨rfl, rfl⟩⟩, ⟨rfl, Or.inl ⟨rfl, rfl⟩⟩, Nat.le_refl _, by show w.heap.size ≤ (w.heap.push _).size; rw [Array.size_push]; exact Nat.le_succ _, (Below.refl _ _).alloc (Nat.le_refl _) _, rfl, fun i hi _ => by simp at hi⟩, rfl, by simp⟩, by simp, by simp⟩
  have HR0 := Lib.hid R0
  clear R0
  go_enter Tryz.func91, Tryz.ntmps91
  go_wp2
  go_loopw [0, 5, 6] (fun v i m W => ∃ (y : List UInt8) (k : Nat) (q : Bool) (out : List (List Sm.F)) (cu : List Sm.F) (mm : Nat), v = .string ⟨y.toArray⟩ ∧ i = .int .i64 k ∧ m = .bool q ∧ Hid ((q = true → k + y.length ≤ l.length ∧ mm + y.length ≤ l.length) ∧ mm ≤ l.length + 1 ∧ out.length ≤ k) ∧ k ≤ l.length + 1 ∧ y.length ≤ l.length ∧ Hid (Rs w.heap.size w.heap.size out cu mm w W) ∧ Hid (res = rest k q out cu y)) (fun v i m _ => match m with | .bool true => strLen v + 1 | _ => 0)
  case atStart => exact ⟨l, 0, true, [], [], 0, rfl, rfl, rfl, ⟨fun _ => by omega, by omega, by simp⟩, by omega, Nat.le_refl _, HR0, HB⟩
  case round =>
    obtain ⟨y, k, q, out, cu, mm, rfl, rfl, rfl, h1, h2, h3, HR, HK⟩ := hrel
    cases q with
    | false =>
      have HE : Hid (res = .ok (endO out cu)) := HK
      have hcu := HR.out.n
      obtain ⟨C, S, A, V, vs, cur, val, hr, hcu0, hvm⟩ := HR.out.ex
      have hcl : cur.length ≤ 100 := by rw [hcu0, setL_length] at hcu; omega
      have hvl : val.length ≤ 1000000 := by have := h1.out.2.1; omega
      have hol : out.length ≤ 1000000 := by have := h1.out.2.2; omega
      have HD := Lib.hid hr
      have HU := Lib.hid hcu0
      clear hr hcu0 hvm HR HK h1
      go_wp2_with fail
      refine (endS_any HD.out hcl hvl hol).mono ?_
      rintro e w2 ⟨rfl, C', S', V', vs', R2⟩
      have d0 := R2.c0
      have HR2 := Lib.hid R2
      clear R2 HD
      go_wp2
      go_ret2
      rw [HE.out]
      refine ⟨S', vs', rfl, HR2.out.hS, ?_, ?_, HR2.out.be⟩
      · rw [HR2.out.ol, HU.out]
      · intro i hi hj
        have := (HR2.out.ov i hi (by rw [← HU.out]; exact hj)).1
        simpa [HU.out] using this
    | true =>
      obtain ⟨x, z, b', C, hxz⟩ := cut_line2 y
      obtain ⟨hkb, hmb⟩ := h1.out.1 rfl
      have hxl := C.len
      have hcc := fun W => C.call W (by omega)
      have HC := Lib.hid hcc
      have hol : out.length ≤ 1000000 := by have := h1.out.2.2; omega
      have ct := fun W (h : Rs w.heap.size w.heap.size out cu mm w W) => take_any h x (by omega) (by omega) hol
      cases hst : step out cu x with
      | none =>
        rw [hst] at ct
        have HT := Lib.hid ct
        have HE : Hid (res = .error k) := by show _ = _; rw [HK.out, rest_none C hst]
        clear ct hcc C hst HK h1 hxz
        go_wp2_with fail
        refine (HC.out _).mono ?_
        rintro e w1 ⟨rfl, b1⟩
        have HR1 := Lib.hid (HR.out.on b1)
        clear HR
        go_wp2_with fail
        refine (HT.out _ HR1.out).mono ?_
        rintro e w2 ⟨rfl, b2, -⟩
        go_wp2
        go_ret2
        rw [HE.out]
        exact ⟨w2.heap.size, rfl, new_block0 _ _, b2.alloc b2.size _⟩
      | some o =>
        rw [hst] at ct
        have hsl := step_len hst
        have HT := Lib.hid ct
        have HE : Hid (res = rest (k + 1) b' o.1 o.2 z) := by show _ = _; rw [HK.out, rest_some C hst]
        have hin : Hid (((b' = true → k + 1 + z.length ≤ l.length ∧ mm + x.length + 1 + z.length ≤ l.length) ∧ mm + x.length + 1 ≤ l.length + 1 ∧ o.1.length ≤ k + 1) ∧ k + 1 ≤ l.length + 1 ∧ z.length ≤ l.length) := by
          have := h1.out.2.2
          refine ⟨⟨fun e => ?_, by omega, by omega⟩, by omega, ?_⟩
          · have := hxz e; omega
          · cases hb' : b' with
            | true => have := hxz hb'; omega
            | false => rw [C.nil hb']; simp
        have hme : Hid ((match Value.bool b' with | .bool true => z.length + 1 | _ => 0) < y.length + 1) := by
          cases hb' : b' with
          | true => have := C.less hb'; show z.length + 1 < y.length + 1; omega
          | false => show 0 < y.length + 1; omega
        clear ct hcc C hst HK h1 hxz hsl
        go_wp2_with fail
        refine (HC.out _).mono ?_
        rintro e w1 ⟨rfl, b1⟩
        have HR1 := Lib.hid (HR.out.on b1)
        clear HR
        go_wp2_with fail
        refine (HT.out _ HR1.out).mono ?_
        rintro e w2 ⟨rfl, -, R2⟩
        have HR2 := Lib.hid (R2 _ rfl)
        clear R2 HR1
        go_wp2
        exact ⟨⟨z, k + 1, b', o.1, o.2, _, rfl, by go_num, rfl, hin.out.1, hin.out.2.1, hin.out.2.2, HR2, HE⟩, hme.out⟩
end Go.Proofs.YtfoangkkagijcaaGreatDoor.Stz
