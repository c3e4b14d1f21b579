/- The walks of a disk's functions that touch its files. -/
import Derived.Test.YtlldfmnoidndmaaGreatDoorMx
import Derived.Test.YtlldfmnoidndmaaGreatDoorSh
import Derived.BigRegion
import Derived.ChangeAlike
import Derived.StringKeys
namespace Go.Proofs.YtlldfmnoidndmaaGreatDoor.Dsk
open Go.RowKit Go.Sort Go.Maps

theorem law9 : Keyed Tryz.prog 9 := string_keyed Tryz.underlying9
theorem key9 (s : List UInt8) (h : s.length ≤ 1000000) : keyOf Tryz.prog 9 (.string ⟨s.toArray⟩) = some (.string s) := by
  have := Go.WideMaps.keyOf_string_mk (P := Tryz.prog) (k := 9) Tryz.underlying9 (s := ⟨s.toArray⟩) (by simp [ByteArray.size]; unfold maxLen; omega)
  simpa using this
theorem zero73 (w : World) : (zeroValue 120).run Tryz.prog w = .ok (.agg #[.string ⟨#[]⟩, .string ⟨#[]⟩, .bool false]) w := by kernel_rfl
def zent : Ent := ⟨[], none⟩
theorem zent_pv : pv zent = .agg #[.string ⟨#[]⟩, .string ⟨#[]⟩, .bool false] := rfl
/-- What lies at a key, of none nothing. -/
def ent (k : List UInt8) (L : Kv Ent) : Ent := (lkL k L).getD zent
theorem look_own {w : World} {m : Nat} {n : Nat} {L : Kv Ent} (h : w.ownsMap Tryz.prog 9 Rv m n (toD pv L)) (k : List UInt8) (hk : k.length ≤ 1000000) :
    (Instr.lookup 29 (.map (some m)) (.string ⟨k.toArray⟩) false).run Tryz.prog w = .ok (pv (ent k L)) w ∧ (Instr.lookup 29 (.map (some m)) (.string ⟨k.toArray⟩) true).run Tryz.prog w = .ok (.tuple #[pv (ent k L), .bool (lkL k L).isSome]) w := by
  have hat : ∀ v ps, Rv v = some ((toD pv L).atKey (.string k) (.held (pv zent)), ps) → v = pv (ent k L) := fun v ps hv => by
    rw [toD_at] at hv
    unfold ent
    cases hl : lkL k L with
    | none => rw [hl] at hv; simpa [Rv] using congrArg (fun o => o.map Prod.fst) hv
    | some a => rw [hl] at hv; simpa [Rv] using congrArg (fun o => o.map Prod.fst) hv
  constructor
  · obtain ⟨v, ps, h1, h2⟩ := h.lookup law9 Tryz.underlying29 (zero73 w) (zd := .held (pv zent)) (zp := []) rfl (key9 k hk)
    rw [h1, hat v ps h2]
  · obtain ⟨v, ps, h1, h2⟩ := h.look_ok law9 Tryz.underlying29 (zero73 w) (zd := .held (pv zent)) (zp := []) rfl (key9 k hk)
    rw [h1, hat v ps h2, toD_has]
theorem look_nil' (w : World) (k : List UInt8) (hk : k.length ≤ 1000000) (c : Bool) :
    (Instr.lookup 29 (.map none) (.string ⟨k.toArray⟩) c).run Tryz.prog w = .ok (if c then .tuple #[pv zent, .bool false] else pv zent) w :=
  Maps.look_nil c law9 Tryz.underlying29 (zero73 w) (key9 k hk)
end Go.Proofs.YtlldfmnoidndmaaGreatDoor.Dsk
namespace Go.Proofs.YtlldfmnoidndmaaGreatDoor.Dsk
open Go.RowKit Go.Sort Go.Maps

theorem PD.set {w : World} {b : Nat} {mb : Option Nat} {L : Kv Ent} {e e' : Bool} {c c' : Int} {bd bd' : Bool} {r r' : Int} (h : PD w b mb L e c bd r) {w' : World} (hk : Kp (fun k => k = b) w w') (hb : w'.heap[b]? = some (dko mb (tot nl L : Int) e' c' bd' r')) : PD w' b mb L e' c' bd' r' :=
  ⟨hb, h.nil, fun m hm => by
    have hown := h.map m hm
    have hne : m ≠ b := fun e1 => by
      obtain ⟨es, cl, h1, _⟩ := hown
      rw [e1, h.blk] at h1; cases h1
    have hlt := hown.lt
    obtain ⟨es, cl, h1, h2⟩ := hown
    exact ⟨es, cl, (hk.block m hlt hne).trans h1, h2⟩, h.srt⟩
theorem PD.on {w w' : World} {b : Nat} {mb : Option Nat} {L : Kv Ent} {e : Bool} {c : Int} {bd : Bool} {r : Int} (h : PD w b mb L e c bd r) (hk : ∀ k, k < w.heap.size → DX b mb k → w'.heap[k]? = w.heap[k]?) : PD w' b mb L e c bd r :=
  ⟨(hk b (Array.getElem?_eq_some_iff.1 h.blk).1 (.inl rfl)).trans h.blk, h.nil, fun m hm => by
    have hlt := (h.map m hm).lt
    obtain ⟨es, cl, h1, h2⟩ := h.map m hm
    exact ⟨es, cl, (hk m hlt (.inr hm)).trans h1, h2⟩, h.srt⟩
theorem PD.up {w w' : World} {b : Nat} {mb : Option Nat} {L : Kv Ent} {e : Bool} {c : Int} {bd : Bool} {r : Int} (h : PD w b mb L e c bd r) (hk : Below w.heap.size w w') : PD w' b mb L e c bd r := h.on fun k hk' _ => hk.block k hk'

theorem kp1 {b i : Nat} {w : World} {u : Value} : Kp (fun k => k = b) w (w.setCell ⟨b, i, none⟩ u) := (Kp.refl (fun k => k = b) w).set (p := ⟨b, i, none⟩) rfl u
theorem Kp.t {X : Nat → Prop} {a b c : World} (h : Kp X a b) (k : Kp X b c) : Kp X a c := h.trans k fun _ _ h => h
/-- Is there power? -/
def pwr (e : Bool) (c : Int) : Bool := !e || decide (0 < c)
def chv (e : Bool) (c : Int) : Value := if pwr e c = true then .nilIface else .iface 33 (.int .i64 14)
def chg (e : Bool) (c : Int) : Int := if e = true ∧ 0 < c then c - 1 else c
theorem change_any (b : Nat) (mb : Option Nat) (L : Kv Ent) (e : Bool) (c : Int) (bd : Bool) (r : Int) (w : World) (h : PD w b mb L e c bd r) (hc : c ≤ 9223372036854775807) : Calls Tryz.prog 103 #[.pointer (some ⟨b, 0, none⟩)] w fun x w' => x = .returned (chv e c) ∧ PD w' b mb L e (chg e c) bd r ∧ Kp (fun k => k = b) w w' := by
  have hd := dc_of h.blk
  have cO := on_any b mb _ e c bd r w hd
  obtain ⟨hlt, c0, c1, c2, c3, c4, c5, f0, f1, f2, f3, f4, f5⟩ := hd
  have H := Lib.hid h
  clear h
  cases e with
  | false =>
    go_enter Tryz.func103, Tryz.ntmps103
    go_wp2_with fail
    refine cO.mono ?_
    rintro x w' ⟨rfl, rfl⟩
    go_wp2
    go_ret
    exact ⟨rfl, by simpa [chg] using H.out, Kp.refl _ _⟩
  | true =>
    by_cases hc0 : 0 < c
    · rw [show (!true || decide (0 < c)) = true from by simp [hc0]] at cO
      have HC : Hid (chg true c = c - 1) := by show _ = _; unfold chg; rw [if_pos ⟨rfl, hc0⟩]
      have HP : Hid (chv true c = .nilIface) := by show _ = _; simp [chv, pwr, hc0]
      go_enter Tryz.func103, Tryz.ntmps103
      go_wp2_with fail
      refine cO.mono ?_
      rintro x w' ⟨rfl, rfl⟩
      go_wp2
      go_ret
      refine ⟨by rw [HP.out]; rfl, ?_, kp1⟩
      rw [HC.out]
      exact H.out.set kp1 (heap_set H.out.blk)
    · rw [show (!true || decide (0 < c)) = false from by simp [hc0]] at cO
      have HC : Hid (chg true c = c) := by show _ = _; unfold chg; rw [if_neg (fun h => hc0 h.2)]
      have HP : Hid (chv true c = .iface 33 (.int .i64 14)) := by show _ = _; simp [chv, pwr, hc0]
      go_enter Tryz.func103, Tryz.ntmps103
      go_wp2_with fail
      refine cO.mono ?_
      rintro x w' ⟨rfl, rfl⟩
      go_wp2
      go_ret
      refine ⟨by rw [HP.out]; rfl, ?_, Kp.refl _ _⟩
      rw [HC.out]
      exact H.out
theorem clone_any (s : List UInt8) (w : World) (hs : s.length ≤ 1000000) : Calls Tryz.prog 116 #[.string ⟨s.toArray⟩] w fun x w' => x = .returned (.string ⟨s.toArray⟩) ∧ Below w.heap.size w w' := by
  have cC := Tryz.stringslite_Clone ⟨s.toArray⟩ w (by simp [ByteArray.size]; omega)
  go_enter Tryz.func116, Tryz.ntmps116
  go_wp2_with fail
  refine cC.mono ?_
  rintro x w' ⟨rfl, hb⟩
  go_wp2
  go_ret
  exact ⟨rfl, hb⟩
/-- What stands of a file behind a cut. -/
def lf (e : Ent) (n : Int) : Option (List UInt8) := if e.sf = some e.now then some e.now else if n ≤ 0 then e.sf else some (e.now.take n.toNat ++ (e.sf.getD []).drop (min n.toNat e.now.length))
theorem ba_ext (l : List UInt8) (a b : Nat) : (ByteArray.mk l.toArray).extract a b = ⟨((l.take b).drop a).toArray⟩ := by
  apply ByteArray.ext; simp [List.drop_take]
theorem ba_take (l : List UInt8) (k : Nat) : (ByteArray.mk l.toArray).extract 0 k = ⟨(l.take k).toArray⟩ := by rw [ba_ext, List.drop_zero]
theorem ba_drop (l : List UInt8) (k : Nat) : (ByteArray.mk l.toArray).extract k l.length = ⟨(l.drop k).toArray⟩ := by rw [ba_ext, List.take_length]
theorem ba_app (a b : List UInt8) : ByteArray.mk a.toArray ++ ByteArray.mk b.toArray = ⟨(a ++ b).toArray⟩ := by
  apply ByteArray.ext; simp
end Go.Proofs.YtlldfmnoidndmaaGreatDoor.Dsk
