/- A shelf over a disk: what lies where; small walks. -/
import Derived.Test.YtlldfmnoidndmaaGreatDoorMj
import Derived.Test.YtlldfmnoidndmaaGreatDoorSi
import Derived.Deep.AppendLies
namespace Go.Proofs.YtlldfmnoidndmaaGreatDoor.Dsk
open Go.RowKit Go.Sort Go.Maps

/-- What lies there has not turned. -/
def Zn (Z : Nat → Prop) (w w' : World) : Prop := ∀ k, Z k → w'.heap[k]? = w.heap[k]?
theorem Zn.refl (Z : Nat → Prop) (w : World) : Zn Z w w := fun _ _ => rfl
theorem Zn.trans {Z : Nat → Prop} {a b c : World} (h : Zn Z a b) (h' : Zn Z b c) : Zn Z a c := fun k h1 => (h' k h1).trans (h k h1)
theorem Zn.below {Z : Nat → Prop} {a b : World} (h : Below a.heap.size a b) (hs : ∀ k, Z k → k < a.heap.size) : Zn Z a b := fun k h1 => h.block k (hs k h1)
theorem Zn.cell {Z : Nat → Prop} {a b : World} (h : Zn Z a b) {k i : Nat} (h1 : Z k) : b.cell? ⟨k, i, none⟩ = a.cell? ⟨k, i, none⟩ := World.cell?_of_block (h k h1)
theorem Zn.mono {Z Z' : Nat → Prop} {a b : World} (h : Zn Z a b) (h1 : ∀ k, Z' k → Z k) : Zn Z' a b := fun k k1 => h k (h1 k k1)
/-- And what lies from a place to another one. -/
def Zu (Z : Nat → Prop) (a b : Nat) : Nat → Prop := fun k => Z k ∨ (a ≤ k ∧ k < b)
abbrev sho (d : Nat) : Obj := .cells #[.pointer (some ⟨d, 0, none⟩)] 78 (0, 0)
/-- A shelf, its disk, and where they do not lie. -/
structure SX (w : World) (s d : Nat) (mb : Option Nat) (L : Kv Ent) (Z : Nat → Prop) (W : World) : Prop where
  bl : Below w.heap.size w W
  blk : W.heap[s]? = some (sho d)
  pd : PD W d mb L false 0 false 0
  sp : ¬ DX d mb s
  hx : ∀ k, (k = s ∨ DX d mb k) → w.heap.size ≤ k
  hz : ∀ k, (k = s ∨ DX d mb k) → ¬ Z k
  hs : ∀ k, Z k → k < W.heap.size
structure SJ (w : World) (s d : Nat) (L : Kv Ent) (Z : Nat → Prop) (W : World) : Prop where
  is : ∃ mb, SX w s d mb L Z W
section
variable {w W W2 V : World} {s d : Nat} {Z Z' : Nat → Prop} {mb : Option Nat} {L : Kv Ent}
theorem SX.lt (h : SX w s d mb L Z W) : ∀ k, (k = s ∨ DX d mb k) → k < W.heap.size := fun k hk => by
  rcases hk with rfl | rfl | hk
  · exact (Array.getElem?_eq_some_iff.1 h.blk).1
  · exact (Array.getElem?_eq_some_iff.1 h.pd.blk).1
  · exact (h.pd.map k hk).lt
theorem SX.up (h : SX w s d mb L Z W) (hb : Below W.heap.size W W2) : SX w s d mb L Z W2 :=
  ⟨h.bl.trans (hb.mono h.bl.size), (hb.block s (h.lt s (.inl rfl))).trans h.blk, h.pd.up hb, h.sp, h.hx, h.hz, fun k hk => Nat.lt_of_lt_of_le (h.hs k hk) hb.size⟩
theorem SJ.up (h : SJ w s d L Z W) (hb : Below W.heap.size W W2) : SJ w s d L Z W2 := by
  obtain ⟨mb, hX⟩ := h
  exact ⟨mb, hX.up hb⟩
theorem SJ.bl (h : SJ w s d L Z W) : Below w.heap.size w W := by
  obtain ⟨mb, hX⟩ := h
  exact hX.bl
theorem SJ.hs (h : SJ w s d L Z W) : ∀ k, Z k → k < W.heap.size := by
  obtain ⟨mb, hX⟩ := h
  exact hX.hs
theorem SJ.srt (h : SJ w s d L Z W) : Srt L := by
  obtain ⟨mb, hX⟩ := h
  exact hX.pd.srt
theorem SJ.less (h : SJ w s d L Z W) (hh : ∀ k, Z' k → Z k) : SJ w s d L Z' W := by
  obtain ⟨mb, hX⟩ := h
  exact ⟨mb, hX.bl, hX.blk, hX.pd, hX.sp, hX.hx, fun k hk h1 => hX.hz k hk (hh k h1), fun k hk => hX.hs k (hh k hk)⟩
/-- What is new is none of it. -/
theorem SJ.add (h : SJ w s d L Z W) (hb : Below W.heap.size W V) : SJ w s d L (Zu Z W.heap.size V.heap.size) V := by
  obtain ⟨mb, hX⟩ := h
  have hU := hX.up hb
  exact ⟨mb, hU.bl, hU.blk, hU.pd, hU.sp, hU.hx, fun k hk h1 => by
    rcases h1 with h1 | h1
    · exact hX.hz k hk h1
    · have := hX.lt k hk; omega, fun k hk => by
    rcases hk with hk | hk
    · exact hU.hs k hk
    · exact hk.2⟩
/-- The disk has done something. -/
theorem SX.po {L' : Kv Ent} (h : SX w s d mb L Z W) (hp : Po d mb L' false 0 false 0 W W2) : Zn Z W W2 ∧ SJ w s d L' Z W2 := by
  obtain ⟨⟨mb', h1, h2⟩, h3⟩ := hp
  have hbs := h.bl.size
  have hls := h.lt s (.inl rfl)
  have hnew : ∀ k, (k = s ∨ DX d mb' k) → (k = s ∨ DX d mb k) ∨ W.heap.size ≤ k := fun k hk => by
    rcases hk with hk | hk | hk
    · exact .inl (.inl hk)
    · exact .inl (.inr (.inl hk))
    · rcases h2 k hk with h5 | h5
      · exact .inl (.inr (.inr h5))
      · exact .inr h5
  refine ⟨fun k k1 => h3.block k (h.hs k k1) fun hx => h.hz k (.inr hx) k1, mb', h.bl.trans (h3.below h.bl.size fun k hk hx => ?_), (h3.block s hls h.sp).trans h.blk, h1, fun hx => ?_, fun k hk => ?_, fun k hk h5 => ?_, fun k hk => Nat.lt_of_lt_of_le (h.hs k hk) h3.size⟩
  · have := h.hx k (.inr hx); omega
  · rcases hx with hx | hx
    · exact h.sp (.inl hx)
    · rcases h2 s hx with h5 | h5
      · exact h.sp (.inr h5)
      · omega
  · rcases hnew k hk with h5 | h5
    · exact h.hx k h5
    · omega
  · rcases hnew k hk with h6 | h6
    · exact h.hz k h6 h5
    · have := h.hs k h5; omega
theorem SX.cs (h : SX w s d mb L Z W) : W.cell? ⟨s, 0, none⟩ = some (.pointer (some ⟨d, 0, none⟩)) := by simp [World.cell?, h.blk]
end
section
variable {w W : World} {s d : Nat} {Z : Nat → Prop} {L : Kv Ent}
theorem cat2 (a b : List UInt8) : ((⟨a.toArray⟩ : ByteArray) ++ (⟨b.toArray⟩ : ByteArray)) = ⟨(a ++ b).toArray⟩ := by
  apply ByteArray.ext
  simp
set_option maxRecDepth 100000 in
/-- Whose a path is. -/
theorem owner_any (h : SJ w s d L Z W) (p : List UInt8) (hp : p.length ≤ 1000) : Calls Tryz.prog 61 #[.pointer (some ⟨s, 0, none⟩), .string ⟨p.toArray⟩] W fun x W2 => x = .returned (.string ⟨(ent ([111, 47] ++ p) L).now.toArray⟩) ∧ Below W.heap.size W W2 := by
  obtain ⟨mb, hX⟩ := h
  have cR := read_any d mb L false 0 false 0 ([111, 47] ++ p) W hX.pd (by simp; omega)
  have c0 := hX.cs
  rw [← cat2] at cR
  clear hX
  go_enter Tryz.func61, Tryz.ntmps61
  go_wp2_with fail
  refine cR.mono ?_
  rintro x w1 ⟨rfl, b1⟩
  go_wp2
  go_ret
  exact ⟨rfl, b1⟩
set_option maxRecDepth 100000 in
/-- What lies at a path. -/
theorem sread_any (h : SJ w s d L Z W) (p : List UInt8) (hp : p.length ≤ 1000) : Calls Tryz.prog 33 #[.pointer (some ⟨s, 0, none⟩), .string ⟨p.toArray⟩] W fun x W2 => x = .returned (.tuple #[.string ⟨(ent ([100, 47] ++ p) L).now.toArray⟩, evv (rdc ([100, 47] ++ p) L)]) ∧ Below W.heap.size W W2 := by
  obtain ⟨mb, hX⟩ := h
  have cR := read_any d mb L false 0 false 0 ([100, 47] ++ p) W hX.pd (by simp; omega)
  have c0 := hX.cs
  rw [← cat2] at cR
  clear hX
  go_enter Tryz.func33, Tryz.ntmps33
  go_wp2_with fail
  refine cR.mono ?_
  rintro x w1 ⟨rfl, b1⟩
  go_wp2
  go_ret2
  exact ⟨rfl, b1⟩
/-- A text, or nothing. -/
structure Tp (B : Nat) (W : World) (v : Value) (o : Option (List UInt8)) : Prop where
  is : (o = none ∧ v = .pointer none) ∨ ∃ t g, o = some t ∧ v = .pointer (some ⟨g, 0, none⟩) ∧ B ≤ g ∧ g < W.heap.size ∧ W.cell? ⟨g, 0, none⟩ = some (.string ⟨t.toArray⟩)
theorem Tp.on {B : Nat} {W W2 : World} {v : Value} {o : Option (List UInt8)} (h : Tp B W v o) (hb : Below W.heap.size W W2) : Tp B W2 v o := by
  rcases h.is with h | ⟨t, g, h1, h2, h3, h4, h5⟩
  · exact ⟨.inl h⟩
  · exact ⟨.inr ⟨t, g, h1, h2, h3, Nat.lt_of_lt_of_le h4 hb.size, (hb.cell (p := ⟨g, 0, none⟩) h4).trans h5⟩⟩
set_option maxRecDepth 100000 in
theorem text_any (h : SJ w s d L Z W) (k : List UInt8) (hk : k.length ≤ 2000) : Calls Tryz.prog 96 #[.pointer (some ⟨s, 0, none⟩), .string ⟨k.toArray⟩] W fun x W2 => ∃ v, x = .returned v ∧ Tp W.heap.size W2 v ((lkL k L).map Ent.now) ∧ Below W.heap.size W W2 := by
  obtain ⟨mb, hX⟩ := h
  have cR := read_any d mb L false 0 false 0 k W hX.pd (by omega)
  have c0 := hX.cs
  clear hX
  cases hl : lkL k L with
  | none =>
    rw [show rdc k L = 7 by unfold rdc; rw [hl]; rfl, show evv 7 = .iface 33 (.int .i64 7) from rfl] at cR
    clear hl
    go_enter Tryz.func96, Tryz.ntmps96
    go_wp2_with fail
    refine cR.mono ?_
    rintro x w1 ⟨rfl, b1⟩
    go_wp2
    go_ret
    exact ⟨_, rfl, ⟨.inl ⟨rfl, rfl⟩⟩, b1.alloc b1.size _⟩
  | some a =>
    have ha : (ent k L).now = a.now := by unfold ent; rw [hl]; rfl
    rw [show rdc k L = 0 by unfold rdc; rw [hl]; rfl, show evv 0 = .nilIface from rfl, ha] at cR
    clear hl ha
    go_enter Tryz.func96, Tryz.ntmps96
    go_wp2_with fail
    refine cR.mono ?_
    rintro x w1 ⟨rfl, b1⟩
    go_wp2
    go_ret
    exact ⟨_, rfl, ⟨.inr ⟨a.now, w1.heap.size, rfl, rfl, b1.size, by simp, by simp⟩⟩, b1.alloc b1.size _⟩
set_option maxRecDepth 100000 in
theorem setting_any (h : SJ w s d L Z W) (p : List UInt8) (hp : p.length ≤ 1000) : Calls Tryz.prog 59 #[.pointer (some ⟨s, 0, none⟩), .string ⟨p.toArray⟩] W fun x W2 => x = .returned (.bool (lkL ([99, 47] ++ p) L).isSome) ∧ Below W.heap.size W W2 := by
  have cT := text_any h ([99, 47] ++ p) (by simp; omega)
  rw [← cat2] at cT
  obtain ⟨y, hy⟩ : ∃ y, y = (lkL ([99, 47] ++ p) L).isSome := ⟨_, rfl⟩
  rw [← hy]
  have HY := Lib.hid hy
  clear h hy
  go_enter Tryz.func59, Tryz.ntmps59
  go_wp2_with fail
  refine cT.mono ?_
  rintro x w1 ⟨v, rfl, hT, b1⟩
  rcases hT.is with ⟨ho, rfl⟩ | ⟨t, g, ho, rfl, _⟩
  · have hn : (lkL ([99, 47] ++ p) L).isSome = false := by
      cases hl : lkL ([99, 47] ++ p) L with
      | none => rfl
      | some a => rw [hl] at ho; cases ho
    have hyy := HY.out.trans hn
    subst hyy
    clear hn HY ho
    go_wp2
    go_ret
    exact ⟨rfl, b1⟩
  · have hn : (lkL ([99, 47] ++ p) L).isSome = true := by
      cases hl : lkL ([99, 47] ++ p) L with
      | none => rw [hl] at ho; cases ho
      | some a => rfl
    have hyy := HY.out.trans hn
    subst hyy
    clear hn HY ho
    go_wp2
    go_ret
    exact ⟨rfl, b1⟩
end
end Go.Proofs.YtlldfmnoidndmaaGreatDoor.Dsk
namespace Go.Proofs.YtlldfmnoidndmaaGreatDoor.Dsk
open Go.RowKit Go.Sort Go.Maps

/-- The file that is on its way. -/
def frN : List UInt8 := [110, 47, 102, 114, 101, 115, 104]
/-- What keep leaves. -/
def kpL (L : Kv Ent) (f s : List UInt8) : Kv Ent := putL f ⟨s, some s⟩ (delL frN (putL frN ⟨s, some s⟩ (putL frN ⟨s, (ent frN L).sf⟩ L)))
theorem kpL_srt {L : Kv Ent} (h : Srt L) (f s : List UInt8) : Srt (kpL L f s) := (((h.put _ _).put _ _).del _).put _ _
theorem kpL_lk {L : Kv Ent} (hS : Srt L) {f s k : List UInt8} : lkL k (kpL L f s) = if k = f then some ⟨s, some s⟩ else if k = frN then none else lkL k L := by
  have h1 := hS.put frN ⟨s, (ent frN L).sf⟩
  have h2 := h1.put frN ⟨s, some s⟩
  have h3 := h2.del frN
  unfold kpL
  by_cases e : k = f
  · rw [if_pos e, e]; exact lk_put_same h3 _ _
  · rw [if_neg e, lk_put_other h3 e]
    by_cases e2 : k = frN
    · rw [if_pos e2, e2]; exact lk_del_same _
    · rw [if_neg e2, lk_del_other h2 e2, lk_put_other h1 e2, lk_put_other hS e2]
/-- With no such file, it is put. -/
theorem kpL_put {L : Kv Ent} (hS : Srt L) {f s : List UInt8} (hn : lkL frN L = none) : kpL L f s = putL f ⟨s, some s⟩ L := by
  refine ext_lk (kpL_srt hS f s) (hS.put _ _) fun k => ?_
  rw [kpL_lk hS]
  by_cases e : k = f
  · rw [if_pos e, e, lk_put_same hS]
  · rw [if_neg e, lk_put_other hS e]
    by_cases e2 : k = frN
    · rw [if_pos e2, e2, hn]
    · rw [if_neg e2]
theorem ent_lk {L : Kv Ent} {k : List UInt8} {a : Ent} (h : lkL k L = some a) : ent k L = a := by unfold ent; rw [h]; rfl
theorem pwf (c : Int) : pwr false c = true := rfl
theorem chf (c : Int) : chg false c = c := by unfold chg; simp
section
variable {w W : World} {s d : Nat} {Z : Nat → Prop} {L : Kv Ent}
set_option maxRecDepth 100000 in
set_option maxHeartbeats 2000000 in
theorem skeep_any (h : SJ w s d L Z W) (f t : List UInt8) (hf : nok f = true) (hf2 : f.length ≤ 1000) (ht : t.length ≤ 1000) (hT : tot nl L ≤ 990000) (hn : L.length ≤ 4900) : Calls Tryz.prog 63 #[.pointer (some ⟨s, 0, none⟩), .string ⟨f.toArray⟩, .string ⟨t.toArray⟩] W fun x W2 => x = .returned .nilIface ∧ Zn Z W W2 ∧ SJ w s d (kpL L f t) Z W2 := by
  obtain ⟨mb, hX⟩ := h
  have hS := hX.pd.srt
  have h1 : wcd L false 0 false 0 frN t = 0 ∧ wL L false 0 false 0 frN t = putL frN ⟨t, (ent frN L).sf⟩ L ∧ wc false 0 frN = 0 := by
    have e1 : nok frN = true := by decide
    have e2 : fit L frN t false 0 = true := rfl
    unfold wcd wL wc
    rw [e1, e2, pwf, chf]
    simp
  have hlk1 : lkL frN (putL frN ⟨t, (ent frN L).sf⟩ L) = some ⟨t, (ent frN L).sf⟩ := lk_put_same hS _ _
  have h2 : tcd (putL frN ⟨t, (ent frN L).sf⟩ L) false 0 frN = 0 ∧ sL (putL frN ⟨t, (ent frN L).sf⟩ L) false 0 frN = putL frN ⟨t, some t⟩ (putL frN ⟨t, (ent frN L).sf⟩ L) ∧ tc (putL frN ⟨t, (ent frN L).sf⟩ L) false 0 frN = 0 := by
    have e2 : (ent frN (putL frN ⟨t, (ent frN L).sf⟩ L)).now = t := by rw [ent_lk hlk1]
    unfold tcd sL tc
    rw [hlk1, e2, pwf, chf]
    simp
  have hlk2 : lkL frN (putL frN ⟨t, some t⟩ (putL frN ⟨t, (ent frN L).sf⟩ L)) = some ⟨t, some t⟩ := lk_put_same (hS.put _ _) _ _
  have h3 : mcd (putL frN ⟨t, some t⟩ (putL frN ⟨t, (ent frN L).sf⟩ L)) false 0 frN f = 0 ∧ mL (putL frN ⟨t, some t⟩ (putL frN ⟨t, (ent frN L).sf⟩ L)) false 0 frN f = kpL L f t ∧ mc (putL frN ⟨t, some t⟩ (putL frN ⟨t, (ent frN L).sf⟩ L)) false 0 frN f = 0 := by
    have e2 : ent frN (putL frN ⟨t, some t⟩ (putL frN ⟨t, (ent frN L).sf⟩ L)) = ⟨t, some t⟩ := ent_lk hlk2
    unfold mcd mL mc tcd tc kpL
    rw [hlk2, e2, pwf, chf, hf]
    simp
  have ht1 := tot_put nl frN ⟨t, (ent frN L).sf⟩ hS
  have ht2 := tot_put nl frN ⟨t, some t⟩ (hS.put frN ⟨t, (ent frN L).sf⟩)
  have el1 : nl ⟨t, (ent frN L).sf⟩ = t.length := rfl
  have el2 : nl ⟨t, some t⟩ = t.length := rfl
  have hl1 := len_put L frN ⟨t, (ent frN L).sf⟩
  have hl2 := len_put (putL frN ⟨t, (ent frN L).sf⟩ L) frN ⟨t, some t⟩
  have cW := write_any d mb L false 0 false 0 frN t W hX.pd (by omega) (by decide) (by omega) (by omega) (by omega)
  rw [h1.1, h1.2.1, h1.2.2, show evv 0 = .nilIface from rfl] at cW
  have c0 := hX.cs
  have HX := Lib.hid hX
  have H2 := Lib.hid h2
  have H3 := Lib.hid h3
  generalize hP1 : putL frN ⟨t, (ent frN L).sf⟩ L = L1 at cW H2 H3 ht1 ht2 hl1 hl2
  generalize hP2 : putL frN ⟨t, some t⟩ L1 = L2 at H2 H3 ht2 hl2
  clear hX h1 hlk1 h2 hlk2 h3 hS hP1 hP2
  unfold frN at cW
  go_enter Tryz.func63, Tryz.ntmps63
  go_wp2_with fail
  refine cW.mono ?_
  rintro x w1 ⟨rfl, hp1⟩
  obtain ⟨hz1, mb1, hX1⟩ := HX.out.po hp1
  have c1 := hX1.cs
  have cS := sync_any d mb1 L1 false 0 false 0 frN w1 hX1.pd (by omega) (by decide) (by omega) (by omega)
  rw [H2.out.1, H2.out.2.1, H2.out.2.2, show evv 0 = .nilIface from rfl] at cS
  have HX1 := Lib.hid hX1
  have HZ1 := Lib.hid hz1
  unfold frN at cS
  clear cW hp1 c0 hz1 hX1 HX
  go_wp2_with fail
  refine cS.mono ?_
  rintro x w2 ⟨rfl, hp2⟩
  obtain ⟨hz2, mb2, hX2⟩ := HX1.out.po hp2
  have c2 := hX2.cs
  have cM := move_any d mb2 L2 false 0 false 0 frN f w2 hX2.pd (by omega) (by decide) (by omega) (by omega) (by omega)
  rw [H3.out.1, H3.out.2.1, H3.out.2.2, show evv 0 = .nilIface from rfl] at cM
  have HX2 := Lib.hid hX2
  have HZ2 := Lib.hid (HZ1.out.trans hz2)
  unfold frN at cM
  clear cS hp2 c1 hz2 hX2 HX1 HZ1
  go_wp2_with fail
  refine cM.mono ?_
  rintro x w3 ⟨rfl, hp3⟩
  obtain ⟨hz3, hJ3⟩ := HX2.out.po hp3
  have HF : Hid (Zn Z W w3 ∧ SJ w s d (kpL L f t) Z w3) := ⟨HZ2.out.trans hz3, hJ3⟩
  clear cM hp3 hz3 hJ3 HX2 HZ2
  go_wp2
  go_ret
  exact ⟨rfl, HF.out.1, HF.out.2⟩
theorem neq7s (W : World) : Sem.run Tryz.prog (binOp BinOp.neq 25 (.iface 33 (.int .i64 7)) (.iface 33 (.int .i64 7))) W = .ok (.bool false) W := by kernel_rfl
theorem neq0s (W : World) : Sem.run Tryz.prog (binOp BinOp.neq 25 .nilIface (.iface 33 (.int .i64 7))) W = .ok (.bool true) W := by kernel_rfl
set_option maxRecDepth 100000 in
set_option maxHeartbeats 2000000 in
theorem lose_any (h : SJ w s d L Z W) (f : List UInt8) (hf : f.length ≤ 1000) (hT : tot nl L ≤ 990000) (hn : L.length ≤ 4900) : Calls Tryz.prog 98 #[.pointer (some ⟨s, 0, none⟩), .string ⟨f.toArray⟩] W fun x W2 => x = .returned .nilIface ∧ Zn Z W W2 ∧ SJ w s d (delL f L) Z W2 := by
  obtain ⟨mb, hX⟩ := h
  have cR := remove_any d mb L false 0 false 0 f W hX.pd (by omega) (by omega) (by omega) (by omega)
  have c0 := hX.cs
  have HX := Lib.hid hX
  have hcs : (tcd L false 0 f = 7 ∨ tcd L false 0 f = 0) ∧ rL L false 0 f = delL f L ∧ tc L false 0 f = 0 := by
    unfold tcd rL tc
    rw [pwf, chf]
    cases hl : lkL f L with
    | none =>
      rw [del_none hl]
      simp
    | some a => simp
  obtain ⟨hc, e1, e2⟩ := hcs
  rw [e1, e2] at cR
  clear hX e1 e2
  rcases hc with hc | hc
  · rw [hc, show evv 7 = .iface 33 (.int .i64 7) from rfl] at cR
    clear hc
    have hq := neq7s
    go_enter Tryz.func98, Tryz.ntmps98
    go_wp2_with fail
    refine cR.mono ?_
    rintro x w1 ⟨rfl, hp1⟩
    have HF := Lib.hid (HX.out.po hp1)
    clear cR hp1 HX
    go_wp2
    go_ret
    exact ⟨rfl, HF.out.1, HF.out.2⟩
  · rw [hc, show evv 0 = .nilIface from rfl] at cR
    clear hc
    have hq := neq0s
    go_enter Tryz.func98, Tryz.ntmps98
    go_wp2_with fail
    refine cR.mono ?_
    rintro x w1 ⟨rfl, hp1⟩
    have HF := Lib.hid (HX.out.po hp1)
    clear cR hp1 HX
    go_wp2
    go_ret
    exact ⟨rfl, HF.out.1, HF.out.2⟩
set_option maxRecDepth 100000 in
theorem edit_any (h : SJ w s d L Z W) (p t : List UInt8) (hp : p.length ≤ 60) (ht : t.length ≤ 1000) (hT : tot nl L ≤ 990000) (hn : L.length ≤ 4900) (hne : (ent ([111, 47] ++ p) L).now ≠ []) : Calls Tryz.prog 18 #[.pointer (some ⟨s, 0, none⟩), .string ⟨p.toArray⟩, .string ⟨t.toArray⟩, .bool false] W fun x W2 => x = .returned .nilIface ∧ Zn Z W W2 ∧ SJ w s d (kpL L ([100, 47] ++ p) t) Z W2 := by
  have cO := owner_any h p (by omega)
  have hnok : nok ([100, 47] ++ p) = true := by unfold nok; simp; omega
  obtain ⟨n, hnn⟩ : ∃ n, n = (ent ([111, 47] ++ p) L).now := ⟨_, rfl⟩
  rw [← hnn] at cO hne
  have hne0 : (n == []) = false := by rw [beq_eq_false_iff_ne]; exact hne
  have cK := fun W1 (hb : Below W.heap.size W W1) => skeep_any (h.up hb) ([100, 47] ++ p) t hnok (by simp; omega) ht hT hn
  rw [← cat2] at cK
  have Hs := Lib.hid h.hs
  clear h hnn hnok
  go_enter Tryz.func18, Tryz.ntmps18
  go_wp2_with fail
  refine cO.mono ?_
  rintro x w1 ⟨rfl, b1⟩
  have cK' := cK w1 b1
  have HZ := Lib.hid (Zn.below b1 Hs.out)
  clear cK cO b1
  go_wp2_with fail
  refine cK'.mono ?_
  rintro x w2 ⟨rfl, hz, hJ⟩
  have HF : Hid (Zn Z W w2 ∧ SJ w s d (kpL L ([100, 47] ++ p) t) Z w2) := ⟨HZ.out.trans hz, hJ⟩
  clear cK' hz hJ HZ
  go_wp2
  go_ret
  exact ⟨rfl, HF.out.1, HF.out.2⟩
end
theorem pd_zero (w : World) : PD (w.alloc (dko none 0 false 0 false 0)) w.heap.size none [] false 0 false 0 := ⟨nb0 _ _, fun _ => rfl, fun _ h => (by cases h), Srt.nil⟩
set_option maxRecDepth 100000 in
theorem over_any (w : World) : Calls Tryz.prog 6 #[.pointer (some ⟨w.heap.size, 0, none⟩)] (w.alloc (dko none 0 false 0 false 0)) fun x W2 => ∃ s, x = .returned (.tuple #[.pointer (some ⟨s, 0, none⟩), .nilIface]) ∧ SJ w s w.heap.size [] (fun k => k < w.heap.size) W2 := by
  have hpd := Lib.hid (pd_zero w)
  go_enter Tryz.func6, Tryz.ntmps6
  go_wp2
  go_ret2
  refine ⟨w.heap.size + 1, by simp, none, ?_, ?_, ?_, ?_, ?_, ?_, ?_⟩
  · exact ((Below.refl _ w).alloc (Nat.le_refl _) _).trans ((Below.refl _ _).alloc (by simp) _)
  · have := nb0 (w.alloc (dko none 0 false 0 false 0)) (sho w.heap.size)
    rwa [World.size_alloc] at this
  · exact hpd.out.up ((Below.refl _ _).alloc (Nat.le_refl _) _)
  · intro hx
    rcases hx with hx | hx
    · omega
    · cases hx
  · intro k hk
    rcases hk with hk | hk | hk
    · omega
    · omega
    · cases hk
  · intro k hk h1
    rcases hk with hk | hk | hk
    · omega
    · omega
    · cases hk
  · intro k hk
    simp
    omega
end Go.Proofs.YtlldfmnoidndmaaGreatDoor.Dsk
namespace Go.Proofs.YtlldfmnoidndmaaGreatDoor.Dsk
open Go.RowKit Go.Sort Go.Maps

/-- Paths, by whose they are. -/
abbrev MV (w : World) (m : Nat) (M : Kv Value) : Prop := w.ownsMap Tryz.prog 9 Rv m M.length (toD (fun v => v) M)
def vat (k : List UInt8) (M : Kv Value) : Value := (lkL k M).getD (.slice none 0 0)
theorem zero40 (w : World) : (zeroValue 40).run Tryz.prog w = .ok (.slice none 0 0) w := by kernel_rfl
theorem mvlook {w : World} {m : Nat} {M : Kv Value} (h : MV w m M) (k : List UInt8) (hk : k.length ≤ 1000000) :
    (Instr.lookup 89 (.map (some m)) (.string ⟨k.toArray⟩) false).run Tryz.prog w = .ok (vat k M) w := by
  have hat : ∀ v ps, Rv v = some ((toD (fun v => v) M).atKey (.string k) (.held (.slice none 0 0)), ps) → v = vat k M := fun v ps hv => by
    rw [toD_at] at hv
    unfold vat
    cases hl : lkL k M with
    | none => rw [hl] at hv; simpa [Rv] using congrArg (fun o => o.map Prod.fst) hv
    | some a => rw [hl] at hv; simpa [Rv] using congrArg (fun o => o.map Prod.fst) hv
  obtain ⟨v, ps, h1, h2⟩ := h.lookup law9 Tryz.underlying89 (zero40 w) (zd := .held (.slice none 0 0)) (zp := []) rfl (key9 k hk)
  rw [h1, hat v ps h2]
theorem mv_on {w w' : World} {m : Nat} {M : Kv Value} (h : MV w m M) (hk : w'.heap[m]? = w.heap[m]?) : MV w' m M := by
  obtain ⟨es, cl, h1, h2⟩ := h
  exact ⟨es, cl, hk.trans h1, h2⟩
theorem mv_made (w : World) : MV (w.alloc (.map #[] 0)) w.heap.size [] := by
  have := World.ownsMap_made w Tryz.prog 9 Rv
  exact this
theorem bb_lt : ∀ {a b : List UInt8}, bytesBefore a b = true → a < b
  | [], [], h => by cases h
  | [], _ :: _, _ => List.nil_lt_cons _ _
  | _ :: _, [], h => by cases h
  | x :: a, y :: b, h => by
    unfold bytesBefore at h
    rw [List.cons_lt_cons_iff]
    simp only [Bool.or_eq_true, decide_eq_true_eq, Bool.and_eq_true, beq_iff_eq] at h
    rcases h with h | ⟨h1, h2⟩
    · exact .inl h
    · exact .inr ⟨h1, bb_lt h2⟩
theorem nms_srt {α : Type} {L : Kv α} (h : Srt L) : nms L = L.map (·.1) := by
  unfold nms
  refine List.mergeSort_of_pairwise (List.pairwise_map.2 (h.imp fun {p q} hpq => ?_))
  exact decide_eq_true (List.le_of_lt (bb_lt hpq))
/-- It tells whose a path is. -/
def isO (k : List UInt8) : Bool := Lib.hasPrefix k [111, 47]
theorem isO_o (p : List UInt8) : isO ([111, 47] ++ p) = true := by simp [isO, Lib.hasPrefix]
theorem trim_o (p : List UInt8) : Lib.trimPrefix ([111, 47] ++ p) [111, 47] = p := by simp [Lib.trimPrefix, Lib.hasPrefix]
theorem infoQ {t : TypeId} {z : Value} {s b : Nat} (h : (Tryz.prog.info? t).map (fun i => (i.zero, i.size, i.bytes)) = some (some z, s, b)) : ∃ i, Tryz.prog.info? t = some i ∧ i.zero = some z ∧ i.size = s ∧ i.bytes = b := by
  obtain ⟨i, hi, he⟩ := Option.map_eq_some_iff.1 h
  simp only [Prod.mk.injEq] at he
  exact ⟨i, hi, he.1, he.2.1, he.2.2⟩
theorem info9 : (Tryz.prog.info? 9).map (fun i => (i.zero, i.size, i.bytes)) = some (some (.string ⟨#[]⟩), 1, 16) := by kernel_rfl
end Go.Proofs.YtlldfmnoidndmaaGreatDoor.Dsk
