/- record.read, where what is read is right. -/
import Derived.Test.YtfoangkkagijcaaGreatDoorBb
import Derived.Test.YtfoangkkagijcaaGreatDoorBd
namespace Go.Proofs.YtfoangkkagijcaaGreatDoor
open Go.RowKit Go.Shelf

/-- A reader without an error. -/
abbrev rdo (vf : Value) : Obj := .cells #[vf, .nilIface] 99 (0, 0)
structure Rd (w : World) (rb : Nat) (vf : Value) : Prop where
  blk : w.heap[rb]? = some (rdo vf)
theorem Rd.c {w : World} {rb : Nat} {vf : Value} (h : Rd w rb vf) : rb < w.heap.size ∧ w.cell? ⟨rb, 0, none⟩ = some vf ∧ w.cell? ⟨rb, 1, none⟩ = some .nilIface ∧ w.frozen? ⟨rb, 1, none⟩ = false :=
  ⟨(Array.getElem?_eq_some_iff.1 h.blk).1, by simp [World.cell?, h.blk], by simp [World.cell?, h.blk], by simp [World.frozen?, h.blk]⟩
theorem Rd.on {w w' : World} {rb : Nat} {vf : Value} (h : Rd w rb vf) (k : Below w.heap.size w w') : Rd w' rb vf := ⟨(k.block rb (Array.getElem?_eq_some_iff.1 h.blk).1).trans h.blk⟩
theorem Rd.set {w : World} {rb : Nat} {vf : Value} (h : Rd w rb vf) : Below w.heap.size w (w.setCell ⟨rb, 1, none⟩ .nilIface) := by
  refine ⟨rfl, rfl, rfl, by simp, fun k hk => ?_⟩
  by_cases e : k = rb
  · subst e
    rw [heap_setCell_same w k 1 _ _ _ h.blk, h.blk]
    rfl
  · exact heap_setCell_other w ⟨rb, 1, none⟩ k _ e
set_option maxHeartbeats 1600000 in
set_option maxRecDepth 100000 in
theorem read78_some (P : World → Value → Prop) (hP : ∀ W W' v, P W v → Below W.heap.size W W' → P W' v) (rb : Nat) (A : Option Addr) (c : Nat) (l : List Fd) (n s : List UInt8) (w : World) (hR : Rd w rb (.slice A l.length c)) (hl : Stz.Sl w (.slice A l.length c) l) (hz : Stz.Sz l) (hn : n.length ≤ 1000) (hg : Stz.Sm.gets l n = some s)
    (hC : ∀ W, Below w.heap.size w W → Calls Tryz.prog 79 #[.string ⟨s.toArray⟩] W fun e W' => ∃ v, e = .returned (.tuple #[v, .nilIface]) ∧ P W' v ∧ Below W.heap.size W W') :
    Calls Tryz.prog 78 #[.pointer (some ⟨rb, 0, none⟩), .string ⟨n.toArray⟩, .func (.func 79) #[] #[]] w fun e w' => ∃ v, e = .returned v ∧ P w' v ∧ Below w.heap.size w w' := by
  have cG := Stz.get_any _ l n w hl hz (by omega)
  rw [hg] at cG
  obtain ⟨h0, h1, h2, h3⟩ := hR.c
  go_enter Tryz.func78, Tryz.ntmps78
  have HR := Lib.hid hR
  have HC := Lib.hid hC
  have HP := Lib.hid hP
  clear hR hC hP hl
  go_wp2_with fail
  refine cG.mono ?_
  rintro x W1 ⟨rfl, hb1⟩
  rw [show Stz.getVal (some s) = .tuple #[.string ⟨s.toArray⟩, .bool true] from rfl]
  have hR1 := HR.out.on hb1
  obtain ⟨h10, h11, h12, h13⟩ := hR1.c
  have cP := HC.out W1 hb1
  have HR1 := Lib.hid hR1
  have HB1 := Lib.hid hb1
  clear cG h0 h1 h2 h3 hR1 hb1
  go_wp2_with fail
  refine cP.mono ?_
  rintro x W2 ⟨v, rfl, hp2, hb2⟩
  have hR2 := HR1.out.on hb2
  obtain ⟨h20, h21, h22, h23⟩ := hR2.c
  have hs2 := hR2.set
  have hp3 := HP.out _ _ _ hp2 hs2
  have hb3 := HB1.out.trans ((hb2.trans (hs2.mono hb2.size)).mono HB1.out.size)
  have HQ := Lib.hid (And.intro hp3 hb3)
  clear cP h10 h11 h12 h13 hp2 hs2 hp3 hb3 hR2 hb2 HR1 HB1 HR HC
  go_wp2_with fail
  go_ret
  exact ⟨_, rfl, HQ.out.1, HQ.out.2⟩
set_option maxRecDepth 100000 in
theorem read78_none (rb : Nat) (A : Option Addr) (c : Nat) (l : List Fd) (n : List UInt8) (w : World) (hR : Rd w rb (.slice A l.length c)) (hl : Stz.Sl w (.slice A l.length c) l) (hz : Stz.Sz l) (hn : n.length ≤ 1000) (hg : Stz.Sm.gets l n = none) :
    Calls Tryz.prog 78 #[.pointer (some ⟨rb, 0, none⟩), .string ⟨n.toArray⟩, .func (.func 79) #[] #[]] w fun e w' => e = .returned (.slice none 0 0) ∧ Below w.heap.size w w' := by
  have cG := Stz.get_any _ l n w hl hz (by omega)
  rw [hg] at cG
  obtain ⟨h0, h1, h2, h3⟩ := hR.c
  have HR := Lib.hid hR
  clear hR hl
  go_enter Tryz.func78, Tryz.ntmps78
  go_wp2_with fail
  refine cG.mono ?_
  rintro x W1 ⟨rfl, hb1⟩
  rw [show Stz.getVal none = .tuple #[.string ⟨#[]⟩, .bool false] from rfl]
  obtain ⟨h10, h11, h12, h13⟩ := (HR.out.on hb1).c
  clear cG
  go_wp2
  go_ret
  exact ⟨rfl, hb1⟩
set_option maxHeartbeats 1600000 in
set_option maxRecDepth 100000 in
theorem read80_some (P : World → Value → Prop) (hP : ∀ W W' v, P W v → Below W.heap.size W W' → P W' v) (rb : Nat) (A : Option Addr) (c : Nat) (l : List Fd) (n s : List UInt8) (w : World) (hR : Rd w rb (.slice A l.length c)) (hl : Stz.Sl w (.slice A l.length c) l) (hz : Stz.Sz l) (hn : n.length ≤ 1000) (hg : Stz.Sm.gets l n = some s)
    (hC : ∀ W, Below w.heap.size w W → Calls Tryz.prog 81 #[.string ⟨s.toArray⟩] W fun e W' => ∃ v, e = .returned (.tuple #[v, .nilIface]) ∧ P W' v ∧ Below W.heap.size W W') :
    Calls Tryz.prog 80 #[.pointer (some ⟨rb, 0, none⟩), .string ⟨n.toArray⟩, .func (.func 81) #[] #[]] w fun e w' => ∃ v, e = .returned v ∧ P w' v ∧ Below w.heap.size w w' := by
  have cG := Stz.get_any _ l n w hl hz (by omega)
  rw [hg] at cG
  obtain ⟨h0, h1, h2, h3⟩ := hR.c
  go_enter Tryz.func80, Tryz.ntmps80
  have HR := Lib.hid hR
  have HC := Lib.hid hC
  have HP := Lib.hid hP
  clear hR hC hP hl
  go_wp2_with fail
  refine cG.mono ?_
  rintro x W1 ⟨rfl, hb1⟩
  rw [show Stz.getVal (some s) = .tuple #[.string ⟨s.toArray⟩, .bool true] from rfl]
  have hR1 := HR.out.on hb1
  obtain ⟨h10, h11, h12, h13⟩ := hR1.c
  have cP := HC.out W1 hb1
  have HR1 := Lib.hid hR1
  have HB1 := Lib.hid hb1
  clear cG h0 h1 h2 h3 hR1 hb1
  go_wp2_with fail
  refine cP.mono ?_
  rintro x W2 ⟨v, rfl, hp2, hb2⟩
  have hR2 := HR1.out.on hb2
  obtain ⟨h20, h21, h22, h23⟩ := hR2.c
  have hs2 := hR2.set
  have hp3 := HP.out _ _ _ hp2 hs2
  have hb3 := HB1.out.trans ((hb2.trans (hs2.mono hb2.size)).mono HB1.out.size)
  have HQ := Lib.hid (And.intro hp3 hb3)
  clear cP h10 h11 h12 h13 hp2 hs2 hp3 hb3 hR2 hb2 HR1 HB1 HR HC
  go_wp2_with fail
  go_ret
  exact ⟨_, rfl, HQ.out.1, HQ.out.2⟩
set_option maxRecDepth 100000 in
theorem read80_none (rb : Nat) (A : Option Addr) (c : Nat) (l : List Fd) (n : List UInt8) (w : World) (hR : Rd w rb (.slice A l.length c)) (hl : Stz.Sl w (.slice A l.length c) l) (hz : Stz.Sz l) (hn : n.length ≤ 1000) (hg : Stz.Sm.gets l n = none) :
    Calls Tryz.prog 80 #[.pointer (some ⟨rb, 0, none⟩), .string ⟨n.toArray⟩, .func (.func 81) #[] #[]] w fun e w' => e = .returned (.slice none 0 0) ∧ Below w.heap.size w w' := by
  have cG := Stz.get_any _ l n w hl hz (by omega)
  rw [hg] at cG
  obtain ⟨h0, h1, h2, h3⟩ := hR.c
  have HR := Lib.hid hR
  clear hR hl
  go_enter Tryz.func80, Tryz.ntmps80
  go_wp2_with fail
  refine cG.mono ?_
  rintro x W1 ⟨rfl, hb1⟩
  rw [show Stz.getVal none = .tuple #[.string ⟨#[]⟩, .bool false] from rfl]
  obtain ⟨h10, h11, h12, h13⟩ := (HR.out.on hb1).c
  clear cG
  go_wp2
  go_ret
  exact ⟨rfl, hb1⟩
set_option maxHeartbeats 1600000 in
set_option maxRecDepth 100000 in
theorem read82_some (P : World → Value → Prop) (hP : ∀ W W' v, P W v → Below W.heap.size W W' → P W' v) (rb : Nat) (A : Option Addr) (c : Nat) (l : List Fd) (n s : List UInt8) (w : World) (hR : Rd w rb (.slice A l.length c)) (hl : Stz.Sl w (.slice A l.length c) l) (hz : Stz.Sz l) (hn : n.length ≤ 1000) (hg : Stz.Sm.gets l n = some s)
    (hC : ∀ W, Below w.heap.size w W → Calls Tryz.prog 83 #[.string ⟨s.toArray⟩] W fun e W' => ∃ v, e = .returned (.tuple #[v, .nilIface]) ∧ P W' v ∧ Below W.heap.size W W') :
    Calls Tryz.prog 82 #[.pointer (some ⟨rb, 0, none⟩), .string ⟨n.toArray⟩, .func (.func 83) #[] #[]] w fun e w' => ∃ v, e = .returned v ∧ P w' v ∧ Below w.heap.size w w' := by
  have cG := Stz.get_any _ l n w hl hz (by omega)
  rw [hg] at cG
  obtain ⟨h0, h1, h2, h3⟩ := hR.c
  go_enter Tryz.func82, Tryz.ntmps82
  have HR := Lib.hid hR
  have HC := Lib.hid hC
  have HP := Lib.hid hP
  clear hR hC hP hl
  go_wp2_with fail
  refine cG.mono ?_
  rintro x W1 ⟨rfl, hb1⟩
  rw [show Stz.getVal (some s) = .tuple #[.string ⟨s.toArray⟩, .bool true] from rfl]
  have hR1 := HR.out.on hb1
  obtain ⟨h10, h11, h12, h13⟩ := hR1.c
  have cP := HC.out W1 hb1
  have HR1 := Lib.hid hR1
  have HB1 := Lib.hid hb1
  clear cG h0 h1 h2 h3 hR1 hb1
  go_wp2_with fail
  refine cP.mono ?_
  rintro x W2 ⟨v, rfl, hp2, hb2⟩
  have hR2 := HR1.out.on hb2
  obtain ⟨h20, h21, h22, h23⟩ := hR2.c
  have hs2 := hR2.set
  have hp3 := HP.out _ _ _ hp2 hs2
  have hb3 := HB1.out.trans ((hb2.trans (hs2.mono hb2.size)).mono HB1.out.size)
  have HQ := Lib.hid (And.intro hp3 hb3)
  clear cP h10 h11 h12 h13 hp2 hs2 hp3 hb3 hR2 hb2 HR1 HB1 HR HC
  go_wp2_with fail
  go_ret
  exact ⟨_, rfl, HQ.out.1, HQ.out.2⟩
set_option maxRecDepth 100000 in
theorem read82_none (rb : Nat) (A : Option Addr) (c : Nat) (l : List Fd) (n : List UInt8) (w : World) (hR : Rd w rb (.slice A l.length c)) (hl : Stz.Sl w (.slice A l.length c) l) (hz : Stz.Sz l) (hn : n.length ≤ 1000) (hg : Stz.Sm.gets l n = none) :
    Calls Tryz.prog 82 #[.pointer (some ⟨rb, 0, none⟩), .string ⟨n.toArray⟩, .func (.func 83) #[] #[]] w fun e w' => e = .returned (.slice none 0 0) ∧ Below w.heap.size w w' := by
  have cG := Stz.get_any _ l n w hl hz (by omega)
  rw [hg] at cG
  obtain ⟨h0, h1, h2, h3⟩ := hR.c
  have HR := Lib.hid hR
  clear hR hl
  go_enter Tryz.func82, Tryz.ntmps82
  go_wp2_with fail
  refine cG.mono ?_
  rintro x W1 ⟨rfl, hb1⟩
  rw [show Stz.getVal none = .tuple #[.string ⟨#[]⟩, .bool false] from rfl]
  obtain ⟨h10, h11, h12, h13⟩ := (HR.out.on hb1).c
  clear cG
  go_wp2
  go_ret
  exact ⟨rfl, hb1⟩
theorem Rd.oth {w : World} {rb : Nat} {vf : Value} (h : Rd w rb vf) {p : Addr} (hp : rb ≠ p.block) (u : Value) : Rd (w.setCell p u) rb vf := ⟨(heap_setCell_other w p rb u hp).trans h.blk⟩
abbrev z23 : Obj := .cells #[.int .i64 0, .string ⟨#[]⟩, .string ⟨#[]⟩] 23 (0, 0)
structure Zc (w : World) (b : Nat) : Prop where
  blk : w.heap[b]? = some z23
theorem Zc.on {w w' : World} {b : Nat} (h : Zc w b) (k : Below w.heap.size w w') : Zc w' b := ⟨(k.block b (Array.getElem?_eq_some_iff.1 h.blk).1).trans h.blk⟩
theorem Zc.c {w : World} {b : Nat} (h : Zc w b) : b < w.heap.size ∧ w.cell? ⟨b, 0, none⟩ = some (.int .i64 0) ∧ w.cell? ⟨b, 1, none⟩ = some (.string ⟨#[]⟩) ∧ w.cell? ⟨b, 2, none⟩ = some (.string ⟨#[]⟩) ∧ w.frozen? ⟨b, 0, none⟩ = false ∧ w.frozen? ⟨b, 1, none⟩ = false ∧ w.frozen? ⟨b, 2, none⟩ = false :=
  ⟨(Array.getElem?_eq_some_iff.1 h.blk).1, by simp [World.cell?, h.blk], by simp [World.cell?, h.blk], by simp [World.cell?, h.blk], by simp [World.frozen?, h.blk], by simp [World.frozen?, h.blk], by simp [World.frozen?, h.blk]⟩
theorem z23_new (w : World) : Zc ((w.alloc z23).alloc z23) w.heap.size ∧ Zc ((w.alloc z23).alloc z23) (w.heap.size + 1) ∧ Below w.heap.size w ((w.alloc z23).alloc z23) := by
  refine ⟨⟨?_⟩, ⟨?_⟩, ((Below.refl _ _).alloc (Nat.le_refl _) _).alloc (by simp) _⟩
  · rw [Below.heap_alloc _ _ w.heap.size (by simp)]
    exact World.alloc_heap_new _ _
  · have := World.alloc_heap_new (w.alloc z23) z23
    rwa [World.size_alloc] at this
set_option maxHeartbeats 1600000 in
set_option maxRecDepth 100000 in
theorem read76_some (ve : Int) (vu vr : List UInt8) (rb : Nat) (A : Option Addr) (c : Nat) (l : List Fd) (n s : List UInt8) (w : World) (hR : Rd w rb (.slice A l.length c)) (hl : Stz.Sl w (.slice A l.length c) l) (hz : Stz.Sz l) (hn : n.length ≤ 1000) (hg : Stz.Sm.gets l n = some s)
    (hC : ∀ W, Below w.heap.size w W → Calls Tryz.prog 77 #[.string ⟨s.toArray⟩] W fun e W' => e = .returned (.tuple #[.agg #[.int .i64 ve, .string ⟨vu.toArray⟩, .string ⟨vr.toArray⟩], .nilIface]) ∧ Below W.heap.size W W') :
    Calls Tryz.prog 76 #[.pointer (some ⟨rb, 0, none⟩), .string ⟨n.toArray⟩, .func (.func 77) #[] #[]] w fun e w' => e = .returned (.agg #[.int .i64 ve, .string ⟨vu.toArray⟩, .string ⟨vr.toArray⟩]) ∧ Below w.heap.size w w' := by
  obtain ⟨k0, k1, hb0⟩ := z23_new w
  have cG := Stz.get_any _ l n _ (hl.on hb0) hz (by omega)
  rw [hg] at cG
  obtain ⟨h0, h1, h2, h3⟩ := hR.c
  have HR := Lib.hid (hR.on hb0)
  have HC := Lib.hid hC
  have HK := Lib.hid (And.intro k0 k1)
  have HB0 := Lib.hid hb0
  clear hR hC hl k0 k1 hb0
  go_enter Tryz.func76, Tryz.ntmps76
  go_wp2_with fail
  refine cG.mono ?_
  rintro x W1 ⟨rfl, hb1⟩
  rw [show Stz.getVal (some s) = .tuple #[.string ⟨s.toArray⟩, .bool true] from rfl]
  have hR1 := HR.out.on hb1
  obtain ⟨h10, h11, h12, h13⟩ := hR1.c
  have hbw1 := HB0.out.trans (hb1.mono HB0.out.size)
  have cP := HC.out W1 hbw1
  have HR1 := Lib.hid hR1
  have HB1 := Lib.hid hbw1
  have HK1 := Lib.hid (And.intro (HK.out.1.on hb1) (HK.out.2.on hb1))
  clear cG h1 h2 h3 hR1 hb1 hbw1 HK HR HC
  go_wp2_with fail
  refine cP.mono ?_
  rintro x W2 ⟨rfl, hb2⟩
  have hR2 := HR1.out.on hb2
  obtain ⟨h20, h21, h22, h23⟩ := hR2.c
  obtain ⟨a0, a1, a2, a3, a4, a5, a6⟩ := (HK1.out.1.on hb2).c
  obtain ⟨b0, b1, b2, b3, b4, b5, b6⟩ := (HK1.out.2.on hb2).c
  have HR2 := Lib.hid hR2
  have HB2 := Lib.hid (HB1.out.trans (hb2.mono HB1.out.size))
  clear cP h10 h11 h12 h13 hR2 hb2 HR1 HB1 HK1
  have n1 : w.heap.size + 1 ≠ rb := by omega
  have n2 : rb ≠ w.heap.size + 1 := by omega
  have n3 : w.heap.size ≠ rb := by omega
  have n4 : rb ≠ w.heap.size := by omega
  have n5 : w.heap.size ≠ w.heap.size + 1 := by omega
  have n6 : w.heap.size + 1 ≠ w.heap.size := by omega
  go_wp2_with fail
  have d1 := ((HB2.out.setCell (p := ⟨w.heap.size + 1, 0, none⟩) (Nat.le_succ _) (.int .i64 ve)).setCell (p := ⟨w.heap.size + 1, 1, none⟩) (Nat.le_succ _) (.string ⟨vu.toArray⟩)).setCell (p := ⟨w.heap.size + 1, 2, none⟩) (Nat.le_succ _) (.string ⟨vr.toArray⟩)
  have r1 := (((HR2.out.oth (p := ⟨w.heap.size + 1, 0, none⟩) n2 (.int .i64 ve)).oth (p := ⟨w.heap.size + 1, 1, none⟩) n2 (.string ⟨vu.toArray⟩)).oth (p := ⟨w.heap.size + 1, 2, none⟩) n2 (.string ⟨vr.toArray⟩)).set
  have d2 := d1.trans (r1.mono d1.size)
  have d3 := ((d2.setCell (p := ⟨w.heap.size, 0, none⟩) (Nat.le_refl _) (.int .i64 ve)).setCell (p := ⟨w.heap.size, 1, none⟩) (Nat.le_refl _) (.string ⟨vu.toArray⟩)).setCell (p := ⟨w.heap.size, 2, none⟩) (Nat.le_refl _) (.string ⟨vr.toArray⟩)
  have HD3 := Lib.hid d3
  clear d1 r1 d2 d3
  exact bodyPost_ret (v := .agg #[.int .i64 ve, .string ⟨vu.toArray⟩, .string ⟨vr.toArray⟩]) (by simp [results, Tryz.results76, go_sem, *]) rfl ⟨rfl, HD3.out⟩
end Go.Proofs.YtfoangkkagijcaaGreatDoor
