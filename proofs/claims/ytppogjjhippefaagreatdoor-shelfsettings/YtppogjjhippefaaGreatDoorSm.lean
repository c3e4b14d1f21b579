/- A shelf: Put walked, of a package of one file, where nobody else has a path. -/
import Derived.Test.YtppogjjhippefaaGreatDoorSk
import Derived.Test.YtppogjjhippefaaGreatDoorAx
import Derived.Test.YtppogjjhippefaaGreatDoorTi
import Derived.BigRegion
import Derived.ControlIn
import Derived.LoopIn
import Derived.LoopNIn
import Derived.OrdersHeld
import Derived.OrdersIn
import Derived.OwnWalkIn
import Derived.RangeFuncBound
import Derived.RangeFuncCalls
import Derived.RangeFuncFrom
import Derived.Shelf.Abstract
import Derived.Shelf.RegionOpen
import Derived.TacticsInMore
import Derived.WalkKit
namespace Go.Proofs.YtppogjjhippefaaGreatDoor.Dsk
open Go.RowKit Go.Sort Go.Maps
attribute [local go_sem] Oper.semAt_some

section
variable {w W W2 A : World} {s d lo hi : Nat} {L : Kv Ent}
theorem SJ.putObj (h : SJ w s d L lo hi A) {j : Nat} (hw : w.heap.size ≤ j) (h1 : lo ≤ j) (h2 : j < hi) (o' : Obj) : SJ w s d L lo hi (A.putObj j o') := by
  obtain ⟨mb, hX⟩ := h
  have hn : ∀ k, (k = s ∨ DX d mb k) → k ≠ j := fun k hk e => by have := hX.hz k hk; omega
  have hg := grownBy_putObj' A j o'
  have hk : ∀ k, k < A.heap.size → (k = s ∨ DX d mb k) → (A.putObj j o').heap[k]? = A.heap[k]? := fun k _ hx => World.putObj_heap_other (hn k hx)
  exact ⟨mb, hX.bl.grown hg hX.bl.size (fun r e => by cases e; exact hw), (hk s (hX.lt s (.inl rfl)) (.inl rfl)).trans hX.blk, hX.pd.on fun k hk' hx => hk k hk' (.inr hx), hX.sp, hX.hx, hX.hz, Nat.le_trans hX.hs hg.size⟩
theorem SJ.setc (h : SJ w s d L lo hi A) {j i : Nat} (hw : w.heap.size ≤ j) (h1 : lo ≤ j) (h2 : j < hi) (v : Value) : SJ w s d L lo hi (A.setCell ⟨j, i, none⟩ v) := by
  obtain ⟨mb, hX⟩ := h
  have hn : ∀ k, (k = s ∨ DX d mb k) → k ≠ j := fun k hk e => by have := hX.hz k hk; omega
  have hk : ∀ k, k < A.heap.size → (k = s ∨ DX d mb k) → (A.setCell ⟨j, i, none⟩ v).heap[k]? = A.heap[k]? := fun k _ hx => Below.heap_setCell A ⟨j, i, none⟩ v k (hn k hx)
  exact ⟨mb, hX.bl.setCell (p := ⟨j, i, none⟩) hw v, (hk s (hX.lt s (.inl rfl)) (.inl rfl)).trans hX.blk, hX.pd.on fun k hk' hx => hk k hk' (.inr hx), hX.sp, hX.hx, hX.hz, by simpa using hX.hs⟩
theorem Zn.putObj {B : World} {j : Nat} (h : Zn lo hi B A) (h2 : hi ≤ j) (o' : Obj) : Zn lo hi B (A.putObj j o') := fun k k1 k2 => (World.putObj_heap_other (by omega)).trans (h k k1 k2)
set_option maxRecDepth 100000 in
theorem backward_any (A : Option Addr) (n c : Nat) (W : World) : Calls Tryz.prog 52 #[.slice A n c] W fun x W2 => x = .returned (.func (.func 97) #[] #[.pointer (some ⟨W.heap.size, 0, none⟩)]) ∧ W2 = W.alloc (.cells #[.slice A n c] 41) := by
  go_enter Tryz.func52, Tryz.ntmps52
  go_wp2
  go_ret
  exact ⟨rfl, rfl⟩
theorem back_turns (fb fo fc : Nat) (pa da : List UInt8) (n Bs : Nat) (w : World) (hc : w.heap[Bs]? = some (.cells #[.slice (some ⟨fb, fo, none⟩) 1 fc] 41 (0, 0))) (hF : Fr w fb fo [(pa, da)]) : Turns Tryz.prog 97 #[.pointer (some ⟨Bs, 0, none⟩)] (fun _ => #[.int .i64 0, .agg #[.string ⟨pa.toArray⟩, .string ⟨da.toArray⟩]]) 1 Bs n w := fun l J W hW hJ hY h0 =>
  back_in fb fo fc pa da n l Bs J W (fun W1 h => hY 0 W1 (by omega) h) ((hW.block Bs (Array.getElem?_eq_some_iff.1 hc).1).trans hc) (hF.on hW) h0
theorem pb_blk {V : World} {b : Nat} {p : Pck} {vD vA vG vB vR vP vS vL vF : Value} (h : V.heap[b]? = some (pko p.o.n p.o.e p.o.u p.o.r vD vA vG vB vR vP vS vL vF)) : Pb V b p vD vA vG vB vR vP vS vL vF :=
  ⟨by simp [World.cell?, h], by simp [World.cell?, h], by simp [World.cell?, h], by simp [World.cell?, h], by simp [World.cell?, h], by simp [World.cell?, h], by simp [World.cell?, h], by simp [World.cell?, h], by simp [World.cell?, h], by simp [World.cell?, h], by simp [World.cell?, h], by simp [World.cell?, h], by simp [World.cell?, h]⟩
/-- What Put leaves. -/
def ptL (L : Kv Ent) (n p t : List UInt8) (st : Bool) (o : Option Bool) : Kv Ent := ly3 (ly2 (ly1 L n p) p t (cmy st L p t o)) p t st
/-- The loop of Put: nothing is done yet, or all is. -/
def PI (w V : World) (s d : Nat) (L' : Kv Ent) (lo : Nat) (k : Nat) (A : World) : Prop := if k = 0 then Below V.heap.size V A else SJ w s d L' lo (V.heap.size + 2) A ∧ Zn lo V.heap.size V A
set_option maxRecDepth 100000 in
set_option maxHeartbeats 8000000 in
theorem put_one (h : SJ w s d L lo W.heap.size W) (hlo : lo ≤ W.heap.size) (hwlo : w.heap.size ≤ lo) (p : Pck) (vD vA vG vB vR vP vS vL va : Value) (pa da : List UInt8) (st : Bool) (o : Option Bool) (ft fb fo fc : Nat) (q : Option (List UInt8))
    (hz : Pz W p vD vA vG vB vR vP vS vL (.slice (some ⟨fb, fo, none⟩) 1 fc)) (hp : Pg p) (hT : Tab W) (hM : MaxN W) (hok : aok p = true) (_hpF : p.F = [(pa, da)]) (hfc : 1 ≤ fc) (hfb : lo ≤ fb) (hFr : Fr W fb fo [(pa, da)]) (hS : Sl lo W vS (stS st pa)) (hA : An W va o)
    (hO : Ow L p.o.n q) (hO2 : Ow (ptL L p.o.n pa da st o) p.o.n (some pa)) (hpa : pa.length ≤ 60) (hpa1 : 1 ≤ pa.length) (hda : da.length ≤ 1000) (ht : tot nl L ≤ 40000) (hl : L.length ≤ 400) (hl2 : (ptL L p.o.n pa da st o).length ≤ 1000) :
    Calls Tryz.prog 14 #[.pointer (some ⟨s, 0, none⟩), pkv p.o.n p.o.e p.o.u p.o.r vD vA vG vB vR vP vS vL (.slice (some ⟨fb, fo, none⟩) 1 fc), .func (.func ft) #[] #[], va] W fun x W2 => x = .returned .nilIface ∧ Zn lo W.heap.size W W2 ∧ SJ w s d (ptL L p.o.n pa da st o) lo W.heap.size W2 := by
  have hpo : pko p.o.n p.o.e p.o.u p.o.r vD vA vG vB vR vP vS vL (.slice (some ⟨fb, fo, none⟩) 1 fc) = pko p.o.n p.o.e p.o.u p.o.r vD vA vG vB vR vP vS vL (.slice (some ⟨fb, fo, none⟩) 1 fc) := rfl
  have b1 := (Below.refl W.heap.size W).alloc (Nat.le_refl _) (.cells #[.pointer (some ⟨s, 0, none⟩)] 23)
  have b2 := b1.alloc b1.size (pko p.o.n p.o.e p.o.u p.o.r vD vA vG vB vR vP vS vL (.slice (some ⟨fb, fo, none⟩) 1 fc))
  have b3 := b2.alloc b2.size (.cells #[.nilIface] 25)
  have cR := aright_any p vD vA vG vB vR vP vS vL (.slice (some ⟨fb, fo, none⟩) 1 fc) _ (hz.on b3) hp (tab_on hT b3) (hM.on b3)
  rw [hok] at cR
  have hnl := hp.n
  have HFC := Lib.hid hfc
  clear hz hT hM hok hpo
  refine (callsIn_wide (n := 9)).1 ?_
  refine callsIn_of_wp_marks Tryz.func14 rfl trivial ?_ rfl
  simp only [Tryz.ntmps14, List.size_toArray, List.length_cons, List.length_nil, Nat.reduceAdd, Nat.reduceSub, Array.replicate_succ, Array.replicate_zero, List.push_toArray, List.append_toArray, List.nil_append, List.cons_append]
  have hP := nb0 (W.alloc (.cells #[.pointer (some ⟨s, 0, none⟩)] 23)) (pko p.o.n p.o.e p.o.u p.o.r vD vA vG vB vR vP vS vL (.slice (some ⟨fb, fo, none⟩) 1 fc))
  rw [World.size_alloc] at hP
  obtain ⟨V0, hV0⟩ : ∃ V0, V0 = (W.alloc (.cells #[.pointer (some ⟨s, 0, none⟩)] 23)).alloc (pko p.o.n p.o.e p.o.u p.o.r vD vA vG vB vR vP vS vL (.slice (some ⟨fb, fo, none⟩) 1 fc)) := ⟨_, rfl⟩
  have hsz0 : V0.heap.size = W.heap.size + 2 := by rw [hV0]; simp
  have x0 : (V0.alloc (.cells #[.nilIface] 25)).heap[W.heap.size]? = some (.cells #[.pointer (some ⟨s, 0, none⟩)] 23 (0, 0)) := by
    rw [Below.heap_alloc _ _ W.heap.size (by omega), hV0, Below.heap_alloc _ _ W.heap.size (by simp)]
    exact nb0 _ _
  have x1 : (V0.alloc (.cells #[.nilIface] 25)).heap[W.heap.size + 1]? = some (pko p.o.n p.o.e p.o.u p.o.r vD vA vG vB vR vP vS vL (.slice (some ⟨fb, fo, none⟩) 1 fc)) := by
    rw [Below.heap_alloc _ _ (W.heap.size + 1) (by omega), hV0]
    exact hP
  have x2 : (V0.alloc (.cells #[.nilIface] 25)).heap[W.heap.size + 2]? = some (.cells #[.nilIface] 25 (0, 0)) := by
    have := nb0 V0 (.cells #[.nilIface] 25)
    rwa [hsz0] at this
  have HX0 := Lib.hid x0
  have HX1 := Lib.hid x1
  have HX2 := Lib.hid x2
  have HB3 := Lib.hid b3
  have HJ := Lib.hid h
  have HS := Lib.hid hS
  have HA := Lib.hid hA
  have HFr := Lib.hid hFr
  have HO := Lib.hid hO
  have HO2 := Lib.hid hO2
  rw [← hV0] at HB3
  clear x0 x1 x2 hP b1 b2 b3 h hS hA hFr hO hO2
  gi_wp2_with fail
  rw [hV0] at HX0 HX1 HX2 HB3
  refine ⟨trivial, (callsIn_wide.2 cR).mono ?_⟩
  rintro x V1 ⟨rfl, bR⟩
  have hb1 := HB3.out.trans (bR.mono HB3.out.size)
  have hx0 := (bR.block _ (Array.getElem?_eq_some_iff.1 HX0.out).1).trans HX0.out
  have hx1 := (bR.block _ (Array.getElem?_eq_some_iff.1 HX1.out).1).trans HX1.out
  have hx2 := (bR.block _ (Array.getElem?_eq_some_iff.1 HX2.out).1).trans HX2.out
  have B := Lib.hid (pb_blk hx1)
  have c0 : V1.cell? ⟨W.heap.size, 0, none⟩ = some (.pointer (some ⟨s, 0, none⟩)) := by simp [World.cell?, hx0]
  have hl2' : W.heap.size + 2 < V1.heap.size := (Array.getElem?_eq_some_iff.1 hx2).1
  have hFs1 : Fs V1 (.slice (some ⟨fb, fo, none⟩) 1 fc) [(pa, da)] := ⟨.inr ⟨fb, fo, fc, rfl, by have := HFC.out; simpa using this, HFr.out.on hb1⟩⟩
  have cC := clash_any (HJ.out.up hb1) (by omega) HO.out p.o.e p.o.u p.o.r vD vA vG vB vR vP vS vL (.slice (some ⟨fb, fo, none⟩) 1 fc) ft [(pa, da)] hFs1 (by simp)
  have H0 := Lib.hid hx0
  have H1 := Lib.hid hx1
  have H2 := Lib.hid hx2
  have HB1 := Lib.hid hb1
  clear cR bR hb1 hx0 hx1 hx2 HX0 HX1 HX2 HB3 hFs1 hV0 hsz0 V0
  have q0 := B.out.c0
  have q1 := B.out.c1
  have q2 := B.out.c2
  have q3 := B.out.c3
  have q4 := B.out.c4
  have q5 := B.out.c5
  have q6 := B.out.c6
  have q7 := B.out.c7
  have q8 := B.out.c8
  have q9 := B.out.c9
  have q10 := B.out.c10
  have q11 := B.out.c11
  have q12 := B.out.c12
  gi_wp2_with fail
  refine ⟨trivial, (callsIn_wide.2 cC).mono ?_⟩
  rintro x V2 ⟨rfl, b2⟩
  have hb2 := HB1.out.trans (b2.mono HB1.out.size)
  have hx0 := (b2.block _ (Array.getElem?_eq_some_iff.1 H0.out).1).trans H0.out
  have hx1 := (b2.block _ (Array.getElem?_eq_some_iff.1 H1.out).1).trans H1.out
  have hx2 := (b2.block _ (Array.getElem?_eq_some_iff.1 H2.out).1).trans H2.out
  have hFs2 : Fs V2 (.slice (some ⟨fb, fo, none⟩) 1 fc) [(pa, da)] := ⟨.inr ⟨fb, fo, fc, rfl, by have := HFC.out; simpa using this, HFr.out.on hb2⟩⟩
  have cM := comes_one (HJ.out.up hb2) p.o.n p.o.e p.o.u p.o.r vD vA vG vB vR vP vS vL (.slice (some ⟨fb, fo, none⟩) 1 fc) va pa da st o (HS.out.up hb2).ss hFs2 (HA.out.on hb2) (by omega) hda
  have B2 := Lib.hid (pb_blk hx1)
  have c02 : V2.cell? ⟨W.heap.size, 0, none⟩ = some (.pointer (some ⟨s, 0, none⟩)) := by simp [World.cell?, hx0]
  have hl22 : W.heap.size + 2 < V2.heap.size := (Array.getElem?_eq_some_iff.1 hx2).1
  have H02 := Lib.hid hx0
  have H12 := Lib.hid hx1
  have H22 := Lib.hid hx2
  have HB2 := Lib.hid hb2
  clear cC b2 hb2 hx0 hx1 hx2 H0 H1 H2 HB1 hFs2 c0 hl2' B q0 q1 q2 q3 q4 q5 q6 q7 q8 q9 q10 q11 q12
  have q0 := B2.out.c0
  have q1 := B2.out.c1
  have q2 := B2.out.c2
  have q3 := B2.out.c3
  have q4 := B2.out.c4
  have q5 := B2.out.c5
  have q6 := B2.out.c6
  have q7 := B2.out.c7
  have q8 := B2.out.c8
  have q9 := B2.out.c9
  have q10 := B2.out.c10
  have q11 := B2.out.c11
  have q12 := B2.out.c12
  gi_wp2_with fail
  refine ⟨trivial, (callsIn_wide.2 cM).mono ?_⟩
  rintro x V3 ⟨g, rfl, hgW, hY⟩
  have b4 := hY.bl.alloc hY.bl.size (.cells #[.slice (some ⟨g, 0, none⟩) 1 1] 44)
  have hb4 := HB2.out.trans (b4.mono HB2.out.size)
  have hx0 := (b4.block _ (Array.getElem?_eq_some_iff.1 H02.out).1).trans H02.out
  have hx1 := (b4.block _ (Array.getElem?_eq_some_iff.1 H12.out).1).trans H12.out
  have hx2 := (b4.block _ (Array.getElem?_eq_some_iff.1 H22.out).1).trans H22.out
  have hx3 := nb0 V3 (.cells #[.slice (some ⟨g, 0, none⟩) 1 1] 44)
  have hgc4 : (V3.alloc (.cells #[.slice (some ⟨g, 0, none⟩) 1 1] 44)).cell? ⟨g, 0, none⟩ = some (.bool (cmy st L pa da o)) := by
    rw [World.cell?_of_block (w := V3) (Below.heap_alloc _ _ g hY.lt)]
    exact hY.c
  have p12 : (V3.alloc (.cells #[.slice (some ⟨g, 0, none⟩) 1 1] 44)).cell? ⟨W.heap.size + 1, 12, none⟩ = some (.slice (some ⟨fb, fo, none⟩) 1 fc) := by simp [World.cell?, hx1]
  have hl44 : W.heap.size + 2 < (V3.alloc (.cells #[.slice (some ⟨g, 0, none⟩) 1 1] 44)).heap.size := (Array.getElem?_eq_some_iff.1 hx2).1
  have hgl4 : g < (V3.alloc (.cells #[.slice (some ⟨g, 0, none⟩) 1 1] 44)).heap.size := block_lt_of_cell hgc4
  have hgW3 : W.heap.size ≤ g := Nat.le_trans HB2.out.size hgW
  have hb3W : W.heap.size ≤ V3.heap.size := Nat.le_trans HB2.out.size hY.bl.size
  have cB := backward_any (some ⟨fb, fo, none⟩) 1 fc (V3.alloc (.cells #[.slice (some ⟨g, 0, none⟩) 1 1] 44))
  have H04 := Lib.hid hx0
  have H14 := Lib.hid hx1
  have H24 := Lib.hid hx2
  have H34 := Lib.hid hx3
  have HB4 := Lib.hid hb4
  have HG4 := Lib.hid hgc4
  obtain ⟨bc, hbc⟩ : ∃ bc, bc = V3.heap.size := ⟨_, rfl⟩
  have hbl4 : bc < (V3.alloc (.cells #[.slice (some ⟨g, 0, none⟩) 1 1] 44)).heap.size := by rw [hbc]; simp
  have hbcW : W.heap.size ≤ bc := by rw [hbc]; exact hb3W
  rw [← hbc] at H34
  clear cM hY b4 hb4 hx0 hx1 hx2 hx3 hgc4 H02 H12 H22 HB2 c02 hl22 B2 hgW hb3W q0 q1 q2 q3 q4 q5 q6 q7 q8 q9 q10 q11 q12
  gi_upto_region 7 with fail
  rw [← hbc]
  generalize V3.alloc (.cells #[.slice (some ⟨g, 0, none⟩) 1 1] 44) = V4 at H04 H14 H24 H34 HB4 HG4 hbl4 p12 hl44 hgl4 cB ⊢
  clear hbc
  gi_wp2_with fail
  refine ⟨trivial, (callsIn_wide.2 cB).mono ?_⟩
  rintro x V5 ⟨rfl, hw⟩
  rw [hw]
  clear hw cB V5
  gi_wp2_with fail
  have hbs := nb0 V4 (.cells #[.slice (some ⟨fb, fo, none⟩) 1 fc] 41)
  have bA5 := (Below.refl V4.heap.size V4).alloc (Nat.le_refl _) (.cells #[.slice (some ⟨fb, fo, none⟩) 1 fc] 41)
  have hb5 := HB4.out.trans (bA5.mono HB4.out.size)
  have y0 := (bA5.block _ (Array.getElem?_eq_some_iff.1 H04.out).1).trans H04.out
  have y1 := (bA5.block _ (Array.getElem?_eq_some_iff.1 H14.out).1).trans H14.out
  have y2 := (bA5.block _ (Array.getElem?_eq_some_iff.1 H24.out).1).trans H24.out
  have y3 := (bA5.block _ (Array.getElem?_eq_some_iff.1 H34.out).1).trans H34.out
  have yg := (bA5.cell (p := ⟨g, 0, none⟩) hgl4).trans HG4.out
  obtain ⟨Bs, hBs⟩ : ∃ Bs, Bs = V4.heap.size := ⟨_, rfl⟩
  have hBsW : W.heap.size ≤ Bs := by rw [hBs]; exact HB4.out.size
  rw [← hBs] at hbs
  rw [← hBs]
  have hl5 : Bs < (V4.alloc (.cells #[.slice (some ⟨fb, fo, none⟩) 1 fc] 41)).heap.size := by rw [hBs]; simp
  have hl53 : bc < (V4.alloc (.cells #[.slice (some ⟨fb, fo, none⟩) 1 fc] 41)).heap.size := Nat.lt_of_lt_of_le hbl4 bA5.size
  have hl5g : g < (V4.alloc (.cells #[.slice (some ⟨fb, fo, none⟩) 1 fc] 41)).heap.size := Nat.lt_of_lt_of_le hgl4 bA5.size
  have hl52 : W.heap.size + 2 < (V4.alloc (.cells #[.slice (some ⟨fb, fo, none⟩) 1 fc] 41)).heap.size := Nat.lt_of_lt_of_le hl44 bA5.size
  generalize V4.alloc (.cells #[.slice (some ⟨fb, fo, none⟩) 1 fc] 41) = V5 at hbs hb5 y0 y1 y2 y3 yg hl5 hl53 hl5g hl52 ⊢
  have hFr5 : Fr V5 fb fo [(pa, da)] := HFr.out.on hb5
  have hfb5 : fb < V5.heap.size := hFr5.lt
  have HL : Hid (SJ w s d L lo W.heap.size W) := HJ.out
  have HB5 := Lib.hid hb5
  have HY : Hid (V5.heap[W.heap.size]? = some (.cells #[.pointer (some ⟨s, 0, none⟩)] 23 (0, 0)) ∧ V5.heap[W.heap.size + 1]? = some (pko p.o.n p.o.e p.o.u p.o.r vD vA vG vB vR vP vS vL (.slice (some ⟨fb, fo, none⟩) 1 fc)) ∧ V5.heap[W.heap.size + 2]? = some (.cells #[.nilIface] 25 (0, 0)) ∧ V5.heap[bc]? = some (.cells #[.slice (some ⟨g, 0, none⟩) 1 1] 44 (0, 0)) ∧ V5.cell? ⟨g, 0, none⟩ = some (.bool (cmy st L pa da o))) := ⟨y0, y1, y2, y3, yg⟩
  clear y0 y1 y2 y3 yg bA5 hBs H04 H14 H24 H34 HB4 HG4 hgl4 hbl4 p12 hl44 hb5
  refine range_box (gf := 97) (lb := #[.pointer (some ⟨Bs, 0, none⟩)]) (Bs := Bs) rfl (enters_of Tryz.func97 (by kernel_rfl) rfl) (back_turns fb fo fc pa da _ Bs V5 hbs hFr5) (Below.refl _ _) hl5 (fun _ => rfl)
    (PI w V5 s d (ptL L p.o.n pa da st o) lo) ?ib ?ip ?i0 (fun k a' A => k = 0 → ∃ bf, a' = { tmps := #[.pointer (some ⟨s, 0, none⟩), pkv p.o.n p.o.e p.o.u p.o.r vD vA vG vB vR vP vS vL (.slice (some ⟨fb, fo, none⟩) 1 fc), .func (.func ft) #[] #[], va, .pointer (some ⟨W.heap.size, 0, none⟩), .pointer (some ⟨W.heap.size + 1, 0, none⟩), undef, undef, .pointer (some ⟨W.heap.size + 1 + 1, 0, none⟩), .int .i64 (-1), .string ⟨#[]⟩, .pointer (some ⟨bc, 0, none⟩), .int .i64 0, .pointer (some ⟨bf, 0, none⟩), undef, .agg #[.string ⟨p.o.n.toArray⟩, .int .i64 p.o.e, .string ⟨p.o.u.toArray⟩, .string ⟨p.o.r.toArray⟩, vD, vA, vG, vB, vR, vP, vS, vL, .slice (some ⟨fb, fo, none⟩) 1 fc], .bool true, .bool false, undef, .tuple #[.int .i64 (-1), .string ⟨#[]⟩], .pointer (some ⟨s, 0, none⟩), .agg #[.string ⟨p.o.n.toArray⟩, .int .i64 p.o.e, .string ⟨p.o.u.toArray⟩, .string ⟨p.o.r.toArray⟩, vD, vA, vG, vB, vR, vP, vS, vL, .slice (some ⟨fb, fo, none⟩) 1 fc], .func (.func ft) #[] #[], .tuple #[.int .i64 (-1), .string ⟨#[]⟩], .int .i64 (-1), .string ⟨#[]⟩, .int .i64 (-1), .bool false, undef, undef, undef, undef, .pointer (some ⟨s, 0, none⟩), .agg #[.string ⟨p.o.n.toArray⟩, .int .i64 p.o.e, .string ⟨p.o.u.toArray⟩, .string ⟨p.o.r.toArray⟩, vD, vA, vG, vB, vR, vP, vS, vL, .slice (some ⟨fb, fo, none⟩) 1 fc], va, .slice (some ⟨g, 0, none⟩) 1 1, .pointer (some ⟨W.heap.size + 1, 12, none⟩), .slice (some ⟨fb, fo, none⟩) 1 fc, .func (.func 97) #[] #[.pointer (some ⟨Bs, 0, none⟩)], .int .i64 0, .agg #[.string ⟨pa.toArray⟩, .string ⟨da.toArray⟩], undef, undef, undef, undef, undef, undef, undef, undef, undef, undef, undef, undef, undef, undef], defers := [] } ∧ Below V5.heap.size V5 A ∧ V5.heap.size + 2 ≤ bf ∧ A.heap[bf]? = some (.cells #[.string ⟨pa.toArray⟩, .string ⟨da.toArray⟩] 73 (0, 0))) ?axp ?assign ?body ?done
  case ib =>
    intro k A B hI hb
    unfold PI at hI ⊢
    split
    · rename_i hk
      rw [if_pos hk] at hI
      exact hI.trans (hb.mono hI.size)
    · rename_i hk
      rw [if_neg hk] at hI
      have := hI.1.hs
      exact ⟨hI.1.up hb, hI.2.trans (Zn.below hb (by omega))⟩
  case ip =>
    intro k A o' hI
    unfold PI at hI ⊢
    split
    · rename_i hk
      rw [if_pos hk] at hI
      exact hI.grown (grownBy_putObj' A _ o') hI.size (fun r e => by cases e; omega)
    · rename_i hk
      rw [if_neg hk] at hI
      exact ⟨hI.1.putObj (by omega) (by omega) (by omega) o', hI.2.putObj (by omega) o'⟩
  case i0 => exact Below.refl _ _
  case axp =>
    intro k a' A o' hax hk
    obtain ⟨bf, h1, h2, h3, h4⟩ := hax hk
    exact ⟨bf, h1, h2.grown (grownBy_putObj' A _ o') h2.size (fun r e => by cases e; omega), h3, (World.putObj_heap_other (by omega)).trans h4⟩
  case assign =>
    intro l k Y K hI hs hK
    have bY := (Below.refl Y.heap.size Y).alloc (Nat.le_refl _) (.cells #[.string ⟨pa.toArray⟩, .string ⟨da.toArray⟩] 73)
    have hbf := nb0 Y (.cells #[.string ⟨pa.toArray⟩, .string ⟨da.toArray⟩] 73)
    have HF : Hid (k = 0 → Below V5.heap.size V5 (Y.alloc (.cells #[.string ⟨pa.toArray⟩, .string ⟨da.toArray⟩] 73))) := fun hk => by
      unfold PI at hI
      rw [if_pos hk] at hI
      exact hI.trans (bY.mono hI.size)
    clear hI
    dsimp only
    gi_wp2
    exact hK _ _ bY fun hk => ⟨Y.heap.size, rfl, HF.out hk, hs, hbf⟩
  case body =>
    intro l k a' Y hk hI hax hs
    obtain rfl : k = 0 := by omega
    obtain ⟨bf, rfl, hbY, hbf, hxf⟩ := hax rfl
    clear hI hax
    have bD := (Below.refl Y.heap.size Y).drew
    have hbD := hbY.trans (bD.mono hbY.size)
    have hWY := HB5.out.trans (hbD.mono HB5.out.size)
    have hYs : Y.drew.heap.size = Y.heap.size := rfl
    have hJY := HL.out.grow hWY
    have hbfl : bf < Y.heap.size := (Array.getElem?_eq_some_iff.1 hxf).1
    have hVY := hbY.size
    have LC : (fun V : World => V.heap[W.heap.size]? = some (.cells #[.pointer (some ⟨s, 0, none⟩)] 23 (0, 0)) ∧ V.heap[W.heap.size + 1]? = some (pko p.o.n p.o.e p.o.u p.o.r vD vA vG vB vR vP vS vL (.slice (some ⟨fb, fo, none⟩) 1 fc)) ∧ V.heap[bf]? = some (.cells #[.string ⟨pa.toArray⟩, .string ⟨da.toArray⟩] 73 (0, 0)) ∧ V.heap[bc]? = some (.cells #[.slice (some ⟨g, 0, none⟩) 1 1] 44 (0, 0)) ∧ V.cell? ⟨g, 0, none⟩ = some (.bool (cmy st L pa da o))) Y.drew := ⟨(hbD.block _ (by omega)).trans HY.out.1, (hbD.block _ (by omega)).trans HY.out.2.1, hxf, (hbD.block _ hl53).trans HY.out.2.2.2.1, (hbD.cell (p := ⟨g, 0, none⟩) hl5g).trans HY.out.2.2.2.2⟩
    have cL := lay_any hJY (by omega) p.o.n p.o.e p.o.u p.o.r vD vA vG vB vR vP vS vL (.slice (some ⟨fb, fo, none⟩) 1 fc) pa da st (cmy st L pa da o) (HS.out.up hWY) (by omega) hpa1 hda (by omega) (by omega) (by omega)
    gi_wp2_with fail
    refine region_round (fun V => V.heap[W.heap.size]? = some (.cells #[.pointer (some ⟨s, 0, none⟩)] 23 (0, 0)) ∧ V.heap[W.heap.size + 1]? = some (pko p.o.n p.o.e p.o.u p.o.r vD vA vG vB vR vP vS vL (.slice (some ⟨fb, fo, none⟩) 1 fc)) ∧ V.heap[bf]? = some (.cells #[.string ⟨pa.toArray⟩, .string ⟨da.toArray⟩] 73 (0, 0)) ∧ V.heap[bc]? = some (.cells #[.slice (some ⟨g, 0, none⟩) 1 1] 44 (0, 0)) ∧ V.cell? ⟨g, 0, none⟩ = some (.bool (cmy st L pa da o))) (by kernel_rfl) (by kernel_rfl) (fun ⟨_, _, h⟩ => h) ?_
    refine take_d (some 41) (i := 0) (v := .pointer (some ⟨s, 0, none⟩)) rfl rfl (by as_aux_lemma => kernel_rfl) (by as_aux_lemma => kernel_rfl) (by as_aux_lemma => kernel_rfl) (fun _ _ _ h => h) (.inl ⟨by kernel_rfl, fun w' hw => by have h1 : w'.cell? ⟨W.heap.size, 0, none⟩ = some (.pointer (some ⟨s, 0, none⟩)) := (by simp [World.cell?, hw.1]); simp [go_sem, h1]⟩) LC ?_
    refine take_d (some 42) (i := 1) (v := .agg #[.string ⟨p.o.n.toArray⟩, .int .i64 p.o.e, .string ⟨p.o.u.toArray⟩, .string ⟨p.o.r.toArray⟩, vD, vA, vG, vB, vR, vP, vS, vL, .slice (some ⟨fb, fo, none⟩) 1 fc]) rfl rfl (by as_aux_lemma => kernel_rfl) (by as_aux_lemma => kernel_rfl) (by as_aux_lemma => kernel_rfl) (fun _ _ _ h => h) (.inl ⟨by kernel_rfl, fun w' hw => by have B := pb_blk hw.2.1; have h0 := B.c0; have h1 := B.c1; have h2 := B.c2; have h3 := B.c3; have h4 := B.c4; have h5 := B.c5; have h6 := B.c6; have h7 := B.c7; have h8 := B.c8; have h9 := B.c9; have h10 := B.c10; have h11 := B.c11; have h12 := B.c12; simp [go_sem, h0, h1, h2, h3, h4, h5, h6, h7, h8, h9, h10, h11, h12]⟩) LC ?_
    refine take_d (some 43) (i := 2) (v := .agg #[.string ⟨pa.toArray⟩, .string ⟨da.toArray⟩]) rfl rfl (by as_aux_lemma => kernel_rfl) (by as_aux_lemma => kernel_rfl) (by as_aux_lemma => kernel_rfl) (fun _ _ _ h => h) (.inl ⟨by kernel_rfl, fun w' hw => by have h1 : w'.cell? ⟨bf, 0, none⟩ = some (.string ⟨pa.toArray⟩) := (by simp [World.cell?, hw.2.2.1]); have h2 : w'.cell? ⟨bf, 1, none⟩ = some (.string ⟨da.toArray⟩) := (by simp [World.cell?, hw.2.2.1]); simp [go_sem, h1, h2]⟩) LC ?_
    refine take_d (some 44) (i := 3) (v := .slice (some ⟨g, 0, none⟩) 1 1) rfl rfl (by as_aux_lemma => kernel_rfl) (by as_aux_lemma => kernel_rfl) (by as_aux_lemma => kernel_rfl) (fun _ _ _ h => h) (.inl ⟨by kernel_rfl, fun w' hw => by have h1 : w'.cell? ⟨bc, 0, none⟩ = some (.slice (some ⟨g, 0, none⟩) 1 1) := (by simp [World.cell?, hw.2.2.2.1]); simp [go_sem, h1]⟩) LC ?_
    refine take_d (some 45) (i := 4) (v := .int .i64 0) rfl rfl (by as_aux_lemma => kernel_rfl) (by as_aux_lemma => kernel_rfl) (by as_aux_lemma => kernel_rfl) (fun _ _ _ h => h) (.inl ⟨by kernel_rfl, fun w' _ => by simp [go_sem]⟩) LC ?_
    refine take_d (some 46) (i := 5) (v := .pointer (some ⟨g, 0, none⟩)) rfl rfl (by as_aux_lemma => kernel_rfl) (by as_aux_lemma => kernel_rfl) (by as_aux_lemma => kernel_rfl) (fun _ _ _ h => h) (.inl ⟨by kernel_rfl, fun w' _ => by simp [go_sem]⟩) LC ?_
    refine take_d (some 47) (i := 6) (v := .bool (cmy st L pa da o)) rfl rfl (by as_aux_lemma => kernel_rfl) (by as_aux_lemma => kernel_rfl) (by as_aux_lemma => kernel_rfl) (fun _ _ _ h => h) (.inl ⟨by kernel_rfl, fun w' hw => by simp [go_sem, hw.2.2.2.2]⟩) LC ?_
    try simp only [Act.put, List.setIfInBounds_toArray, List.set_cons_succ, List.set_cons_zero]
    refine wpAnyH_all (rs := [7]) (by as_aux_lemma => kernel_rfl) (by simp) fun j hj => ?_
    obtain rfl : j = 7 := by simpa using hj
    refine wpOp_want rfl (by kernel_rfl) ?_
    unfold Oper.wp
    simp [go_sem]
    refine cL.mono ?_
    rintro z Y2 ⟨rfl, hz2, hJ2⟩
    replace LC : (fun V : World => V.heap[W.heap.size]? = some (.cells #[.pointer (some ⟨s, 0, none⟩)] 23 (0, 0)) ∧ V.heap[W.heap.size + 1]? = some (pko p.o.n p.o.e p.o.u p.o.r vD vA vG vB vR vP vS vL (.slice (some ⟨fb, fo, none⟩) 1 fc)) ∧ V.heap[bf]? = some (.cells #[.string ⟨pa.toArray⟩, .string ⟨da.toArray⟩] 73 (0, 0)) ∧ V.heap[bc]? = some (.cells #[.slice (some ⟨g, 0, none⟩) 1 1] 44 (0, 0)) ∧ V.cell? ⟨g, 0, none⟩ = some (.bool (cmy st L pa da o))) Y2 := ⟨(hz2 _ (by omega) (by omega)).trans LC.1, (hz2 _ (by omega) (by omega)).trans LC.2.1, (hz2 _ (by omega) (by omega)).trans LC.2.2.1, (hz2 _ (by omega) (by omega)).trans LC.2.2.2.1, (hz2.cell (by omega) (by omega)).trans LC.2.2.2.2⟩
    refine ⟨LC, ?_⟩
    refine take_d (some 14) (i := 8) (v := .nilIface) rfl rfl (by as_aux_lemma => kernel_rfl) (by as_aux_lemma => kernel_rfl) (by as_aux_lemma => kernel_rfl) (fun _ _ _ h => h) (.inl ⟨by kernel_rfl, fun w' _ => by simp [go_sem]⟩) LC ?_
    simp only [Act.put, List.setIfInBounds_toArray, List.set_cons_succ, List.set_cons_zero]
    refine wpAnyH_done (by as_aux_lemma => kernel_rfl) ?_ _
    have HF : Hid ((Y2.heap[V5.heap.size]? = Y.heap[V5.heap.size]? ∧ Y2.heap[V5.heap.size + 1]? = Y.heap[V5.heap.size + 1]?) ∧ Y2.heap[Bs]? = Y.heap[Bs]? ∧ PI w V5 s d (ptL L p.o.n pa da st o) lo (0 + 1) Y2) := by
      refine ⟨⟨hz2 _ (by omega) (by omega), hz2 _ (by omega) (by omega)⟩, hz2 _ (by omega) (by omega), ?_⟩
      unfold PI
      rw [if_neg (by omega)]
      exact ⟨hJ2.less (by omega), (Zn.below (lo := lo) hbD (Nat.le_refl _)).trans (hz2.mono (Nat.le_refl _) (by omega))⟩
    clear LC cL hz2 hJ2 hxf hbY hbD hWY hJY bD
    gi_wp2
    exact HF.out
  case done =>
    intro D Y hD hI hK
    unfold PI at hI
    rw [if_neg (by omega)] at hI
    obtain ⟨hJ, hZ⟩ := hI
    have hsY := hJ.hs
    have z0 := (hZ W.heap.size (by omega) (by omega)).trans HY.out.1
    have z1 := (hZ (W.heap.size + 1) (by omega) (by omega)).trans HY.out.2.1
    have z2 := (hZ (W.heap.size + 2) (by omega) hl52).trans HY.out.2.2.1
    have c0 : Y.cell? ⟨W.heap.size, 0, none⟩ = some (.pointer (some ⟨s, 0, none⟩)) := by simp [World.cell?, z0]
    have B := Lib.hid (pb_blk z1)
    have hFsY : Fs Y (.slice (some ⟨fb, fo, none⟩) 1 fc) [(pa, da)] := ⟨.inr ⟨fb, fo, fc, rfl, by have := HFC.out; simpa using this, by omega, fun i hi => (hZ.cell hfb hfb5).trans (hFr5.c0 i hi), fun i hi => (hZ.cell hfb hfb5).trans (hFr5.c1 i hi)⟩⟩
    have cC := clear_any hJ hl2 p.o.n (some pa) HO2.out p.o.e p.o.u p.o.r vD vA vG vB vR vP vS vL (.slice (some ⟨fb, fo, none⟩) 1 fc) pa da hFsY (.inr rfl) (by omega)
    have HJd := Lib.hid hJ
    have HZd := Lib.hid hZ
    have H2 := Lib.hid z2
    have HK := Lib.hid hK
    have hlY : W.heap.size + 2 < Y.heap.size := by omega
    have HDD := Lib.hid hD
    clear hJ hZ z0 z1 z2 hFsY hK hD HY hbs hFr5 HJ HL HS HA HFr HO
    have q0 := B.out.c0
    have q1 := B.out.c1
    have q2 := B.out.c2
    have q3 := B.out.c3
    have q4 := B.out.c4
    have q5 := B.out.c5
    have q6 := B.out.c6
    have q7 := B.out.c7
    have q8 := B.out.c8
    have q9 := B.out.c9
    have q10 := B.out.c10
    have q11 := B.out.c11
    have q12 := B.out.c12
    gi_wp2_with fail
    refine ⟨trivial, (callsIn_wide.2 cC).mono ?_⟩
    rintro x Y2 ⟨rfl, b2⟩
    have z2 := (b2.block _ (by omega)).trans H2.out
    have r0 : Y2.cell? ⟨W.heap.size + 1 + 1, 0, none⟩ = some .nilIface := by simp [World.cell?, z2]
    have f0 : Y2.frozen? ⟨W.heap.size + 1 + 1, 0, none⟩ = false := by simp [World.frozen?, z2]
    have hl2Y : W.heap.size + 1 + 1 < Y2.heap.size := (Array.getElem?_eq_some_iff.1 z2).1
    have hKD : Y.heap[D]? = some (.deferred (some [])) := HK.out
    have kD : (Y2.setCell ⟨W.heap.size + 1 + 1, 0, none⟩ .nilIface).heap[D]? = some (.deferred (some [])) := by
      rw [Below.heap_setCell Y2 ⟨W.heap.size + 1 + 1, 0, none⟩ .nilIface D (by show D ≠ W.heap.size + 1 + 1; have := HDD.out; omega)]
      exact (b2.block D (by have := HDD.out; omega)).trans hKD
    have hJ2 := ((HJd.out.up b2).setc (j := W.heap.size + 1 + 1) (i := 0) (by omega) (by omega) (by omega) .nilIface).putObj (j := D) (by have := HDD.out; omega) (by have := HDD.out; omega) (by have := HDD.out; omega) (.deferred none)
    have hZ2 : Zn lo W.heap.size W ((Y2.setCell ⟨W.heap.size + 1 + 1, 0, none⟩ .nilIface).putObj D (.deferred none)) := by
      refine Zn.putObj ?_ (by have := HDD.out; omega) _
      intro k k1 k2
      rw [Below.heap_setCell Y2 ⟨W.heap.size + 1 + 1, 0, none⟩ .nilIface k (by show k ≠ W.heap.size + 1 + 1; omega)]
      exact (b2.block k (by omega)).trans ((HZd.out k k1 (by omega)).trans (HB5.out.block k k2))
    have r1 : ((Y2.setCell ⟨W.heap.size + 1 + 1, 0, none⟩ .nilIface).putObj D (.deferred none)).cell? ⟨W.heap.size + 1 + 1, 0, none⟩ = some .nilIface := by
      have hne : W.heap.size + 1 + 1 ≠ D := by have := HDD.out; omega
      rw [World.cell?_of_block (w := Y2.setCell ⟨W.heap.size + 1 + 1, 0, none⟩ .nilIface) (a := ⟨W.heap.size + 1 + 1, 0, none⟩) (World.putObj_heap_other hne)]
      exact World.cell?_setCell_same' _ _ _ (by rw [r0]; rfl)
    have HF : Hid (Zn lo W.heap.size W ((Y2.setCell ⟨W.heap.size + 1 + 1, 0, none⟩ .nilIface).putObj D (.deferred none)) ∧ SJ w s d (ptL L p.o.n pa da st o) lo W.heap.size ((Y2.setCell ⟨W.heap.size + 1 + 1, 0, none⟩ .nilIface).putObj D (.deferred none))) := ⟨hZ2, hJ2.less (by omega)⟩
    have HKD := Lib.hid kD
    clear cC b2 z2 hKD kD hJ2 hZ2 HJd HZd H2 HK B c0 q0 q1 q2 q3 q4 q5 q6 q7 q8 q9 q10 q11 q12
    gi_wp2
    refine ⟨by simp, .inl ⟨_, _, rfl, run_takeDeferred HKD.out, ?_⟩⟩
    exact ⟨.nilIface, by simp only [results, Tryz.results14]; simp [go_sem, r1], rfl, HF.out.1, HF.out.2⟩
end
end Go.Proofs.YtppogjjhippefaaGreatDoor.Dsk
