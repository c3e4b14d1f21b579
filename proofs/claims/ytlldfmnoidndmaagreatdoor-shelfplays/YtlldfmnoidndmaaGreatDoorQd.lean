/- A shelf: Put walked. -/
import Derived.Test.YtlldfmnoidndmaaGreatDoorRl
import Derived.Test.YtlldfmnoidndmaaGreatDoorSf
import Derived.Test.YtlldfmnoidndmaaGreatDoorAx
import Derived.Test.YtlldfmnoidndmaaGreatDoorTr
import Derived.BigRegion
import Derived.ControlIn
import Derived.LoopIn
import Derived.LoopNIn
import Derived.OrdersHeld
import Derived.OrdersIn
import Derived.OwnWalkIn
import Derived.RangeFuncBound
import Derived.RangeFuncCalls
import Derived.RangeFuncFrom
import Derived.Shelf.Abstract
import Derived.Shelf.RegionOpen
import Derived.TacticsInMore
import Derived.WalkKit
namespace Go.Proofs.YtlldfmnoidndmaaGreatDoor.Dsk
open Go.RowKit Go.Sort Go.Maps
attribute [local go_sem] Oper.semAt_some

/-- What tells whose a path is, is short enough. -/
structure Gd (L : Kv Ent) : Prop where
  s : Srt L
  o : ∀ k e, lkL k L = some e → isO k = true → k.length ≤ 902 ∧ e.now.length ≤ 1000
theorem Gd.osm {L : Kv Ent} (h : Gd L) : Osm L := fun k hk hi => by
  obtain ⟨⟨k', e⟩, hm, rfl⟩ := List.mem_map.1 hk
  have hl := (lk_iff h.s).2 hm
  have := h.o _ _ hl hi
  dsimp only at hl ⊢
  rw [ent_lk hl]
  exact ⟨by omega, this.2⟩
theorem Gd.pts {L : Kv Ent} (h : Gd L) {m q : List UInt8} (hq : q ∈ pts L m) : q.length ≤ 900 := by
  obtain ⟨e, h1, _⟩ := (mem_pts h.s).1 hq
  have := (h.o _ _ h1 (isO_o q)).1
  simp at this
  omega
theorem Gd.kp {L : Kv Ent} (h : Gd L) (f t : List UInt8) (hf : isO f = true → f.length ≤ 902 ∧ t.length ≤ 1000) : Gd (kpL L f t) := by
  refine ⟨kpL_srt h.s f t, fun k e hl hi => ?_⟩
  rw [kpL_lk h.s] at hl
  split at hl
  · rename_i hk
    cases hl
    rw [hk] at hi ⊢
    exact hf hi
  · split at hl
    · cases hl
    · exact h.o k e hl hi
theorem Gd.del {L : Kv Ent} (h : Gd L) (k0 : List UInt8) : Gd (delL k0 L) := by
  refine ⟨h.s.del k0, fun k e hl hi => ?_⟩
  by_cases hk : k = k0
  · rw [hk, lk_del_same] at hl
    cases hl
  · rw [lk_del_other h.s hk] at hl
    exact h.o k e hl hi
theorem isO_c (p : List UInt8) : isO ([99, 47] ++ p) = false := by simp [isO, Lib.hasPrefix, List.isPrefixOf]
theorem isO_d (p : List UInt8) : isO ([100, 47] ++ p) = false := by simp [isO, Lib.hasPrefix, List.isPrefixOf]
/-- One file is laid. -/
def layF (n : List UInt8) (SS : List (List UInt8)) (L : Kv Ent) (x : (List UInt8 × List UInt8) × Bool) : Kv Ent := ly3 (ly2 (ly1 L n x.1.1) x.1.1 x.1.2 x.2) x.1.1 x.1.2 (SS.contains x.1.1)
/-- What Put leaves. -/
def ptG (L : Kv Ent) (n : List UInt8) (SS : List (List UInt8)) (F : List (List UInt8 × List UInt8)) (cm : List Bool) : Kv Ent := clL F ((F.zip cm).reverse.foldl (layF n SS) L) n
def putG (L : Kv Ent) (n : List UInt8) (SS : List (List UInt8)) (F : List (List UInt8 × List UInt8)) (aw : List Bool) : Kv Ent := ptG L n SS F (cml L SS F aw)
theorem lay_one {L : Kv Ent} {n : List UInt8} {SS : List (List UInt8)} (hS : Srt L) (hG : Gd L) (hn : n.length ≤ 1000) (x : (List UInt8 × List UInt8) × Bool) (hx : x.1.1.length ≤ 60 ∧ x.1.2.length ≤ 500) : Srt (layF n SS L x) ∧ Gd (layF n SS L x) ∧ tot nl (layF n SS L x) ≤ tot nl L + 3000 ∧ (layF n SS L x).length ≤ L.length + 3 := by
  obtain ⟨⟨p, t⟩, c⟩ := x
  dsimp only at hx
  unfold layF
  dsimp only
  obtain ⟨s1, t1, l1⟩ := ly1_all hS n p hn
  have g1 : Gd (ly1 L n p) := by
    unfold ly1
    split
    · exact hG
    · exact hG.kp _ _ fun _ => ⟨by simp; omega, hn⟩
  obtain ⟨s2, t2, l2⟩ := ly2_all s1 p t c (by omega)
  have g2 : Gd (ly2 (ly1 L n p) p t c) := by
    unfold ly2
    split
    · exact g1.kp _ _ fun h => by rw [isO_d] at h; cases h
    · exact g1
  generalize ly2 (ly1 L n p) p t c = L2 at s2 t2 l2 g2 ⊢
  unfold ly3
  split
  · have := kpL_le s2 ([99, 47] ++ p) t
    exact ⟨kpL_srt s2 _ _, g2.kp _ _ (fun h => by rw [isO_c] at h; cases h), by omega, by omega⟩
  · have h1 := tot_del_le s2 ([99, 47] ++ p)
    have h2 := len_del (L := L2) ([99, 47] ++ p)
    exact ⟨s2.del _, g2.del _, by omega, by omega⟩
theorem lays_all {L : Kv Ent} {n : List UInt8} {SS : List (List UInt8)} (hS : Srt L) (hG : Gd L) (hn : n.length ≤ 1000) : ∀ R : List ((List UInt8 × List UInt8) × Bool), (∀ x ∈ R, 1 ≤ x.1.1.length ∧ x.1.1.length ≤ 60 ∧ x.1.2.length ≤ 500) → Srt (R.foldl (layF n SS) L) ∧ Gd (R.foldl (layF n SS) L) ∧ tot nl (R.foldl (layF n SS) L) ≤ tot nl L + 3000 * R.length ∧ (R.foldl (layF n SS) L).length ≤ L.length + 3 * R.length := fun R => by
  induction R generalizing L with
  | nil => exact fun _ => ⟨hS, hG, by simp, by simp⟩
  | cons x R ih =>
    intro hx
    obtain ⟨h1, h2, h3, h4⟩ := lay_one (SS := SS) hS hG hn x (hx x (List.mem_cons_self)).2
    obtain ⟨k1, k2, k3, k4⟩ := ih h1 h2 fun y hy => hx y (List.mem_cons_of_mem _ hy)
    rw [List.foldl_cons, List.length_cons]
    exact ⟨k1, k2, by omega, by omega⟩
theorem aok_len {p : Pck} (h : aok p = true) : p.F.length ≤ 20 := by
  unfold aok fk at h
  simp only [Bool.and_eq_true, decide_eq_true_eq] at h
  exact h.2.1.1
theorem aok_slen {p : Pck} (h : aok p = true) : p.S.length ≤ 20 := by
  unfold aok rok pths at h
  simp only [Bool.and_eq_true, decide_eq_true_eq] at h
  exact h.1.2.2.2.2.2.2.2.2.2.1.1
theorem aok_pth {p : Pck} (h : aok p = true) {i : Nat} (hi : i < p.F.length) : pth p.F[i].1 = true ∧ ((p.F.take i).any fun g => csh g.1 p.F[i].1) = false := by
  unfold aok fk at h
  simp only [Bool.and_eq_true, decide_eq_true_eq, List.all_eq_true] at h
  have := h.2.1.2 i (List.mem_range.2 hi)
  rw [fki_at hi] at this
  simpa using this
theorem aok_file {p : Pck} (h : aok p = true) (hp : Pg p) {f : List UInt8 × List UInt8} (hf : f ∈ p.F) : 1 ≤ f.1.length ∧ f.1.length ≤ 60 ∧ f.2.length ≤ 500 := by
  obtain ⟨i, hi, rfl⟩ := List.getElem_of_mem hf
  have h1 := (aok_pth h hi).1
  unfold pth at h1
  simp only [Bool.and_eq_true, decide_eq_true_eq] at h1
  have h2 := hp.F
  unfold fls at h2
  simp only [Bool.and_eq_true, decide_eq_true_eq, List.all_eq_true] at h2
  have h3 := h2.2 _ hf
  exact ⟨h1.1.1, h1.1.2, h3.2⟩
theorem fq_of {W : World} {A : Option Addr} {c : Nat} {F : List (List UInt8 × List UInt8)} (h : Fs W (.slice A F.length c) F) : Fq W A F := fun i hi => by
  rcases h.is with ⟨h1, _⟩ | ⟨b, o, c', h1, _, h3⟩
  · rw [h1] at hi; simp at hi
  · cases h1
    exact ⟨b, o, rfl, h3.lt, h3.c0 i hi, h3.c1 i hi⟩
section
variable {w W W2 A : World} {s d : Nat} {Z : Nat → Prop} {L : Kv Ent}
theorem SJ.putObj (h : SJ w s d L Z A) {j : Nat} (hw : w.heap.size ≤ j) (h1 : Z j) (o' : Obj) : SJ w s d L Z (A.putObj j o') := by
  obtain ⟨mb, hX⟩ := h
  have hn : ∀ k, (k = s ∨ DX d mb k) → k ≠ j := fun k hk e => hX.hz k hk (by rw [e]; exact h1)
  have hg := grownBy_putObj' A j o'
  have hk : ∀ k, k < A.heap.size → (k = s ∨ DX d mb k) → (A.putObj j o').heap[k]? = A.heap[k]? := fun k _ hx => World.putObj_heap_other (hn k hx)
  exact ⟨mb, hX.bl.grown hg hX.bl.size (fun r e => by cases e; exact hw), (hk s (hX.lt s (.inl rfl)) (.inl rfl)).trans hX.blk, hX.pd.on fun k hk' hx => hk k hk' (.inr hx), hX.sp, hX.hx, hX.hz, fun k hk => Nat.lt_of_lt_of_le (hX.hs k hk) hg.size⟩
theorem SJ.setc (h : SJ w s d L Z A) {j i : Nat} (hw : w.heap.size ≤ j) (h1 : Z j) (v : Value) : SJ w s d L Z (A.setCell ⟨j, i, none⟩ v) := by
  obtain ⟨mb, hX⟩ := h
  have hn : ∀ k, (k = s ∨ DX d mb k) → k ≠ j := fun k hk e => hX.hz k hk (by rw [e]; exact h1)
  have hk : ∀ k, k < A.heap.size → (k = s ∨ DX d mb k) → (A.setCell ⟨j, i, none⟩ v).heap[k]? = A.heap[k]? := fun k _ hx => Below.heap_setCell A ⟨j, i, none⟩ v k (hn k hx)
  exact ⟨mb, hX.bl.setCell (p := ⟨j, i, none⟩) hw v, (hk s (hX.lt s (.inl rfl)) (.inl rfl)).trans hX.blk, hX.pd.on fun k hk' hx => hk k hk' (.inr hx), hX.sp, hX.hx, hX.hz, fun k hk => by simpa using hX.hs k hk⟩
theorem Zn.putObj {B : World} {j : Nat} (h : Zn Z B A) (h2 : ∀ k, Z k → k ≠ j) (o' : Obj) : Zn Z B (A.putObj j o') := fun k k1 => (World.putObj_heap_other (h2 k k1)).trans (h k k1)
set_option maxRecDepth 100000 in
theorem backward_any (A : Option Addr) (n c : Nat) (W : World) : Calls Tryz.prog 52 #[.slice A n c] W fun x W2 => x = .returned (.func (.func 97) #[] #[.pointer (some ⟨W.heap.size, 0, none⟩)]) ∧ W2 = W.alloc (.cells #[.slice A n c] 41) := by
  go_enter Tryz.func52, Tryz.ntmps52
  go_wp2
  go_ret
  exact ⟨rfl, rfl⟩
theorem pb_blk {V : World} {b : Nat} {p : Pck} {vD vA vG vB vR vP vS vL vF : Value} (h : V.heap[b]? = some (pko p.o.n p.o.e p.o.u p.o.r vD vA vG vB vR vP vS vL vF)) : Pb V b p vD vA vG vB vR vP vS vL vF :=
  ⟨by simp [World.cell?, h], by simp [World.cell?, h], by simp [World.cell?, h], by simp [World.cell?, h], by simp [World.cell?, h], by simp [World.cell?, h], by simp [World.cell?, h], by simp [World.cell?, h], by simp [World.cell?, h], by simp [World.cell?, h], by simp [World.cell?, h], by simp [World.cell?, h], by simp [World.cell?, h]⟩
/-- The loop of Put. -/
def PJ (w W V : World) (s d : Nat) (lk : Nat → Kv Ent) (Z : Nat → Prop) (k : Nat) (A : World) : Prop := if k = 0 then Below V.heap.size V A else SJ w s d (lk k) (Zu Z W.heap.size (V.heap.size + 2)) A ∧ Zn (Zu Z W.heap.size V.heap.size) V A
def PX (w W V : World) (s d : Nat) (lk : Nat → Kv Ent) (Z : Nat → Prop) (k bf : Nat) (f : List UInt8 × List UInt8) (A : World) : Prop := V.heap.size + 2 ≤ bf ∧ A.heap[bf]? = some (.cells #[.string ⟨f.1.toArray⟩, .string ⟨f.2.toArray⟩] 73 (0, 0)) ∧ SJ w s d (lk k) (Zu (Zu Z W.heap.size (V.heap.size + 2)) bf (bf + 1)) A ∧ Zn (Zu Z W.heap.size V.heap.size) V A
theorem zu_lt {V : World} (h : ∀ k, Z k → k < W.heap.size) (hb : W.heap.size ≤ V.heap.size) : ∀ k, Zu Z W.heap.size V.heap.size k → k < V.heap.size := fun k hk => by
  rcases hk with hk | hk
  · exact Nat.lt_of_lt_of_le (h k hk) hb
  · exact hk.2
theorem PJ.out {V Y : World} {lk : Nat → Kv Ent} {k : Nat} (h : PJ w W V s d lk Z k Y) (h0 : SJ w s d (lk 0) Z W) (hb : Below W.heap.size W V) (hs : V.heap.size + 2 ≤ Y.heap.size) : SJ w s d (lk k) (Zu Z W.heap.size (V.heap.size + 2)) Y ∧ Zn (Zu Z W.heap.size V.heap.size) V Y := by
  unfold PJ at h
  split at h
  · rename_i hk
    subst hk
    refine ⟨(h0.add (hb.trans (h.mono hb.size))).less fun k hk => ?_, Zn.below h (zu_lt h0.hs hb.size)⟩
    rcases hk with hk | hk
    · exact .inl hk
    · exact .inr ⟨hk.1, by omega⟩
  · exact h
set_option maxRecDepth 100000 in
set_option maxHeartbeats 8000000 in
theorem put_gen (h : SJ w s d L Z W) (p : Pck) (vD vA vG vB vR vP vS vL vF va : Value) (ft : Nat) (cap : Array Value) (tk : List UInt8 → Bool) (aw : List Bool)
    (hz : Pz W p vD vA vG vB vR vP vS vL vF) (hp : Pg p) (hT : Tab W) (hM : MaxN W) (hok : aok p = true) (hF : Fz Z W vF p.F) (hS : Sl Z W vS p.S) (hA : An W va aw) (hGd : Gd L) (ht : tot nl L ≤ 900000) (hl : L.length ≤ 4700)
    (hm : ∀ m V, m ∈ ows L → Below W.heap.size W V → Calls Tryz.prog 46 #[.func (.func ft) #[] cap, .string ⟨m.toArray⟩] V fun e w' => e = .returned (.bool (tk m)) ∧ Below V.heap.size V w') :
    Calls Tryz.prog 14 #[.pointer (some ⟨s, 0, none⟩), pkv p.o.n p.o.e p.o.u p.o.r vD vA vG vB vR vP vS vL vF, .func (.func ft) #[] cap, va] W fun x W2 =>
      (Clr L p.o.n tk p.F (-1) [] ∧ x = .returned .nilIface ∧ Zn Z W W2 ∧ SJ w s d (putG L p.o.n p.S p.F aw) Z W2) ∨
      (∃ (i : Nat) (m : List UInt8), Clr L p.o.n tk p.F i m ∧ ∃ g, x = .returned (.iface 99 (.pointer (some ⟨g, 0, none⟩))) ∧ W.heap.size ≤ g ∧ W2.heap[g]? = some (.cells #[.int .i64 9, .int .i64 i] 100 (0, 0)) ∧ Zn Z W W2 ∧ SJ w s d L Z W2) := by
  obtain ⟨fA, fc, rfl⟩ : ∃ fA fc, vF = .slice fA p.F.length fc := by
    rcases hF.fs.is with ⟨h, A, c, h1⟩ | ⟨b, o, c, h1, _⟩
    · rw [h]; exact ⟨_, _, h1⟩
    · exact ⟨_, _, h1⟩
  have HFp : Hid (∀ f ∈ p.F, 1 ≤ f.1.length ∧ f.1.length ≤ 60 ∧ f.2.length ≤ 500) := fun f hf => aok_file hok hp hf
  have hFl : p.F.length ≤ 20 := aok_len hok
  have hSl : p.S.length ≤ 20 := aok_slen hok
  have HG := Lib.hid hGd
  clear hGd
  have b1 := (Below.refl W.heap.size W).alloc (Nat.le_refl _) (.cells #[.pointer (some ⟨s, 0, none⟩)] 23)
  have b2 := b1.alloc b1.size (pko p.o.n p.o.e p.o.u p.o.r vD vA vG vB vR vP vS vL (.slice fA p.F.length fc))
  have b3 := b2.alloc b2.size (.cells #[.nilIface] 25)
  have cR := aright_any p vD vA vG vB vR vP vS vL (.slice fA p.F.length fc) _ (hz.on b3) hp (tab_on hT b3) (hM.on b3)
  rw [hok] at cR
  have hnl := hp.n
  have hwW0 := h.bl.size
  clear hz hT hM hok
  refine (callsIn_wide (n := 9)).1 ?_
  refine callsIn_of_wp_marks Tryz.func14 rfl trivial ?_ rfl
  simp only [Tryz.ntmps14, List.size_toArray, List.length_cons, List.length_nil, Nat.reduceAdd, Nat.reduceSub, Array.replicate_succ, Array.replicate_zero, List.push_toArray, List.append_toArray, List.nil_append, List.cons_append]
  have hP := nb0 (W.alloc (.cells #[.pointer (some ⟨s, 0, none⟩)] 23)) (pko p.o.n p.o.e p.o.u p.o.r vD vA vG vB vR vP vS vL (.slice fA p.F.length fc))
  rw [World.size_alloc] at hP
  obtain ⟨V0, hV0⟩ : ∃ V0, V0 = (W.alloc (.cells #[.pointer (some ⟨s, 0, none⟩)] 23)).alloc (pko p.o.n p.o.e p.o.u p.o.r vD vA vG vB vR vP vS vL (.slice fA p.F.length fc)) := ⟨_, rfl⟩
  have hsz0 : V0.heap.size = W.heap.size + 2 := by rw [hV0]; simp
  have x0 : (V0.alloc (.cells #[.nilIface] 25)).heap[W.heap.size]? = some (.cells #[.pointer (some ⟨s, 0, none⟩)] 23 (0, 0)) := by
    rw [Below.heap_alloc _ _ W.heap.size (by omega), hV0, Below.heap_alloc _ _ W.heap.size (by simp)]
    exact nb0 _ _
  have x1 : (V0.alloc (.cells #[.nilIface] 25)).heap[W.heap.size + 1]? = some (pko p.o.n p.o.e p.o.u p.o.r vD vA vG vB vR vP vS vL (.slice fA p.F.length fc)) := by
    rw [Below.heap_alloc _ _ (W.heap.size + 1) (by omega), hV0]
    exact hP
  have x2 : (V0.alloc (.cells #[.nilIface] 25)).heap[W.heap.size + 2]? = some (.cells #[.nilIface] 25 (0, 0)) := by
    have := nb0 V0 (.cells #[.nilIface] 25)
    rwa [hsz0] at this
  have HX0 := Lib.hid x0
  have HX1 := Lib.hid x1
  have HX2 := Lib.hid x2
  have HB3 := Lib.hid b3
  have HJ := Lib.hid h
  have HS := Lib.hid hS
  have HA := Lib.hid hA
  have HFz := Lib.hid hF
  have HM0 := Lib.hid hm
  rw [← hV0] at HB3
  clear x0 x1 x2 hP b1 b2 b3 h hS hA hF hm
  gi_wp2_with fail
  rw [hV0] at HX0 HX1 HX2 HB3
  refine ⟨trivial, (callsIn_wide.2 cR).mono ?_⟩
  rintro x V1 ⟨rfl, bR⟩
  have hb1 := HB3.out.trans (bR.mono HB3.out.size)
  have hx0 := (bR.block _ (Array.getElem?_eq_some_iff.1 HX0.out).1).trans HX0.out
  have hx1 := (bR.block _ (Array.getElem?_eq_some_iff.1 HX1.out).1).trans HX1.out
  have hx2 := (bR.block _ (Array.getElem?_eq_some_iff.1 HX2.out).1).trans HX2.out
  have B := Lib.hid (pb_blk hx1)
  have c0 : V1.cell? ⟨W.heap.size, 0, none⟩ = some (.pointer (some ⟨s, 0, none⟩)) := by simp [World.cell?, hx0]
  have hl2' : W.heap.size + 2 < V1.heap.size := (Array.getElem?_eq_some_iff.1 hx2).1
  have cC := clash_gen (HJ.out.up hb1) (by omega) HG.out.osm p.o.n (by omega) p.o.e p.o.u p.o.r vD vA vG vB vR vP vS vL (.slice fA p.F.length fc) ft cap tk p.F (HFz.out.fs.on hb1) (by omega) (fun f hf => by have := HFp.out f hf; omega) (fun m q hq => HG.out.pts hq) (fun m V hm hV => HM0.out m V hm (hb1.trans (hV.mono hb1.size)))
  have H0 := Lib.hid hx0
  have H1 := Lib.hid hx1
  have H2 := Lib.hid hx2
  have HB1 := Lib.hid hb1
  clear cR bR hb1 hx0 hx1 hx2 HX0 HX1 HX2 HB3 hV0 hsz0 V0
  have q0 := B.out.c0
  have q1 := B.out.c1
  have q2 := B.out.c2
  have q3 := B.out.c3
  have q4 := B.out.c4
  have q5 := B.out.c5
  have q6 := B.out.c6
  have q7 := B.out.c7
  have q8 := B.out.c8
  have q9 := B.out.c9
  have q10 := B.out.c10
  have q11 := B.out.c11
  have q12 := B.out.c12
  gi_wp2_with fail
  refine ⟨trivial, (callsIn_wide.2 cC).mono ?_⟩
  rintro x V2 ⟨⟨ci, cn, rfl, hcl⟩, b2⟩
  have hb2 := HB1.out.trans (b2.mono HB1.out.size)
  have hx0 := (b2.block _ (Array.getElem?_eq_some_iff.1 H0.out).1).trans H0.out
  have hx1 := (b2.block _ (Array.getElem?_eq_some_iff.1 H1.out).1).trans H1.out
  have hx2 := (b2.block _ (Array.getElem?_eq_some_iff.1 H2.out).1).trans H2.out
  have HCl := Lib.hid hcl
  cases hcl with
  | yes i hi j hj h1 h2 h3 =>
    have r0 : V2.cell? ⟨W.heap.size + 1 + 1, 0, none⟩ = some .nilIface := by simp [World.cell?, hx2]
    have f0 : V2.frozen? ⟨W.heap.size + 1 + 1, 0, none⟩ = false := by simp [World.frozen?, hx2]
    have hl2Y : W.heap.size + 1 + 1 < V2.heap.size := (Array.getElem?_eq_some_iff.1 hx2).1
    obtain ⟨nm, hnm⟩ : ∃ nm, nm = (owx L p.o.n)[j] := ⟨_, rfl⟩
    rw [← hnm] at HCl
    rw [← hnm]
    have HJ3 := Lib.hid (HJ.out.add hb2)
    have HB2 := Lib.hid hb2
    have HZ2 := Lib.hid (Zn.below hb2 HJ.out.hs)
    have HZs := Lib.hid HJ.out.hs
    have hige : (0 : Int) ≤ (i : Int) := by omega
    clear h1 h2 h3 hnm hx0 hx1 hx2 hb2 cC b2 HJ HS HA HFz HM0
    gi_wp2
    have hs1 : W.heap.size + 1 + 1 ≠ V2.heap.size := by omega
    have bS := (Below.refl V2.heap.size (V2.setCell ⟨W.heap.size + 1 + 1, 0, none⟩ (.iface 99 (.pointer (some ⟨V2.heap.size, 0, none⟩))))).alloc (by simp) (.cells #[.int .i64 9, .int .i64 i] 100)
    have r1 : ((V2.setCell ⟨W.heap.size + 1 + 1, 0, none⟩ (.iface 99 (.pointer (some ⟨V2.heap.size, 0, none⟩)))).alloc (.cells #[.int .i64 9, .int .i64 i] 100)).cell? ⟨W.heap.size + 1 + 1, 0, none⟩ = some (.iface 99 (.pointer (some ⟨V2.heap.size, 0, none⟩))) := by
      rw [bS.cell (p := ⟨W.heap.size + 1 + 1, 0, none⟩) hl2Y]
      exact World.cell?_setCell_same' _ _ _ (by rw [r0]; rfl)
    have g1 := nb0 (V2.setCell ⟨W.heap.size + 1 + 1, 0, none⟩ (.iface 99 (.pointer (some ⟨V2.heap.size, 0, none⟩)))) (.cells #[.int .i64 9, .int .i64 i] 100)
    rw [World.size_setCell] at g1
    have hWs := HB2.out.size
    have j1 : SJ w s d L Z ((V2.setCell ⟨W.heap.size + 1 + 1, 0, none⟩ (.iface 99 (.pointer (some ⟨V2.heap.size, 0, none⟩)))).alloc (.cells #[.int .i64 9, .int .i64 i] 100)) := (HJ3.out.setc (j := W.heap.size + 1 + 1) (i := 0) (by omega) (.inr ⟨by omega, hl2Y⟩) (.iface 99 (.pointer (some ⟨V2.heap.size, 0, none⟩)))).up ((Below.refl _ _).alloc (Nat.le_refl _) _) |>.less fun _ => .inl
    have z1 : Zn Z W ((V2.setCell ⟨W.heap.size + 1 + 1, 0, none⟩ (.iface 99 (.pointer (some ⟨V2.heap.size, 0, none⟩)))).alloc (.cells #[.int .i64 9, .int .i64 i] 100)) := fun k hk => by
      have hkW := HZs.out k hk
      rw [bS.block k (by omega), Below.heap_setCell V2 ⟨W.heap.size + 1 + 1, 0, none⟩ _ k (by show k ≠ W.heap.size + 1 + 1; omega)]
      exact HZ2.out k hk
    exact ⟨.iface 99 (.pointer (some ⟨V2.heap.size, 0, none⟩)), by simp only [results, Tryz.results14]; simp [go_sem, r1], .inr ⟨i, nm, HCl.out, V2.heap.size, rfl, hWs, g1, z1, j1⟩⟩
  | no hno =>
  clear hno
  have cM := comes_gen (HJ.out.up hb2) p.o.n p.o.e p.o.u p.o.r vD vA vG vB vR vP vS vL (.slice fA p.F.length fc) va p.S p.F aw (HS.out.up hb2).ss (by omega) (HFz.out.fs.on hb2) (by omega) (HA.out.on hb2) (fun f hf => by have := HFp.out f hf; omega)
  have B2 := Lib.hid (pb_blk hx1)
  have c02 : V2.cell? ⟨W.heap.size, 0, none⟩ = some (.pointer (some ⟨s, 0, none⟩)) := by simp [World.cell?, hx0]
  have hl22 : W.heap.size + 2 < V2.heap.size := (Array.getElem?_eq_some_iff.1 hx2).1
  have H02 := Lib.hid hx0
  have H12 := Lib.hid hx1
  have H22 := Lib.hid hx2
  have HB2 := Lib.hid hb2
  clear cC b2 hb2 hx0 hx1 hx2 H0 H1 H2 HB1 c0 hl2' B q0 q1 q2 q3 q4 q5 q6 q7 q8 q9 q10 q11 q12
  have q0 := B2.out.c0
  have q1 := B2.out.c1
  have q2 := B2.out.c2
  have q3 := B2.out.c3
  have q4 := B2.out.c4
  have q5 := B2.out.c5
  have q6 := B2.out.c6
  have q7 := B2.out.c7
  have q8 := B2.out.c8
  have q9 := B2.out.c9
  have q10 := B2.out.c10
  have q11 := B2.out.c11
  have q12 := B2.out.c12
  gi_wp2_with fail
  refine ⟨trivial, (callsIn_wide.2 cM).mono ?_⟩
  rintro x V3 ⟨g, rfl, hgW, hgr, hYb⟩
  have b4 := hYb.alloc hYb.size (.cells #[.slice (some ⟨g, 0, none⟩) p.F.length p.F.length] 44)
  have hb4 := HB2.out.trans (b4.mono HB2.out.size)
  have hx0 := (b4.block _ (Array.getElem?_eq_some_iff.1 H02.out).1).trans H02.out
  have hx1 := (b4.block _ (Array.getElem?_eq_some_iff.1 H12.out).1).trans H12.out
  have hx2 := (b4.block _ (Array.getElem?_eq_some_iff.1 H22.out).1).trans H22.out
  have hx3 := nb0 V3 (.cells #[.slice (some ⟨g, 0, none⟩) p.F.length p.F.length] 44)
  have hgc4 := (Below.heap_alloc V3 (.cells #[.slice (some ⟨g, 0, none⟩) p.F.length p.F.length] 44) g (Array.getElem?_eq_some_iff.1 hgr).1).trans hgr
  have p12 : (V3.alloc (.cells #[.slice (some ⟨g, 0, none⟩) p.F.length p.F.length] 44)).cell? ⟨W.heap.size + 1, 12, none⟩ = some (.slice fA p.F.length fc) := by simp [World.cell?, hx1]
  have hl44 : W.heap.size + 2 < (V3.alloc (.cells #[.slice (some ⟨g, 0, none⟩) p.F.length p.F.length] 44)).heap.size := (Array.getElem?_eq_some_iff.1 hx2).1
  have hgl4 : g < (V3.alloc (.cells #[.slice (some ⟨g, 0, none⟩) p.F.length p.F.length] 44)).heap.size := (Array.getElem?_eq_some_iff.1 hgc4).1
  have hgW3 : W.heap.size ≤ g := Nat.le_trans HB2.out.size hgW
  have hb3W : W.heap.size ≤ V3.heap.size := Nat.le_trans HB2.out.size hYb.size
  have cB := backward_any fA p.F.length fc (V3.alloc (.cells #[.slice (some ⟨g, 0, none⟩) p.F.length p.F.length] 44))
  have H04 := Lib.hid hx0
  have H14 := Lib.hid hx1
  have H24 := Lib.hid hx2
  have H34 := Lib.hid hx3
  have HB4 := Lib.hid hb4
  have HG4 := Lib.hid hgc4
  obtain ⟨bc, hbc⟩ : ∃ bc, bc = V3.heap.size := ⟨_, rfl⟩
  have hbl4 : bc < (V3.alloc (.cells #[.slice (some ⟨g, 0, none⟩) p.F.length p.F.length] 44)).heap.size := by rw [hbc]; simp
  have hbcW : W.heap.size ≤ bc := by rw [hbc]; exact hb3W
  rw [← hbc] at H34
  clear cM hgr hYb b4 hb4 hx0 hx1 hx2 hx3 hgc4 H02 H12 H22 HB2 c02 hl22 B2 hgW hb3W q0 q1 q2 q3 q4 q5 q6 q7 q8 q9 q10 q11 q12
  gi_upto_region 7 with fail
  rw [← hbc]
  generalize V3.alloc (.cells #[.slice (some ⟨g, 0, none⟩) p.F.length p.F.length] 44) = V4 at H04 H14 H24 H34 HB4 HG4 hbl4 p12 hl44 hgl4 cB ⊢
  clear hbc
  gi_wp2_with fail
  refine ⟨trivial, (callsIn_wide.2 cB).mono ?_⟩
  rintro x V5 ⟨rfl, hw⟩
  rw [hw]
  clear hw cB V5
  gi_wp2_with fail
  have hbs := nb0 V4 (.cells #[.slice fA p.F.length fc] 41)
  have bA5 := (Below.refl V4.heap.size V4).alloc (Nat.le_refl _) (.cells #[.slice fA p.F.length fc] 41)
  have hb5 := HB4.out.trans (bA5.mono HB4.out.size)
  have y0 := (bA5.block _ (Array.getElem?_eq_some_iff.1 H04.out).1).trans H04.out
  have y1 := (bA5.block _ (Array.getElem?_eq_some_iff.1 H14.out).1).trans H14.out
  have y2 := (bA5.block _ (Array.getElem?_eq_some_iff.1 H24.out).1).trans H24.out
  have y3 := (bA5.block _ (Array.getElem?_eq_some_iff.1 H34.out).1).trans H34.out
  have yg := (bA5.block g hgl4).trans HG4.out
  obtain ⟨Bs, hBs⟩ : ∃ Bs, Bs = V4.heap.size := ⟨_, rfl⟩
  have hBsW : W.heap.size ≤ Bs := by rw [hBs]; exact HB4.out.size
  rw [← hBs] at hbs
  rw [← hBs]
  have hl5 : Bs < (V4.alloc (.cells #[.slice fA p.F.length fc] 41)).heap.size := by rw [hBs]; simp
  have hl53 : bc < (V4.alloc (.cells #[.slice fA p.F.length fc] 41)).heap.size := Nat.lt_of_lt_of_le hbl4 bA5.size
  have hl5g : g < (V4.alloc (.cells #[.slice fA p.F.length fc] 41)).heap.size := Nat.lt_of_lt_of_le hgl4 bA5.size
  have hl52 : W.heap.size + 2 < (V4.alloc (.cells #[.slice fA p.F.length fc] 41)).heap.size := Nat.lt_of_lt_of_le hl44 bA5.size
  generalize V4.alloc (.cells #[.slice fA p.F.length fc] 41) = V5 at hbs hb5 y0 y1 y2 y3 yg hl5 hl53 hl5g hl52 ⊢
  have HL := Lib.hid HJ.out
  have hFq5 : Fq V5 fA p.F := fq_of (HFz.out.fs.on hb5)
  have hFlt : ∀ fb fo, fA = some ⟨fb, fo, none⟩ → p.F ≠ [] → Z fb := fun fb fo h1 h2 => HFz.out.lo fb fo _ _ (by rw [h1]) h2
  have hZW := HJ.out.hs
  have HB5 := Lib.hid hb5
  have HY : Hid (V5.heap[W.heap.size]? = some (.cells #[.pointer (some ⟨s, 0, none⟩)] 23 (0, 0)) ∧ V5.heap[W.heap.size + 1]? = some (pko p.o.n p.o.e p.o.u p.o.r vD vA vG vB vR vP vS vL (.slice fA p.F.length fc)) ∧ V5.heap[W.heap.size + 2]? = some (.cells #[.nilIface] 25 (0, 0)) ∧ V5.heap[bc]? = some (.cells #[.slice (some ⟨g, 0, none⟩) p.F.length p.F.length] 44 (0, 0)) ∧ V5.heap[g]? = some (.cells ((cml L p.S p.F aw).map Value.bool).toArray 4 (0, 0))) := ⟨y0, y1, y2, y3, yg⟩
  obtain ⟨CM, hCM⟩ : ∃ CM, CM = cml L p.S p.F aw := ⟨_, rfl⟩
  have hCl : CM.length = p.F.length := by rw [hCM]; unfold cml; rw [cmf_len]; simp
  rw [← hCM] at HY
  obtain ⟨R, hR⟩ : ∃ R, R = (p.F.zip CM).reverse := ⟨_, rfl⟩
  have hRl : R.length = p.F.length := by rw [hR, List.length_reverse, List.length_zip, hCl, Nat.min_self]
  have HPG : Hid (putG L p.o.n p.S p.F aw = clL p.F (R.foldl (layF p.o.n p.S) L) p.o.n) := by show _ = _; unfold putG ptG; rw [hR, hCM]
  have HLA := Lib.hid (fun k => lays_all (n := p.o.n) (SS := p.S) HJ.out.srt HG.out (by omega : p.o.n.length ≤ 1000) (R.take k) (fun x hx => HFp.out x.1 (by
    have h1 := List.mem_of_mem_take hx
    rw [hR, List.mem_reverse] at h1
    exact (List.of_mem_zip h1).1)))
  have HBK : Hid (BK Bs fA fc p.F V5) := ⟨hbs, hFq5⟩
  clear y0 y1 y2 y3 yg bA5 hBs H04 H14 H24 H34 HB4 HG4 hgl4 hbl4 p12 hl44 hb5 hbs hFq5 hCM HJ
  refine range_keep (gf := 97) (lb := #[.pointer (some ⟨Bs, 0, none⟩)]) (KP := BK Bs fA fc p.F) rfl (enters_of Tryz.func97 (by kernel_rfl) rfl) (back_gen Bs fc fA p.F (by omega) _) (fun _ => rfl) ?kb ?kp HBK.out
    (PJ w W V5 s d (fun k => (R.take k).foldl (layF p.o.n p.S) L) Z) ?ib ?ip ?i0 (fun k a' A => ∃ bf, a' = { tmps := #[.pointer (some ⟨s, 0, none⟩), pkv p.o.n p.o.e p.o.u p.o.r vD vA vG vB vR vP vS vL (.slice fA p.F.length fc), .func (.func ft) #[] cap, va, .pointer (some ⟨W.heap.size, 0, none⟩), .pointer (some ⟨W.heap.size + 1, 0, none⟩), undef, undef, .pointer (some ⟨W.heap.size + 1 + 1, 0, none⟩), .int .i64 (-1), .string ⟨#[]⟩, .pointer (some ⟨bc, 0, none⟩), .int .i64 ((p.F.length : Int) - 1 - k), .pointer (some ⟨bf, 0, none⟩), undef, .agg #[.string ⟨p.o.n.toArray⟩, .int .i64 p.o.e, .string ⟨p.o.u.toArray⟩, .string ⟨p.o.r.toArray⟩, vD, vA, vG, vB, vR, vP, vS, vL, .slice fA p.F.length fc], .bool true, .bool false, undef, .tuple #[.int .i64 (-1), .string ⟨#[]⟩], .pointer (some ⟨s, 0, none⟩), .agg #[.string ⟨p.o.n.toArray⟩, .int .i64 p.o.e, .string ⟨p.o.u.toArray⟩, .string ⟨p.o.r.toArray⟩, vD, vA, vG, vB, vR, vP, vS, vL, .slice fA p.F.length fc], .func (.func ft) #[] cap, .tuple #[.int .i64 (-1), .string ⟨#[]⟩], .int .i64 (-1), .string ⟨#[]⟩, .int .i64 (-1), .bool false, undef, undef, undef, undef, .pointer (some ⟨s, 0, none⟩), .agg #[.string ⟨p.o.n.toArray⟩, .int .i64 p.o.e, .string ⟨p.o.u.toArray⟩, .string ⟨p.o.r.toArray⟩, vD, vA, vG, vB, vR, vP, vS, vL, .slice fA p.F.length fc], va, .slice (some ⟨g, 0, none⟩) p.F.length p.F.length, .pointer (some ⟨W.heap.size + 1, 12, none⟩), .slice fA p.F.length fc, .func (.func 97) #[] #[.pointer (some ⟨Bs, 0, none⟩)], .int .i64 ((p.F.length : Int) - 1 - k), .agg #[.string ⟨(p.F.getD (p.F.length - 1 - k) ([], [])).1.toArray⟩, .string ⟨(p.F.getD (p.F.length - 1 - k) ([], [])).2.toArray⟩], undef, undef, undef, undef, undef, undef, undef, undef, undef, undef, undef, undef, undef, undef], defers := [] } ∧ PX w W V5 s d (fun k => (R.take k).foldl (layF p.o.n p.S) L) Z k bf (p.F.getD (p.F.length - 1 - k) ([], [])) A) ?axp ?assign ?body ?done
  case kb =>
    intro A B hK hb
    refine ⟨(hb.block _ (Array.getElem?_eq_some_iff.1 hK.1).1).trans hK.1, fun i hi => ?_⟩
    obtain ⟨fb, fo, h1, h2, h3, h4⟩ := hK.2 i hi
    exact ⟨fb, fo, h1, Nat.lt_of_lt_of_le h2 hb.size, (hb.cell (p := ⟨fb, _, none⟩) h2).trans h3, (hb.cell (p := ⟨fb, _, none⟩) h2).trans h4⟩
  case kp =>
    intro A o' hK
    refine ⟨(World.putObj_heap_other (by omega)).trans hK.1, fun i hi => ?_⟩
    obtain ⟨fb, fo, h1, h2, h3, h4⟩ := hK.2 i hi
    have hfb := hFlt fb fo h1 (fun e => by rw [e] at hi; simp at hi)
    have hne : fb ≠ V5.heap.size + 1 := by have := hZW fb hfb; have := HB5.out.size; omega
    exact ⟨fb, fo, h1, Nat.lt_of_lt_of_le h2 (grownBy_putObj' A _ o').size, (World.cell?_of_block (w := A) (World.putObj_heap_other hne)).trans h3, (World.cell?_of_block (w := A) (World.putObj_heap_other hne)).trans h4⟩
  case ib =>
    intro k A B hI hb
    unfold PJ at hI ⊢
    split
    · rename_i hk
      rw [if_pos hk] at hI
      exact hI.trans (hb.mono hI.size)
    · rename_i hk
      rw [if_neg hk] at hI
      exact ⟨hI.1.up hb, hI.2.trans (Zn.below hb fun j hj => hI.1.hs j (hj.imp id fun h => ⟨h.1, by omega⟩))⟩
  case ip =>
    intro k A o' hs hI
    unfold PJ at hI ⊢
    split
    · rename_i hk
      rw [if_pos hk] at hI
      exact hI.grown (grownBy_putObj' A _ o') hI.size (fun r e => by cases e; omega)
    · rename_i hk
      rw [if_neg hk] at hI
      refine ⟨hI.1.putObj (by have := HL.out.bl.size; have := HB5.out.size; omega) (.inr ⟨by have := HB5.out.size; omega, by omega⟩) o', hI.2.putObj (fun j hj => ?_) o'⟩
      have := zu_lt hZW HB5.out.size j hj
      omega
  case i0 => exact Below.refl _ _
  case axp =>
    intro k a' A o' hs hax
    obtain ⟨bf, h1, h2, h3, h4, h5⟩ := hax
    refine ⟨bf, h1, h2, (World.putObj_heap_other (by omega)).trans h3, h4.putObj (by have := HL.out.bl.size; have := HB5.out.size; omega) (.inl (.inr ⟨by have := HB5.out.size; omega, by omega⟩)) o', h5.putObj (fun j hj => ?_) o'⟩
    have := zu_lt hZW HB5.out.size j hj
    omega
  case assign =>
    intro l k Y K hk hI hs hK
    obtain ⟨hJ, hZn⟩ := hI.out HL.out HB5.out hs
    unfold encB
    generalize hfk : p.F.getD (p.F.length - 1 - k) ([], []) = f at hK ⊢
    obtain ⟨pa, da⟩ := f
    have bY := (Below.refl Y.heap.size Y).alloc (Nat.le_refl _) (.cells #[.string ⟨pa.toArray⟩, .string ⟨da.toArray⟩] 73)
    have hbf := nb0 Y (.cells #[.string ⟨pa.toArray⟩, .string ⟨da.toArray⟩] 73)
    have HF : Hid (PX w W V5 s d (fun k => (R.take k).foldl (layF p.o.n p.S) L) Z k Y.heap.size (pa, da) (Y.alloc (.cells #[.string ⟨pa.toArray⟩, .string ⟨da.toArray⟩] 73))) := by
      refine ⟨hs, hbf, (hJ.add bY).less fun j hj => ?_, hZn.trans (Zn.below bY fun j hj => hJ.hs j (hj.imp id fun h => ⟨h.1, by omega⟩))⟩
      rcases hj with hj | hj
      · exact .inl hj
      · exact .inr ⟨hj.1, by simp; omega⟩
    clear hI hJ hZn hbf
    dsimp only
    gi_wp2
    exact hK _ _ bY ⟨Y.heap.size, rfl, HF.out⟩
  case body =>
    intro l k a' Y hk hBK hax hs
    obtain ⟨bf, rfl, hbf, hxf, hJ, hZn⟩ := hax
    obtain ⟨j, hj⟩ : ∃ j, j = p.F.length - 1 - k := ⟨_, rfl⟩
    have hjl : j < p.F.length := by omega
    have hge : p.F.getD (p.F.length - 1 - k) ([], []) = p.F[j] := by rw [← hj, List.getD_eq_getElem?_getD, List.getElem?_eq_getElem hjl]; rfl
    have hij : (p.F.length : Int) - 1 - k = j := by omega
    have hjc : j < CM.length := by omega
    have hRk : ∀ h, R[k]'h = (p.F[j], CM[j]) := fun h => by
      have e1 : (p.F.zip CM).length - 1 - k = j := by rw [List.length_zip, hCl, Nat.min_self]; omega
      simp only [hR, List.getElem_reverse, List.getElem_zip, e1]
    have hft := fold_take (layF p.o.n p.S) L R k (by omega)
    rw [hRk] at hft
    have hla := HLA.out k
    have hfp := HFp.out _ (List.getElem_mem hjl)
    have htk : (R.take k).length ≤ 20 := by rw [List.length_take]; omega
    have hgj : ((cml L p.S p.F aw).map Value.bool).toArray = ((cml L p.S p.F aw).map Value.bool).toArray := rfl
    rw [hge] at hxf ⊢
    rw [hij]
    have hgc0 : V5.cell? ⟨g, j, none⟩ = some (.bool CM[j]) := by simp [World.cell?, HY.out.2.2.2.2, hjc]
    generalize CM[j] = cm at hft hgc0
    generalize p.F[j] = f at hxf hft hfp
    obtain ⟨pa, da⟩ := f
    dsimp only at hxf hfp
    dsimp only at hJ
    have bD := (Below.refl Y.heap.size Y).drew
    have hVW := HB5.out.size
    have hZf : ∀ q, W.heap.size ≤ q → q < V5.heap.size → Zu (Zu Z W.heap.size (V5.heap.size + 2)) bf (bf + 1) q := fun q h1 h2 => .inl (.inr ⟨h1, by omega⟩)
    have hZb : Zu (Zu Z W.heap.size (V5.heap.size + 2)) bf (bf + 1) bf := .inr ⟨Nat.le_refl _, Nat.lt_succ_self _⟩
    have LC : (fun V : World => V.heap[W.heap.size]? = some (.cells #[.pointer (some ⟨s, 0, none⟩)] 23 (0, 0)) ∧ V.heap[W.heap.size + 1]? = some (pko p.o.n p.o.e p.o.u p.o.r vD vA vG vB vR vP vS vL (.slice fA p.F.length fc)) ∧ V.heap[bf]? = some (.cells #[.string ⟨pa.toArray⟩, .string ⟨da.toArray⟩] 73 (0, 0)) ∧ V.heap[bc]? = some (.cells #[.slice (some ⟨g, 0, none⟩) p.F.length p.F.length] 44 (0, 0)) ∧ V.cell? ⟨g, j, none⟩ = some (.bool cm)) Y.drew := ⟨(hZn _ (.inr ⟨by omega, by omega⟩)).trans HY.out.1, (hZn _ (.inr ⟨by omega, by omega⟩)).trans HY.out.2.1, hxf, (hZn _ (.inr ⟨by omega, hl53⟩)).trans HY.out.2.2.2.1, (hZn.cell (.inr ⟨by omega, hl5g⟩)).trans hgc0⟩
    have hSY : Sl (Zu (Zu Z W.heap.size (V5.heap.size + 2)) bf (bf + 1)) Y.drew vS p.S := (((HS.out.up HB5.out).zn (hZn.mono fun _ => .inl) fun q hq => hJ.hs q (.inl (.inl hq))).more fun q hq => .inl (.inl hq)).up bD
    have cL := lay_any (hJ.up bD) p.o.n p.o.e p.o.u p.o.r vD vA vG vB vR vP vS vL (.slice fA p.F.length fc) pa da cm p.S hSY (by omega) (by omega) (by omega) (by omega) (by omega) (by omega) (by omega)
    have HFT := Lib.hid hft
    have HJs := Lib.hid hJ.hs
    have HBKY := Lib.hid hBK
    have HZn := Lib.hid hZn
    clear hBK hZn hJ hSY hla hft hRk hge hij hj hgj hgc0
    gi_wp2_with fail
    refine region_round (fun V => V.heap[W.heap.size]? = some (.cells #[.pointer (some ⟨s, 0, none⟩)] 23 (0, 0)) ∧ V.heap[W.heap.size + 1]? = some (pko p.o.n p.o.e p.o.u p.o.r vD vA vG vB vR vP vS vL (.slice fA p.F.length fc)) ∧ V.heap[bf]? = some (.cells #[.string ⟨pa.toArray⟩, .string ⟨da.toArray⟩] 73 (0, 0)) ∧ V.heap[bc]? = some (.cells #[.slice (some ⟨g, 0, none⟩) p.F.length p.F.length] 44 (0, 0)) ∧ V.cell? ⟨g, j, none⟩ = some (.bool cm)) (by kernel_rfl) (by kernel_rfl) (fun ⟨_, _, h⟩ => h) ?_
    refine take_d (some 41) (i := 0) (v := .pointer (some ⟨s, 0, none⟩)) rfl rfl (by as_aux_lemma => kernel_rfl) (by as_aux_lemma => kernel_rfl) (by as_aux_lemma => kernel_rfl) (fun _ _ _ h => h) (.inl ⟨by kernel_rfl, fun w' hw => by have h1 : w'.cell? ⟨W.heap.size, 0, none⟩ = some (.pointer (some ⟨s, 0, none⟩)) := (by simp [World.cell?, hw.1]); simp [go_sem, h1]⟩) LC ?_
    refine take_d (some 42) (i := 1) (v := .agg #[.string ⟨p.o.n.toArray⟩, .int .i64 p.o.e, .string ⟨p.o.u.toArray⟩, .string ⟨p.o.r.toArray⟩, vD, vA, vG, vB, vR, vP, vS, vL, .slice fA p.F.length fc]) rfl rfl (by as_aux_lemma => kernel_rfl) (by as_aux_lemma => kernel_rfl) (by as_aux_lemma => kernel_rfl) (fun _ _ _ h => h) (.inl ⟨by kernel_rfl, fun w' hw => by have B := pb_blk hw.2.1; have h0 := B.c0; have h1 := B.c1; have h2 := B.c2; have h3 := B.c3; have h4 := B.c4; have h5 := B.c5; have h6 := B.c6; have h7 := B.c7; have h8 := B.c8; have h9 := B.c9; have h10 := B.c10; have h11 := B.c11; have h12 := B.c12; simp [go_sem, h0, h1, h2, h3, h4, h5, h6, h7, h8, h9, h10, h11, h12]⟩) LC ?_
    refine take_d (some 43) (i := 2) (v := .agg #[.string ⟨pa.toArray⟩, .string ⟨da.toArray⟩]) rfl rfl (by as_aux_lemma => kernel_rfl) (by as_aux_lemma => kernel_rfl) (by as_aux_lemma => kernel_rfl) (fun _ _ _ h => h) (.inl ⟨by kernel_rfl, fun w' hw => by have h1 : w'.cell? ⟨bf, 0, none⟩ = some (.string ⟨pa.toArray⟩) := (by simp [World.cell?, hw.2.2.1]); have h2 : w'.cell? ⟨bf, 1, none⟩ = some (.string ⟨da.toArray⟩) := (by simp [World.cell?, hw.2.2.1]); simp [go_sem, h1, h2]⟩) LC ?_
    refine take_d (some 44) (i := 3) (v := .slice (some ⟨g, 0, none⟩) p.F.length p.F.length) rfl rfl (by as_aux_lemma => kernel_rfl) (by as_aux_lemma => kernel_rfl) (by as_aux_lemma => kernel_rfl) (fun _ _ _ h => h) (.inl ⟨by kernel_rfl, fun w' hw => by have h1 : w'.cell? ⟨bc, 0, none⟩ = some (.slice (some ⟨g, 0, none⟩) p.F.length p.F.length) := (by simp [World.cell?, hw.2.2.2.1]); simp [go_sem, h1]⟩) LC ?_
    refine take_d (some 45) (i := 4) (v := .int .i64 j) rfl rfl (by as_aux_lemma => kernel_rfl) (by as_aux_lemma => kernel_rfl) (by as_aux_lemma => kernel_rfl) (fun _ _ _ h => h) (.inl ⟨by kernel_rfl, fun w' _ => by simp [go_sem]⟩) LC ?_
    refine take_d (some 46) (i := 5) (v := .pointer (some ⟨g, j, none⟩)) rfl rfl (by as_aux_lemma => kernel_rfl) (by as_aux_lemma => kernel_rfl) (by as_aux_lemma => kernel_rfl) (fun _ _ _ h => h) (.inl ⟨by kernel_rfl, fun w' _ => by simp [go_sem]; omega⟩) LC ?_
    refine take_d (some 47) (i := 6) (v := .bool cm) rfl rfl (by as_aux_lemma => kernel_rfl) (by as_aux_lemma => kernel_rfl) (by as_aux_lemma => kernel_rfl) (fun _ _ _ h => h) (.inl ⟨by kernel_rfl, fun w' hw => by simp [go_sem, hw.2.2.2.2]⟩) LC ?_
    try simp only [Act.put, List.setIfInBounds_toArray, List.set_cons_succ, List.set_cons_zero]
    refine wpAnyH_all (rs := [7]) (by as_aux_lemma => kernel_rfl) (by simp) fun j' hj' => ?_
    obtain rfl : j' = 7 := by simpa using hj'
    refine wpOp_want rfl (by kernel_rfl) ?_
    unfold Oper.wp
    simp [go_sem]
    refine cL.mono ?_
    rintro z Y2 ⟨rfl, hz2, hJ2⟩
    replace LC : (fun V : World => V.heap[W.heap.size]? = some (.cells #[.pointer (some ⟨s, 0, none⟩)] 23 (0, 0)) ∧ V.heap[W.heap.size + 1]? = some (pko p.o.n p.o.e p.o.u p.o.r vD vA vG vB vR vP vS vL (.slice fA p.F.length fc)) ∧ V.heap[bf]? = some (.cells #[.string ⟨pa.toArray⟩, .string ⟨da.toArray⟩] 73 (0, 0)) ∧ V.heap[bc]? = some (.cells #[.slice (some ⟨g, 0, none⟩) p.F.length p.F.length] 44 (0, 0)) ∧ V.cell? ⟨g, j, none⟩ = some (.bool cm)) Y2 := ⟨(hz2 _ (hZf _ (by omega) (by omega))).trans LC.1, (hz2 _ (hZf _ (by omega) (by omega))).trans LC.2.1, (hz2 _ hZb).trans LC.2.2.1, (hz2 _ (hZf _ (by omega) hl53)).trans LC.2.2.2.1, (hz2.cell (hZf _ (by omega) hl5g)).trans LC.2.2.2.2⟩
    refine ⟨LC, ?_⟩
    refine take_d (some 14) (i := 8) (v := .nilIface) rfl rfl (by as_aux_lemma => kernel_rfl) (by as_aux_lemma => kernel_rfl) (by as_aux_lemma => kernel_rfl) (fun _ _ _ h => h) (.inl ⟨by kernel_rfl, fun w' _ => by simp [go_sem]⟩) LC ?_
    simp only [Act.put, List.setIfInBounds_toArray, List.set_cons_succ, List.set_cons_zero]
    refine wpAnyH_done (by as_aux_lemma => kernel_rfl) ?_ _
    have HF : Hid ((Y2.heap[V5.heap.size]? = Y.heap[V5.heap.size]? ∧ Y2.heap[V5.heap.size + 1]? = Y.heap[V5.heap.size + 1]?) ∧ BK Bs fA fc p.F Y2 ∧ PJ w W V5 s d (fun k => (R.take k).foldl (layF p.o.n p.S) L) Z (k + 1) Y2) := by
      refine ⟨⟨hz2 _ (.inl (.inr ⟨by omega, by omega⟩)), hz2 _ (.inl (.inr ⟨by omega, by omega⟩))⟩, ⟨(hz2 _ (hZf _ (by omega) hl5)).trans HBKY.out.1, fun i hi => ?_⟩, ?_⟩
      · obtain ⟨fb, fo, h1, h2, h3, h4⟩ := HBKY.out.2 i hi
        have hfb : Zu (Zu Z W.heap.size (V5.heap.size + 2)) bf (bf + 1) fb := .inl (.inl (hFlt fb fo h1 (fun e => by rw [e] at hi; simp at hi)))
        exact ⟨fb, fo, h1, hJ2.hs fb hfb, (hz2.cell hfb).trans h3, (hz2.cell hfb).trans h4⟩
      · unfold PJ
        rw [if_neg (by omega)]
        refine ⟨?_, HZn.out.trans fun q hq => hz2 q ?_⟩
        · have e1 : (R.take (k + 1)).foldl (layF p.o.n p.S) L = ly3 (ly2 (ly1 ((R.take k).foldl (layF p.o.n p.S) L) p.o.n pa) pa da cm) pa da (p.S.contains pa) := HFT.out
          show SJ w s d ((R.take (k + 1)).foldl (layF p.o.n p.S) L) _ _
          rw [e1]
          exact hJ2.less fun q hq => .inl hq
        · exact .inl (hq.imp id fun h => ⟨h.1, by omega⟩)
    clear LC cL hz2 hJ2 hxf bD HBKY HZn HFT HJs
    gi_wp2
    exact HF.out
  case done =>
    intro D Y hD hI hBK hs hK
    obtain ⟨hJ, hZ⟩ := hI.out HL.out HB5.out (by omega)
    have hla := HLA.out p.F.length
    rw [show R.take p.F.length = R from by rw [← hRl]; exact List.take_length] at hla
    have hJ0 : SJ w s d (R.foldl (layF p.o.n p.S) L) (Zu Z W.heap.size (V5.heap.size + 2)) Y := by
      have e1 : R.take p.F.length = R := by rw [← hRl]; exact List.take_length
      have := hJ
      rwa [e1] at this
    have hVW := HB5.out.size
    have z0 := (hZ W.heap.size (.inr ⟨by omega, by omega⟩)).trans HY.out.1
    have z1 := (hZ (W.heap.size + 1) (.inr ⟨by omega, by omega⟩)).trans HY.out.2.1
    have z2 := (hZ (W.heap.size + 2) (.inr ⟨by omega, hl52⟩)).trans HY.out.2.2.1
    have c0 : Y.cell? ⟨W.heap.size, 0, none⟩ = some (.pointer (some ⟨s, 0, none⟩)) := by simp [World.cell?, z0]
    have B := Lib.hid (pb_blk z1)
    have hFY : Fz (Zu Z W.heap.size (V5.heap.size + 2)) Y (.slice fA p.F.length fc) p.F := ((HFz.out.up HB5.out).zn (hZ.mono fun _ => .inl) fun q hq => hJ0.hs q (.inl hq)).more fun _ => .inl
    have cC := clear_gen hJ0 hla.2.1.osm p.o.n (by omega) p.o.e p.o.u p.o.r vD vA vG vB vR vP vS vL (.slice fA p.F.length fc) p.F hFY (by omega) (fun q hq => hla.2.1.pts hq) (by omega) (by omega)
    rw [← HPG.out] at cC
    have HZd := Lib.hid hZ
    have H2 := Lib.hid z2
    have HK := Lib.hid hK
    have hlY : W.heap.size + 2 < Y.heap.size := by omega
    have HDD := Lib.hid hD
    clear hJ hJ0 hZ z0 z1 z2 hFY hK hD HY HL HS HA hla hI hBK HLA HPG
    have q0 := B.out.c0
    have q1 := B.out.c1
    have q2 := B.out.c2
    have q3 := B.out.c3
    have q4 := B.out.c4
    have q5 := B.out.c5
    have q6 := B.out.c6
    have q7 := B.out.c7
    have q8 := B.out.c8
    have q9 := B.out.c9
    have q10 := B.out.c10
    have q11 := B.out.c11
    have q12 := B.out.c12
    gi_wp2_with fail
    refine ⟨trivial, (callsIn_wide.2 cC).mono ?_⟩
    rintro x Y2 ⟨rfl, hzc, hJc⟩
    have hDe := HDD.out
    have hzz : ∀ q, W.heap.size ≤ q → q < V5.heap.size + 2 → Zu Z W.heap.size (V5.heap.size + 2) q := fun q h1 h2 => .inr ⟨h1, h2⟩
    have z2 := (hzc _ (hzz _ (by omega) (by omega))).trans H2.out
    have r0 : Y2.cell? ⟨W.heap.size + 1 + 1, 0, none⟩ = some .nilIface := by simp [World.cell?, z2]
    have f0 : Y2.frozen? ⟨W.heap.size + 1 + 1, 0, none⟩ = false := by simp [World.frozen?, z2]
    have hl2Y : W.heap.size + 1 + 1 < Y2.heap.size := (Array.getElem?_eq_some_iff.1 z2).1
    have hKD : Y.heap[D]? = some (.deferred (some [])) := HK.out
    have hWw := hJc.bl.size
    have kD : (Y2.setCell ⟨W.heap.size + 1 + 1, 0, none⟩ .nilIface).heap[D]? = some (.deferred (some [])) := by
      rw [Below.heap_setCell Y2 ⟨W.heap.size + 1 + 1, 0, none⟩ .nilIface D (by show D ≠ W.heap.size + 1 + 1; omega)]
      exact (hzc D (hzz _ (by omega) (by omega))).trans hKD
    have hwW : w.heap.size ≤ W.heap.size := hwW0
    have hJ2 := (hJc.setc (j := W.heap.size + 1 + 1) (i := 0) (by omega) (hzz _ (by omega) (by omega)) .nilIface).putObj (j := D) (by omega) (hzz _ (by omega) (by omega)) (.deferred none)
    have hZ2 : Zn Z W ((Y2.setCell ⟨W.heap.size + 1 + 1, 0, none⟩ .nilIface).putObj D (.deferred none)) := by
      refine Zn.putObj ?_ (fun q hq => by have := hZW q hq; omega) _
      intro k k1
      have hkW := hZW k k1
      rw [Below.heap_setCell Y2 ⟨W.heap.size + 1 + 1, 0, none⟩ .nilIface k (by show k ≠ W.heap.size + 1 + 1; omega)]
      exact (hzc k (.inl k1)).trans ((HZd.out k (.inl k1)).trans (HB5.out.block k hkW))
    have r1 : ((Y2.setCell ⟨W.heap.size + 1 + 1, 0, none⟩ .nilIface).putObj D (.deferred none)).cell? ⟨W.heap.size + 1 + 1, 0, none⟩ = some .nilIface := by
      have hne : W.heap.size + 1 + 1 ≠ D := by omega
      rw [World.cell?_of_block (w := Y2.setCell ⟨W.heap.size + 1 + 1, 0, none⟩ .nilIface) (a := ⟨W.heap.size + 1 + 1, 0, none⟩) (World.putObj_heap_other hne)]
      exact World.cell?_setCell_same' _ _ _ (by rw [r0]; rfl)
    have HF : Hid (Zn Z W ((Y2.setCell ⟨W.heap.size + 1 + 1, 0, none⟩ .nilIface).putObj D (.deferred none)) ∧ SJ w s d (putG L p.o.n p.S p.F aw) Z ((Y2.setCell ⟨W.heap.size + 1 + 1, 0, none⟩ .nilIface).putObj D (.deferred none))) := ⟨hZ2, hJ2.less fun _ => .inl⟩
    have HKD := Lib.hid kD
    clear cC z2 hKD kD hJ2 hZ2 HZd H2 HK B c0 q0 q1 q2 q3 q4 q5 q6 q7 q8 q9 q10 q11 q12 hzc hJc hzz hDe
    gi_wp2
    refine ⟨by simp, .inl ⟨_, _, rfl, run_takeDeferred HKD.out, ?_⟩⟩
    exact ⟨.nilIface, by simp only [results, Tryz.results14]; simp [go_sem, r1], .inl ⟨HCl.out, rfl, HF.out.1, HF.out.2⟩⟩
end
end Go.Proofs.YtlldfmnoidndmaaGreatDoor.Dsk
