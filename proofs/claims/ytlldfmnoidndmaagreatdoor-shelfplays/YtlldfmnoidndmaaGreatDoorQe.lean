/- A shelf: Put of what may not be; Settings. -/
import Derived.Test.YtlldfmnoidndmaaGreatDoorQd
import Derived.Lib.SliceRun
namespace Go.Proofs.YtlldfmnoidndmaaGreatDoor.Dsk
open Go.RowKit Go.Sort Go.Maps
attribute [local go_sem] Oper.semAt_some

section
variable {w W W2 A : World} {s d : Nat} {Z : Nat → Prop} {L : Kv Ent}
set_option maxRecDepth 100000 in
set_option maxHeartbeats 8000000 in
theorem put_arg (h : SJ w s d L Z W) (p : Pck) (vD vA vG vB vR vP vS vL vF va : Value) (ft : Nat) (cap : Array Value)
    (hz : Pz W p vD vA vG vB vR vP vS vL vF) (hp : Pg p) (hT : Tab W) (hM : MaxN W) (hok : aok p = false) :
    Calls Tryz.prog 14 #[.pointer (some ⟨s, 0, none⟩), pkv p.o.n p.o.e p.o.u p.o.r vD vA vG vB vR vP vS vL vF, .func (.func ft) #[] cap, va] W fun x W2 => x = .returned (.iface 33 (.int .i64 1)) ∧ Zn Z W W2 ∧ SJ w s d L Z W2 := by
  have b1 := (Below.refl W.heap.size W).alloc (Nat.le_refl _) (.cells #[.pointer (some ⟨s, 0, none⟩)] 23)
  have b2 := b1.alloc b1.size (pko p.o.n p.o.e p.o.u p.o.r vD vA vG vB vR vP vS vL vF)
  have b3 := b2.alloc b2.size (.cells #[.nilIface] 25)
  have cR := aright_any p vD vA vG vB vR vP vS vL vF _ (hz.on b3) hp (tab_on hT b3) (hM.on b3)
  rw [hok] at cR
  have hnl := hp.n
  have hwW0 := h.bl.size
  clear hz hT hM hok
  refine (callsIn_wide (n := 9)).1 ?_
  refine callsIn_of_wp_marks Tryz.func14 rfl trivial ?_ rfl
  simp only [Tryz.ntmps14, List.size_toArray, List.length_cons, List.length_nil, Nat.reduceAdd, Nat.reduceSub, Array.replicate_succ, Array.replicate_zero, List.push_toArray, List.append_toArray, List.nil_append, List.cons_append]
  obtain ⟨V0, hV0⟩ : ∃ V0, V0 = (W.alloc (.cells #[.pointer (some ⟨s, 0, none⟩)] 23)).alloc (pko p.o.n p.o.e p.o.u p.o.r vD vA vG vB vR vP vS vL vF) := ⟨_, rfl⟩
  have hsz0 : V0.heap.size = W.heap.size + 2 := by rw [hV0]; simp
  have x2 : (V0.alloc (.cells #[.nilIface] 25)).heap[W.heap.size + 2]? = some (.cells #[.nilIface] 25 (0, 0)) := by
    have := nb0 V0 (.cells #[.nilIface] 25)
    rwa [hsz0] at this
  have HX2 := Lib.hid x2
  have HB3 := Lib.hid b3
  have HJ := Lib.hid h
  rw [← hV0] at HB3
  clear x2 b1 b2 b3 h
  gi_wp2_with fail
  rw [hV0] at HX2 HB3
  refine ⟨trivial, (callsIn_wide.2 cR).mono ?_⟩
  rintro x V1 ⟨rfl, bR⟩
  have hb1 := HB3.out.trans (bR.mono HB3.out.size)
  have hx2 := (bR.block _ (Array.getElem?_eq_some_iff.1 HX2.out).1).trans HX2.out
  have r0 : V1.cell? ⟨W.heap.size + 1 + 1, 0, none⟩ = some .nilIface := by simp [World.cell?, hx2]
  have f0 : V1.frozen? ⟨W.heap.size + 1 + 1, 0, none⟩ = false := by simp [World.frozen?, hx2]
  have hl2Y : W.heap.size + 1 + 1 < V1.heap.size := (Array.getElem?_eq_some_iff.1 hx2).1
  have HJ3 := Lib.hid (HJ.out.add hb1)
  have HB2 := Lib.hid hb1
  have HZ2 := Lib.hid (Zn.below hb1 HJ.out.hs)
  have HZs := Lib.hid HJ.out.hs
  clear cR bR hb1 hx2 HX2 HB3 hV0 hsz0 V0 HJ
  gi_wp2
  have r1 : (V1.setCell ⟨W.heap.size + 1 + 1, 0, none⟩ (.iface 33 (.int .i64 1))).cell? ⟨W.heap.size + 1 + 1, 0, none⟩ = some (.iface 33 (.int .i64 1)) := World.cell?_setCell_same' _ _ _ (by rw [r0]; rfl)
  have hWs := HB2.out.size
  have j1 : SJ w s d L Z (V1.setCell ⟨W.heap.size + 1 + 1, 0, none⟩ (.iface 33 (.int .i64 1))) := (HJ3.out.setc (j := W.heap.size + 1 + 1) (i := 0) (by omega) (.inr ⟨by omega, hl2Y⟩) (.iface 33 (.int .i64 1))).less fun _ => .inl
  have z1 : Zn Z W (V1.setCell ⟨W.heap.size + 1 + 1, 0, none⟩ (.iface 33 (.int .i64 1))) := fun k hk => by
    have hkW := HZs.out k hk
    rw [Below.heap_setCell V1 ⟨W.heap.size + 1 + 1, 0, none⟩ _ k (by show k ≠ W.heap.size + 1 + 1; omega)]
    exact HZ2.out k hk
  exact ⟨.iface 33 (.int .i64 1), by simp only [results, Tryz.results14]; simp [go_sem, r1], rfl, z1, j1⟩
/-- Is it a setting? -/
def sst (L : Kv Ent) (x : List UInt8) : Bool := (lkL ([99, 47] ++ x) L).isSome
set_option maxRecDepth 100000 in
theorem plain_any (h : SJ w s d L Z W) (bs : Nat) (x : List UInt8) (hx : x.length ≤ 900) (hc : W.cell? ⟨bs, 0, none⟩ = some (.pointer (some ⟨s, 0, none⟩))) : Calls Tryz.prog 108 #[.string ⟨x.toArray⟩, .pointer (some ⟨bs, 0, none⟩)] W fun e w' => e = .returned (.bool (!(sst L x))) ∧ Below W.heap.size W w' := by
  have cS := setting_any h x (by omega)
  change Calls Tryz.prog 59 _ W fun e w' => e = .returned (.bool (sst L x)) ∧ _ at cS
  generalize sst L x = y at cS ⊢
  have hl : bs < W.heap.size := block_lt_of_cell hc
  clear h
  go_enter Tryz.func108, Tryz.ntmps108
  go_wp2_with fail
  refine cS.mono ?_
  rintro e w1 ⟨rfl, b1⟩
  go_wp2
  go_ret
  exact ⟨rfl, b1⟩
set_option maxHeartbeats 1600000 in
set_option maxRecDepth 100000 in
theorem idxS1 (p1 : Value) (B : Nat) (A : Option Addr) (c : Nat) (l : List (List UInt8)) (q : List UInt8 → Bool) (w : World) (h : Tr B w A l) (hn : l.length ≤ 1000000) (hq : ∀ x ∈ l, ∀ W, Below w.heap.size w W → Calls Tryz.prog 108 #[.string ⟨x.toArray⟩, p1] W fun e w' => e = .returned (.bool (q x)) ∧ Below W.heap.size W w') :
    Calls Tryz.prog 86 #[.slice A l.length c, .func (Fn.func 108) #[] #[p1]] w fun e w' => e = .returned (.int .i64 (fx (l.findIdx? q))) ∧ Below w.heap.size w w' := by
  obtain ⟨r, hr⟩ : ∃ r, r = fx (l.findIdx? q) := ⟨_, rfl⟩
  have HR := Lib.hid hr
  rw [← hr]
  clear hr
  have HQ := Lib.hid hq
  have HF := Lib.hid h
  clear hq h
  go_enter Tryz.func86, Tryz.ntmps86
  go_wp2
  go_loopw [8] (fun i W => ∃ k : Nat, k ≤ l.length ∧ i = .int .i64 k ∧ Below w.heap.size w W ∧ Hid (∀ j (hj : j < l.length), j < k → q l[j] = false)) (fun i _ => l.length - (intOf i).toNat)
  case atStart => exact ⟨0, Nat.zero_le _, rfl, Below.refl _ _, fun j _ h => absurd h (Nat.not_lt_zero _)⟩
  case round =>
    obtain ⟨k, hk, rfl, hW, HP⟩ := hrel
    by_cases hlt : k < l.length
    · obtain ⟨g, rfl, _, hg, c0⟩ := (HF.out.on hW).c k hlt
      have cC := HQ.out l[k] (List.getElem_mem hlt) wr hW
      cases hq : q l[k] with
      | true =>
        rw [hq] at cC
        have HG : Hid (r = k) := by show r = _; rw [HR.out, fi_yes k hlt hq (fun j hj h => HP.out j hj h)]; rfl
        generalize l[k] = x at cC c0
        clear hq
        go_wp2_with fail
        refine cC.mono ?_
        rintro e w1 ⟨rfl, b1⟩
        go_wp2_with fail
        go_ret
        exact ⟨reti HG.out.symm, bon hW b1⟩
      | false =>
        rw [hq] at cC
        have HN : Hid (∀ j (hj : j < l.length), j < k + 1 → q l[j] = false) := fun j hj h => by
          by_cases e : j = k
          · subst e; exact hq
          · exact HP.out j hj (by omega)
        generalize l[k] = x at cC c0
        clear hq
        go_wp2_with fail
        refine cC.mono ?_
        rintro e w1 ⟨rfl, b1⟩
        go_wp2_with fail
        exact ⟨⟨k + 1, hlt, by go_num, bon hW b1, HN⟩, by simp [intOf]; omega⟩
    · go_wp2
      go_ret
      exact ⟨reti (by rw [HR.out, fi_no (fun j hj => HP.out j hj (by omega))]; rfl), hW⟩
/-- DeleteFunc on its way. -/
structure Dl (W : World) (g bs s : Nat) (l : List (List UInt8)) (k : List UInt8 → Bool) (j i : Nat) (V : World) : Prop where
  bl : Below W.heap.size W V
  lo : ∀ t (ht : t < ((l.take j).filter k).length), V.cell? ⟨g, t, none⟩ = some (.string ⟨((l.take j).filter k)[t].toArray⟩)
  hi : ∀ t (ht : t < l.length), j ≤ t → V.cell? ⟨g, t, none⟩ = some (.string ⟨l[t].toArray⟩)
  so : ∀ t, t < l.length → (V.cell? ⟨g, t, none⟩).isSome = true
  fz : ∀ t, V.frozen? ⟨g, t, none⟩ = false
  il : i = ((l.take j).filter k).length
  ij : i < j
  gl : g < V.heap.size
  bc : V.cell? ⟨bs, 0, none⟩ = some (.pointer (some ⟨s, 0, none⟩))
theorem Dl.up {W V V2 : World} {g bs s : Nat} {l : List (List UInt8)} {k : List UInt8 → Bool} {j i : Nat} (h : Dl W g bs s l k j i V) (hb : Below V.heap.size V V2) : Dl W g bs s l k j i V2 :=
  ⟨h.bl.trans (hb.mono h.bl.size), fun t ht => (hb.cell (p := ⟨g, t, none⟩) h.gl).trans (h.lo t ht), fun t ht hj => (hb.cell (p := ⟨g, t, none⟩) h.gl).trans (h.hi t ht hj), fun t ht => by rw [hb.cell (p := ⟨g, t, none⟩) h.gl]; exact h.so t ht, fun t => (hb.frozen (p := ⟨g, t, none⟩) h.gl).trans (h.fz t), h.il, h.ij, Nat.lt_of_lt_of_le h.gl hb.size, (hb.cell (p := ⟨bs, 0, none⟩) (block_lt_of_cell h.bc)).trans h.bc⟩
theorem take_filter {l : List (List UInt8)} {k : List UInt8 → Bool} {j : Nat} (hj : j < l.length) : (l.take (j + 1)).filter k = (l.take j).filter k ++ (if k l[j] = true then [l[j]] else []) := by
  rw [List.take_succ_eq_append_getElem hj, List.filter_append]
  congr 1
  by_cases e : k l[j] = true
  · rw [if_pos e, List.filter_cons_of_pos e]; rfl
  · rw [if_neg e, List.filter_cons_of_neg e]; rfl
theorem Dl.skip {W V : World} {g bs s : Nat} {l : List (List UInt8)} {k : List UInt8 → Bool} {j i : Nat} (h : Dl W g bs s l k j i V) (hj : j < l.length) (hk : k l[j] = false) : Dl W g bs s l k (j + 1) i V := by
  have e : (l.take (j + 1)).filter k = (l.take j).filter k := by rw [take_filter hj, hk]; simp
  refine ⟨h.bl, ?_, fun t ht h1 => h.hi t ht (by omega), h.so, h.fz, by rw [e]; exact h.il, by have := h.ij; omega, h.gl, h.bc⟩
  rw [e]
  exact h.lo
theorem Dl.take {W V : World} {g bs s : Nat} {l : List (List UInt8)} {k : List UInt8 → Bool} {j i : Nat} (h : Dl W g bs s l k j i V) (hW : W.heap.size ≤ g) (hne : bs ≠ g) (hj : j < l.length) (hk : k l[j] = true) : Dl W g bs s l k (j + 1) (i + 1) (V.setCell ⟨g, i, none⟩ (.string ⟨l[j].toArray⟩)) := by
  have e : (l.take (j + 1)).filter k = (l.take j).filter k ++ [l[j]] := by rw [take_filter hj, hk]; simp
  have hil := h.il
  have hij := h.ij
  have hsame : (V.setCell ⟨g, i, none⟩ (.string ⟨l[j].toArray⟩)).cell? ⟨g, i, none⟩ = some (.string ⟨l[j].toArray⟩) := World.cell?_setCell_same' _ _ _ (h.so i (by omega))
  have hoth : ∀ t, t ≠ i → (V.setCell ⟨g, i, none⟩ (.string ⟨l[j].toArray⟩)).cell? ⟨g, t, none⟩ = V.cell? ⟨g, t, none⟩ := fun t ht => World.cell?_setCell_other _ _ _ _ (by simp)
  refine ⟨h.bl.setCell (p := ⟨g, i, none⟩) hW _, ?_, fun t ht h1 => (hoth t (by omega)).trans (h.hi t ht (by omega)), fun t ht => ?_, fun t => by rw [World.frozen?_setCell]; exact h.fz t, by rw [e, List.length_append]; simp; omega, by omega, by simpa using h.gl, ?_⟩
  · rw [e]
    intro t ht
    by_cases et : t = i
    · subst et
      rw [hsame, List.getElem_append_right (by omega)]
      simp
    · rw [List.length_append] at ht
      simp at ht
      rw [hoth t et, List.getElem_append_left (by omega)]
      exact h.lo t (by omega)
  · by_cases et : t = i
    · subst et; rw [hsame]; rfl
    · rw [hoth t et]; exact h.so t ht
  · exact (World.cell?_of_block (Below.heap_setCell V ⟨g, i, none⟩ _ bs hne)).trans h.bc
theorem below_sc {B g : Nat} (hg : B ≤ g) : ∀ (vs : List Value) (o : Nat) (w : World), Below B w (w.setCells g o vs)
  | [], _, _w => Below.refl _ _
  | v :: vs, o, w => ((Below.refl B w).setCell (p := ⟨g, o, none⟩) hg v).trans (below_sc hg vs (o + 1) _)
set_option maxRecDepth 100000 in
set_option maxHeartbeats 4000000 in
theorem delf_any (h : SJ w s d L Z W) (V0 : World) (hb : Below W.heap.size W V0) (g bs c : Nat) (l : List (List UInt8)) (hg : W.heap.size ≤ g) (hne : bs ≠ g) (hc : ∀ t (ht : t < l.length), V0.cell? ⟨g, t, none⟩ = some (.string ⟨l[t].toArray⟩)) (hgl : g < V0.heap.size) (hfz : ∀ t, V0.frozen? ⟨g, t, none⟩ = false) (hbs : V0.cell? ⟨bs, 0, none⟩ = some (.pointer (some ⟨s, 0, none⟩))) (hl : ∀ x ∈ l, x.length ≤ 900) (hll : l.length ≤ 4900) (hcap : l.length ≤ c) :
    Calls Tryz.prog 109 #[.slice (some ⟨g, 0, none⟩) l.length c, .func (Fn.func 108) #[] #[.pointer (some ⟨bs, 0, none⟩)]] V0 fun e V2 => e = .returned (.slice (some ⟨g, 0, none⟩) (l.filter (sst L)).length c) ∧ Below W.heap.size W V2 ∧ g < V2.heap.size ∧ ∀ t (ht : t < (l.filter (sst L)).length), V2.cell? ⟨g, t, none⟩ = some (.string ⟨(l.filter (sst L))[t].toArray⟩) := by
  have hTr : Tr W.heap.size V0 (some ⟨g, 0, none⟩) l := ⟨fun k hk => ⟨g, rfl, hg, hgl, hc k hk⟩⟩
  have cI := idxS1 (.pointer (some ⟨bs, 0, none⟩)) W.heap.size (some ⟨g, 0, none⟩) c l (fun x => !(sst L x)) V0 hTr (by omega) (fun x hx V hV => plain_any (h.up (hb.trans (hV.mono hb.size))) bs x (hl x hx) ((hV.cell (p := ⟨bs, 0, none⟩) (block_lt_of_cell hbs)).trans hbs))
  have HPL : Hid (∀ x ∈ l, ∀ V, Below W.heap.size W V → V.cell? ⟨bs, 0, none⟩ = some (.pointer (some ⟨s, 0, none⟩)) → Calls Tryz.prog 108 #[.string ⟨x.toArray⟩, .pointer (some ⟨bs, 0, none⟩)] V fun e w' => e = .returned (.bool (!(sst L x))) ∧ Below V.heap.size V w') := fun x hx V hV hc => plain_any (h.up hV) bs x (hl x hx) hc
  cases hfi : l.findIdx? (fun x => !(sst L x)) with
  | none =>
    rw [hfi] at cI
    have hall : l.filter (sst L) = l := by
      rw [List.filter_eq_self]
      intro x hx
      have := List.findIdx?_eq_none_iff.1 hfi x hx
      simpa using this
    have HF : Hid (∀ V2, Below V0.heap.size V0 V2 → Below W.heap.size W V2 ∧ g < V2.heap.size ∧ ∀ t (ht : t < l.length), V2.cell? ⟨g, t, none⟩ = some (.string ⟨l[t].toArray⟩)) := fun V2 h2 => ⟨hb.trans (h2.mono hb.size), Nat.lt_of_lt_of_le hgl h2.size, fun t ht => (h2.cell (p := ⟨g, t, none⟩) hgl).trans (hc t ht)⟩
    rw [hall]
    clear h hTr hc hfz hbs hl hb hfi hall HPL
    go_enter Tryz.func109, Tryz.ntmps109
    go_wp2_with fail
    refine cI.mono ?_
    rintro e V2 ⟨rfl, b2⟩
    have HF2 := Lib.hid (HF.out V2 b2)
    clear cI b2 HF
    rw [show fx none = -1 from rfl]
    go_wp2
    go_ret
    exact ⟨rfl, HF2.out⟩
  | some k0 =>
    rw [hfi, show fx (some k0) = (k0 : Int) from rfl] at cI
    obtain ⟨hk0, hkt, hkl⟩ := List.findIdx?_eq_some_iff_getElem.1 hfi
    have hdl : Dl W g bs s l (sst L) (k0 + 1) k0 V0 := by
      have e0 : (l.take k0).filter (sst L) = l.take k0 := by
        rw [List.filter_eq_self]
        intro x hx
        obtain ⟨t, ht, rfl⟩ := List.getElem_of_mem hx
        rw [List.length_take] at ht
        have := hkl t (by omega)
        rw [List.getElem_take]
        simpa using this
      have e1 : (l.take (k0 + 1)).filter (sst L) = l.take k0 := by
        rw [take_filter hk0, e0, if_neg (by simpa using hkt), List.append_nil]
      refine ⟨hb, ?_, fun t ht _ => hc t ht, fun t ht => by rw [hc t ht]; rfl, hfz, by rw [e1, List.length_take]; omega, Nat.lt_succ_self _, hgl, hbs⟩
      rw [e1]
      intro t ht
      rw [List.getElem_take]
      rw [List.length_take] at ht
      exact hc t (by omega)
    have HD : Hid (∀ V2, Below V0.heap.size V0 V2 → Dl W g bs s l (sst L) (k0 + 1) k0 V2) := fun V2 h2 => hdl.up h2
    have hzv : ∀ V, (zeroValue 9).run Tryz.prog V = .ok (.string ⟨#[]⟩) V := fun V => by kernel_rfl
    clear h hTr hc hfz hbs hl hb hfi hkt hkl hdl
    obtain ⟨r, hr⟩ : ∃ r, r = l.filter (sst L) := ⟨_, rfl⟩
    rw [← hr]
    have HR := Lib.hid hr
    clear hr
    go_enter Tryz.func109, Tryz.ntmps109
    go_wp2_with fail
    refine cI.mono ?_
    rintro e V2 ⟨rfl, b2⟩
    have HD2 := Lib.hid (HD.out V2 b2)
    clear cI b2 HD
    have hne1 : ((k0 : Int) == -1) = false := beq_eq_false_iff_ne.2 (by omega)
    go_wp2_with fail
    go_loopw [5, 6] (fun iv jv V => ∃ i j : Nat, j ≤ l.length ∧ iv = .int .i64 i ∧ jv = .int .i64 j ∧ Hid (Dl W g bs s l (sst L) j i V)) (fun _ jv _ => l.length - (intOf jv).toNat)
    case atStart => exact ⟨k0, k0 + 1, hk0, rfl, by go_num, HD2⟩
    case round =>
      clear HD2 hne1
      obtain ⟨i, j, hj, rfl, rfl, HK⟩ := hrel
      have hij := HK.out.ij
      by_cases hlt : j < l.length
      · have c0 := HK.out.hi j hlt (Nat.le_refl _)
        have hgr := HK.out.gl
        have cC := HPL.out l[j] (List.getElem_mem hlt) wr HK.out.bl HK.out.bc
        cases hq : sst L l[j] with
        | true =>
          rw [hq] at cC
          have HN : Hid (∀ V, Below wr.heap.size wr V → Dl W g bs s l (sst L) (j + 1) (i + 1) (V.setCell ⟨g, i, none⟩ (.string ⟨l[j].toArray⟩)) ∧ (V.cell? ⟨g, i, none⟩).isSome = true ∧ V.frozen? ⟨g, i, none⟩ = false ∧ g < V.heap.size) := fun V hV => ⟨(HK.out.up hV).take hg hne hlt hq, (HK.out.up hV).so i (by omega), (HK.out.up hV).fz i, (HK.out.up hV).gl⟩
          generalize l[j] = x at cC c0 HN
          clear hq HK
          go_wp2_with fail
          refine cC.mono ?_
          rintro e V3 ⟨rfl, b3⟩
          obtain ⟨hN1, hN2, hN3, hN4⟩ := HN.out V3 b3
          obtain ⟨old, hold⟩ := Option.isSome_iff_exists.1 hN2
          have HF := Lib.hid hN1
          clear HN cC b3 hN1 hN2 c0
          go_wp2_with fail
          exact ⟨⟨i + 1, j + 1, hlt, by go_num, by go_num, HF⟩, by simp [intOf]; omega⟩
        | false =>
          rw [hq] at cC
          have HN : Hid (∀ V, Below wr.heap.size wr V → Dl W g bs s l (sst L) (j + 1) i V) := fun V hV => (HK.out.up hV).skip hlt hq
          generalize l[j] = x at cC c0
          clear hq HK
          go_wp2_with fail
          refine cC.mono ?_
          rintro e V3 ⟨rfl, b3⟩
          have HF := Lib.hid (HN.out V3 b3)
          clear HN cC b3 c0
          go_wp2_with fail
          exact ⟨⟨i, j + 1, hlt, rfl, by go_num, HF⟩, by simp [intOf]; omega⟩
      · have hje : j = l.length := by omega
        subst hje
        have hcl : ∀ ty, (Builtin.clear_ #[40] ty #[.slice (some ⟨g, i, none⟩) (l.length - i) (c - i)]).run Tryz.prog wr = .ok (.tuple #[]) (wr.setCells g i (List.replicate (l.length - i) (.string ⟨#[]⟩))) := fun ty => Lib.run_clear_slice wr _ _ ty _ Tryz.underlying40 hzv rfl rfl g i _ _ (by omega) (fun t ht => HK.out.so _ (by omega)) (fun t ht => HK.out.fz _)
        have HF : Hid (i = r.length ∧ Below W.heap.size W (wr.setCells g i (List.replicate (l.length - i) (.string ⟨#[]⟩))) ∧ g < (wr.setCells g i (List.replicate (l.length - i) (.string ⟨#[]⟩))).heap.size ∧ ∀ t (ht : t < r.length), (wr.setCells g i (List.replicate (l.length - i) (.string ⟨#[]⟩))).cell? ⟨g, t, none⟩ = some (.string ⟨r[t].toArray⟩)) := by
          have hrr : r = (l.take l.length).filter (sst L) := by rw [HR.out, List.take_length]
          subst hrr
          have hil := HK.out.il
          refine ⟨hil, HK.out.bl.trans (below_sc hg _ _ _), Nat.lt_of_lt_of_le HK.out.gl (below_sc hg _ _ _).size, fun t ht => ?_⟩
          rw [World.cell?_setCells_out g _ _ _ _ (fun _ _ => .inl (by show t < i; omega))]
          exact HK.out.lo t ht
        clear HK HPL
        generalize wr.setCells g i (List.replicate (l.length - i) (.string ⟨#[]⟩)) = VC at hcl HF
        go_wp2
        go_ret
        exact ⟨by rw [HF.out.1]; rfl, HF.out.2⟩
set_option maxRecDepth 100000 in
theorem delf_nil (A : Option Addr) (c : Nat) (p1 : Value) (W : World) : Calls Tryz.prog 109 #[.slice A 0 c, .func (Fn.func 108) #[] #[p1]] W fun e w' => e = .returned (.slice A 0 c) ∧ Below W.heap.size W w' := by
  have cI := idxS1 p1 0 A c [] (fun _ => false) W ⟨fun k hk => absurd hk (Nat.not_lt_zero _)⟩ (by simp) (fun x hx => by cases hx)
  rw [show fx (([] : List (List UInt8)).findIdx? fun _ => false) = -1 from rfl] at cI
  simp only [List.length_nil] at cI
  go_enter Tryz.func109, Tryz.ntmps109
  go_wp2_with fail
  refine cI.mono ?_
  rintro e V2 ⟨rfl, b2⟩
  go_wp2
  go_ret
  exact ⟨rfl, b2⟩
/-- The settings of one. -/
def sts (L : Kv Ent) (n : List UInt8) : List (List UInt8) := (pts L n).filter (sst L)
set_option maxRecDepth 100000 in
set_option maxHeartbeats 1600000 in
theorem settings_gen (h : SJ w s d L Z W) (hG : Gd L) (hn : L.length ≤ 4900) (n : List UInt8) (hnl : n.length ≤ 1000) : Calls Tryz.prog 65 #[.pointer (some ⟨s, 0, none⟩), .string ⟨n.toArray⟩] W fun x W2 => ∃ A c, x = .returned (.slice A (sts L n).length c) ∧ (sts L n).length ≤ c ∧ Tr W.heap.size W2 A (sts L n) ∧ Below W.heap.size W W2 := by
  have bA := (Below.refl W.heap.size W).alloc (Nat.le_refl _) (.cells #[.pointer (some ⟨s, 0, none⟩)] 23)
  have xs := nb0 W (.cells #[.pointer (some ⟨s, 0, none⟩)] 23)
  obtain ⟨bs, hbs⟩ : ∃ bs, bs = W.heap.size := ⟨_, rfl⟩
  obtain ⟨V0, hV0⟩ : ∃ V0, V0 = W.alloc (.cells #[.pointer (some ⟨s, 0, none⟩)] 23) := ⟨_, rfl⟩
  rw [← hV0] at bA xs
  rw [← hbs] at xs
  have c0 : V0.cell? ⟨bs, 0, none⟩ = some (.pointer (some ⟨s, 0, none⟩)) := by simp [World.cell?, xs]
  have cP := paths_gen (h.up bA) hn hG.osm n hnl
  have hpl : (pts L n).length ≤ 4900 := Nat.le_trans (ptf_len L _ n) (by rw [List.length_map]; exact hn)
  have HP9 : Hid (∀ x ∈ pts L n, x.length ≤ 900) := fun x hx => hG.pts hx
  have HJ := Lib.hid h
  have HB := Lib.hid bA
  have hb0 : bs < V0.heap.size := block_lt_of_cell c0
  have hWb : W.heap.size ≤ bs := by omega
  have hst : sts L n = (pts L n).filter (sst L) := rfl
  rw [hst]
  generalize pts L n = l at cP hpl HP9
  obtain ⟨r, hrr⟩ : ∃ r, r = l.filter (sst L) := ⟨_, rfl⟩
  rw [← hrr]
  have HRR := Lib.hid hrr
  clear h hG bA xs hst hrr
  go_enter Tryz.func65, Tryz.ntmps65
  go_upto_region 1 with fail
  rw [← hV0, ← hbs]
  clear hV0 hbs
  go_wp2_with fail
  refine cP.mono ?_
  rintro x V1 ⟨v, rfl, hr, b1⟩
  have hB1 := HB.out.trans (b1.mono HB.out.size)
  have c1 := (b1.cell (p := ⟨bs, 0, none⟩) hb0).trans c0
  rcases hr.2 with ⟨rfl, hl0⟩ | ⟨g, cap, cur, rfl, hgb, hgg, hcap, _⟩
  · have hln : l = [] := List.length_eq_zero_iff.1 hl0
    subst hln
    have cD := delf_nil none 0 (.pointer (some ⟨bs, 0, none⟩)) V1
    have HB1 := Lib.hid hB1
    clear cP hr b1 hB1
    go_wp2_with fail
    refine cD.mono ?_
    rintro e V2 ⟨rfl, b2⟩
    have HF := Lib.hid (HB1.out.trans (b2.mono HB1.out.size))
    clear cD b2
    go_wp2
    go_ret
    have hr0 : r = [] := HRR.out
    subst hr0
    exact ⟨none, 0, rfl, Nat.le_refl _, ⟨fun k hk => absurd hk (Nat.not_lt_zero _)⟩, HF.out⟩
  · have hcell : ∀ t (ht : t < l.length), V1.cell? ⟨g, t, none⟩ = some (.string ⟨l[t].toArray⟩) := fun t ht => by
      have := World.ownsRow.cellAt hr t (by omega)
      simpa [ht] using this
    have cD := delf_any HJ.out V1 hB1 g bs cap l (by omega) (by omega) hcell (Array.getElem?_eq_some_iff.1 hgg).1 (fun t => by simp [World.frozen?, hgg]) c1 HP9.out hpl hcap
    have hfl : (l.filter (sst L)).length ≤ l.length := List.length_filter_le _ _
    have HFL : Hid ((l.filter (sst L)).length ≤ cap) := Nat.le_trans hfl hcap
    have hgW : W.heap.size ≤ g := by omega
    rw [← HRR.out] at cD HFL
    clear cP hr b1 hB1 hcell hgg hfl
    go_wp2_with fail
    refine cD.mono ?_
    rintro e V2 ⟨rfl, b2, hg2, hc2⟩
    have HF : Hid (Tr W.heap.size V2 (some ⟨g, 0, none⟩) r ∧ Below W.heap.size W V2) := ⟨⟨fun k hk => ⟨g, rfl, hgW, hg2, hc2 k hk⟩⟩, b2⟩
    clear cD b2 hg2 hc2
    go_wp2
    go_ret
    exact ⟨_, _, rfl, HFL.out, HF.out.1, HF.out.2⟩
end
end Go.Proofs.YtlldfmnoidndmaaGreatDoor.Dsk
