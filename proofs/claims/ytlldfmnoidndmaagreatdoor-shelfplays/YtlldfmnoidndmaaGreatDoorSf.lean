/- A shelf: comes walked. -/
import Derived.Test.YtlldfmnoidndmaaGreatDoorSe
namespace Go.Proofs.YtlldfmnoidndmaaGreatDoor.Dsk
open Go.RowKit Go.Sort Go.Maps

theorem cho_or (o n x : Option ByteArray) : Cho.cho o n x = 0 ∨ Cho.cho o n x = 1 ∨ Cho.cho o n x = 2 := by
  unfold Cho.cho
  repeat' split
  all_goals simp
/-- What comes, of one file; and the answers that are left. -/
def cms (L : Kv Ent) (SS : List (List UInt8)) (x : List Bool × List Bool) (f : List UInt8 × List UInt8) : List Bool × List Bool :=
  if SS.contains f.1 = true then (if chl L f.1 f.2 = 0 then (x.1 ++ [true], x.2) else if chl L f.1 f.2 = 2 then (x.1 ++ [x.2.headD false], x.2.tail) else (x.1 ++ [false], x.2)) else (x.1 ++ [true], x.2)
def cml (L : Kv Ent) (SS : List (List UInt8)) (F : List (List UInt8 × List UInt8)) (aw : List Bool) : List Bool := (F.foldl (cms L SS) ([], aw)).1
theorem cms_len (L : Kv Ent) (SS : List (List UInt8)) (x : List Bool × List Bool) (f : List UInt8 × List UInt8) : (cms L SS x f).1.length = x.1.length + 1 := by
  unfold cms
  repeat' split
  all_goals simp
theorem cmf_len (L : Kv Ent) (SS : List (List UInt8)) : ∀ (F : List (List UInt8 × List UInt8)) (x : List Bool × List Bool), (F.foldl (cms L SS) x).1.length = x.1.length + F.length
  | [], x => rfl
  | f :: F, x => by rw [List.foldl_cons, cmf_len L SS F, cms_len, List.length_cons]; omega
def rowB (out : List Bool) (n : Nat) : Array Value := (out.map Value.bool ++ List.replicate (n - out.length) (Value.bool false)).toArray
theorem rowB_set (out : List Bool) (n : Nat) (y : Bool) (h : out.length < n) : (rowB out n).setIfInBounds out.length (.bool y) = rowB (out ++ [y]) n := by
  unfold rowB
  obtain ⟨k, hk⟩ : ∃ k, n - out.length = k + 1 := ⟨n - out.length - 1, by omega⟩
  rw [List.setIfInBounds_toArray, hk, List.replicate_succ, List.set_append_right _ _ (by simp), List.length_map, Nat.sub_self, List.set_cons_zero, List.map_append, List.length_append, List.append_assoc]
  have : n - (out.length + [y].length) = k := by simp; omega
  rw [this]
  rfl
theorem rowB_get (out : List Bool) (n : Nat) (h : out.length < n) : (rowB out n)[out.length]? = some (.bool false) := by
  unfold rowB
  obtain ⟨k, hk⟩ : ∃ k, n - out.length = k + 1 := ⟨n - out.length - 1, by omega⟩
  rw [hk, List.replicate_succ]
  simp
theorem rowB_full (out : List Bool) : rowB out out.length = (out.map Value.bool).toArray := by
  unfold rowB
  rw [Nat.sub_self]
  simp
theorem made_row {w : World} {B g n : Nat} (h : w.ownsRow B 4 1 (.slice (some ⟨g, 0, none⟩) n n) n (madeCells (Value.bool false).cells (n * 1)).toList) : w.heap[g]? = some (.cells (rowB [] n) 4 (0, 0)) := by
  rcases h.2 with ⟨h1, _⟩ | ⟨g', cap, cur, h1, _, hg, _, _, h4, h5⟩
  · cases h1
  · cases h1
    rw [hg]
    have : cur = rowB [] n := by
      have h6 : cur.toList.take (n * 1) = cur.toList := List.take_of_length_le (by simp [h4])
      rw [h6] at h5
      apply Array.toList_inj.1
      rw [h5]
      unfold rowB
      refine List.ext_getElem (by simp [madeCells]) fun i h1 h2 => ?_
      simp [madeCells, Value.cells, Nat.mod_one]
    rw [this]
/-- comes on its way: the package, the answers that are left, what is told. -/
structure Cm (W : World) (bp bA g : Nat) (pk : Obj) (N : Nat) (out rest : List Bool) (V : World) : Prop where
  bl : Below W.heap.size W V
  hp : V.heap[bp]? = some pk
  ha : ∃ v, V.heap[bA]? = some (.cells #[v] 44 (0, 0)) ∧ An W v rest
  hg : V.heap[g]? = some (.cells (rowB out N) 4 (0, 0))
section
variable {W V V2 : World} {bp bA g N : Nat} {pk : Obj} {out rest : List Bool}
theorem Cm.up (h : Cm W bp bA g pk N out rest V) (hb : Below V.heap.size V V2) : Cm W bp bA g pk N out rest V2 := by
  obtain ⟨v, h1, h2⟩ := h.ha
  exact ⟨h.bl.trans (hb.mono h.bl.size), (hb.block _ (Array.getElem?_eq_some_iff.1 h.hp).1).trans h.hp, ⟨v, (hb.block _ (Array.getElem?_eq_some_iff.1 h1).1).trans h1, h2⟩, (hb.block _ (Array.getElem?_eq_some_iff.1 h.hg).1).trans h.hg⟩
theorem Cm.set (h : Cm W bp bA g pk N out rest V) (h1 : W.heap.size ≤ g) (h2 : bp ≠ g) (h3 : bA ≠ g) (hk : out.length < N) (y : Bool) : Cm W bp bA g pk N (out ++ [y]) rest (V.setCell ⟨g, out.length, none⟩ (.bool y)) := by
  obtain ⟨v, k1, k2⟩ := h.ha
  refine ⟨h.bl.setCell (p := ⟨g, out.length, none⟩) h1 _, (Below.heap_setCell V ⟨g, out.length, none⟩ _ bp h2).trans h.hp, ⟨v, (Below.heap_setCell V ⟨g, out.length, none⟩ _ bA h3).trans k1, k2⟩, ?_⟩
  rw [heap_setCell_same V g out.length _ _ _ h.hg, rowB_set _ _ _ hk]
theorem Cm.next (h : Cm W bp bA g pk N out rest V) (h1 : W.heap.size ≤ bA) (h2 : bp ≠ bA) (h3 : bA ≠ g) {v : Value} {r2 : List Bool} (hv : An W v r2) : Cm W bp bA g pk N out r2 (V.setCell ⟨bA, 0, none⟩ v) := by
  obtain ⟨v0, k1, k2⟩ := h.ha
  refine ⟨h.bl.setCell (p := ⟨bA, 0, none⟩) h1 _, (Below.heap_setCell V ⟨bA, 0, none⟩ _ bp h2).trans h.hp, ⟨v, ?_, hv⟩, (Below.heap_setCell V ⟨bA, 0, none⟩ _ g h3.symm).trans h.hg⟩
  have := heap_setCell_same V bA 0 _ _ v k1
  simpa using this
theorem Cm.cells (h : Cm W bp bA g pk N out rest V) (hk : out.length < N) : V.cell? ⟨g, out.length, none⟩ = some (.bool false) ∧ V.frozen? ⟨g, out.length, none⟩ = false ∧ g < V.heap.size := by
  refine ⟨?_, by simp [World.frozen?, h.hg], (Array.getElem?_eq_some_iff.1 h.hg).1⟩
  have := rowB_get out N hk
  simp [World.cell?, h.hg, this]
end
section
variable {w W : World} {s d : Nat} {Z : Nat → Prop} {L : Kv Ent}
set_option maxRecDepth 100000 in
set_option maxHeartbeats 8000000 in
theorem comes_gen (h : SJ w s d L Z W) (n : List UInt8) (e : Int) (u r : List UInt8) (vD vA vG vB vR vP vS vL vF va : Value) (SS : List (List UInt8)) (F : List (List UInt8 × List UInt8)) (aw : List Bool) (hS : Ss W vS SS) (hSl : SS.length ≤ 1000000) (hF : Fs W vF F) (hFl : F.length ≤ 1000) (hA : An W va aw) (hFp : ∀ f ∈ F, f.1.length ≤ 900) :
    Calls Tryz.prog 51 #[.pointer (some ⟨s, 0, none⟩), pkv n e u r vD vA vG vB vR vP vS vL vF, va] W fun x W2 => ∃ g, x = .returned (.slice (some ⟨g, 0, none⟩) F.length F.length) ∧ W.heap.size ≤ g ∧ W2.heap[g]? = some (.cells ((cml L SS F aw).map Value.bool).toArray 4 (0, 0)) ∧ Below W.heap.size W W2 := by
  obtain ⟨fp, fc, rfl⟩ : ∃ fp fc, vF = .slice fp F.length fc := by
    rcases hF.is with ⟨h, A, c, h1⟩ | ⟨b, o, c, h1, _⟩
    · rw [h]; exact ⟨_, _, h1⟩
    · exact ⟨_, _, h1⟩
  obtain ⟨ap, an, ac, rfl⟩ : ∃ ap an ac, va = .slice ap an ac := by
    rcases hA.is with ⟨_, _, _, rfl⟩ | ⟨b, o, c, rfl, _⟩
    · exact ⟨_, _, _, rfl⟩
    · exact ⟨_, _, _, rfl⟩
  have bA := (Below.refl W.heap.size W).alloc (Nat.le_refl _) (pko n e u r vD vA vG vB vR vP vS vL (.slice fp F.length fc))
  have bB := bA.alloc bA.size (.cells #[.slice ap an ac] 44)
  have x0 : ((W.alloc (pko n e u r vD vA vG vB vR vP vS vL (.slice fp F.length fc))).alloc (.cells #[.slice ap an ac] 44)).heap[W.heap.size]? = some (pko n e u r vD vA vG vB vR vP vS vL (.slice fp F.length fc)) := by
    rw [Below.heap_alloc _ _ W.heap.size (by simp)]
    exact nb0 _ _
  have x1 : ((W.alloc (pko n e u r vD vA vG vB vR vP vS vL (.slice fp F.length fc))).alloc (.cells #[.slice ap an ac] 44)).heap[W.heap.size + 1]? = some (.cells #[.slice ap an ac] 44 (0, 0)) := by
    have := nb0 (W.alloc (pko n e u r vD vA vG vB vR vP vS vL (.slice fp F.length fc))) (.cells #[.slice ap an ac] 44)
    rwa [World.size_alloc] at this
  have HJ := Lib.hid h
  have HB := Lib.hid bB
  have HX0 := Lib.hid x0
  have HX1 := Lib.hid x1
  have HS := Lib.hid hS
  have HA := Lib.hid hA
  have HFs := Lib.hid hF
  have HFP := Lib.hid hFp
  obtain ⟨i0, hi0, hz0, hz1, hz2⟩ := infoQ info4
  clear h bA bB x0 x1 hS hA hF hFp
  go_enter Tryz.func51, Tryz.ntmps51
  go_upto_region 3 with (at_make; refine wpList_make_full _ rfl _ _ 44 rfl W.heap.size 4 i0 _ 1 Tryz.underlying44 hi0 hz0 hz1 _ _ _ _ F.length rfl rfl rfl rfl (by rw [hz2]; omega) (by unfold maxLen; omega) (by simp; omega) ?_; intro w1 hown hgrow; go_frame)
  have hb1 : Below W.heap.size W w1 := HB.out.grown hgrow (by simp; omega) (fun j e => by cases e)
  have hx0 := (hgrow.block W.heap.size (by simp; omega) (by simp)).trans HX0.out
  have hx1 := (hgrow.block (W.heap.size + 1) (by simp) (by simp)).trans HX1.out
  have hgs : ((W.alloc (pko n e u r vD vA vG vB vR vP vS vL (.slice fp F.length fc))).alloc (.cells #[.slice ap an ac] 44)).heap.size = W.heap.size + 2 := by simp
  obtain ⟨g, hg⟩ : ∃ g, g = ((W.alloc (pko n e u r vD vA vG vB vR vP vS vL (.slice fp F.length fc))).alloc (.cells #[.slice ap an ac] 44)).heap.size := ⟨_, rfl⟩
  rw [← hg] at hown hgs
  rw [← hg]
  have hgb : w1.heap[g]? = some (.cells (rowB [] F.length) 4 (0, 0)) := made_row hown
  have HC1 : Hid (Cm W W.heap.size (W.heap.size + 1) g (pko n e u r vD vA vG vB vR vP vS vL (.slice fp F.length fc)) F.length [] aw w1) := ⟨hb1, hx0, ⟨_, hx1, HA.out⟩, hgb⟩
  have p12 : w1.cell? ⟨W.heap.size, 12, none⟩ = some (.slice fp F.length fc) := by simp [World.cell?, hx0]
  have hl0 : W.heap.size < w1.heap.size := (Array.getElem?_eq_some_iff.1 hx0).1
  have hgn : W.heap.size + 1 ≠ g := by omega
  have hgn2 : W.heap.size ≤ g := by omega
  have hgn3 : W.heap.size ≠ g := by omega
  clear hown hgrow hx0 hx1 hg HB HX0 HX1 hgs hb1 hz0 hz1 hz2 hi0 hgb HA
  go_wp2_with fail
  go_loopw [20] (fun iv V => ∃ k : Nat, k ≤ F.length ∧ iv = .int .i64 k ∧ Hid (∃ out rest, (F.take k).foldl (cms L SS) ([], aw) = (out, rest) ∧ out.length = k ∧ Cm W W.heap.size (W.heap.size + 1) g (pko n e u r vD vA vG vB vR vP vS vL (.slice fp F.length fc)) F.length out rest V)) (fun iv _ => F.length - (intOf iv).toNat)
  case atStart => exact ⟨0, Nat.zero_le _, rfl, [], aw, by simp, rfl, HC1.out⟩
  case round =>
    clear HC1 p12 hl0
    obtain ⟨k, hk, rfl, HK⟩ := hrel
    by_cases hlt : k < F.length
    · obtain ⟨out, rest, hfo, hol, hCm⟩ := HK.out
      obtain ⟨fb, fo, rfl, hFr⟩ : ∃ fb fo, fp = some ⟨fb, fo, none⟩ ∧ Fr wr fb fo F := by
        rcases (HFs.out.on hCm.bl).is with ⟨h, _⟩ | ⟨b, o, c, h1, _, h3⟩
        · rw [h] at hlt; simp at hlt
        · cases h1; exact ⟨b, o, rfl, h3⟩
      have f0 := hFr.c0 k hlt
      have f1 := hFr.c1 k hlt
      have hfl := hFr.lt
      have hpa := HFP.out _ (List.getElem_mem hlt)
      have hft := fold_take (cms L SS) ([], aw) F k hlt
      rw [hfo] at hft
      generalize F[k] = f at f0 f1 hpa hft
      obtain ⟨pa, da⟩ := f
      dsimp only at f0 f1 hpa
      have hCF := hCm.up ((Below.refl wr.heap.size wr).alloc (Nat.le_refl _) (.cells #[.string ⟨pa.toArray⟩, .string ⟨da.toArray⟩] 73))
      have cC := contains_any (p := pa) (HS.out.on hCF.bl) hSl
      have hxF := nb0 wr (.cells #[.string ⟨pa.toArray⟩, .string ⟨da.toArray⟩] 73)
      have p10 : (wr.alloc (.cells #[.string ⟨pa.toArray⟩, .string ⟨da.toArray⟩] 73)).cell? ⟨W.heap.size, 10, none⟩ = some vS := by simp [World.cell?, hCF.hp]
      have HNX : Hid (∀ o2 r2, cms L SS (out, rest) (pa, da) = (o2, r2) → ∀ V2, Cm W W.heap.size (W.heap.size + 1) g (pko n e u r vD vA vG vB vR vP vS vL (.slice (some ⟨fb, fo, none⟩) F.length fc)) F.length o2 r2 V2 → ∃ out rest, (F.take (k + 1)).foldl (cms L SS) ([], aw) = (out, rest) ∧ out.length = k + 1 ∧ Cm W W.heap.size (W.heap.size + 1) g (pko n e u r vD vA vG vB vR vP vS vL (.slice (some ⟨fb, fo, none⟩) F.length fc)) F.length out rest V2) := fun o2 r2 h1 V2 h2 => ⟨o2, r2, by rw [hft, h1], by have := cms_len L SS (out, rest) (pa, da); rw [h1] at this; simp only at this; omega, h2⟩
      have HCm := Lib.hid hCF
      have HXF := Lib.hid hxF
      obtain ⟨bf, hbf⟩ : ∃ bf, bf = wr.heap.size := ⟨_, rfl⟩
      rw [← hbf] at HXF
      obtain ⟨WF, hWF⟩ : ∃ WF, WF = wr.alloc (.cells #[.string ⟨pa.toArray⟩, .string ⟨da.toArray⟩] 73) := ⟨_, rfl⟩
      rw [← hWF] at HXF HCm p10 cC
      have bfl : bf < WF.heap.size := (Array.getElem?_eq_some_iff.1 HXF.out).1
      have cf0 : WF.cell? ⟨bf, 0, none⟩ = some (.string ⟨pa.toArray⟩) := by simp [World.cell?, HXF.out]
      have hl0 : W.heap.size < wr.heap.size := (Array.getElem?_eq_some_iff.1 hCm.hp).1
      have p12 : wr.cell? ⟨W.heap.size, 12, none⟩ = some (.slice (some ⟨fb, fo, none⟩) F.length fc) := by simp [World.cell?, hCm.hp]
      have hkN : out.length < F.length := by omega
      clear hxF hCF hCm hft hfo HK hFr
      go_upto_region 7 with fail
      rw [← hWF, ← hbf]
      clear hWF hbf f0 f1 hfl p12 hl0
      go_wp2_with fail
      refine cC.mono ?_
      rintro x w2 ⟨rfl, hw⟩
      rw [hw]
      clear hw cC w2
      cases hst : SS.contains pa with
      | false =>
        obtain ⟨gc, gf, gl⟩ := HCm.out.cells hkN
        have HC : Hid (∃ out rest, (F.take (k + 1)).foldl (cms L SS) ([], aw) = (out, rest) ∧ out.length = k + 1 ∧ Cm W W.heap.size (W.heap.size + 1) g (pko n e u r vD vA vG vB vR vP vS vL (.slice (some ⟨fb, fo, none⟩) F.length fc)) F.length out rest (WF.setCell ⟨g, k, none⟩ (.bool true))) := HNX.out (out ++ [true]) rest (by unfold cms; rw [hst]; rfl) _ (by rw [← hol]; exact HCm.out.set hgn2 hgn3 hgn hkN true)
        rw [hol] at gc gf
        clear HCm HXF HNX hst p10 cf0
        go_wp2_with fail
        exact ⟨⟨k + 1, hlt, by go_num, HC⟩, by simp [intOf]; omega⟩
      | true =>
        have HST : Hid (cms L SS (out, rest) (pa, da) = (if chl L pa da = 0 then (out ++ [true], rest) else if chl L pa da = 2 then (out ++ [rest.headD false], rest.tail) else (out ++ [false], rest))) := by show _ = _; unfold cms; rw [hst]; rfl
        clear hst cf0
        have LC : WF.drew.cell? ⟨bf, 0, none⟩ = some (.string ⟨pa.toArray⟩) := by show WF.cell? ⟨bf, 0, none⟩ = _; simp [World.cell?, HXF.out]
        have LD : WF.drew.cell? ⟨bf, 1, none⟩ = some (.string ⟨da.toArray⟩) := by show WF.cell? ⟨bf, 1, none⟩ = _; simp [World.cell?, HXF.out]
        have hbfl : bf < WF.drew.heap.size := block_lt_of_cell LC
        have bD := (Below.refl WF.heap.size WF).drew
        have hJF := (HJ.out.up HCm.out.bl).up bD
        have cT1 := text_any hJF ([99, 47] ++ pa) (by simp; omega)
        have HJF := Lib.hid hJF
        clear hJF
        go_wp2_with fail
        refine wp_region_held (S := fun V => V.cell? ⟨bf, 0, none⟩ = some (.string ⟨pa.toArray⟩)) (by kernel_rfl) ?_
        refine take_d (some 30) (i := 0) (v := .pointer (some ⟨s, 0, none⟩)) rfl rfl (by as_aux_lemma => kernel_rfl) (by as_aux_lemma => kernel_rfl) (by as_aux_lemma => kernel_rfl) (fun _ _ _ h => h) (.inl ⟨by kernel_rfl, fun w' _ => by simp [go_sem]⟩) LC ?_
        refine take_d (some 31) (i := 1) (v := .pointer (some ⟨bf, 0, none⟩)) rfl rfl (by as_aux_lemma => kernel_rfl) (by as_aux_lemma => kernel_rfl) (by as_aux_lemma => kernel_rfl) (fun _ _ _ h => h) (.inl ⟨by kernel_rfl, fun w' _ => by simp [go_sem]⟩) LC ?_
        refine take_d (some 32) (i := 2) (v := .string ⟨pa.toArray⟩) rfl rfl (by as_aux_lemma => kernel_rfl) (by as_aux_lemma => kernel_rfl) (by as_aux_lemma => kernel_rfl) (fun _ _ _ h => h) (.inl ⟨by kernel_rfl, fun w' hw => by simp [go_sem, hw]⟩) LC ?_
        refine take_d (some 33) (i := 3) (v := .string ⟨([99, 47] ++ pa).toArray⟩) rfl rfl (by as_aux_lemma => kernel_rfl) (by as_aux_lemma => kernel_rfl) (by as_aux_lemma => kernel_rfl) (fun _ _ _ h => h) (.inl ⟨by kernel_rfl, fun w' _ => by simp [go_sem]; rw [if_neg (by omega), show (⟨#[99, 47]⟩ : ByteArray) = ⟨[99, 47].toArray⟩ from rfl, cat2]; simp⟩) LC ?_
        refine take_d (some 35) (i := 5) (v := .pointer (some ⟨s, 0, none⟩)) rfl rfl (by as_aux_lemma => kernel_rfl) (by as_aux_lemma => kernel_rfl) (by as_aux_lemma => kernel_rfl) (fun _ _ _ h => h) (.inl ⟨by kernel_rfl, fun w' _ => by simp [go_sem]⟩) LC ?_
        refine take_d (some 36) (i := 6) (v := .pointer (some ⟨bf, 0, none⟩)) rfl rfl (by as_aux_lemma => kernel_rfl) (by as_aux_lemma => kernel_rfl) (by as_aux_lemma => kernel_rfl) (fun _ _ _ h => h) (.inl ⟨by kernel_rfl, fun w' _ => by simp [go_sem]⟩) LC ?_
        refine take_d (some 37) (i := 7) (v := .string ⟨pa.toArray⟩) rfl rfl (by as_aux_lemma => kernel_rfl) (by as_aux_lemma => kernel_rfl) (by as_aux_lemma => kernel_rfl) (fun _ _ _ h => h) (.inl ⟨by kernel_rfl, fun w' hw => by simp [go_sem, hw]⟩) LC ?_
        refine take_d (some 38) (i := 8) (v := .string ⟨([100, 47] ++ pa).toArray⟩) rfl rfl (by as_aux_lemma => kernel_rfl) (by as_aux_lemma => kernel_rfl) (by as_aux_lemma => kernel_rfl) (fun _ _ _ h => h) (.inl ⟨by kernel_rfl, fun w' _ => by simp [go_sem]; rw [if_neg (by omega), show (⟨#[100, 47]⟩ : ByteArray) = ⟨[100, 47].toArray⟩ from rfl, cat2]; simp⟩) LC ?_
        refine take_d (some 40) (i := 10) (v := .pointer (some ⟨bf, 1, none⟩)) rfl rfl (by as_aux_lemma => kernel_rfl) (by as_aux_lemma => kernel_rfl) (by as_aux_lemma => kernel_rfl) (fun _ _ _ h => h) (.inl ⟨by kernel_rfl, fun w' _ => by simp [go_sem]⟩) LC ?_
        try simp only [Act.put, List.setIfInBounds_toArray, List.set_cons_succ, List.set_cons_zero]
        refine wpAnyH_all (rs := [4]) (by as_aux_lemma => kernel_rfl) (by simp) fun j hj => ?_
        obtain rfl : j = 4 := by simpa using hj
        refine wpOp_want rfl (by kernel_rfl) ?_
        unfold Oper.wp
        simp [go_sem]
        refine cT1.mono ?_
        rintro z W3 ⟨v3, rfl, hT3, b3⟩
        replace LC : W3.cell? ⟨bf, 0, none⟩ = some (.string ⟨pa.toArray⟩) := (b3.cell (p := ⟨bf, 0, none⟩) hbfl).trans LC
        replace LD : W3.cell? ⟨bf, 1, none⟩ = some (.string ⟨da.toArray⟩) := (b3.cell (p := ⟨bf, 1, none⟩) hbfl).trans LD
        have hbfl3 : bf < W3.heap.size := block_lt_of_cell LC
        have cT2 := text_any (HJF.out.up b3) ([100, 47] ++ pa) (by simp; omega)
        refine ⟨LC, ?_⟩
        try simp only [Act.put, List.setIfInBounds_toArray, List.set_cons_succ, List.set_cons_zero]
        refine wpAnyH_all (rs := [9]) (by as_aux_lemma => kernel_rfl) (by simp) fun j hj => ?_
        obtain rfl : j = 9 := by simpa using hj
        refine wpOp_want rfl (by kernel_rfl) ?_
        unfold Oper.wp
        simp [go_sem]
        refine cT2.mono ?_
        rintro z W4 ⟨v4, rfl, hT4, b4⟩
        replace LC : W4.cell? ⟨bf, 0, none⟩ = some (.string ⟨pa.toArray⟩) := (b4.cell (p := ⟨bf, 0, none⟩) hbfl3).trans LC
        replace LD : W4.cell? ⟨bf, 1, none⟩ = some (.string ⟨da.toArray⟩) := (b4.cell (p := ⟨bf, 1, none⟩) hbfl3).trans LD
        have cH := Cho.choice_any v3 v4 (.pointer (some ⟨bf, 1, none⟩)) _ _ (some (ba da)) W4 (tp_ba (hT3.on b4)) (tp_ba hT4) ⟨.inr ⟨⟨bf, 1, none⟩, ba da, rfl, rfl, LD⟩⟩
        refine ⟨LC, ?_⟩
        try simp only [Act.put, List.setIfInBounds_toArray, List.set_cons_succ, List.set_cons_zero]
        refine wpAnyH_all (rs := [11]) (by as_aux_lemma => kernel_rfl) (by simp) fun j hj => ?_
        obtain rfl : j = 11 := by simpa using hj
        refine wpOp_want rfl (by kernel_rfl) ?_
        unfold Oper.wp
        simp [go_sem]
        refine cH.mono ?_
        rintro z W5 ⟨rfl, b5⟩
        have hbl5 : bf < W4.heap.size := block_lt_of_cell LC
        replace LC : W5.cell? ⟨bf, 0, none⟩ = some (.string ⟨pa.toArray⟩) := (b5.cell (p := ⟨bf, 0, none⟩) hbl5).trans LC
        refine ⟨LC, ?_⟩
        have hch : Cho.cho (((lkL ([99, 47] ++ pa) L).map Ent.now).map ba) (((lkL ([100, 47] ++ pa) L).map Ent.now).map ba) (some (ba da)) = chl L pa da := rfl
        rw [hch]
        have hor : chl L pa da = 0 ∨ chl L pa da = 1 ∨ chl L pa da = 2 := cho_or _ _ _
        have hcm := HST.out
        generalize chl L pa da = c at hor hcm ⊢
        refine take_d (some 11) (i := 12) (v := .int .i64 c) rfl rfl (by as_aux_lemma => kernel_rfl) (by as_aux_lemma => kernel_rfl) (by as_aux_lemma => kernel_rfl) (fun _ _ _ h => h) (.inl ⟨by kernel_rfl, fun w' _ => by simp [go_sem]⟩) LC ?_
        try simp only [Act.put, List.setIfInBounds_toArray, List.set_cons_succ, List.set_cons_zero]
        refine wpAnyH_done (by as_aux_lemma => kernel_rfl) ?_ _
        have bF5 : Below WF.heap.size WF W5 := ((bD.trans (b3.mono bD.size)).trans (b4.mono (Nat.le_trans bD.size b3.size))).trans (b5.mono (Nat.le_trans (Nat.le_trans bD.size b3.size) b4.size))
        have HC5 := Lib.hid (HCm.out.up bF5)
        have HCM := Lib.hid hcm
        clear LC LD hbfl hbfl3 hbl5 bD cT1 HJF cT2 cH hT3 hT4 b3 b4 b5 hch hcm bF5 HST HXF p10 HCm
        obtain ⟨gc5, gf5, gl5⟩ := HC5.out.cells hkN
        rw [hol] at gc5 gf5
        rcases hor with rfl | rfl | rfl
        · have HC : Hid (∃ out rest, (F.take (k + 1)).foldl (cms L SS) ([], aw) = (out, rest) ∧ out.length = k + 1 ∧ Cm W W.heap.size (W.heap.size + 1) g (pko n e u r vD vA vG vB vR vP vS vL (.slice (some ⟨fb, fo, none⟩) F.length fc)) F.length out rest (W5.setCell ⟨g, k, none⟩ (.bool true))) := HNX.out (out ++ [true]) rest (by rw [HCM.out]; rfl) _ (by rw [← hol]; exact HC5.out.set hgn2 hgn3 hgn hkN true)
          clear HC5 HCM HNX
          go_wp2_with fail
          exact ⟨⟨k + 1, hlt, by go_num, HC⟩, by simp [intOf]; omega⟩
        · have HC : Hid (∃ out rest, (F.take (k + 1)).foldl (cms L SS) ([], aw) = (out, rest) ∧ out.length = k + 1 ∧ Cm W W.heap.size (W.heap.size + 1) g (pko n e u r vD vA vG vB vR vP vS vL (.slice (some ⟨fb, fo, none⟩) F.length fc)) F.length out rest (W5.setCell ⟨g, k, none⟩ (.bool false))) := HNX.out (out ++ [false]) rest (by rw [HCM.out]; rfl) _ (by rw [← hol]; exact HC5.out.set hgn2 hgn3 hgn hkN false)
          clear HC5 HCM HNX
          go_wp2_with fail
          exact ⟨⟨k + 1, hlt, by go_num, HC⟩, by simp [intOf]; omega⟩
        · obtain ⟨va5, hx5, hA5⟩ := HC5.out.ha
          have cN := next_any (W.heap.size + 1) va5 rest W W5 hA5 HC5.out.bl hx5
          have HX5 := Lib.hid hx5
          clear hx5 hA5
          go_wp2_with fail
          refine cN.mono ?_
          rintro z W6 ⟨rfl, v6, hw, hA6⟩
          have hC6 : Cm W W.heap.size (W.heap.size + 1) g (pko n e u r vD vA vG vB vR vP vS vL (.slice (some ⟨fb, fo, none⟩) F.length fc)) F.length out rest.tail W6 := by
            rcases hw with ⟨rfl, rfl⟩ | rfl
            · exact ⟨HC5.out.bl, HC5.out.hp, ⟨_, HX5.out, hA6⟩, HC5.out.hg⟩
            · exact HC5.out.next (Nat.le_succ _) (by omega) hgn hA6
          obtain ⟨gc6, gf6, gl6⟩ := hC6.cells hkN
          obtain ⟨yy, hyy⟩ : ∃ yy, yy = rest.headD false := ⟨_, rfl⟩
          rw [← hyy]
          have HC : Hid (∃ out rest, (F.take (k + 1)).foldl (cms L SS) ([], aw) = (out, rest) ∧ out.length = k + 1 ∧ Cm W W.heap.size (W.heap.size + 1) g (pko n e u r vD vA vG vB vR vP vS vL (.slice (some ⟨fb, fo, none⟩) F.length fc)) F.length out rest (W6.setCell ⟨g, k, none⟩ (.bool yy))) := HNX.out (out ++ [yy]) rest.tail (by rw [HCM.out, hyy]; rfl) _ (by rw [← hol]; exact hC6.set hgn2 hgn3 hgn hkN _)
          rw [hol] at gc6 gf6
          clear HC5 HCM HNX cN hw hC6 gc5 gf5 gl5 hA6 HX5 hyy
          go_wp2_with fail
          exact ⟨⟨k + 1, hlt, by go_num, HC⟩, by simp [intOf]; omega⟩
    · have hke : k = F.length := by omega
      obtain ⟨out, rest, hfo, hol, hCm⟩ := HK.out
      have HF : Hid (wr.heap[g]? = some (.cells ((cml L SS F aw).map Value.bool).toArray 4 (0, 0)) ∧ Below W.heap.size W wr) := by
        refine ⟨?_, hCm.bl⟩
        have h1 := hCm.hg
        rw [hke, List.take_length] at hfo
        rw [← hke, ← hol, rowB_full] at h1
        unfold cml
        rw [hfo]
        exact h1
      clear HK hCm hfo hol hke
      go_wp2
      go_ret
      exact ⟨g, rfl, hgn2, HF.out.1, HF.out.2⟩
end
end Go.Proofs.YtlldfmnoidndmaaGreatDoor.Dsk
