/- The walk of load over lines that were printed. -/
import Derived.Test.YteiobnkaadedkaaGreatDoorBf
import Derived.RangeFuncFrom
namespace Go.Proofs.YteiobnkaadedkaaGreatDoor
open Go.RowKit Go.Shelf Go.Sort Go.Maps
attribute [local go_sem] Oper.semAt_some

theorem ret_cut {a b c d : ByteArray} {x y : Bool} (h : a = c) (h' : b = d) (h2 : x = y) : Ending.returned (.tuple #[.string a, .string b, .bool x]) = .returned (.tuple #[.string c, .string d, .bool y]) := by rw [h, h', h2]
theorem below_drewN {B : Nat} {w : World} (n : Nat) : Below B w (w.drewN n) := by
  induction n with
  | zero => exact Below.refl _ _
  | succ n ih => exact ih.drew
theorem lcut (l : List UInt8) (k : Nat) (w : World) (hl : l.length ≤ 1000000) (hk : k < l.length) (hi : Lib.indexByte l 9 = k) : Calls Tryz.prog 71 #[.string ⟨l.toArray⟩, .string ⟨#[9]⟩] w fun e w' =>
    e = .returned (.tuple #[.string ⟨(l.take k).toArray⟩, .string ⟨(l.drop (k + 1)).toArray⟩, .bool true]) ∧ Below w.heap.size w w' := by
  have HI := Lib.hid hi
  clear hi
  go_enter Tryz.func71, Tryz.ntmps71
  go_wp2_with fail
  refine (Tryz.stringslite_Index_one ⟨l.toArray⟩ 9 _).mono ?_
  rintro e w' ⟨rfl, rfl⟩
  rw [show Lib.indexByte (ByteArray.mk l.toArray).data.toList 9 = (k : Int) from HI.out]
  have h1 : (k : Int) ≤ (l.length : Int) := by omega
  have h2 : (k : Int) + 1 ≤ (l.length : Int) := by omega
  go_wp2_with fail
  go_quiet (fail)
  go_wp2
  go_ret3
  exact ⟨ret_cut (ba_take l k) (ba_drop l (k + 1)) rfl, below_drewN _⟩
theorem scut (nm tx : List UInt8) (w : World) (h : Whole nm) (h1 : nm.length ≤ 1000) (h2 : tx.length ≤ 1000) : Calls Tryz.prog 49 #[.string ⟨(nm ++ 9 :: tx).toArray⟩, .string ⟨#[9]⟩] w fun e w' =>
    e = .returned (.tuple #[.string ⟨nm.toArray⟩, .string ⟨tx.toArray⟩, .bool true]) ∧ Below w.heap.size w w' := by
  have c := lcut (nm ++ 9 :: tx) nm.length w (by simp; omega) (by simp) (ib_at 9 tx h.1)
  rw [List.take_left', show (nm ++ 9 :: tx).drop (nm.length + 1) = tx by rw [show nm ++ 9 :: tx = (nm ++ [9]) ++ tx by simp]; exact List.drop_left' (by simp)] at c
  rotate_left
  · rfl
  go_enter Tryz.func49, Tryz.ntmps49
  go_wp2_with fail
  refine c.mono ?_
  rintro e w' ⟨rfl, b⟩
  go_wp2
  go_ret3
  exact ⟨rfl, by first | exact b | exact b.drew⟩
theorem trim_line (nm tx : List UInt8) : Lib.trimSuffix (lnt (nm, tx)) [10] = nm ++ 9 :: tx := by
  have e : lnt (nm, tx) = (nm ++ 9 :: tx) ++ [10] := by simp [lnt]
  rw [e]
  unfold Lib.trimSuffix Lib.hasSuffix
  rw [if_pos (List.isSuffixOf_iff_suffix.2 (List.suffix_append _ _)), List.length_append, List.length_singleton, Nat.add_sub_cancel, List.take_left']
  rfl
theorem strim (nm tx : List UInt8) (w : World) (h1 : nm.length ≤ 1000) (h2 : tx.length ≤ 1000) : Calls Tryz.prog 50 #[.string ⟨(lnt (nm, tx)).toArray⟩, .string ⟨#[10]⟩] w fun e w' =>
    e = .returned (.string ⟨(nm ++ 9 :: tx).toArray⟩) ∧ w' = w := by
  have c := Tryz.strings_TrimSuffix ⟨(lnt (nm, tx)).toArray⟩ ⟨#[10]⟩ w (by simp [ByteArray.size, lnt]; omega)
  rw [show Lib.trimSuffix (ByteArray.mk (lnt (nm, tx)).toArray).data.toList (ByteArray.mk #[10]).data.toList = nm ++ 9 :: tx from trim_line nm tx] at c
  exact c
/-- Between two rounds. -/
structure LI (w : World) (Bs : Nat) (M : Bk) (k : Nat) (W : World) : Prop where
  bl : Below w.heap.size w W
  bx : W.heap[w.heap.size + 1]? = some (.cells #[.map (some w.heap.size)] 64 (0, 0))
  lm : Lm W w.heap.size (M.take k)
  bs : w.heap.size + 1 < Bs
  bz : Bs < W.heap.size
theorem LI.on {w : World} {Bs : Nat} {M : Bk} {k : Nat} {W W' : World} (h : LI w Bs M k W) (hb : Below w.heap.size w W') (h0 : W'.heap[w.heap.size]? = W.heap[w.heap.size]?) (h1 : W'.heap[w.heap.size + 1]? = W.heap[w.heap.size + 1]?) (hz : W.heap.size ≤ W'.heap.size) : LI w Bs M k W' :=
  ⟨hb, h1.trans h.bx, by obtain ⟨es, cl, h2, h3⟩ := h.lm; exact ⟨es, cl, h0.trans h2, h3⟩, h.bs, Nat.lt_of_lt_of_le h.bz hz⟩
theorem LI.own {w : World} {Bs : Nat} {M : Bk} {B : Nat} (hB : w.heap.size + 2 ≤ B) : OwnFrom B (LI w Bs M) := fun k W W' row h hg hr => by
  have l1 := (Array.getElem?_eq_some_iff.1 h.bx).1
  exact h.on (h.bl.grown hg h.bl.size (fun r e => by have := (hr r e).1; omega)) (hg.block _ (by omega) (fun e => by have := (hr _ e.symm).1; omega)) (hg.block _ (by omega) (fun e => by have := (hr _ e.symm).1; omega)) hg.size
theorem LI.set {w : World} {Bs : Nat} {M : Bk} {k : Nat} {W : World} (h : LI w Bs M k W) (v : Value) : LI w Bs M k (W.setCell ⟨Bs, 0, none⟩ v) := by
  have := h.bs
  exact h.on (h.bl.setCell (p := ⟨Bs, 0, none⟩) (by show _ ≤ Bs; omega) v) (Below.heap_setCell W ⟨Bs, 0, none⟩ v _ (fun e => by have : w.heap.size = Bs := e; omega)) (Below.heap_setCell W ⟨Bs, 0, none⟩ v _ (fun e => by have : w.heap.size + 1 = Bs := e; omega)) (by simp)
theorem kl_below {W W' : World} (h : Below W.heap.size W W') : KL W W' := fun j _ hj _ => (h.block j (Array.getElem?_eq_some_iff.1 hj).1).trans hj
theorem KL.trans {a b c : World} (h : KL a b) (k : KL b c) : KL a c := fun j o hj ho => k j o (h j o hj ho) ho
theorem kl_turn {W W' : World} {m : Nat} (h : W.mapTurned W' m) {n : Nat} {D : DataW Value} (hm : W.ownsMap Tryz.prog 9 Rv m n D) : KL W W' := fun j o hj ho => by
  refine (h.grown.block j (Array.getElem?_eq_some_iff.1 hj).1 (fun e => ?_)).trans hj
  cases e
  obtain ⟨es, cl, h1, _⟩ := hm
  rw [h1] at hj
  cases hj
  cases ho
abbrev ldw (w : World) : World := (w.alloc (.map #[] 0)).alloc (.cells #[.map (some w.heap.size)] 64 (0, 0))
theorem ld_start (w : World) : Below w.heap.size w (ldw w) ∧ (ldw w).heap[w.heap.size + 1]? = some (.cells #[.map (some w.heap.size)] 64 (0, 0)) ∧ Lm (ldw w) w.heap.size [] := by
  refine ⟨((Below.refl _ _).alloc (Nat.le_refl _) _).alloc (by simp) _, ?_, ?_⟩
  · have := nb0 (w.alloc (.map #[] 0)) (.cells #[.map (some w.heap.size)] 64 (0, 0))
    rwa [World.size_alloc] at this
  · exact (World.ownsMap_made w Tryz.prog 9 Rv).alloc _
set_option maxRecDepth 100000 in
set_option maxHeartbeats 2000000 in
theorem load_any (b : Nat) (mb : Option Nat) (L : Kv Ent) (e : Bool) (c : Int) (bd : Bool) (r : Int) (f : List UInt8) (M : Bk) (w : World) (h : PD w b mb L e c bd r) (hf : f.length ≤ 1000) (hG : Gd M) (hM : M.length ≤ 1000) (hp : (ent f L).now = prt M) :
    Calls Tryz.prog 24 #[.pointer (some ⟨b, 0, none⟩), .string ⟨f.toArray⟩] w fun x w' => ∃ m, x = .returned (.map (some m)) ∧ w.heap.size ≤ m ∧ Lm w' m M ∧ Below w.heap.size w w' := by
  obtain ⟨b0, x0, m0⟩ := ld_start w
  have cR := read_any b mb L e c bd r f _ (h.up b0) (by omega)
  rw [hp] at cR
  have hmm := @run_makeMap Tryz.prog
  have HG := Lib.hid hG
  have HP := Lib.hid hp
  clear h hG hp
  refine (callsIn_wide (n := 9)).1 ?_
  refine callsIn_of_wp_marks Tryz.func24 rfl trivial ?_ rfl
  simp only [Tryz.ntmps24, List.size_toArray, List.length_cons, List.length_nil, Nat.reduceAdd, Nat.reduceSub, Array.replicate_succ, Array.replicate_zero, List.push_toArray, List.append_toArray, List.nil_append, List.cons_append]
  gi_wp2_with fail
  refine ⟨trivial, (callsIn_wide.2 cR).mono ?_⟩
  rintro x w1 ⟨rfl, b1⟩
  have hb1 : Below w.heap.size w w1 := b0.trans (b1.mono b0.size)
  have hx1 : w1.heap[w.heap.size + 1]? = some (.cells #[.map (some w.heap.size)] 64 (0, 0)) := (b1.block _ (Array.getElem?_eq_some_iff.1 x0).1).trans x0
  have hm1 : Lm w1 w.heap.size [] := by
    have hlt := m0.lt
    obtain ⟨es, cl, h1, h2⟩ := m0
    exact ⟨es, cl, (b1.block _ hlt).trans h1, h2⟩
  have l1 := (Array.getElem?_eq_some_iff.1 hx1).1
  have c1 : w1.cell? ⟨w.heap.size + 1, 0, none⟩ = some (.map (some w.heap.size)) := by unfold World.cell?; rw [hx1]; rfl
  clear b0 x0 m0 cR b1 hmm
  unfold rdc
  cases hz : (lkL f L).isSome with
  | false =>
    have hMn : M = [] := by
      have := HP.out
      unfold ent at this
      rw [Option.isSome_eq_false_iff, Option.isNone_iff_eq_none] at hz
      rw [hz] at this
      cases M with
      | nil => rfl
      | cons p q => simp [zent, prt, lnt] at this
    subst hMn
    have hv : evv (if false = true then 0 else 7) = .iface 33 (.int .i64 7) := rfl
    rw [hv]
    clear hv HP HG
    gi_wp2
    exact ⟨.map (some w.heap.size), by simp only [results, Tryz.results24]; simp [go_sem], w.heap.size, rfl, Nat.le_refl _, hm1, hb1⟩
  | true =>
    have hv : evv (if true = true then 0 else 7) = .nilIface := rfl
    rw [hv]
    clear hv HP hz
    have cL := lines_any (prt M) w1
    gi_wp2_with fail
    refine ⟨trivial, (callsIn_wide.2 cL).mono ?_⟩
    rintro x w2 ⟨rfl, rfl⟩
    clear cL
    gi_wp2_with fail
    have hbs := nb0 w1 (.cells #[.string ⟨(prt M).toArray⟩] 9 (0, 0))
    have bA := (Below.refl w1.heap.size w1).alloc (Nat.le_refl _) (.cells #[.string ⟨(prt M).toArray⟩] 9 (0, 0))
    have i0 : LI w w1.heap.size M 0 (w1.alloc (.cells #[.string ⟨(prt M).toArray⟩] 9 (0, 0))) := ⟨hb1.trans (bA.mono hb1.size), (bA.block _ (by omega)).trans hx1, hm1.alloc _, l1, by simp⟩
    have HW := Lib.hid l1
    refine range_turns (gf := 69) (lb := #[.pointer (some ⟨w1.heap.size, 0, none⟩)]) (Bs := w1.heap.size) rfl (enters_of Tryz.func69 (by kernel_rfl) rfl) (lines_turns M HG.out hM _ w1.heap.size _ hbs) (Below.refl _ _) (by simp) (fun _ => rfl)
      (LI w w1.heap.size M) (LI.own (by simp; omega)) (fun k A v h => h.set v) i0
      (fun k => { tmps := #[.pointer (some ⟨b, 0, none⟩), .string ⟨f.toArray⟩, undef, undef, .map none, .pointer (some ⟨w.heap.size + 1, 0, none⟩), .string ⟨(prt M).toArray⟩, .nilIface, .string ⟨(lnt (M[k]?.getD ([], []))).toArray⟩, undef, undef, undef, .map (some w.heap.size), .tuple #[.string ⟨(prt M).toArray⟩, .nilIface], .pointer (some ⟨b, 0, none⟩), .string ⟨f.toArray⟩, .tuple #[.string ⟨(prt M).toArray⟩, .nilIface], .string ⟨(prt M).toArray⟩, .nilIface, .nilIface, .bool false, undef, .string ⟨(prt M).toArray⟩, .func (.func 69) #[] #[.pointer (some ⟨w1.heap.size, 0, none⟩)], .string ⟨(lnt (M[k]?.getD ([], []))).toArray⟩, undef, undef, undef, undef, undef, undef, undef, undef, undef, undef, undef, undef], defers := [] }) ?assign ?body ?done
    case assign =>
      intro l k W K hK
      unfold lnE
      gi_wp2
      exact hK
    case done =>
      rintro D W hD hI hK
      have hm := hI.lm
      rw [List.take_length] at hm
      have hbl := hI.bl
      have hbx := hI.bx
      have c1 : W.cell? ⟨w.heap.size + 1, 0, none⟩ = some (.map (some w.heap.size)) := by unfold World.cell?; rw [hbx]; rfl
      clear hI i0 bA hbs
      have hD' : w.heap.size + 1 < D := by simp at hD; omega
      gi_wp2
      refine ⟨by simp, .inl ⟨_, _, rfl, run_takeDeferred hK, ?_⟩⟩
      refine ⟨.map (some w.heap.size), by simp only [results, Tryz.results24]; simp [go_sem], w.heap.size, rfl, Nat.le_refl _, ?_, ?_⟩
      · obtain ⟨es, cl, h1, h2⟩ := hm
        exact ⟨es, cl, (World.putObj_heap_other (by omega)).trans h1, h2⟩
      · exact hbl.grown (grownBy_putObj' W D (.deferred none)) hbl.size (fun r e => by cases e; omega)
    case body =>
      rintro l k W hk hI
      rw [List.getElem?_eq_getElem hk]
      simp only [Option.getD_some]
      have hnm := HG.out.nm M[k] (List.getElem_mem hk)
      have htx := HG.out.tx M[k] (List.getElem_mem hk)
      have cT := strim M[k].1 M[k].2 W (by omega) (by omega)
      have cC := scut M[k].1 M[k].2 W hnm.1 (by omega) (by omega)
      have HI := Lib.hid hI
      have HT := Lib.hid (take_put HG.out.srt hk)
      have HN := Lib.hid hnm
      clear hI i0 bA hbs hnm htx
      rw [show (M[k].1, M[k].2) = M[k] from rfl] at cT
      gi_wp2_with fail
      refine ⟨trivial, (CallsIn.inRound l (callsIn_wide.2 cT)).mono ?_⟩
      rintro e w3 ⟨rfl, rfl⟩
      gi_wp2_with fail
      refine ⟨trivial, (CallsIn.inRound l (callsIn_wide.2 cC)).mono ?_⟩
      rintro e w4 ⟨rfl, b4⟩
      have hl1 := (Array.getElem?_eq_some_iff.1 HI.out.bx).1
      have hI4 : LI w w1.heap.size M k w4 := HI.out.on (HI.out.bl.trans (b4.mono HI.out.bl.size)) (b4.block _ (by omega)) (b4.block _ (by omega)) b4.size
      have hbx := hI4.bx
      have c4 : w4.cell? ⟨w.heap.size + 1, 0, none⟩ = some (.map (some w.heap.size)) := by unfold World.cell?; rw [hbx]; rfl
      have htl : (M.take k).length ≤ 1000 := by rw [List.length_take]; omega
      obtain ⟨w5, hrun, hown5, hturn⟩ := hI4.lm.store law9 Tryz.underlying64 (by unfold maxLen; omega) (key9 M[k].1 (by have := HN.out.2.2; omega)) (val := lv M[k].2) (d := .held (lv M[k].2)) (ps := []) rfl
      rw [toD_put, HT.out] at hown5
      have hg := hturn.grown
      have h5 : LI w w1.heap.size M (k + 1) w5 := ⟨hI4.bl.grown hg hI4.bl.size (fun r e => by cases e; exact Nat.le_refl _), (hg.block _ (Array.getElem?_eq_some_iff.1 hbx).1 (fun e => by have := Option.some.inj e; omega)).trans hbx, own_tight hown5, hI4.bs, Nat.lt_of_lt_of_le hI4.bz hg.size⟩
      have k5 : KL w3 w5 := (kl_below b4).trans (kl_turn hturn hI4.lm)
      have hs5 : w5.heap[w1.heap.size]? = w3.heap[w1.heap.size]? := (hg.block _ hI4.bz (fun e => by have := Option.some.inj e; omega)).trans (b4.block _ HI.out.bz)
      have H5 := Lib.hid (show KL w3 w5 ∧ w5.heap[w1.heap.size]? = w3.heap[w1.heap.size]? ∧ LI w w1.heap.size M (k + 1) w5 from ⟨k5, hs5, h5⟩)
      clear cT cC b4 hI4 hown5 hturn hg h5 k5 hs5 htl HI HT hbx
      unfold lv at hrun
      gi_wp2
      exact H5.out
end Go.Proofs.YteiobnkaadedkaaGreatDoor
