/- A shelf: owned walked, whatever lies there. -/
import Derived.Test.YtlldfmnoidndmaaGreatDoorSz
import Derived.Recover
import Derived.Defers
namespace Go.Proofs.YtlldfmnoidndmaaGreatDoor.Dsk
open Go.RowKit Go.Sort Go.Maps

theorem own_far {W W' : World} {B : Nat} {e : TypeId} {s n : Nat} {v v' : Value} {xs : List Value} (h : W.ownsRow B e s v n xs) (hne : ∀ g, v'.ownBlock = some g → v.ownBlock ≠ some g) (hg : W.grownBy W' v'.ownBlock) : W'.ownsRow B e s v n xs := by
  refine ⟨h.1, ?_⟩
  rcases h.2 with hn | ⟨g, cap, cur, rfl, hb, hgg, rest⟩
  · exact .inl hn
  · refine .inr ⟨g, cap, cur, rfl, hb, ?_, rest⟩
    rw [hg.block g (Array.getElem?_eq_some_iff.1 hgg).1 (fun e1 => hne g e1.symm rfl)]
    exact hgg
theorem own_lt' {W : World} {B : Nat} {e : TypeId} {s n : Nat} {v : Value} {xs : List Value} (h : W.ownsRow B e s v n xs) {g : Nat} (hg : v.ownBlock = some g) : g < W.heap.size ∧ ∃ cur, W.heap[g]? = some (.cells cur e (0, 0)) := by
  rcases h.2 with ⟨rfl, _⟩ | ⟨g', cap, cur, rfl, _, hgg, _⟩
  · cases hg
  · cases hg; exact ⟨(Array.getElem?_eq_some_iff.1 hgg).1, cur, hgg⟩
theorem own_on' {W W' : World} {B : Nat} {e : TypeId} {s n : Nat} {v : Value} {xs : List Value} (h : W.ownsRow B e s v n xs) (k : Below W.heap.size W W') : W'.ownsRow B e s v n xs := by
  refine ⟨h.1, ?_⟩
  rcases h.2 with hn | ⟨g, cap, cur, rfl, hb, hgg, rest⟩
  · exact .inl hn
  · exact .inr ⟨g, cap, cur, rfl, hb, (k.block g (Array.getElem?_eq_some_iff.1 hgg).1).trans hgg, rest⟩
/-- Paths, by whose they are: a map of rows, each of its own. -/
structure OR (B : Nat) (W : World) (m : Nat) (M : Kv Value) (f : List UInt8 → List (List UInt8)) : Prop where
  s : Srt M
  mv : MV W m M
  r : ∀ n, W.ownsRow B 9 1 (vat n M) (f n).length ((f n).map fun p => Value.string ⟨p.toArray⟩)
  ne : ∀ n n', n ≠ n' → ∀ g, (vat n M).ownBlock = some g → (vat n' M).ownBlock ≠ some g
  k : ∀ n, lkL n M = none ↔ f n = []
theorem mv_heap {W : World} {m : Nat} {M : Kv Value} (h : MV W m M) : ∃ es cl, W.heap[m]? = some (.map es cl) := by
  obtain ⟨es, cl, h1, h2⟩ := h
  exact ⟨es, cl, h1⟩
theorem mv_lt {W : World} {m : Nat} {M : Kv Value} (h : MV W m M) : m < W.heap.size := by
  obtain ⟨es, cl, h1⟩ := mv_heap h
  exact (Array.getElem?_eq_some_iff.1 h1).1
theorem OR.on {B : Nat} {W W' : World} {m : Nat} {M : Kv Value} {f : List UInt8 → List (List UInt8)} (h : OR B W m M f) (k : Below W.heap.size W W') : OR B W' m M f :=
  ⟨h.s, mv_on h.mv (k.block m (mv_lt h.mv)), fun n => own_on' (h.r n) k, h.ne, h.k⟩
theorem or_nil (B : Nat) {W : World} {m : Nat} (h : MV W m []) : OR B W m [] (fun _ => []) :=
  ⟨List.Pairwise.nil, h, fun _ => World.ownsRow_nil _ _ _ _, fun n n' _ g e => (by cases e), fun n => ⟨fun _ => rfl, fun _ => rfl⟩⟩
theorem vat_same {M : Kv Value} (h : Srt M) (n : List UInt8) (v : Value) : vat n (putL n v M) = v := by unfold vat; rw [lk_put_same h]; rfl
theorem vat_other {M : Kv Value} (h : Srt M) {n n' : List UInt8} (hne : n' ≠ n) (v : Value) : vat n' (putL n v M) = vat n' M := by unfold vat; rw [lk_put_other h hne]
/-- A row has grown, and is laid into the map. -/
theorem OR.put {B : Nat} {W : World} {m : Nat} {M : Kv Value} {f : List UInt8 → List (List UInt8)} (h : OR B W m M f) (n p : List UInt8) {o : Obj} {g c : Nat} {w6 w7 : World}
    (hI : w6.ownsRow B 9 1 (.slice (some ⟨g, 0, none⟩) ((f n).length + 1) c) ((f n).length + 1) ((f n).map (fun p => Value.string ⟨p.toArray⟩) ++ [.string ⟨p.toArray⟩]))
    (hgr : (W.alloc o).grownBy w6 (vat n M).ownBlock) (hor : (vat n M).ownBlock = some g ∨ g = W.heap.size + 1)
    (h7 : MV w7 m (putL n (.slice (some ⟨g, 0, none⟩) ((f n).length + 1) c) M)) (hk7 : w6.grownBy w7 (some m)) :
    OR B w7 m (putL n (.slice (some ⟨g, 0, none⟩) ((f n).length + 1) c) M) (fun n' => if n' = n then f n ++ [p] else f n') := by
  have h1 := h.on ((Below.refl W.heap.size W).alloc (Nat.le_refl _) o)
  have keep7 : ∀ {B' : Nat} {v : Value} {k : Nat} {xs : List Value}, w6.ownsRow B' 9 1 v k xs → w7.ownsRow B' 9 1 v k xs := fun {B' v k xs} hr => by
    refine ⟨hr.1, ?_⟩
    rcases hr.2 with hn | ⟨g', cap, cur, rfl, hb, hgg, rest⟩
    · exact .inl hn
    · refine .inr ⟨g', cap, cur, rfl, hb, ?_, rest⟩
      rw [hk7.block g' (Array.getElem?_eq_some_iff.1 hgg).1 (fun e => ?_)]
      · exact hgg
      · cases e
        have hm6 : ∃ es cl, w6.heap[m]? = some (.map es cl) := by
          obtain ⟨es, cl, hh⟩ := mv_heap h1.mv
          refine ⟨es, cl, (hgr.block m (Array.getElem?_eq_some_iff.1 hh).1 (fun e => ?_)).trans hh⟩
          obtain ⟨_, cur', hc'⟩ := own_lt' (h1.r n) e.symm
          rw [hh] at hc'
          cases hc'
        obtain ⟨es, cl, hh⟩ := hm6
        rw [hh] at hgg
        cases hgg
  refine ⟨h.s.put n _, h7, fun n' => ?_, fun n1 n2 h12 g' e1 e2 => ?_, fun n' => ?_⟩
  · by_cases e : n' = n
    · subst e
      rw [vat_same h.s, if_pos rfl]
      have := keep7 hI
      rw [List.length_append, List.map_append]
      exact this
    · rw [vat_other h.s e, if_neg e]
      exact keep7 (own_far (h1.r n') (fun g e1 => h.ne n n' (fun e2 => e e2.symm) g e1) hgr)
  · have far : ∀ n', n' ≠ n → ∀ g', g' = g → (vat n' M).ownBlock ≠ some g' := fun n' hn g' eg e => by
      subst eg
      rcases hor with e3 | e3
      · exact h.ne n n' (fun e => hn e.symm) g' e3 e
      · have := (own_lt' (h.r n') e).1
        omega
    by_cases ea : n1 = n
    · subst ea
      rw [vat_same h.s] at e1
      rw [vat_other h.s (fun e => h12 e.symm)] at e2
      cases e1
      exact far n2 (fun e => h12 e.symm) g rfl e2
    · rw [vat_other h.s ea] at e1
      by_cases eb : n2 = n
      · subst eb
        rw [vat_same h.s] at e2
        cases e2
        exact far n1 ea g rfl e1
      · rw [vat_other h.s eb] at e2
        exact h.ne n1 n2 h12 g' e1 e2
  · by_cases e : n' = n
    · subst e
      rw [if_pos rfl, lk_put_same h.s]
      simp
    · rw [if_neg e, lk_put_other h.s e]
      exact h.k n'
/-- The paths of one, among some files. -/
def ptf (L : Kv Ent) (ks : List (List UInt8)) (n : List UInt8) : List (List UInt8) := ((ks.filter fun k => isO k).map fun k => k.drop 2).filter fun p => (ent ([111, 47] ++ p) L).now == n
theorem ptf_no {L : Kv Ent} {ks : List (List UInt8)} {k : List UInt8} (h : isO k = false) (n : List UInt8) : ptf L (ks ++ [k]) n = ptf L ks n := by
  unfold ptf
  rw [List.filter_append, List.map_append, List.filter_append]
  simp [h]
theorem ptf_yes {L : Kv Ent} {ks : List (List UInt8)} {p : List UInt8} (n : List UInt8) : ptf L (ks ++ [[111, 47] ++ p]) n = if n = (ent ([111, 47] ++ p) L).now then ptf L ks n ++ [p] else ptf L ks n := by
  unfold ptf
  rw [List.filter_append, List.map_append, List.filter_append]
  have h1 : isO ([111, 47] ++ p) = true := isO_o p
  have h2 : (([[111, 47] ++ p] : List (List UInt8)).filter (fun k => isO k)).map (fun k => k.drop 2) = [p] := by rw [List.filter_cons_of_pos (by exact h1)]; rfl
  rw [h2]
  by_cases e : n = (ent ([111, 47] ++ p) L).now
  · rw [if_pos e, List.filter_cons_of_pos (by rw [e]; exact beq_self_eq_true _)]; rfl
  · rw [if_neg e, List.filter_cons_of_neg (by rw [Bool.not_eq_true, beq_eq_false_iff_ne]; exact fun h => e h.symm)]
    simp
end Go.Proofs.YtlldfmnoidndmaaGreatDoor.Dsk
namespace Go.Proofs.YtlldfmnoidndmaaGreatDoor.Dsk
open Go.RowKit Go.Sort Go.Maps

theorem isO_drop {k : List UInt8} (h : isO k = true) : k = [111, 47] ++ k.drop 2 := by
  match k, h with
  | [], h => simp [isO, Lib.hasPrefix] at h
  | [a], h => simp [isO, Lib.hasPrefix] at h
  | a :: b :: t, h =>
    simp [isO, Lib.hasPrefix] at h
    obtain ⟨rfl, rfl⟩ := h
    rfl
theorem own_sl' {W : World} {B : Nat} {e : TypeId} {s n : Nat} {v : Value} {xs : List Value} (h : W.ownsRow B e s v n xs) : ∃ A c, v = .slice A n c := by
  rcases h.2 with ⟨rfl, rfl⟩ | ⟨g, cap, cur, rfl, _⟩
  · exact ⟨_, _, rfl⟩
  · exact ⟨_, _, rfl⟩
/-- All that was there is as it was, but m. -/
def KM (m : Nat) (w1 V : World) : Prop := w1.heap.size ≤ V.heap.size ∧ ∀ j, j < w1.heap.size → j ≠ m → V.heap[j]? = w1.heap[j]?
theorem KM.on {m : Nat} {w1 V V' : World} (h : KM m w1 V) (k : Below V.heap.size V V') : KM m w1 V' := ⟨Nat.le_trans h.1 k.size, fun j hj hm => (k.block j (Nat.lt_of_lt_of_le hj h.1)).trans (h.2 j hj hm)⟩
theorem OR.low {B B' : Nat} {W : World} {m : Nat} {M : Kv Value} {f : List UInt8 → List (List UInt8)} (h : OR B W m M f) (hb : B' ≤ B) : OR B' W m M f :=
  ⟨h.s, h.mv, fun n => ⟨(h.r n).1, (h.r n).2.imp id fun ⟨g, cap, cur, a, b, c⟩ => ⟨g, cap, cur, a, Nat.le_trans hb b, c⟩⟩, h.ne, h.k⟩
theorem ptf_len (L : Kv Ent) (ks : List (List UInt8)) (n : List UInt8) : (ptf L ks n).length ≤ ks.length := by
  unfold ptf
  refine Nat.le_trans (List.length_filter_le _ _) ?_
  rw [List.length_map]
  exact List.length_filter_le _ _
theorem insL_len {α : Type} (k : List UInt8) (a : α) : ∀ M : Kv α, (insL k a M).length = M.length + 1
  | [] => rfl
  | y :: r => by
    unfold insL
    split
    · rfl
    · rw [List.length_cons, insL_len k a r, List.length_cons]
theorem putL_len {α : Type} (k : List UInt8) (a : α) (M : Kv α) : (putL k a M).length ≤ M.length + 1 := by
  unfold putL delL
  rw [insL_len]
  have := List.length_filter_le (fun p : List UInt8 × α => !(p.1 == k)) M
  omega
section
variable {w W : World} {s d : Nat} {Z : Nat → Prop} {L : Kv Ent}
set_option maxRecDepth 100000 in
set_option maxHeartbeats 4000000 in
theorem owned_any (h : SJ w s d L Z W) (hn : L.length ≤ 4900) (hk : ∀ k ∈ L.map (·.1), isO k = true → k.length ≤ 1000 ∧ (ent k L).now.length ≤ 1000) : Calls Tryz.prog 42 #[.pointer (some ⟨s, 0, none⟩)] W fun x W2 => x = .returned (.map (some W.heap.size)) ∧ (∃ M : Kv Value, M.length ≤ L.length ∧ OR (W.heap.size + 1) W2 W.heap.size M (ptf L (L.map (·.1)))) ∧ Below W.heap.size W W2 := by
  have hks := nms_srt h.srt
  have bA := (Below.refl W.heap.size W).alloc (Nat.le_refl _) (.map #[] 0)
  have cO := Lib.hid (fun V (hb : Below W.heap.size W V) p (hp : p.length ≤ 1000) => owner_any (h.up hb) p hp)
  obtain ⟨mb, hX⟩ := h
  have hX1 := hX.up bA
  have cL := list_any d mb L false 0 false 0 (W.alloc (.map #[] 0)) hX1.pd (by omega)
  rw [hks] at cL
  have c0 := hX1.cs
  have hmm := @run_makeMap Tryz.prog
  have HM := Lib.hid (mv_made W)
  obtain ⟨ks, hkse⟩ : ∃ ks, ks = L.map (·.1) := ⟨_, rfl⟩
  rw [← hkse] at cL hk ⊢
  have HK := Lib.hid hk
  have hlk : ks.length ≤ 4900 := by rw [hkse, List.length_map]; exact hn
  have HLL : Hid (ks.length = L.length) := by show _ = _; rw [hkse, List.length_map]
  clear hX hX1 hks hk hkse
  go_enter Tryz.func42, Tryz.ntmps42
  go_wp2_with fail
  refine cL.mono ?_
  rintro x w1 ⟨v, rfl, hT, b1⟩
  have hm1 := mv_on HM.out (b1.block _ (by simp))
  have hb1 := bA.trans (b1.mono bA.size)
  have hsz1 : W.heap.size + 1 ≤ w1.heap.size := by
    have := b1.size
    rw [World.size_alloc] at this
    omega
  obtain ⟨p, cp, rfl⟩ : ∃ p cp, v = .slice p ks.length cp := by
    rcases hT.is with ⟨h1, h2⟩ | ⟨b, c, h1, _⟩
    · rw [h1]; exact ⟨_, _, h2⟩
    · exact ⟨_, _, h1⟩
  have HT := Lib.hid hT
  obtain ⟨m, hm⟩ : ∃ m, m = W.heap.size := ⟨_, rfl⟩
  rw [← hm] at hm1 hsz1 ⊢
  have HO1 : Hid (∃ M : Kv Value, M.length ≤ 0 ∧ OR w1.heap.size w1 m M (ptf L (ks.take 0))) := ⟨[], Nat.le_refl _, by rw [List.take_zero]; exact or_nil _ hm1⟩
  have HB1 : Hid (Below W.heap.size W w1) := hb1
  have hmW : W.heap.size ≤ m := by omega
  have HMW := Lib.hid hm
  have HTc : Hid (∀ V, KM m w1 V → ∀ k (hk : k < ks.length), ∃ g, p = some ⟨g, 0, none⟩ ∧ V.cell? ⟨g, k, none⟩ = some (.string ⟨ks[k].toArray⟩)) := fun V hV k hk => by
    rcases HT.out.is with ⟨h1, _⟩ | ⟨b, c, h1, h0, h2, h3⟩
    · rw [h1] at hk; simp at hk
    · cases h1
      refine ⟨b, rfl, (World.cell?_of_block (a := ⟨b, k, none⟩) (hV.2 b h2 ?_)).trans (h3 k hk)⟩
      rw [World.size_alloc] at h0
      rw [HMW.out]
      intro e
      omega
  clear cL hT c0 hm1 hb1 HM bA b1 HT hm
  go_wp2_with fail
  go_loopw [16] (fun iv V => ∃ k : Nat, k ≤ ks.length ∧ iv = .int .i64 k ∧ Hid (Below W.heap.size W V) ∧ Hid (KM m w1 V) ∧ Hid (∃ M : Kv Value, M.length ≤ k ∧ OR w1.heap.size V m M (ptf L (ks.take k)))) (fun iv _ => ks.length - (intOf iv).toNat)
  case atStart => exact ⟨0, Nat.zero_le _, rfl, HB1, ⟨Nat.le_refl _, fun _ _ _ => rfl⟩, HO1⟩
  case round =>
    clear HO1 HB1
    obtain ⟨k, hk, rfl, HB, HKM, HOR⟩ := hrel
    by_cases hlt : k < ks.length
    · obtain ⟨g, rfl, hc⟩ := HTc.out wr HKM.out k hlt
      have HTK : Hid (ks.take (k + 1) = ks.take k ++ [ks[k]]) := List.take_succ_eq_append_getElem hlt
      have hkk := HK.out _ (List.getElem_mem hlt)
      cases hio : isO ks[k] with
      | false =>
        have cC := Tryz.strings_CutPrefix ⟨ks[k].toArray⟩ ⟨#[111, 47]⟩ wr
        rw [show Lib.hasPrefix (⟨ks[k].toArray⟩ : ByteArray).data.toList (⟨#[111, 47]⟩ : ByteArray).data.toList = false from hio] at cC
        generalize (Lib.trimPrefix (⟨ks[k].toArray⟩ : ByteArray).data.toList (⟨#[111, 47]⟩ : ByteArray).data.toList) = tp at cC
        have HOR2 : Hid (∃ M : Kv Value, M.length ≤ k + 1 ∧ OR w1.heap.size wr m M (ptf L (ks.take (k + 1)))) := by
          obtain ⟨M, hMl, hM⟩ := HOR.out
          refine ⟨M, by omega, ?_⟩
          rw [HTK.out]
          have : ptf L (ks.take k ++ [ks[k]]) = ptf L (ks.take k) := by funext n; exact ptf_no hio n
          rw [this]; exact hM
        generalize ks[k] = kk at *
        clear HOR hkk hio
        go_wp2_with fail
        refine cC.mono ?_
        rintro x w2 ⟨rfl, hw⟩
        rw [hw]
        clear hw cC hc
        go_wp2_with fail
        exact ⟨⟨k + 1, hlt, by go_num, HB, HKM, HOR2⟩, by simp [intOf]; omega⟩
      | true =>
        obtain ⟨hk1, hk2⟩ := hkk hio
        have hkd := isO_drop hio
        obtain ⟨q, hq⟩ : ∃ q, q = ks[k].drop 2 := ⟨_, rfl⟩
        rw [← hq] at hkd
        rw [hkd] at hk1 hk2 HTK hc
        have hql : q.length ≤ 1000 := by simp at hk1; omega
        have cC := Tryz.strings_CutPrefix ⟨([111, 47] ++ q : List UInt8).toArray⟩ ⟨#[111, 47]⟩ wr
        rw [show Lib.hasPrefix (⟨([111, 47] ++ q : List UInt8).toArray⟩ : ByteArray).data.toList (⟨#[111, 47]⟩ : ByteArray).data.toList = true from isO_o q, show Lib.trimPrefix (⟨([111, 47] ++ q : List UInt8).toArray⟩ : ByteArray).data.toList (⟨#[111, 47]⟩ : ByteArray).data.toList = q from trim_o q] at cC
        have cO' := cO.out wr HB.out q hql
        have HPT : Hid (∀ n, ptf L (ks.take (k + 1)) n = if n = (ent ([111, 47] ++ q) L).now then ptf L (ks.take k) n ++ [q] else ptf L (ks.take k) n) := fun n => by rw [HTK.out]; exact ptf_yes n
        generalize (ent ([111, 47] ++ q) L).now = nm at *
        have hpl : (ptf L (ks.take k) nm).length ≤ 4900 := Nat.le_trans (ptf_len L (ks.take k) nm) (by simp; omega)
        generalize [111, 47] ++ q = op at *
        clear hkk hio hkd hq HTK hk1
        go_wp2_with fail
        refine cC.mono ?_
        rintro x w2 ⟨rfl, hw⟩
        rw [hw]
        clear hw cC hc w2
        go_wp2_with fail
        refine cO'.mono ?_
        rintro x w2 ⟨rfl, b2⟩
        obtain ⟨M, hMl, hM⟩ := HOR.out
        have hM2 := hM.on b2
        have hlook := mvlook hM2.mv nm (by omega)
        have hB2 := HB.out.trans (b2.mono HB.out.size)
        have hK2 := HKM.out.on b2
        have hrow := hM2.r nm
        have hor' := hM2
        obtain ⟨i0, hi0, hz0, hz1, hz2⟩ := infoQ info9
        have news : ∀ j u, ([.string ⟨q.toArray⟩] : List Value)[j]? = some u → (w2.alloc (.cells #[.string ⟨q.toArray⟩] 9)).cell? ((⟨w2.heap.size, 0, none⟩ : Addr).add j) = some u := World.news_of_block (nb0 w2 _)
        have ones : ∀ u ∈ ([.string ⟨q.toArray⟩] : List Value), u.oneCell' = true := by intro u hu; simp at hu; rw [hu]; rfl
        have HM2 := Lib.hid hM2
        have HB2 := Lib.hid hB2
        have HK2 := Lib.hid hK2
        have hw1 : w1.heap.size ≤ w2.heap.size := hK2.1
        clear cO' b2 hB2 hM2 hor' hM HOR HB HKM
        generalize hvv : vat nm M = vv at hlook hrow
        have HVV := Lib.hid hvv
        obtain ⟨Av, cv, rfl⟩ := own_sl' hrow
        go_wp2_with (at_builtin; refine wpList_append_lies _ rfl _ _ 40 rfl w1.heap.size 9 i0 _ 1 16 Tryz.underlying40 hi0 hz0 hz1 hz2 rfl (by decide) _ _ _ rfl (hrow.alloc _) ⟨w2.heap.size, 0, none⟩ 1 1 [.string ⟨q.toArray⟩] rfl rfl news ones (by decide) (by unfold maxLen; omega) (by omega) (by rw [World.size_alloc]; omega) _ rfl ?_; intro g6 c6 w6 hown hgr hor hg6; go_frame)
        rw [← HVV.out] at hgr hor
        rw [World.size_alloc] at hor
        have hA2 := HM2.out.on ((Below.refl w2.heap.size w2).alloc (Nat.le_refl _) (.cells #[.string ⟨q.toArray⟩] 9))
        have hrw : ∀ j, (vat nm M).ownBlock = some j → w1.heap.size ≤ j := fun j e => ((HM2.out.r nm).lt j e).1
        have hmne : ∀ j, (vat nm M).ownBlock = some j → j ≠ m := fun j e em => by
          obtain ⟨_, cur', hc'⟩ := own_lt' (hA2.r nm) e
          obtain ⟨es, cl, hh⟩ := mv_heap hA2.mv
          subst em
          rw [hh] at hc'
          cases hc'
        have hMV6 : MV w6 m M := mv_on hA2.mv (hgr.block m (mv_lt hA2.mv) (fun e => hmne m e.symm rfl))
        have hB6 : Below W.heap.size W w6 := (HB2.out.alloc HB2.out.size _).grown hgr (by rw [World.size_alloc]; have := HB2.out.size; omega) (fun j e => by have := hrw j e; have := HMW.out; omega)
        have hK6 : KM m w1 w6 := ⟨by have := hgr.size; rw [World.size_alloc] at this; omega, fun j hj hjm => by
          rw [hgr.block j (by rw [World.size_alloc]; omega) (fun e => by have := hrw j e.symm; omega)]
          exact (((Below.refl w2.heap.size w2).alloc (Nat.le_refl _) _).block j (by omega)).trans (HK2.out.2 j hj hjm)⟩
        obtain ⟨w7, hrun, hown7, hturn⟩ := hMV6.store law9 Tryz.underlying89 (by unfold maxLen; omega) (key9 nm (by omega)) (val := .slice (some ⟨g6, 0, none⟩) ((ptf L (ks.take k) nm).length + 1) c6) (d := .held (.slice (some ⟨g6, 0, none⟩) ((ptf L (ks.take k) nm).length + 1) c6)) (ps := []) rfl
        have h7 : MV w7 m (putL nm (.slice (some ⟨g6, 0, none⟩) ((ptf L (ks.take k) nm).length + 1) c6) M) := by
          have e1 := toD_put (fun v : Value => v) nm (.slice (some ⟨g6, 0, none⟩) ((ptf L (ks.take k) nm).length + 1) c6) M
          rw [e1] at hown7
          exact own_tight hown7
        have hP := HM2.out.put nm q hown hgr hor h7 hturn.grown
        have HOR7 : Hid (∃ M : Kv Value, M.length ≤ k + 1 ∧ OR w1.heap.size w7 m M (ptf L (ks.take (k + 1)))) := by
          refine ⟨putL nm (.slice (some ⟨g6, 0, none⟩) ((ptf L (ks.take k) nm).length + 1) c6) M, Nat.le_trans (putL_len _ _ _) (by omega), ?_⟩
          have ef : ptf L (ks.take (k + 1)) = fun n' => if n' = nm then ptf L (ks.take k) nm ++ [q] else ptf L (ks.take k) n' := by
            funext n'
            rw [HPT.out n']
            by_cases e : n' = nm
            · rw [if_pos e, if_pos e, e]
            · rw [if_neg e, if_neg e]
          rw [ef]
          exact hP
        have HB7 := Lib.hid (hB6.grown hturn.grown (Nat.le_trans HB2.out.size (by have := hgr.size; rw [World.size_alloc] at this; omega)) (fun r hr => by cases hr; exact hmW))
        have HK7 : Hid (KM m w1 w7) := ⟨Nat.le_trans hK6.1 hturn.grown.size, fun j hj hjm => (hturn.grown.block j (Nat.lt_of_lt_of_le hj hK6.1) (fun e => hjm (by cases e; rfl))).trans (hK6.2 j hj hjm)⟩
        clear hP h7 hown7 hturn hK6 hB6 hMV6 hmne hrw hA2 hown hgr hor hg6 hlook news ones HM2 HB2 HK2 hrow
        go_wp2_with fail
        rw [hrun]
        go_wp2_with fail
        exact ⟨⟨k + 1, hlt, by go_num, HB7, HK7, HOR7⟩, by simp [intOf]; omega⟩
    · have hke : k = ks.length := by omega
      subst hke
      have HOR2 : Hid (∃ M : Kv Value, M.length ≤ L.length ∧ OR (m + 1) wr m M (ptf L ks)) := by
        obtain ⟨M, hMl, hM⟩ := HOR.out
        rw [List.take_length] at hM
        exact ⟨M, by rw [← HLL.out]; exact hMl, hM.low hsz1⟩
      clear HOR
      go_wp2
      go_ret
      exact ⟨by rw [← HMW.out]; rfl, by rw [← HMW.out]; exact HOR2.out, HB.out⟩
end
end Go.Proofs.YtlldfmnoidndmaaGreatDoor.Dsk
namespace Go.Proofs.YtlldfmnoidndmaaGreatDoor.Dsk
open Go.RowKit Go.Sort Go.Maps

theorem idle85 (w : World) : CallsD Tryz.prog 85 #[] .returning w fun e u' w' => e = .returned (.tuple #[]) ∧ u' = .returning ∧ w' = w := by
  refine callsD_of_wpS Tryz.func85 rfl fun c₀ cs hu => ?_
  apply wpS_region
  simp [wpOpsS, go_sem, recoverD, hu, Tryz.ntmps85, bodyPostS, results, Tryz.results85]
  cases c₀
  simp_all
set_option maxRecDepth 100000 in
/-- Who may be taken from: as a function says that does not panic. -/
theorem may_any (F : Nat) (hF : ∀ (args : Array Value) (w : World), Sem.run Tryz.prog (callFunc F args) w = .ok (Next.enter F args) w) (p : Value) (n : List UInt8) (y : Bool) (w : World) (hc : ∀ W, Below w.heap.size w W → Calls Tryz.prog F #[.string ⟨n.toArray⟩, p] W fun e w' => e = .returned (.bool y) ∧ Below W.heap.size W w') :
    Calls Tryz.prog 46 #[.func (Fn.func F) #[] #[p], .string ⟨n.toArray⟩] w fun e w' => e = .returned (.bool y) ∧ Below w.heap.size w w' := by
  have cC := hc w (Below.refl _ _)
  have hnf : ∀ W, (binOp BinOp.neq 48 (.func (Fn.func F) #[] #[p]) .nilFunc).run Tryz.prog W = .ok (.bool true) W := fun W => by kernel_rfl
  clear hc
  have hmf : ∀ (fn : Fn) (first cap : Array Value) (w : World), (Instr.makeFunc fn first cap).run Tryz.prog w = .ok (.func fn first cap) w := fun _ _ _ _ => rfl
  go_enter_defers Tryz.func46, Tryz.ntmps46
  go_wp2_with fail
  refine cC.mono ?_
  rintro e w1 ⟨rfl, b1⟩
  go_wp2_with fail
  refine leaves_cons (f := 85) (args := #[]) (by simp) (by simp [go_sem]) ?_
  refine (idle85 _).mono ?_
  rintro e u' w'' ⟨rfl, rfl, rfl⟩
  simp [Leaves, settle, results, Tryz.results46, go_sem]
  exact b1
set_option maxRecDepth 100000 in
theorem may0_any (F : Nat) (hF : ∀ (args : Array Value) (w : World), Sem.run Tryz.prog (callFunc F args) w = .ok (Next.enter F args) w) (n : List UInt8) (y : Bool) (w : World) (hc : ∀ W, Below w.heap.size w W → Calls Tryz.prog F #[.string ⟨n.toArray⟩] W fun e w' => e = .returned (.bool y) ∧ Below W.heap.size W w') :
    Calls Tryz.prog 46 #[.func (Fn.func F) #[] #[], .string ⟨n.toArray⟩] w fun e w' => e = .returned (.bool y) ∧ Below w.heap.size w w' := by
  have cC := hc w (Below.refl _ _)
  have hnf : ∀ W, (binOp BinOp.neq 48 (.func (Fn.func F) #[] #[]) .nilFunc).run Tryz.prog W = .ok (.bool true) W := fun W => by kernel_rfl
  clear hc
  have hmf : ∀ (fn : Fn) (first cap : Array Value) (w : World), (Instr.makeFunc fn first cap).run Tryz.prog w = .ok (.func fn first cap) w := fun _ _ _ _ => rfl
  go_enter_defers Tryz.func46, Tryz.ntmps46
  go_wp2_with fail
  refine cC.mono ?_
  rintro e w1 ⟨rfl, b1⟩
  go_wp2_with fail
  refine leaves_cons (f := 85) (args := #[]) (by simp) (by simp [go_sem]) ?_
  refine (idle85 _).mono ?_
  rintro e u' w'' ⟨rfl, rfl, rfl⟩
  simp [Leaves, settle, results, Tryz.results46, go_sem]
  exact b1
section
variable {w W : World} {s d : Nat} {Z : Nat → Prop} {L : Kv Ent}
/-- The paths of one. -/
def pts (L : Kv Ent) (n : List UInt8) : List (List UInt8) := ptf L (L.map (·.1)) n
/-- What tells whose a path is, is short enough. -/
def Osm (L : Kv Ent) : Prop := ∀ k ∈ L.map (·.1), isO k = true → k.length ≤ 1000 ∧ (ent k L).now.length ≤ 1000
set_option maxRecDepth 100000 in
set_option maxHeartbeats 1600000 in
theorem paths_gen (h : SJ w s d L Z W) (hn : L.length ≤ 4900) (hk : Osm L) (n : List UInt8) (hnl : n.length ≤ 1000) : Calls Tryz.prog 58 #[.pointer (some ⟨s, 0, none⟩), .string ⟨n.toArray⟩] W fun x W2 => ∃ v, x = .returned v ∧ W2.ownsRow (W.heap.size + 1) 9 1 v (pts L n).length ((pts L n).map fun p => Value.string ⟨p.toArray⟩) ∧ Below W.heap.size W W2 := by
  have cO := owned_any h hn hk
  clear h hk
  go_enter Tryz.func58, Tryz.ntmps58
  go_wp2_with fail
  refine cO.mono ?_
  rintro x w1 ⟨rfl, ⟨M, _, hM⟩, b1⟩
  have hlk := mvlook hM.mv n (by omega)
  have HR := Lib.hid (hM.r n)
  obtain ⟨Av, cv, hv⟩ := own_sl' (hM.r n)
  rw [hv] at hlk HR
  clear hM cO hv
  go_wp2_with fail
  go_ret
  exact ⟨_, rfl, HR.out, b1⟩
end
end Go.Proofs.YtlldfmnoidndmaaGreatDoor.Dsk
