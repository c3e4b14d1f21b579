/- A shelf: owned walked, where at most one path is somebody's. -/
import Derived.Test.YtppogjjhippefaaGreatDoorSy
import Derived.Test.YtppogjjhippefaaGreatDoorSi
import Derived.Deep.AppendLies
namespace Go.Proofs.YtppogjjhippefaaGreatDoor.Dsk
open Go.RowKit Go.Sort Go.Maps

/-- Paths, by whose they are. -/
abbrev MV (w : World) (m : Nat) (M : Kv Value) : Prop := w.ownsMap Tryz.prog 9 Rv m M.length (toD (fun v => v) M)
def vat (k : List UInt8) (M : Kv Value) : Value := (lkL k M).getD (.slice none 0 0)
theorem zero40 (w : World) : (zeroValue 40).run Tryz.prog w = .ok (.slice none 0 0) w := by kernel_rfl
theorem mvlook {w : World} {m : Nat} {M : Kv Value} (h : MV w m M) (k : List UInt8) (hk : k.length ≤ 1000000) :
    (Instr.lookup 89 (.map (some m)) (.string ⟨k.toArray⟩) false).run Tryz.prog w = .ok (vat k M) w := by
  have hat : ∀ v ps, Rv v = some ((toD (fun v => v) M).atKey (.string k) (.held (.slice none 0 0)), ps) → v = vat k M := fun v ps hv => by
    rw [toD_at] at hv
    unfold vat
    cases hl : lkL k M with
    | none => rw [hl] at hv; simpa [Rv] using congrArg (fun o => o.map Prod.fst) hv
    | some a => rw [hl] at hv; simpa [Rv] using congrArg (fun o => o.map Prod.fst) hv
  obtain ⟨v, ps, h1, h2⟩ := h.lookup law9 Tryz.underlying89 (zero40 w) (zd := .held (.slice none 0 0)) (zp := []) rfl (key9 k hk)
  rw [h1, hat v ps h2]
theorem mv_on {w w' : World} {m : Nat} {M : Kv Value} (h : MV w m M) (hk : w'.heap[m]? = w.heap[m]?) : MV w' m M := by
  obtain ⟨es, cl, h1, h2⟩ := h
  exact ⟨es, cl, hk.trans h1, h2⟩
theorem mv_made (w : World) : MV (w.alloc (.map #[] 0)) w.heap.size [] := by
  have := World.ownsMap_made w Tryz.prog 9 Rv
  exact this
theorem bb_lt : ∀ {a b : List UInt8}, bytesBefore a b = true → a < b
  | [], [], h => by cases h
  | [], _ :: _, _ => List.nil_lt_cons _ _
  | _ :: _, [], h => by cases h
  | x :: a, y :: b, h => by
    unfold bytesBefore at h
    rw [List.cons_lt_cons_iff]
    simp only [Bool.or_eq_true, decide_eq_true_eq, Bool.and_eq_true, beq_iff_eq] at h
    rcases h with h | ⟨h1, h2⟩
    · exact .inl h
    · exact .inr ⟨h1, bb_lt h2⟩
theorem nms_srt {α : Type} {L : Kv α} (h : Srt L) : nms L = L.map (·.1) := by
  unfold nms
  refine List.mergeSort_of_pairwise (List.pairwise_map.2 (h.imp fun {p q} hpq => ?_))
  exact decide_eq_true (List.le_of_lt (bb_lt hpq))
/-- It tells whose a path is. -/
def isO (k : List UInt8) : Bool := Lib.hasPrefix k [111, 47]
theorem isO_o (p : List UInt8) : isO ([111, 47] ++ p) = true := by simp [isO, Lib.hasPrefix]
theorem trim_o (p : List UInt8) : Lib.trimPrefix ([111, 47] ++ p) [111, 47] = p := by simp [Lib.trimPrefix, Lib.hasPrefix]
/-- One path, somebody's. -/
structure M1 (B : Nat) (W : World) (m : Nat) (n p : List UInt8) : Prop where
  is : ∃ g c, MV W m [(n, .slice (some ⟨g, 0, none⟩) 1 c)] ∧ B ≤ g ∧ g < W.heap.size ∧ g ≠ m ∧ W.cell? ⟨g, 0, none⟩ = some (.string ⟨p.toArray⟩)
theorem infoQ {t : TypeId} {z : Value} {s b : Nat} (h : (Tryz.prog.info? t).map (fun i => (i.zero, i.size, i.bytes)) = some (some z, s, b)) : ∃ i, Tryz.prog.info? t = some i ∧ i.zero = some z ∧ i.size = s ∧ i.bytes = b := by
  obtain ⟨i, hi, he⟩ := Option.map_eq_some_iff.1 h
  simp only [Prod.mk.injEq] at he
  exact ⟨i, hi, he.1, he.2.1, he.2.2⟩
theorem info9 : (Tryz.prog.info? 9).map (fun i => (i.zero, i.size, i.bytes)) = some (some (.string ⟨#[]⟩), 1, 16) := by kernel_rfl
section
variable {w W : World} {s d lo hi : Nat} {L : Kv Ent}
set_option maxRecDepth 100000 in
set_option maxHeartbeats 2000000 in
theorem owned_none (h : SJ w s d L lo hi W) (hn : L.length ≤ 1000) (hk : ∀ k ∈ L.map (·.1), isO k = false) : Calls Tryz.prog 42 #[.pointer (some ⟨s, 0, none⟩)] W fun x W2 => x = .returned (.map (some W.heap.size)) ∧ MV W2 W.heap.size [] ∧ Below W.heap.size W W2 := by
  have hks := nms_srt h.srt
  obtain ⟨mb, hX⟩ := h
  have bA := (Below.refl W.heap.size W).alloc (Nat.le_refl _) (.map #[] 0)
  have hX1 := hX.up bA
  have cL := list_any d mb L false 0 false 0 (W.alloc (.map #[] 0)) hX1.pd (by omega)
  rw [hks] at cL
  have c0 := hX1.cs
  have hmm := @run_makeMap Tryz.prog
  have HM := Lib.hid (mv_made W)
  obtain ⟨ks, hkse⟩ : ∃ ks, ks = L.map (·.1) := ⟨_, rfl⟩
  rw [← hkse] at cL hk
  have HK := Lib.hid hk
  have hlk : ks.length ≤ 1000 := by rw [hkse, List.length_map]; exact hn
  clear hX hX1 hks hk hkse
  go_enter Tryz.func42, Tryz.ntmps42
  go_wp2_with fail
  refine cL.mono ?_
  rintro x w1 ⟨v, rfl, hT, b1⟩
  have hm1 := mv_on HM.out (b1.block _ (by simp))
  have hb1 := bA.trans (b1.mono bA.size)
  obtain ⟨p, cp, rfl⟩ : ∃ p cp, v = .slice p ks.length cp := by
    rcases hT.is with ⟨h1, h2⟩ | ⟨b, c, h1, _⟩
    · rw [h1]; exact ⟨_, _, h2⟩
    · exact ⟨_, _, h1⟩
  have HT := Lib.hid hT
  have HM1 := Lib.hid hm1
  have HB1 := Lib.hid hb1
  clear cL hT c0 hm1 hb1 HM bA b1
  go_wp2_with fail
  go_loopw [16] (fun iv V => ∃ k : Nat, k ≤ ks.length ∧ iv = .int .i64 k ∧ V = w1) (fun iv _ => ks.length - (intOf iv).toNat)
  case atStart => exact ⟨0, Nat.zero_le _, rfl, rfl⟩
  case round =>
    obtain ⟨k, hk, rfl, rfl⟩ := hrel
    by_cases hlt : k < ks.length
    · obtain ⟨g, rfl, hc⟩ : ∃ g, p = some ⟨g, 0, none⟩ ∧ wr.cell? ⟨g, k, none⟩ = some (.string ⟨ks[k].toArray⟩) := by
        rcases HT.out.is with ⟨h1, _⟩ | ⟨b, c, h1, _, _, h2⟩
        · rw [h1] at hlt; simp at hlt
        · cases h1; exact ⟨b, rfl, h2 k hlt⟩
      have hno := HK.out _ (List.getElem_mem hlt)
      have cC := Tryz.strings_CutPrefix ⟨ks[k].toArray⟩ ⟨#[111, 47]⟩ wr
      rw [show Lib.hasPrefix (⟨ks[k].toArray⟩ : ByteArray).data.toList (⟨#[111, 47]⟩ : ByteArray).data.toList = false from hno] at cC
      generalize (Lib.trimPrefix (⟨ks[k].toArray⟩ : ByteArray).data.toList (⟨#[111, 47]⟩ : ByteArray).data.toList) = tp at cC
      generalize ks[k] = kk at cC hc hno
      clear hno
      go_wp2_with fail
      refine cC.mono ?_
      rintro x w2 ⟨rfl, hw⟩
      rw [hw]
      clear hw cC hc
      go_wp2_with fail
      exact ⟨⟨k + 1, hlt, by go_num, trivial⟩, by simp [intOf]; omega⟩
    · obtain rfl : k = ks.length := by omega
      go_wp2
      go_ret
      exact ⟨rfl, HM1.out, HB1.out⟩
set_option maxRecDepth 100000 in
set_option maxHeartbeats 4000000 in
theorem owned_one (h : SJ w s d L lo hi W) (hn : L.length ≤ 1000) (A : List (List UInt8)) (p n : List UInt8) (hL : L.map (·.1) = A ++ [[111, 47] ++ p]) (hk : ∀ k ∈ A, isO k = false) (hp : p.length ≤ 1000) (hpn : (ent ([111, 47] ++ p) L).now = n) (hnl : n.length ≤ 1000) : Calls Tryz.prog 42 #[.pointer (some ⟨s, 0, none⟩)] W fun x W2 => x = .returned (.map (some W.heap.size)) ∧ M1 (W.heap.size + 1) W2 W.heap.size n p ∧ Below W.heap.size W W2 := by
  have hks := nms_srt h.srt
  have bA := (Below.refl W.heap.size W).alloc (Nat.le_refl _) (.map #[] 0)
  have cO := fun V (hb : Below W.heap.size W V) => owner_any (h.up hb) p hp
  rw [hpn] at cO
  obtain ⟨mb, hX⟩ := h
  have hX1 := hX.up bA
  have cL := list_any d mb L false 0 false 0 (W.alloc (.map #[] 0)) hX1.pd (by omega)
  rw [hks, hL] at cL
  have c0 := hX1.cs
  have hmm := @run_makeMap Tryz.prog
  have HM := Lib.hid (mv_made W)
  have hlk : A.length ≤ 1000 := by
    have := congrArg List.length hL
    simp at this; omega
  have HK := Lib.hid hk
  clear hX hX1 hks hk hL hpn
  go_enter Tryz.func42, Tryz.ntmps42
  go_wp2_with fail
  refine cL.mono ?_
  rintro x w1 ⟨v, rfl, hT, b1⟩
  have hm1 := mv_on HM.out (b1.block _ (by simp))
  have hb1 := bA.trans (b1.mono bA.size)
  have hsz1 : W.heap.size < w1.heap.size := by
    have := b1.size
    rw [World.size_alloc] at this
    omega
  obtain ⟨m, hm⟩ : ∃ m, m = W.heap.size := ⟨_, rfl⟩
  obtain ⟨g, cp, hv, hgl, hcel⟩ : ∃ g cp, v = .slice (some ⟨g, 0, none⟩) (A.length + 1) cp ∧ g < w1.heap.size ∧ ∀ i (hi : i < A.length + 1), w1.cell? ⟨g, i, none⟩ = some (.string ⟨((A ++ [[111, 47] ++ p])[i]'(by simpa using hi)).toArray⟩) := by
    rcases hT.is with ⟨h1, h2⟩ | ⟨b, c, h1, _, h3, h4⟩
    · simp at h1
    · exact ⟨b, c, by simpa using h1, h3, fun i hi => h4 i (by simpa using hi)⟩
  subst hv
  have HT := Lib.hid hcel
  rw [← hm] at hm1 hsz1
  rw [← hm]
  have HM1 := Lib.hid hm1
  have HB1 := Lib.hid hb1
  have HMW := Lib.hid hm
  clear cL hT c0 hm1 hb1 HM bA b1 hcel hm
  go_wp2_with fail
  go_loopw [16] (fun iv V => ∃ k : Nat, k ≤ A.length + 1 ∧ iv = .int .i64 k ∧ Below W.heap.size W V ∧ ((k ≤ A.length ∧ V = w1) ∨ (k = A.length + 1 ∧ M1 (m + 1) V m n p))) (fun iv _ => A.length + 1 - (intOf iv).toNat)
  case atStart => exact ⟨0, Nat.zero_le _, rfl, HB1.out, .inl ⟨Nat.zero_le _, rfl⟩⟩
  case round =>
    obtain ⟨k, hk, rfl, hbV, hst⟩ := hrel
    rcases hst with ⟨hle, rfl⟩ | ⟨rfl, hM⟩
    · have hc := HT.out k (by omega)
      by_cases hlt : k < A.length
      · have hkk : (A ++ [[111, 47] ++ p])[k]'(by simp; omega) = A[k] := List.getElem_append_left hlt
        rw [hkk] at hc
        have hno := HK.out _ (List.getElem_mem hlt)
        have cC := Tryz.strings_CutPrefix ⟨A[k].toArray⟩ ⟨#[111, 47]⟩ wr
        rw [show Lib.hasPrefix (⟨A[k].toArray⟩ : ByteArray).data.toList (⟨#[111, 47]⟩ : ByteArray).data.toList = false from hno] at cC
        generalize (Lib.trimPrefix (⟨A[k].toArray⟩ : ByteArray).data.toList (⟨#[111, 47]⟩ : ByteArray).data.toList) = tp at cC
        generalize A[k] = kk at cC hc hno hkk
        have HBV := Lib.hid hbV
        clear hno hkk hbV
        go_wp2_with fail
        refine cC.mono ?_
        rintro x w2 ⟨rfl, hw⟩
        rw [hw]
        clear hw cC hc
        go_wp2_with fail
        exact ⟨⟨k + 1, by omega, by go_num, HBV.out, .inl ⟨hlt, trivial⟩⟩, by simp [intOf]; omega⟩
      · have hkA : k = A.length := by omega
        have hkk : (A ++ [[111, 47] ++ p])[k]'(by simp; omega) = [111, 47] ++ p := by
          subst hkA
          simp
        rw [hkk] at hc
        have cC := Tryz.strings_CutPrefix ⟨([111, 47] ++ p : List UInt8).toArray⟩ ⟨#[111, 47]⟩ wr
        rw [show Lib.hasPrefix (⟨([111, 47] ++ p : List UInt8).toArray⟩ : ByteArray).data.toList (⟨#[111, 47]⟩ : ByteArray).data.toList = true from isO_o p, show Lib.trimPrefix (⟨([111, 47] ++ p : List UInt8).toArray⟩ : ByteArray).data.toList (⟨#[111, 47]⟩ : ByteArray).data.toList = p from trim_o p] at cC
        clear hkk
        generalize [111, 47] ++ p = op at cC hc
        have cO' := cO wr hbV
        have HKA := Lib.hid hkA
        have HBV := Lib.hid hbV
        clear cO hbV hkA
        go_wp2_with fail
        refine cC.mono ?_
        rintro x w2 ⟨rfl, hw⟩
        rw [hw]
        clear hw cC hc w2
        go_wp2_with fail
        refine cO'.mono ?_
        rintro x w2 ⟨rfl, b2⟩
        have hb2 := HBV.out.trans (b2.mono HBV.out.size)
        have hm2 : MV w2 m [] := mv_on HM1.out (b2.block m hsz1)
        have hlook := mvlook hm2 n (by omega)
        rw [show vat n [] = .slice none 0 0 from rfl] at hlook
        have hms2 : m < w2.heap.size := Nat.lt_of_lt_of_le hsz1 b2.size
        obtain ⟨i0, hi0, hz0, hz1, hz2⟩ := infoQ info9
        have news : ∀ j u, ([.string ⟨p.toArray⟩] : List Value)[j]? = some u → (w2.alloc (.cells #[.string ⟨p.toArray⟩] 9)).cell? ((⟨w2.heap.size, 0, none⟩ : Addr).add j) = some u := World.news_of_block (nb0 w2 _)
        have ones : ∀ u ∈ ([.string ⟨p.toArray⟩] : List Value), u.oneCell' = true := by intro u hu; simp at hu; rw [hu]; rfl
        have HM2 := Lib.hid hm2
        have HB2 := Lib.hid hb2
        clear cO' b2 hb2 hm2
        go_wp2_with (at_builtin; refine wpList_append_lies _ rfl _ _ 40 rfl w2.heap.size 9 i0 _ 1 16 Tryz.underlying40 hi0 hz0 hz1 hz2 rfl (by decide) _ _ _ rfl (World.ownsRow_nil _ _ _ _) ⟨w2.heap.size, 0, none⟩ 1 1 [.string ⟨p.toArray⟩] rfl rfl news ones (by decide) (by unfold maxLen; omega) (by omega) (by rw [World.size_alloc]; omega) _ rfl ?_; intro g6 c6 w6 hown hgr _ hg6; go_frame)
        have bA6 : Below w2.heap.size w2 w6 := ((Below.refl w2.heap.size w2).alloc (Nat.le_refl _) _).grown hgr (by rw [World.size_alloc]; omega) (fun j e => by cases e)
        have hm6 : MV w6 m [] := mv_on HM2.out (bA6.block m hms2)
        have hrow := hown
        have hgc : w6.cell? ⟨g6, 0, none⟩ = some (.string ⟨p.toArray⟩) := by
          have := World.ownsRow.cellAt hown 0 (by omega)
          simpa using this
        have hgB : w2.heap.size ≤ g6 := by
          rcases hown.2 with ⟨e, _⟩ | ⟨g', cap', cur', e, hb', _⟩
          · cases e
          · cases e; exact hb'
        obtain ⟨w7, hrun, hown7, hturn⟩ := hm6.store law9 Tryz.underlying89 (by unfold maxLen; simp) (key9 n (by omega)) (val := .slice (some ⟨g6, 0, none⟩) 1 c6) (d := .held (.slice (some ⟨g6, 0, none⟩) 1 c6)) (ps := []) rfl
        have b7 : Below W.heap.size W w7 := (HB2.out.trans (bA6.mono HB2.out.size)).grown hturn.grown (Nat.le_trans HB2.out.size bA6.size) (fun r hr => by cases hr; rw [HMW.out]; exact Nat.le_refl _)
        have hne : g6 ≠ m := by omega
        have h71 : M1 (m + 1) w7 m n p := by
          refine ⟨g6, c6, ?_, by omega, Nat.lt_of_lt_of_le hg6 hturn.grown.size, hne, ?_⟩
          · have e1 := toD_put (fun v : Value => v) n (.slice (some ⟨g6, 0, none⟩) 1 c6) []
            rw [e1] at hown7
            exact own_tight hown7
          · exact (World.cell?_of_block (hturn.grown.block g6 hg6 (by simpa using hne))).trans hgc
        have H71 := Lib.hid h71
        have HB7 := Lib.hid b7
        clear h71 b7 hown7 hturn hgc hrow hown hgr hm6 bA6 hlook news ones HM2 HB2 hgB
        go_wp2_with fail
        rw [hrun]
        go_wp2_with fail
        exact ⟨⟨k + 1, by have := HKA.out; omega, by go_num, HB7.out, .inr ⟨by rw [HKA.out], H71.out⟩⟩, by simp [intOf]; have := HKA.out; omega⟩
    · have HF := Lib.hid hM
      have HBV := Lib.hid hbV
      clear hM hbV cO HT
      go_wp2
      go_ret
      exact ⟨by rw [← HMW.out]; rfl, by rw [← HMW.out]; exact HF.out, HBV.out⟩
end
end Go.Proofs.YtppogjjhippefaaGreatDoor.Dsk
