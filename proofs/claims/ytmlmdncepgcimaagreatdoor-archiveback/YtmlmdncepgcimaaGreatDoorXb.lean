/- depend.List, where every one of some is one. -/
import Derived.Test.YtmlmdncepgcimaaGreatDoorUg
import Derived.Test.YtmlmdncepgcimaaGreatDoorZas
import Derived.Laws.AppendOwn
import Derived.Test.YtmlmdncepgcimaaGreatDoorYh
namespace Go.Proofs.YtmlmdncepgcimaaGreatDoor
open Go.RowKit Go.Shelf

theorem as_one {W : World} {v : Value} {G : List Tm} {A : Option Addr} {n c : Nat} (h : As W v (sing G)) (hv : v = .slice A n c) (i : Nat) (hi : i < G.length) : ∃ b o u, A = some ⟨b, o, none⟩ ∧ W.cell? ⟨b, o + i, none⟩ = some u ∧ Ts W u [G[i]'hi] := by
  subst hv
  rcases h.is with ⟨h1, _⟩ | ⟨b, o, c', h1, _, hA⟩
  · have : (sing G).length = G.length := by simp [sing]
    rw [h1] at this; simp at this; omega
  · cases h1
    obtain ⟨u, hu, ht⟩ := hA.c i (by simpa [sing] using hi)
    exact ⟨b, o, u, rfl, hu, by simpa [sing] using ht⟩
theorem ts_one {W : World} {v : Value} {t : Tm} (h : Ts W v [t]) : ∃ b o c, v = .slice (some ⟨b, o, none⟩) 1 c ∧ ∀ j u, t.vs[j]? = some u → W.cell? (Addr.add ⟨b, o, none⟩ j) = some u := by
  rcases h.is with ⟨h1, _⟩ | ⟨b, o, c, h1, _, hT⟩
  · cases h1
  · refine ⟨b, o, c, h1, fun j u hj => ?_⟩
    have k0 := hT.c0 0 (by simp)
    have k1 := hT.c1 0 (by simp)
    have k2 := hT.c2 0 (by simp)
    have k3 := hT.c3 0 (by simp)
    have k4 := hT.c4 0 (by simp)
    match j with
    | 0 => simp [Tm.vs] at hj; subst hj; simpa [Addr.add] using k0
    | 1 => simp [Tm.vs] at hj; subst hj; simpa [Addr.add] using k1
    | 2 => simp [Tm.vs] at hj; subst hj; simpa [Addr.add] using k2
    | 3 => simp [Tm.vs] at hj; subst hj; simpa [Addr.add] using k3
    | 4 => simp [Tm.vs] at hj; subst hj; simpa [Addr.add] using k4
    | j + 5 => simp [Tm.vs] at hj
theorem as_len {W : World} {v : Value} {L : List (List Tm)} (h : As W v L) : ∃ A c, v = .slice A L.length c := by
  rcases h.is with ⟨rfl, A, c, rfl⟩ | ⟨b, o, c, rfl, _⟩
  · exact ⟨A, c, rfl⟩
  · exact ⟨_, c, rfl⟩
theorem below_own {W W' : World} {B : Nat} {e : TypeId} {sz n : Nat} {S : Value} {xs : List Value} (h : W.ownsRow B e sz S n xs) (hg : W.grownBy W' S.ownBlock) (hB : B ≤ W.heap.size) : Below B W W' :=
  ⟨hg.os, hg.tape, hg.output, hg.size, fun k hk => hg.block k (Nat.lt_of_lt_of_le hk hB) fun e1 => by have := (h.lt k e1.symm).1; omega⟩
theorem tmInfo : ∃ i, Tryz.prog.info? 83 = some i ∧ i.zero = some (.agg #[.string ⟨#[]⟩, .int .i64 0, .int .i64 0, .string ⟨#[]⟩, .string ⟨#[]⟩]) ∧ i.size = 5 ∧ i.bytes = 64 := by
  have h := infoTm
  cases hi : Tryz.prog.info? 83 with
  | none => rw [hi] at h; cases h
  | some i =>
    rw [hi] at h
    simp at h
    exact ⟨i, rfl, h.1, h.2.1, h.2.2⟩
set_option maxHeartbeats 2000000 in
set_option maxRecDepth 100000 in
theorem list_good (s : List UInt8) (G : List Tm) (w : World) (hs : s.length ≤ 100000) (hr : rdA s = .ok (sing G)) (hG : Sg w) (hT : Tab w) (hn : G.length ≤ 30) :
    Calls Tryz.prog 81 #[.string ⟨s.toArray⟩] w fun e w' => ∃ v, e = .returned (.tuple #[v, .nilIface]) ∧ Ts w' v G ∧ Below w.heap.size w w' := by
  have cT := rterms_any s w hs hG hT
  rw [hr] at cT
  clear hr hG hT
  go_enter Tryz.func81, Tryz.ntmps81
  go_wp2_with fail
  refine cT.mono ?_
  rintro x w1 ⟨⟨v, rfl, hA⟩, hb1⟩
  obtain ⟨A, c, rfl⟩ := as_len hA
  have hl : (sing G).length = G.length := by simp [sing]
  rw [hl]
  have HA := Lib.hid hA
  have HB := Lib.hid hb1
  clear cT hA hb1 hl
  obtain ⟨i0, hi, hz0, hz1, hz2⟩ := tmInfo
  go_wp2_with fail
  go_loopw [6, 19] (fun ov iv W => ∃ k : Nat, k ≤ G.length ∧ iv = .int .i64 k ∧ W.ownsRow w1.heap.size 83 5 ov k (c5 (G.take k)) ∧ Below w1.heap.size w1 W) (fun _ iv _ => G.length - (intOf iv).toNat)
  case atStart => exact ⟨0, Nat.zero_le _, rfl, World.ownsRow_nil _ _ _ _, Below.refl _ _⟩
  case round =>
    obtain ⟨k, hk, rfl, hO, hW⟩ := hrel
    by_cases hlt : k < G.length
    · obtain ⟨b, o, u, rfl, hu, ht⟩ := as_one (HA.out.on hW) rfl k hlt
      obtain ⟨b2, o2, c2, rfl, hcs⟩ := ts_one ht
      have HTK : Hid (c5 (G.take (k + 1)) = c5 (G.take k) ++ G[k].vs) := by
        show _ = _
        rw [List.take_succ_eq_append_getElem hlt, c5_snoc]
      have hvl : G[k].vs.length = 1 * 5 := rfl
      have hv1 : ∀ x ∈ G[k].vs, x.oneCell' = true := fun x hx => by
        simp [Tm.vs] at hx
        rcases hx with rfl | rfl | rfl | rfl | rfl <;> rfl
      generalize G[k] = t at hcs HTK hvl hv1 ht
      have HO := Lib.hid hO
      have HW := Lib.hid hW
      have HCS := Lib.hid hcs
      clear ht hO hW hcs
      go_wp2_with (at_builtin; refine wpList_append_own _ rfl _ _ 25 rfl w1.heap.size 83 i0 _ 5 64 Tryz.underlying25 hi hz0 hz1 hz2 rfl (by decide) _ _ _ rfl HO.out ⟨b2, o2, none⟩ 1 c2 t.vs rfl hvl HCS.out hv1 (by unfold maxLen; omega) (by omega) HW.out.size ?_; intro S' w3 hown hgrow _)
      have hb3 := HW.out.trans (below_own HO.out hgrow HW.out.size)
      exact ⟨⟨k + 1, hlt, by go_num, by rw [HTK.out]; exact hown, hb3⟩, by simp [intOf]; omega⟩
    · obtain rfl : k = G.length := by omega
      rw [List.take_length] at hO
      have ht := own_ts hO
      have hbw := HB.out.trans (hW.mono HB.out.size)
      go_wp2
      go_ret2
      exact ⟨_, rfl, ht, hbw⟩
end Go.Proofs.YtmlmdncepgcimaaGreatDoor
namespace Go.Proofs.YtmlmdncepgcimaaGreatDoor
open Go.RowKit Go.Shelf

def joinL : List (List UInt8) → List UInt8
  | [] => []
  | s :: l => s ++ lns l
theorem lns_cons (s : List UInt8) (l : List (List UInt8)) : lns (s :: l) = 10 :: joinL (s :: l) := by simp [lns, joinL]
theorem ixb_at (c : UInt8) (r : List UInt8) : ∀ p : List UInt8, c ∉ p → Lib.indexByte (p ++ c :: r) c = (p.length : Int)
  | [], _ => by simp [Lib.indexByte]
  | x :: p, h => by
    have hx : (x == c) = false := by rw [beq_eq_false_iff_ne]; exact fun e => h (by rw [e]; exact List.mem_cons_self ..)
    have ih := ixb_at c r p fun hm => h (List.mem_cons_of_mem _ hm)
    simp only [List.cons_append, Lib.indexByte, hx]
    rw [ih]
    simp only [Bool.false_eq_true, if_false, List.length_cons]
    rw [if_neg (by first | (simp; omega) | simp)]
    omega
theorem ixb_no (c : UInt8) : ∀ p : List UInt8, c ∉ p → Lib.indexByte p c = -1
  | [], _ => rfl
  | x :: p, h => by
    have hx : (x == c) = false := by rw [beq_eq_false_iff_ne]; exact fun e => h (by rw [e]; exact List.mem_cons_self ..)
    have ih := ixb_no c p fun hm => h (List.mem_cons_of_mem _ hm)
    simp only [Lib.indexByte, hx, ih]
    rfl
theorem bx_take (l : List UInt8) (k : Nat) : (ByteArray.mk l.toArray).extract 0 k = ⟨(l.take k).toArray⟩ := by
  apply ByteArray.ext
  simp
theorem bx_drop (l : List UInt8) (k : Nat) : (ByteArray.mk l.toArray).extract k l.length = ⟨(l.drop k).toArray⟩ := by
  apply ByteArray.ext
  apply Array.toList_inj.1
  simp
  exact List.take_of_length_le (by simp)
theorem join_split : ∀ (l : List (List UInt8)) (k : Nat), l ≠ [] → (∀ s ∈ l, (10 : UInt8) ∉ s) → l.length ≤ k + 1 → Lib.splitB ⟨#[10]⟩ 0 k ⟨(joinL l).toArray⟩ = l.map fun s : List UInt8 => (ByteArray.mk s.toArray)
  | [], _, h, _, _ => absurd rfl h
  | [s], k, _, hs, _ => by
    have h1 := hs s (List.mem_singleton.2 rfl)
    rw [show joinL [s] = s by simp [joinL, lns]]
    refine (Lib.splitB_miss _ _ _ _ ?_).trans rfl
    unfold Lib.indexB
    rw [show (ByteArray.mk #[10]).data.toList = [10] from rfl, Lib.index_one]
    exact ixb_no 10 s h1
  | s :: t :: l, k, _, hs, hk => by
    obtain ⟨k', rfl⟩ : ∃ k', k = k' + 1 := ⟨k - 1, by simp at hk; omega⟩
    have h1 := hs s (List.mem_cons_self ..)
    have e1 : joinL (s :: t :: l) = s ++ 10 :: joinL (t :: l) := by rw [joinL, lns_cons]
    have ix : Lib.indexB ⟨(joinL (s :: t :: l)).toArray⟩ ⟨#[10]⟩ = (s.length : Int) := by
      unfold Lib.indexB
      rw [show (ByteArray.mk #[10]).data.toList = [10] from rfl, Lib.index_one, e1]
      exact ixb_at 10 _ s h1
    rw [Lib.splitB_hit _ _ _ _ s.length ix]
    have e2 : (ByteArray.mk (joinL (s :: t :: l)).toArray).extract (s.length + (ByteArray.mk #[(10 : UInt8)]).size) (ByteArray.mk (joinL (s :: t :: l)).toArray).size = ⟨(joinL (t :: l)).toArray⟩ := by
      rw [show (ByteArray.mk (joinL (s :: t :: l)).toArray).size = (joinL (s :: t :: l)).length from rfl, bx_drop, e1, show (ByteArray.mk #[(10 : UInt8)]).size = 1 from rfl]
      simp
    rw [e2, join_split (t :: l) k' (by simp) (fun x hx => hs x (List.mem_cons_of_mem _ hx)) (by simp at hk ⊢; omega)]
    rw [Nat.add_zero, bx_take, e1]
    simp
theorem gets_nil (s : List UInt8) : Stz.Sm.gets [] s = none := rfl
theorem gets_cons (f : Fd) (l : List Fd) (s : List UInt8) : Stz.Sm.gets (f :: l) s = if (Stz.Sm.small f.1 == Stz.Sm.small s) = true then some f.2 else Stz.Sm.gets l s := by
  unfold Stz.Sm.gets Stz.Sm.fnd
  rw [List.findIdx?_cons]
  split
  · simp
  · rw [Option.map_map]
    congr 1
theorem gets_no (r : List Fd) (s : List UInt8) (h : ∀ g ∈ r, (Stz.Sm.small g.1 == Stz.Sm.small s) = false) : Stz.Sm.gets r s = none := by
  induction r with
  | nil => rfl
  | cons g r ih =>
    rw [gets_cons, if_neg (by rw [h g (List.mem_cons_self ..)]; simp)]
    exact ih fun x hx => h x (List.mem_cons_of_mem _ hx)
theorem gets_kp : ∀ (L r : List Fd), (L.Pairwise fun f g => (Stz.Sm.small f.1 == Stz.Sm.small g.1) = false) → ∀ f ∈ L, (∀ g ∈ r, (Stz.Sm.small g.1 == Stz.Sm.small f.1) = false) → Stz.Sm.gets (L.flatMap kp ++ r) f.1 = if f.2 = [] then none else some f.2
  | [], _, _, f, hf, _ => by cases hf
  | g :: L, r, hp, f, hf, hr => by
    rw [List.pairwise_cons] at hp
    rw [List.flatMap_cons, List.append_assoc]
    rcases List.mem_cons.1 hf with rfl | hf'
    · unfold kp
      split
      · rw [List.nil_append]
        refine gets_no _ _ fun x hx => ?_
        rcases List.mem_append.1 hx with hx | hx
        · obtain ⟨y, hy, hx⟩ := List.mem_flatMap.1 hx
          have := hp.1 y hy
          split at hx
          · cases hx
          · rw [List.mem_singleton.1 hx, beq_eq_false_iff_ne]
            exact fun e => by rw [beq_eq_false_iff_ne] at this; exact this e.symm
        · exact hr x hx
      · rw [List.singleton_append, gets_cons, if_pos (by simp)]
    · have hgf := hp.1 f hf'
      have ih := gets_kp L r hp.2 f hf' hr
      unfold kp at ih ⊢
      split
      · rw [List.nil_append]; exact ih
      · rw [List.singleton_append, gets_cons, if_neg (by rw [hgf]; simp)]; exact ih
end Go.Proofs.YtmlmdncepgcimaaGreatDoor
namespace Go.Proofs.YtmlmdncepgcimaaGreatDoor
open Go.RowKit Go.Shelf

theorem join_len : ∀ l : List (List UInt8), l ≠ [] → l.length ≤ (joinL l).length + 1
  | [], h => absurd rfl h
  | [s], _ => by simp
  | s :: t :: l, _ => by
    have := join_len (t :: l) (by simp)
    rw [joinL, lns_cons]
    simp only [List.length_cons, List.length_append] at this ⊢
    omega
theorem lns_pre (l : List (List UInt8)) (h : l ≠ []) : [10].isPrefixOf (lns l) = true ∧ (lns l).drop 1 = joinL l := by
  match l with
  | [] => exact absurd rfl h
  | s :: l => rw [lns_cons]; exact ⟨by simp [List.isPrefixOf], rfl⟩
set_option maxHeartbeats 1600000 in
set_option maxRecDepth 100000 in
theorem ppaths_good (l : List (List UInt8)) (w : World) (h0 : l ≠ []) (h20 : l.length ≤ 20) (hno : ∀ s ∈ l, (10 : UInt8) ∉ s) (hlen : (lns l).length ≤ 100000) (hM : MaxN w) :
    Calls Tryz.prog 83 #[.string ⟨(lns l).toArray⟩] w fun e w' => ∃ v, e = .returned (.tuple #[v, .nilIface]) ∧ Ss w' v l ∧ Below w.heap.size w w' := by
  obtain ⟨mm, hm⟩ := hM.out
  obtain ⟨p1, p2⟩ := lns_pre l h0
  have cX := pfx_any (lns l) [10] w
  rw [p1, if_pos rfl, show ([10] : List UInt8).length = 1 from rfl, p2] at cX
  have hj := join_len l h0
  have hjl : (joinL l).length ≤ 100000 := by rw [← p2]; simp; omega
  have hz : (ByteArray.mk (joinL l).toArray).size = (joinL l).length := rfl
  have cS := Tryz.strings_SplitN ⟨(joinL l).toArray⟩ ⟨#[10]⟩ 21 mm w (by omega) hm (Nat.le_refl 1) (by omega) (by omega)
  rw [hz, join_split l (min 21 ((joinL l).length + 1) - 1) h0 hno (by omega)] at cS
  have hN : l.length ≤ min 21 ((joinL l).length + 1) := by omega
  generalize min 21 ((joinL l).length + 1) = N at cS hN
  clear p1 p2 hz hj hlen h20
  generalize lns l = s at cX
  generalize joinL l = t at cX cS hjl
  go_enter Tryz.func83, Tryz.ntmps83
  go_wp2_with fail
  refine cX.mono ?_
  rintro x w1 ⟨rfl, rfl⟩
  go_wp2_with fail
  refine cS.mono ?_
  rintro x w2 ⟨rfl, rfl⟩
  have hS : Ss (w1.alloc (.cells (Lib.cellsOf (l.map fun s : List UInt8 => (ByteArray.mk s.toArray)) N) 9)) (.slice (some ⟨w1.heap.size, 0, none⟩) l.length N) l := by
    refine ⟨.inr ⟨w1.heap.size, 0, N, rfl, hN, by simp, fun i hi => ?_⟩⟩
    unfold World.cell?
    rw [World.alloc_heap_new]
    show (Lib.cellsOf _ N)[0 + i]? = _
    unfold Lib.cellsOf
    rw [Nat.zero_add, List.getElem?_toArray, List.getElem?_append_left (by simpa using hi), List.getElem?_map, List.getElem?_map, List.getElem?_eq_getElem hi]
    rfl
  have hbw : Below w1.heap.size w1 (w1.alloc (.cells (Lib.cellsOf (l.map fun s : List UInt8 => (ByteArray.mk s.toArray)) N) 9)) := (Below.refl _ _).alloc (Nat.le_refl _) _
  clear cS cX
  go_wp2
  go_ret2
  exact ⟨_, rfl, hS, hbw⟩
end Go.Proofs.YtmlmdncepgcimaaGreatDoor
namespace Go.Proofs.YtmlmdncepgcimaaGreatDoor
open Go.RowKit Go.Shelf

/-- A reader without an error. -/
abbrev rdo (vf : Value) : Obj := .cells #[vf, .nilIface] 99 (0, 0)
structure Rd (w : World) (rb : Nat) (vf : Value) : Prop where
  blk : w.heap[rb]? = some (rdo vf)
theorem Rd.c {w : World} {rb : Nat} {vf : Value} (h : Rd w rb vf) : rb < w.heap.size ∧ w.cell? ⟨rb, 0, none⟩ = some vf ∧ w.cell? ⟨rb, 1, none⟩ = some .nilIface ∧ w.frozen? ⟨rb, 1, none⟩ = false :=
  ⟨(Array.getElem?_eq_some_iff.1 h.blk).1, by simp [World.cell?, h.blk], by simp [World.cell?, h.blk], by simp [World.frozen?, h.blk]⟩
theorem Rd.on {w w' : World} {rb : Nat} {vf : Value} (h : Rd w rb vf) (k : Below w.heap.size w w') : Rd w' rb vf := ⟨(k.block rb (Array.getElem?_eq_some_iff.1 h.blk).1).trans h.blk⟩
theorem Rd.set {w : World} {rb : Nat} {vf : Value} (h : Rd w rb vf) : Below w.heap.size w (w.setCell ⟨rb, 1, none⟩ .nilIface) := by
  refine ⟨rfl, rfl, rfl, by simp, fun k hk => ?_⟩
  by_cases e : k = rb
  · subst e
    rw [heap_setCell_same w k 1 _ _ _ h.blk, h.blk]
    rfl
  · exact heap_setCell_other w ⟨rb, 1, none⟩ k _ e
set_option maxHeartbeats 1600000 in
set_option maxRecDepth 100000 in
theorem read78_some (P : World → Value → Prop) (hP : ∀ W W' v, P W v → Below W.heap.size W W' → P W' v) (rb : Nat) (A : Option Addr) (c : Nat) (l : List Fd) (n s : List UInt8) (w : World) (hR : Rd w rb (.slice A l.length c)) (hl : Stz.Sl w (.slice A l.length c) l) (hz : Stz.Sz l) (hn : n.length ≤ 1000) (hg : Stz.Sm.gets l n = some s)
    (hC : ∀ W, Below w.heap.size w W → Calls Tryz.prog 79 #[.string ⟨s.toArray⟩] W fun e W' => ∃ v, e = .returned (.tuple #[v, .nilIface]) ∧ P W' v ∧ Below W.heap.size W W') :
    Calls Tryz.prog 78 #[.pointer (some ⟨rb, 0, none⟩), .string ⟨n.toArray⟩, .func (.func 79) #[] #[]] w fun e w' => ∃ v, e = .returned v ∧ P w' v ∧ Below w.heap.size w w' := by
  have cG := Stz.get_any _ l n w hl hz (by omega)
  rw [hg] at cG
  obtain ⟨h0, h1, h2, h3⟩ := hR.c
  go_enter Tryz.func78, Tryz.ntmps78
  have HR := Lib.hid hR
  have HC := Lib.hid hC
  have HP := Lib.hid hP
  clear hR hC hP hl
  go_wp2_with fail
  refine cG.mono ?_
  rintro x W1 ⟨rfl, hb1⟩
  rw [show Stz.getVal (some s) = .tuple #[.string ⟨s.toArray⟩, .bool true] from rfl]
  have hR1 := HR.out.on hb1
  obtain ⟨h10, h11, h12, h13⟩ := hR1.c
  have cP := HC.out W1 hb1
  have HR1 := Lib.hid hR1
  have HB1 := Lib.hid hb1
  clear cG h0 h1 h2 h3 hR1 hb1
  go_wp2_with fail
  refine cP.mono ?_
  rintro x W2 ⟨v, rfl, hp2, hb2⟩
  have hR2 := HR1.out.on hb2
  obtain ⟨h20, h21, h22, h23⟩ := hR2.c
  have hs2 := hR2.set
  have hp3 := HP.out _ _ _ hp2 hs2
  have hb3 := HB1.out.trans ((hb2.trans (hs2.mono hb2.size)).mono HB1.out.size)
  have HQ := Lib.hid (And.intro hp3 hb3)
  clear cP h10 h11 h12 h13 hp2 hs2 hp3 hb3 hR2 hb2 HR1 HB1 HR HC
  go_wp2_with fail
  go_ret
  exact ⟨_, rfl, HQ.out.1, HQ.out.2⟩
set_option maxRecDepth 100000 in
theorem read78_none (rb : Nat) (A : Option Addr) (c : Nat) (l : List Fd) (n : List UInt8) (w : World) (hR : Rd w rb (.slice A l.length c)) (hl : Stz.Sl w (.slice A l.length c) l) (hz : Stz.Sz l) (hn : n.length ≤ 1000) (hg : Stz.Sm.gets l n = none) :
    Calls Tryz.prog 78 #[.pointer (some ⟨rb, 0, none⟩), .string ⟨n.toArray⟩, .func (.func 79) #[] #[]] w fun e w' => e = .returned (.slice none 0 0) ∧ Below w.heap.size w w' := by
  have cG := Stz.get_any _ l n w hl hz (by omega)
  rw [hg] at cG
  obtain ⟨h0, h1, h2, h3⟩ := hR.c
  have HR := Lib.hid hR
  clear hR hl
  go_enter Tryz.func78, Tryz.ntmps78
  go_wp2_with fail
  refine cG.mono ?_
  rintro x W1 ⟨rfl, hb1⟩
  rw [show Stz.getVal none = .tuple #[.string ⟨#[]⟩, .bool false] from rfl]
  obtain ⟨h10, h11, h12, h13⟩ := (HR.out.on hb1).c
  clear cG
  go_wp2
  go_ret
  exact ⟨rfl, hb1⟩
set_option maxHeartbeats 1600000 in
set_option maxRecDepth 100000 in
theorem read80_some (P : World → Value → Prop) (hP : ∀ W W' v, P W v → Below W.heap.size W W' → P W' v) (rb : Nat) (A : Option Addr) (c : Nat) (l : List Fd) (n s : List UInt8) (w : World) (hR : Rd w rb (.slice A l.length c)) (hl : Stz.Sl w (.slice A l.length c) l) (hz : Stz.Sz l) (hn : n.length ≤ 1000) (hg : Stz.Sm.gets l n = some s)
    (hC : ∀ W, Below w.heap.size w W → Calls Tryz.prog 81 #[.string ⟨s.toArray⟩] W fun e W' => ∃ v, e = .returned (.tuple #[v, .nilIface]) ∧ P W' v ∧ Below W.heap.size W W') :
    Calls Tryz.prog 80 #[.pointer (some ⟨rb, 0, none⟩), .string ⟨n.toArray⟩, .func (.func 81) #[] #[]] w fun e w' => ∃ v, e = .returned v ∧ P w' v ∧ Below w.heap.size w w' := by
  have cG := Stz.get_any _ l n w hl hz (by omega)
  rw [hg] at cG
  obtain ⟨h0, h1, h2, h3⟩ := hR.c
  go_enter Tryz.func80, Tryz.ntmps80
  have HR := Lib.hid hR
  have HC := Lib.hid hC
  have HP := Lib.hid hP
  clear hR hC hP hl
  go_wp2_with fail
  refine cG.mono ?_
  rintro x W1 ⟨rfl, hb1⟩
  rw [show Stz.getVal (some s) = .tuple #[.string ⟨s.toArray⟩, .bool true] from rfl]
  have hR1 := HR.out.on hb1
  obtain ⟨h10, h11, h12, h13⟩ := hR1.c
  have cP := HC.out W1 hb1
  have HR1 := Lib.hid hR1
  have HB1 := Lib.hid hb1
  clear cG h0 h1 h2 h3 hR1 hb1
  go_wp2_with fail
  refine cP.mono ?_
  rintro x W2 ⟨v, rfl, hp2, hb2⟩
  have hR2 := HR1.out.on hb2
  obtain ⟨h20, h21, h22, h23⟩ := hR2.c
  have hs2 := hR2.set
  have hp3 := HP.out _ _ _ hp2 hs2
  have hb3 := HB1.out.trans ((hb2.trans (hs2.mono hb2.size)).mono HB1.out.size)
  have HQ := Lib.hid (And.intro hp3 hb3)
  clear cP h10 h11 h12 h13 hp2 hs2 hp3 hb3 hR2 hb2 HR1 HB1 HR HC
  go_wp2_with fail
  go_ret
  exact ⟨_, rfl, HQ.out.1, HQ.out.2⟩
set_option maxRecDepth 100000 in
theorem read80_none (rb : Nat) (A : Option Addr) (c : Nat) (l : List Fd) (n : List UInt8) (w : World) (hR : Rd w rb (.slice A l.length c)) (hl : Stz.Sl w (.slice A l.length c) l) (hz : Stz.Sz l) (hn : n.length ≤ 1000) (hg : Stz.Sm.gets l n = none) :
    Calls Tryz.prog 80 #[.pointer (some ⟨rb, 0, none⟩), .string ⟨n.toArray⟩, .func (.func 81) #[] #[]] w fun e w' => e = .returned (.slice none 0 0) ∧ Below w.heap.size w w' := by
  have cG := Stz.get_any _ l n w hl hz (by omega)
  rw [hg] at cG
  obtain ⟨h0, h1, h2, h3⟩ := hR.c
  have HR := Lib.hid hR
  clear hR hl
  go_enter Tryz.func80, Tryz.ntmps80
  go_wp2_with fail
  refine cG.mono ?_
  rintro x W1 ⟨rfl, hb1⟩
  rw [show Stz.getVal none = .tuple #[.string ⟨#[]⟩, .bool false] from rfl]
  obtain ⟨h10, h11, h12, h13⟩ := (HR.out.on hb1).c
  clear cG
  go_wp2
  go_ret
  exact ⟨rfl, hb1⟩
set_option maxHeartbeats 1600000 in
set_option maxRecDepth 100000 in
theorem read82_some (P : World → Value → Prop) (hP : ∀ W W' v, P W v → Below W.heap.size W W' → P W' v) (rb : Nat) (A : Option Addr) (c : Nat) (l : List Fd) (n s : List UInt8) (w : World) (hR : Rd w rb (.slice A l.length c)) (hl : Stz.Sl w (.slice A l.length c) l) (hz : Stz.Sz l) (hn : n.length ≤ 1000) (hg : Stz.Sm.gets l n = some s)
    (hC : ∀ W, Below w.heap.size w W → Calls Tryz.prog 83 #[.string ⟨s.toArray⟩] W fun e W' => ∃ v, e = .returned (.tuple #[v, .nilIface]) ∧ P W' v ∧ Below W.heap.size W W') :
    Calls Tryz.prog 82 #[.pointer (some ⟨rb, 0, none⟩), .string ⟨n.toArray⟩, .func (.func 83) #[] #[]] w fun e w' => ∃ v, e = .returned v ∧ P w' v ∧ Below w.heap.size w w' := by
  have cG := Stz.get_any _ l n w hl hz (by omega)
  rw [hg] at cG
  obtain ⟨h0, h1, h2, h3⟩ := hR.c
  go_enter Tryz.func82, Tryz.ntmps82
  have HR := Lib.hid hR
  have HC := Lib.hid hC
  have HP := Lib.hid hP
  clear hR hC hP hl
  go_wp2_with fail
  refine cG.mono ?_
  rintro x W1 ⟨rfl, hb1⟩
  rw [show Stz.getVal (some s) = .tuple #[.string ⟨s.toArray⟩, .bool true] from rfl]
  have hR1 := HR.out.on hb1
  obtain ⟨h10, h11, h12, h13⟩ := hR1.c
  have cP := HC.out W1 hb1
  have HR1 := Lib.hid hR1
  have HB1 := Lib.hid hb1
  clear cG h0 h1 h2 h3 hR1 hb1
  go_wp2_with fail
  refine cP.mono ?_
  rintro x W2 ⟨v, rfl, hp2, hb2⟩
  have hR2 := HR1.out.on hb2
  obtain ⟨h20, h21, h22, h23⟩ := hR2.c
  have hs2 := hR2.set
  have hp3 := HP.out _ _ _ hp2 hs2
  have hb3 := HB1.out.trans ((hb2.trans (hs2.mono hb2.size)).mono HB1.out.size)
  have HQ := Lib.hid (And.intro hp3 hb3)
  clear cP h10 h11 h12 h13 hp2 hs2 hp3 hb3 hR2 hb2 HR1 HB1 HR HC
  go_wp2_with fail
  go_ret
  exact ⟨_, rfl, HQ.out.1, HQ.out.2⟩
set_option maxRecDepth 100000 in
theorem read82_none (rb : Nat) (A : Option Addr) (c : Nat) (l : List Fd) (n : List UInt8) (w : World) (hR : Rd w rb (.slice A l.length c)) (hl : Stz.Sl w (.slice A l.length c) l) (hz : Stz.Sz l) (hn : n.length ≤ 1000) (hg : Stz.Sm.gets l n = none) :
    Calls Tryz.prog 82 #[.pointer (some ⟨rb, 0, none⟩), .string ⟨n.toArray⟩, .func (.func 83) #[] #[]] w fun e w' => e = .returned (.slice none 0 0) ∧ Below w.heap.size w w' := by
  have cG := Stz.get_any _ l n w hl hz (by omega)
  rw [hg] at cG
  obtain ⟨h0, h1, h2, h3⟩ := hR.c
  have HR := Lib.hid hR
  clear hR hl
  go_enter Tryz.func82, Tryz.ntmps82
  go_wp2_with fail
  refine cG.mono ?_
  rintro x W1 ⟨rfl, hb1⟩
  rw [show Stz.getVal none = .tuple #[.string ⟨#[]⟩, .bool false] from rfl]
  obtain ⟨h10, h11, h12, h13⟩ := (HR.out.on hb1).c
  clear cG
  go_wp2
  go_ret
  exact ⟨rfl, hb1⟩
theorem Rd.oth {w : World} {rb : Nat} {vf : Value} (h : Rd w rb vf) {p : Addr} (hp : rb ≠ p.block) (u : Value) : Rd (w.setCell p u) rb vf := ⟨(heap_setCell_other w p rb u hp).trans h.blk⟩
abbrev z23 : Obj := .cells #[.int .i64 0, .string ⟨#[]⟩, .string ⟨#[]⟩] 23 (0, 0)
structure Zc (w : World) (b : Nat) : Prop where
  blk : w.heap[b]? = some z23
theorem Zc.on {w w' : World} {b : Nat} (h : Zc w b) (k : Below w.heap.size w w') : Zc w' b := ⟨(k.block b (Array.getElem?_eq_some_iff.1 h.blk).1).trans h.blk⟩
theorem Zc.c {w : World} {b : Nat} (h : Zc w b) : b < w.heap.size ∧ w.cell? ⟨b, 0, none⟩ = some (.int .i64 0) ∧ w.cell? ⟨b, 1, none⟩ = some (.string ⟨#[]⟩) ∧ w.cell? ⟨b, 2, none⟩ = some (.string ⟨#[]⟩) ∧ w.frozen? ⟨b, 0, none⟩ = false ∧ w.frozen? ⟨b, 1, none⟩ = false ∧ w.frozen? ⟨b, 2, none⟩ = false :=
  ⟨(Array.getElem?_eq_some_iff.1 h.blk).1, by simp [World.cell?, h.blk], by simp [World.cell?, h.blk], by simp [World.cell?, h.blk], by simp [World.frozen?, h.blk], by simp [World.frozen?, h.blk], by simp [World.frozen?, h.blk]⟩
theorem z23_new (w : World) : Zc ((w.alloc z23).alloc z23) w.heap.size ∧ Zc ((w.alloc z23).alloc z23) (w.heap.size + 1) ∧ Below w.heap.size w ((w.alloc z23).alloc z23) := by
  refine ⟨⟨?_⟩, ⟨?_⟩, ((Below.refl _ _).alloc (Nat.le_refl _) _).alloc (by simp) _⟩
  · rw [Below.heap_alloc _ _ w.heap.size (by simp)]
    exact World.alloc_heap_new _ _
  · have := World.alloc_heap_new (w.alloc z23) z23
    rwa [World.size_alloc] at this
set_option maxHeartbeats 1600000 in
set_option maxRecDepth 100000 in
theorem read76_some (ve : Int) (vu vr : List UInt8) (rb : Nat) (A : Option Addr) (c : Nat) (l : List Fd) (n s : List UInt8) (w : World) (hR : Rd w rb (.slice A l.length c)) (hl : Stz.Sl w (.slice A l.length c) l) (hz : Stz.Sz l) (hn : n.length ≤ 1000) (hg : Stz.Sm.gets l n = some s)
    (hC : ∀ W, Below w.heap.size w W → Calls Tryz.prog 77 #[.string ⟨s.toArray⟩] W fun e W' => e = .returned (.tuple #[.agg #[.int .i64 ve, .string ⟨vu.toArray⟩, .string ⟨vr.toArray⟩], .nilIface]) ∧ Below W.heap.size W W') :
    Calls Tryz.prog 76 #[.pointer (some ⟨rb, 0, none⟩), .string ⟨n.toArray⟩, .func (.func 77) #[] #[]] w fun e w' => e = .returned (.agg #[.int .i64 ve, .string ⟨vu.toArray⟩, .string ⟨vr.toArray⟩]) ∧ Below w.heap.size w w' := by
  obtain ⟨k0, k1, hb0⟩ := z23_new w
  have cG := Stz.get_any _ l n _ (hl.on hb0) hz (by omega)
  rw [hg] at cG
  obtain ⟨h0, h1, h2, h3⟩ := hR.c
  have HR := Lib.hid (hR.on hb0)
  have HC := Lib.hid hC
  have HK := Lib.hid (And.intro k0 k1)
  have HB0 := Lib.hid hb0
  clear hR hC hl k0 k1 hb0
  go_enter Tryz.func76, Tryz.ntmps76
  go_wp2_with fail
  refine cG.mono ?_
  rintro x W1 ⟨rfl, hb1⟩
  rw [show Stz.getVal (some s) = .tuple #[.string ⟨s.toArray⟩, .bool true] from rfl]
  have hR1 := HR.out.on hb1
  obtain ⟨h10, h11, h12, h13⟩ := hR1.c
  have hbw1 := HB0.out.trans (hb1.mono HB0.out.size)
  have cP := HC.out W1 hbw1
  have HR1 := Lib.hid hR1
  have HB1 := Lib.hid hbw1
  have HK1 := Lib.hid (And.intro (HK.out.1.on hb1) (HK.out.2.on hb1))
  clear cG h1 h2 h3 hR1 hb1 hbw1 HK HR HC
  go_wp2_with fail
  refine cP.mono ?_
  rintro x W2 ⟨rfl, hb2⟩
  have hR2 := HR1.out.on hb2
  obtain ⟨h20, h21, h22, h23⟩ := hR2.c
  obtain ⟨a0, a1, a2, a3, a4, a5, a6⟩ := (HK1.out.1.on hb2).c
  obtain ⟨b0, b1, b2, b3, b4, b5, b6⟩ := (HK1.out.2.on hb2).c
  have HR2 := Lib.hid hR2
  have HB2 := Lib.hid (HB1.out.trans (hb2.mono HB1.out.size))
  clear cP h10 h11 h12 h13 hR2 hb2 HR1 HB1 HK1
  have n1 : w.heap.size + 1 ≠ rb := by omega
  have n2 : rb ≠ w.heap.size + 1 := by omega
  have n3 : w.heap.size ≠ rb := by omega
  have n4 : rb ≠ w.heap.size := by omega
  have n5 : w.heap.size ≠ w.heap.size + 1 := by omega
  have n6 : w.heap.size + 1 ≠ w.heap.size := by omega
  go_wp2_with fail
  have d1 := ((HB2.out.setCell (p := ⟨w.heap.size + 1, 0, none⟩) (Nat.le_succ _) (.int .i64 ve)).setCell (p := ⟨w.heap.size + 1, 1, none⟩) (Nat.le_succ _) (.string ⟨vu.toArray⟩)).setCell (p := ⟨w.heap.size + 1, 2, none⟩) (Nat.le_succ _) (.string ⟨vr.toArray⟩)
  have r1 := (((HR2.out.oth (p := ⟨w.heap.size + 1, 0, none⟩) n2 (.int .i64 ve)).oth (p := ⟨w.heap.size + 1, 1, none⟩) n2 (.string ⟨vu.toArray⟩)).oth (p := ⟨w.heap.size + 1, 2, none⟩) n2 (.string ⟨vr.toArray⟩)).set
  have d2 := d1.trans (r1.mono d1.size)
  have d3 := ((d2.setCell (p := ⟨w.heap.size, 0, none⟩) (Nat.le_refl _) (.int .i64 ve)).setCell (p := ⟨w.heap.size, 1, none⟩) (Nat.le_refl _) (.string ⟨vu.toArray⟩)).setCell (p := ⟨w.heap.size, 2, none⟩) (Nat.le_refl _) (.string ⟨vr.toArray⟩)
  have HD3 := Lib.hid d3
  clear d1 r1 d2 d3
  exact bodyPost_ret (v := .agg #[.int .i64 ve, .string ⟨vu.toArray⟩, .string ⟨vr.toArray⟩]) (by simp [results, Tryz.results76, go_sem, *]) rfl ⟨rfl, HD3.out⟩
end Go.Proofs.YtmlmdncepgcimaaGreatDoor
