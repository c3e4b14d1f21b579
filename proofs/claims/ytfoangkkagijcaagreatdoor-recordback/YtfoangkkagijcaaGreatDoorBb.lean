/- depend.List, where every one of some is one. -/
import Derived.Test.YtfoangkkagijcaaGreatDoorUg
import Derived.Test.YtfoangkkagijcaaGreatDoorZas
import Derived.Laws.AppendOwn
namespace Go.Proofs.YtfoangkkagijcaaGreatDoor
open Go.RowKit Go.Shelf

theorem as_one {W : World} {v : Value} {G : List Tm} {A : Option Addr} {n c : Nat} (h : As W v (sing G)) (hv : v = .slice A n c) (i : Nat) (hi : i < G.length) : ∃ b o u, A = some ⟨b, o, none⟩ ∧ W.cell? ⟨b, o + i, none⟩ = some u ∧ Ts W u [G[i]'hi] := by
  subst hv
  rcases h.is with ⟨h1, _⟩ | ⟨b, o, c', h1, _, hA⟩
  · have : (sing G).length = G.length := by simp [sing]
    rw [h1] at this; simp at this; omega
  · cases h1
    obtain ⟨u, hu, ht⟩ := hA.c i (by simpa [sing] using hi)
    exact ⟨b, o, u, rfl, hu, by simpa [sing] using ht⟩
theorem ts_one {W : World} {v : Value} {t : Tm} (h : Ts W v [t]) : ∃ b o c, v = .slice (some ⟨b, o, none⟩) 1 c ∧ ∀ j u, t.vs[j]? = some u → W.cell? (Addr.add ⟨b, o, none⟩ j) = some u := by
  rcases h.is with ⟨h1, _⟩ | ⟨b, o, c, h1, _, hT⟩
  · cases h1
  · refine ⟨b, o, c, h1, fun j u hj => ?_⟩
    have k0 := hT.c0 0 (by simp)
    have k1 := hT.c1 0 (by simp)
    have k2 := hT.c2 0 (by simp)
    have k3 := hT.c3 0 (by simp)
    have k4 := hT.c4 0 (by simp)
    match j with
    | 0 => simp [Tm.vs] at hj; subst hj; simpa [Addr.add] using k0
    | 1 => simp [Tm.vs] at hj; subst hj; simpa [Addr.add] using k1
    | 2 => simp [Tm.vs] at hj; subst hj; simpa [Addr.add] using k2
    | 3 => simp [Tm.vs] at hj; subst hj; simpa [Addr.add] using k3
    | 4 => simp [Tm.vs] at hj; subst hj; simpa [Addr.add] using k4
    | j + 5 => simp [Tm.vs] at hj
theorem as_len {W : World} {v : Value} {L : List (List Tm)} (h : As W v L) : ∃ A c, v = .slice A L.length c := by
  rcases h.is with ⟨rfl, A, c, rfl⟩ | ⟨b, o, c, rfl, _⟩
  · exact ⟨A, c, rfl⟩
  · exact ⟨_, c, rfl⟩
theorem below_own {W W' : World} {B : Nat} {e : TypeId} {sz n : Nat} {S : Value} {xs : List Value} (h : W.ownsRow B e sz S n xs) (hg : W.grownBy W' S.ownBlock) (hB : B ≤ W.heap.size) : Below B W W' :=
  ⟨hg.os, hg.tape, hg.output, hg.size, fun k hk => hg.block k (Nat.lt_of_lt_of_le hk hB) fun e1 => by have := (h.lt k e1.symm).1; omega⟩
theorem tmInfo : ∃ i, Tryz.prog.info? 83 = some i ∧ i.zero = some (.agg #[.string ⟨#[]⟩, .int .i64 0, .int .i64 0, .string ⟨#[]⟩, .string ⟨#[]⟩]) ∧ i.size = 5 ∧ i.bytes = 64 := by
  have h := infoTm
  cases hi : Tryz.prog.info? 83 with
  | none => rw [hi] at h; cases h
  | some i =>
    rw [hi] at h
    simp at h
    exact ⟨i, rfl, h.1, h.2.1, h.2.2⟩
set_option maxHeartbeats 2000000 in
set_option maxRecDepth 100000 in
theorem list_good (s : List UInt8) (G : List Tm) (w : World) (hs : s.length ≤ 100000) (hr : rdA s = .ok (sing G)) (hG : Sg w) (hT : Tab w) (hn : G.length ≤ 30) :
    Calls Tryz.prog 81 #[.string ⟨s.toArray⟩] w fun e w' => ∃ v, e = .returned (.tuple #[v, .nilIface]) ∧ Ts w' v G ∧ Below w.heap.size w w' := by
  have cT := rterms_any s w hs hG hT
  rw [hr] at cT
  clear hr hG hT
  go_enter Tryz.func81, Tryz.ntmps81
  go_wp2_with fail
  refine cT.mono ?_
  rintro x w1 ⟨⟨v, rfl, hA⟩, hb1⟩
  obtain ⟨A, c, rfl⟩ := as_len hA
  have hl : (sing G).length = G.length := by simp [sing]
  rw [hl]
  have HA := Lib.hid hA
  have HB := Lib.hid hb1
  clear cT hA hb1 hl
  obtain ⟨i0, hi, hz0, hz1, hz2⟩ := tmInfo
  go_wp2_with fail
  go_loopw [6, 19] (fun ov iv W => ∃ k : Nat, k ≤ G.length ∧ iv = .int .i64 k ∧ W.ownsRow w1.heap.size 83 5 ov k (c5 (G.take k)) ∧ Below w1.heap.size w1 W) (fun _ iv _ => G.length - (intOf iv).toNat)
  case atStart => exact ⟨0, Nat.zero_le _, rfl, World.ownsRow_nil _ _ _ _, Below.refl _ _⟩
  case round =>
    obtain ⟨k, hk, rfl, hO, hW⟩ := hrel
    by_cases hlt : k < G.length
    · obtain ⟨b, o, u, rfl, hu, ht⟩ := as_one (HA.out.on hW) rfl k hlt
      obtain ⟨b2, o2, c2, rfl, hcs⟩ := ts_one ht
      have HTK : Hid (c5 (G.take (k + 1)) = c5 (G.take k) ++ G[k].vs) := by
        show _ = _
        rw [List.take_succ_eq_append_getElem hlt, c5_snoc]
      have hvl : G[k].vs.length = 1 * 5 := rfl
      have hv1 : ∀ x ∈ G[k].vs, x.oneCell' = true := fun x hx => by
        simp [Tm.vs] at hx
        rcases hx with rfl | rfl | rfl | rfl | rfl <;> rfl
      generalize G[k] = t at hcs HTK hvl hv1 ht
      have HO := Lib.hid hO
      have HW := Lib.hid hW
      have HCS := Lib.hid hcs
      clear ht hO hW hcs
      go_wp2_with (at_builtin; refine wpList_append_own _ rfl _ _ 25 rfl w1.heap.size 83 i0 _ 5 64 Tryz.underlying25 hi hz0 hz1 hz2 rfl (by decide) _ _ _ rfl HO.out ⟨b2, o2, none⟩ 1 c2 t.vs rfl hvl HCS.out hv1 (by unfold maxLen; omega) (by omega) HW.out.size ?_; intro S' w3 hown hgrow _)
      have hb3 := HW.out.trans (below_own HO.out hgrow HW.out.size)
      exact ⟨⟨k + 1, hlt, by go_num, by rw [HTK.out]; exact hown, hb3⟩, by simp [intOf]; omega⟩
    · obtain rfl : k = G.length := by omega
      rw [List.take_length] at hO
      have ht := own_ts hO
      have hbw := HB.out.trans (hW.mono HB.out.size)
      go_wp2
      go_ret2
      exact ⟨_, rfl, ht, hbw⟩
end Go.Proofs.YtfoangkkagijcaaGreatDoor
