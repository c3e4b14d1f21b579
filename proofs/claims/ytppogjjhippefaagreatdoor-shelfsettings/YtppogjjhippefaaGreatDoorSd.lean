/- A shelf: Paths, Clash walked, where nobody else has a path. -/
import Derived.Test.YtppogjjhippefaaGreatDoorSc
import Derived.Test.YtppogjjhippefaaGreatDoorYa
namespace Go.Proofs.YtppogjjhippefaaGreatDoor.Dsk
open Go.RowKit Go.Sort Go.Maps

/-- At most one path, somebody's. -/
structure Ow (L : Kv Ent) (n : List UInt8) (o : Option (List UInt8)) : Prop where
  nl : n.length ≤ 1000
  is : (o = none ∧ ∀ k ∈ L.map (·.1), isO k = false) ∨ ∃ A p, o = some p ∧ L.map (·.1) = A ++ [[111, 47] ++ p] ∧ (∀ k ∈ A, isO k = false) ∧ p.length ≤ 1000 ∧ (ent ([111, 47] ++ p) L).now = n
section
variable {w W : World} {s d lo hi : Nat} {L : Kv Ent}
/-- Whose they are: nobody's, or one's. -/
theorem owned_ow (h : SJ w s d L lo hi W) (hn : L.length ≤ 1000) {n : List UInt8} {o : Option (List UInt8)} (hO : Ow L n o) : Calls Tryz.prog 42 #[.pointer (some ⟨s, 0, none⟩)] W fun x W2 => x = .returned (.map (some W.heap.size)) ∧ Below W.heap.size W W2 ∧ ((o = none ∧ MV W2 W.heap.size []) ∨ ∃ p, o = some p ∧ M1 (W.heap.size + 1) W2 W.heap.size n p) := by
  rcases hO.is with ⟨ho, hk⟩ | ⟨A, p, ho, hL, hk, hp, hpn⟩
  · refine (owned_none h hn hk).mono ?_
    rintro x W2 ⟨rfl, h1, h2⟩
    exact ⟨rfl, h2, .inl ⟨ho, h1⟩⟩
  · refine (owned_one h hn A p n hL hk hp hpn hO.nl).mono ?_
    rintro x W2 ⟨rfl, h1, h2⟩
    exact ⟨rfl, h2, .inr ⟨p, ho, h1⟩⟩
/-- Texts in a row, of at most one. -/
structure T1 (B : Nat) (W : World) (v : Value) (o : Option (List UInt8)) : Prop where
  is : (o = none ∧ v = .slice none 0 0) ∨ ∃ p g c, o = some p ∧ v = .slice (some ⟨g, 0, none⟩) 1 c ∧ B ≤ g ∧ g < W.heap.size ∧ W.cell? ⟨g, 0, none⟩ = some (.string ⟨p.toArray⟩)
set_option maxRecDepth 100000 in
theorem paths_any (h : SJ w s d L lo hi W) (hn : L.length ≤ 1000) {n : List UInt8} {o : Option (List UInt8)} (hO : Ow L n o) : Calls Tryz.prog 58 #[.pointer (some ⟨s, 0, none⟩), .string ⟨n.toArray⟩] W fun x W2 => ∃ v, x = .returned v ∧ T1 W.heap.size W2 v o ∧ Below W.heap.size W W2 := by
  have cO := owned_ow h hn hO
  have hnl := hO.nl
  clear h hO
  go_enter Tryz.func58, Tryz.ntmps58
  go_wp2_with fail
  refine cO.mono ?_
  rintro x w1 ⟨rfl, b1, hst⟩
  rcases hst with ⟨rfl, hM⟩ | ⟨p, rfl, hM⟩
  · have hlook := mvlook hM n (by omega)
    rw [show vat n [] = .slice none 0 0 from rfl] at hlook
    clear cO
    go_wp2
    go_ret
    exact ⟨_, rfl, ⟨.inl ⟨rfl, rfl⟩⟩, b1⟩
  · obtain ⟨g, c, hM1, hg1, hg2, _, hc⟩ := hM.is
    have hlook := mvlook hM1 n (by omega)
    have hv : vat n [(n, .slice (some ⟨g, 0, none⟩) 1 c)] = .slice (some ⟨g, 0, none⟩) 1 c := by
      unfold vat lkL
      simp
    rw [hv] at hlook
    clear cO hv
    go_wp2
    go_ret
    exact ⟨_, rfl, ⟨.inr ⟨p, g, c, rfl, rfl, by omega, hg2, hc⟩⟩, b1⟩
set_option maxRecDepth 100000 in
set_option maxHeartbeats 4000000 in
/-- Nobody else has a path: nothing clashes. -/
theorem clash_any (h : SJ w s d L lo hi W) (hn : L.length ≤ 1000) {n : List UInt8} {o : Option (List UInt8)} (hO : Ow L n o) (e : Int) (u r : List UInt8) (vD vA vG vB vR vP vS vL vF : Value) (ft : Nat) (F : List (List UInt8 × List UInt8)) (hF : Fs W vF F) (hFl : F.length ≤ 1000) :
    Calls Tryz.prog 12 #[.pointer (some ⟨s, 0, none⟩), pkv n e u r vD vA vG vB vR vP vS vL vF, .func (.func ft) #[] #[]] W fun x W2 => x = .returned (.tuple #[.int .i64 (-1), .string ⟨#[]⟩]) ∧ Below W.heap.size W W2 := by
  have hnl := hO.nl
  have bA := (Below.refl W.heap.size W).alloc (Nat.le_refl _) (pko n e u r vD vA vG vB vR vP vS vL vF)
  have bB := bA.alloc bA.size (.cells #[.func (.func ft) #[] #[]] 48)
  have cO := owned_ow (h.up bB) hn hO
  have x0 : ((W.alloc (pko n e u r vD vA vG vB vR vP vS vL vF)).alloc (.cells #[.func (.func ft) #[] #[]] 48)).heap[W.heap.size]? = some (pko n e u r vD vA vG vB vR vP vS vL vF) := by
    rw [Below.heap_alloc _ _ W.heap.size (by simp)]
    exact nb0 _ _
  have HB := Lib.hid bB
  have HX := Lib.hid x0
  have HF := Lib.hid (hF.on bB)
  have HF0 := Lib.hid hF
  obtain ⟨W1, hW1⟩ : ∃ W1, W1 = (W.alloc (pko n e u r vD vA vG vB vR vP vS vL vF)).alloc (.cells #[.func (.func ft) #[] #[]] 48) := ⟨_, rfl⟩
  clear h hO hF bA bB x0
  go_enter Tryz.func12, Tryz.ntmps12
  go_wp2_with fail
  rw [← hW1] at cO HB HX HF ⊢
  clear hW1
  obtain ⟨bp, hbp⟩ : ∃ bp, bp = W.heap.size := ⟨_, rfl⟩
  rw [← hbp] at HX
  rw [← hbp]
  have hWlt : W.heap.size < W1.heap.size := by rw [← hbp]; exact (Array.getElem?_eq_some_iff.1 HX.out).1
  refine cO.mono ?_
  rintro x w1 ⟨rfl, b1, hst⟩
  have hb1 := HB.out.trans (b1.mono HB.out.size)
  have hx1 := (b1.block bp (Array.getElem?_eq_some_iff.1 HX.out).1).trans HX.out
  have hF1 := HF.out.on b1
  obtain ⟨m, hm⟩ : ∃ m, m = W1.heap.size := ⟨_, rfl⟩
  have hmW : W.heap.size ≤ m := by omega
  have hbm : bp ≠ m := by omega
  rw [← hm] at hst
  rw [← hm]
  obtain ⟨M, hM, hdel⟩ : ∃ M, MV w1 m M ∧ delL n M = [] := by
    rcases hst with ⟨_, hM⟩ | ⟨p, _, hM⟩
    · exact ⟨[], hM, rfl⟩
    · obtain ⟨g, c, hM1, _⟩ := hM.is
      exact ⟨_, hM1, by simp [delL]⟩
  have p0 : w1.cell? ⟨bp, 0, none⟩ = some (.string ⟨n.toArray⟩) := by simp [World.cell?, hx1]
  have hlt1 : bp < w1.heap.size := (Array.getElem?_eq_some_iff.1 hx1).1
  have HM := Lib.hid hM
  have HF1 := Lib.hid hF1
  have HX1 := Lib.hid hx1
  have HB1 := Lib.hid hb1
  have HDL := Lib.hid hdel
  have HBP := Lib.hid hbp
  clear cO hst b1 hb1 hx1 hF1 hM HF HB HX hdel hbp hm hWlt
  go_wp2_with (at_delete; refine wpList_delete_own _ rfl _ _ 89 9 rfl 40 law9 Tryz.underlying89 Rv m M.length _ rfl HM.out _ _ rfl (key9 n (by omega)) ?_; intro w3 hown3 hturn3; go_frame)
  have b3 : Below W.heap.size W w3 := HB1.out.grown hturn3.grown HB1.out.size (fun r hr => by cases hr; exact hmW)
  rw [toD_del] at hown3
  have hm3 := own_tight hown3
  rw [HDL.out] at hm3
  have hx3 := (hturn3.grown.block bp hlt1 (by simpa using hbm)).trans HX1.out
  have hF3 : Fs w3 vF F := HF0.out.on b3
  have cK := callsIn_wide.1 (Tryz.maps_Keys_44 (some m) w3)
  have cS := callsIn_wide.1 (Tryz.slices_Sorted_keys_43_44 m 0 (toD (fun v : Value => v) []) Rv w3 hm3 (by rw [toD_size]; unfold maxLen; simp) (by rw [toD_size]; simp))
  have hlt3 : bp < w3.heap.size := (Array.getElem?_eq_some_iff.1 hx3).1
  have HF3 := Lib.hid hF3
  have HX3 := Lib.hid hx3
  have HB3 := Lib.hid b3
  clear b3 hown3 hm3 hx3 hF3 hturn3 HM HF1 HX1 HB1 HDL p0 hlt1
  go_wp2_with fail
  refine cK.mono ?_
  rintro x w4 ⟨rfl, hw⟩
  rw [hw]
  clear hw cK w4
  go_wp2_with fail
  refine cS.mono ?_
  rintro x w5 ⟨v, ss, rfl, hperm, _, hnil, b5⟩
  rw [toD_keys] at hperm
  have hss : ss = [] := List.Perm.eq_nil (by simpa using hperm)
  have hv := hnil.2 hss
  subst hv
  have b35 : Below w3.heap.size w3 w5 := ((Below.refl w3.heap.size w3).alloc (Nat.le_refl _) _).trans (b5.mono (by simp))
  have hx5 := (b35.block bp hlt3).trans HX3.out
  have p12 : w5.cell? ⟨bp, 12, none⟩ = some vF := by simp [World.cell?, hx5]
  have hlt5 : bp < w5.heap.size := (Array.getElem?_eq_some_iff.1 hx5).1
  have hF5 := HF3.out.on b35
  have hB5 := HB3.out.trans (b35.mono HB3.out.size)
  obtain ⟨fp, fc, hvF⟩ : ∃ fp fc, vF = .slice fp F.length fc := by
    rcases hF5.is with ⟨h, A, c, h1⟩ | ⟨b, o, c, h1, _⟩
    · rw [h]; exact ⟨_, _, h1⟩
    · exact ⟨_, _, h1⟩
  subst hvF
  have HF5 := Lib.hid hF5
  have HB5 := Lib.hid hB5
  clear cS hperm hnil hss b5 b35 hx5 hF5 hB5 HF3 HX3 HB3 HF0
  go_wp2_with fail
  go_loopw [26] (fun iv V => ∃ k : Nat, k ≤ F.length ∧ iv = .int .i64 k ∧ Below w5.heap.size w5 V) (fun iv _ => F.length - (intOf iv).toNat)
  case atStart => exact ⟨0, Nat.zero_le _, rfl, Below.refl _ _⟩
  case round =>
    obtain ⟨k, hk, rfl, hbV⟩ := hrel
    by_cases hlt : k < F.length
    · obtain ⟨fb, fo, rfl, hFr⟩ : ∃ fb fo, fp = some ⟨fb, fo, none⟩ ∧ Fr wr fb fo F := by
        rcases (HF5.out.on hbV).is with ⟨h, _⟩ | ⟨b, o, c, h1, _, h3⟩
        · rw [h] at hlt; simp at hlt
        · cases h1; exact ⟨b, o, rfl, h3⟩
      have f0 := hFr.c0 k hlt
      have f1 := hFr.c1 k hlt
      have hfl := hFr.lt
      generalize F[k] = f at f0 f1
      obtain ⟨fa, fd⟩ := f
      dsimp only at f0 f1
      have hbV' := hbV.alloc hbV.size (.cells #[.string ⟨fa.toArray⟩, .string ⟨fd.toArray⟩] 73)
      have HBV := Lib.hid hbV'
      clear hFr hbV hbV'
      go_wp2_with fail
      refine wp_loop_rounds 1 ?_
      rw [rounds_succ]
      go_wp2_with fail
      exact ⟨⟨k + 1, hlt, by go_num, HBV.out⟩, by simp [intOf]; omega⟩
    · obtain rfl : k = F.length := by omega
      have hbf := HB5.out.trans (hbV.mono HB5.out.size)
      go_wp2
      go_ret2
      exact ⟨rfl, hbf⟩
end
end Go.Proofs.YtppogjjhippefaaGreatDoor.Dsk
