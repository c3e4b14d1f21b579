/- record.Read once more: what it hands back is new. -/
import Derived.Test.YtmlmdncepgcimaaGreatDoorBf
import Derived.Test.YtmlmdncepgcimaaGreatDoorBk
namespace Go.Proofs.YtmlmdncepgcimaaGreatDoor
open Go.RowKit Go.Shelf

structure DF (B : Nat) (W : World) (v : Value) (L : List (List Tm)) : Prop where
  is : ∃ B', B ≤ B' ∧ LA W B' v L
structure GF (B : Nat) (W : World) (v : Value) (G : List Tm) : Prop where
  is : ∃ B', B ≤ B' ∧ W.ownsRow B' 83 5 v G.length (c5 G)
section
variable {B C : Nat} {W W' : World} {v : Value} {L : List (List Tm)} {G : List Tm} {S : List (List UInt8)}
theorem DF.on (h : DF B W v L) (k : Below W.heap.size W W') : DF B W' v L := by
  obtain ⟨B', h1, h2⟩ := h.is
  exact ⟨B', h1, h2.on (kc_below k)⟩
theorem DF.mono (h : DF B W v L) (k : C ≤ B) : DF C W v L := by
  obtain ⟨B', h1, h2⟩ := h.is
  exact ⟨B', Nat.le_trans k h1, h2⟩
theorem DF.as (h : DF B W v L) : As W v L := by
  obtain ⟨B', _, h2⟩ := h.is
  exact h2.as
theorem DF.set (h : DF B W v L) {a : Addr} (ha : a.block < B) (u : Value) : DF B (W.setCell a u) v L := by
  obtain ⟨B', h1, h2⟩ := h.is
  exact ⟨B', h1, h2.set (Nat.lt_of_lt_of_le ha h1) u⟩
theorem GF.on (h : GF B W v G) (k : Below W.heap.size W W') : GF B W' v G := by
  obtain ⟨B', h1, h2⟩ := h.is
  exact ⟨B', h1, kc_own h2 (kc_below k)⟩
theorem GF.mono (h : GF B W v G) (k : C ≤ B) : GF C W v G := by
  obtain ⟨B', h1, h2⟩ := h.is
  exact ⟨B', Nat.le_trans k h1, h2⟩
theorem GF.ts (h : GF B W v G) : Ts W v G := by
  obtain ⟨B', _, h2⟩ := h.is
  exact own_ts h2
theorem GF.set (h : GF B W v G) {a : Addr} (ha : a.block < B) (u : Value) : GF B (W.setCell a u) v G := by
  obtain ⟨B', h1, h2⟩ := h.is
  exact ⟨B', h1, ownsRow_setCell_below h2 (Nat.lt_of_lt_of_le ha h1) u⟩
theorem SsF.mono (h : SsF B W v S) (k : C ≤ B) : SsF C W v S := by
  rcases h.is with h | ⟨b, o, c, h0, h1⟩
  · exact ⟨.inl h⟩
  · exact ⟨.inr ⟨b, o, c, Nat.le_trans k h0, h1⟩⟩
end
structure PzF (N0 : Nat) (W : World) (p : Pck) (vD vA vG vB vR vP vS vL vF : Value) : Prop where
  D : DF N0 W vD p.D
  A : DF N0 W vA p.A
  G : GF N0 W vG p.G
  B : GF N0 W vB p.B
  R : GF N0 W vR p.R
  P : GF N0 W vP p.o.P
  S : SsF N0 W vS p.S
  L : SsF N0 W vL p.L
  F : p.F = [] ∧ ∃ A c, vF = .slice A 0 c
section
variable {B C : Nat} {W W' : World} {p : Pck} {vD vA vG vB vR vP vS vL vF : Value}
theorem PzF.on (h : PzF B W p vD vA vG vB vR vP vS vL vF) (k : Below W.heap.size W W') : PzF B W' p vD vA vG vB vR vP vS vL vF := ⟨h.D.on k, h.A.on k, h.G.on k, h.B.on k, h.R.on k, h.P.on k, h.S.on k, h.L.on k, h.F⟩
theorem PzF.set (h : PzF B W p vD vA vG vB vR vP vS vL vF) {a : Addr} (k : a.block < B) (u : Value) : PzF B (W.setCell a u) p vD vA vG vB vR vP vS vL vF := ⟨h.D.set k u, h.A.set k u, h.G.set k u, h.B.set k u, h.R.set k u, h.P.set k u, h.S.set k u, h.L.set k u, h.F⟩
theorem PzF.mono (h : PzF B W p vD vA vG vB vR vP vS vL vF) (k : C ≤ B) : PzF C W p vD vA vG vB vR vP vS vL vF := ⟨h.D.mono k, h.A.mono k, h.G.mono k, h.B.mono k, h.R.mono k, h.P.mono k, h.S.mono k, h.L.mono k, h.F⟩
theorem PzF.pz (h : PzF B W p vD vA vG vB vR vP vS vL vF) : Pz W p vD vA vG vB vR vP vS vL vF := ⟨h.D.as, h.A.as, h.G.ts, h.B.ts, h.R.ts, h.P.ts, h.S.ss, h.L.ss, ⟨.inl h.F⟩⟩
end
section
variable {rb : Nat} {A : Option Addr} {c : Nat} {l : List Fd} {n : List UInt8} {w : World}
theorem rd_D2 (D : List (List Tm)) (hk : ask D = true) (hR : Rd w rb (.slice A l.length c)) (hl : Stz.Sl w (.slice A l.length c) l) (hz : Stz.Sz l) (hn : n.length ≤ 1000) (hg : Stz.Sm.gets l n = opv (wrA D)) (hG : Sg w) (hT : Tab w) :
    Calls Tryz.prog 78 #[.pointer (some ⟨rb, 0, none⟩), .string ⟨n.toArray⟩, .func (.func 79) #[] #[]] w fun e w' => ∃ v, e = .returned v ∧ DF w.heap.size w' v D ∧ Below w.heap.size w w' := by
  have hr := rdA_wrA hk
  unfold opv at hg
  by_cases h0 : wrA D = []
  · rw [if_pos h0] at hg
    rw [h0] at hr
    have hD : D = [] := by
      have e : rdA [] = .ok [] := rfl
      rw [e] at hr
      cases hr; rfl
    subst hD
    exact (read78_none rb A c l n w hR hl hz hn hg).mono fun e w' ⟨h1, h2⟩ => ⟨_, h1, ⟨_, Nat.le_refl _, ⟨.inl ⟨rfl, rfl⟩⟩⟩, h2⟩
  · rw [if_neg h0] at hg
    have hs := gets_le hz hg
    refine read78_some (fun W v => DF w.heap.size W v D) (fun W W' v h k => h.on k) rb A c l n _ w hR hl hz hn hg fun W hW => ?_
    have h1 := rterms2 (wrA D) W (by omega) (hG.on hW) (tab_on hT hW)
    rw [hr] at h1
    exact h1.mono fun e W' ⟨⟨v, B, h0, h2, h3⟩, h4⟩ => ⟨v, h2, ⟨B, Nat.le_trans hW.size h0, h3⟩, h4⟩
theorem rd_G2 (G : List Tm) (hk : ask (sing G) = true) (hR : Rd w rb (.slice A l.length c)) (hl : Stz.Sl w (.slice A l.length c) l) (hz : Stz.Sz l) (hn : n.length ≤ 1000) (hg : Stz.Sm.gets l n = opv (wrA (sing G))) (hG : Sg w) (hT : Tab w) (hn30 : G.length ≤ 30) :
    Calls Tryz.prog 80 #[.pointer (some ⟨rb, 0, none⟩), .string ⟨n.toArray⟩, .func (.func 81) #[] #[]] w fun e w' => ∃ v, e = .returned v ∧ GF w.heap.size w' v G ∧ Below w.heap.size w w' := by
  have hr := rdA_wrA hk
  unfold opv at hg
  by_cases h0 : wrA (sing G) = []
  · rw [if_pos h0] at hg
    rw [h0] at hr
    have hD : G = [] := by
      have e : rdA [] = .ok [] := rfl
      rw [e] at hr
      simp only [Except.ok.injEq] at hr
      simpa [sing] using hr.symm
    subst hD
    exact (read80_none rb A c l n w hR hl hz hn hg).mono fun e w' ⟨h1, h2⟩ => ⟨_, h1, ⟨_, Nat.le_refl _, World.ownsRow_nil _ _ _ _⟩, h2⟩
  · rw [if_neg h0] at hg
    have hs := gets_le hz hg
    refine read80_some (fun W v => GF w.heap.size W v G) (fun W W' v h k => h.on k) rb A c l n _ w hR hl hz hn hg fun W hW => ?_
    exact (list_fresh (wrA (sing G)) G W (by omega) hr (hG.on hW) (tab_on hT hW) hn30).mono fun e W' ⟨v, B, h0, h2, h3, h4⟩ => ⟨v, h2, ⟨B, Nat.le_trans hW.size h0, h3⟩, h4⟩
theorem rd_S2 (S : List (List UInt8)) (h20 : S.length ≤ 20) (hno : ∀ s ∈ S, (10 : UInt8) ∉ s) (hR : Rd w rb (.slice A l.length c)) (hl : Stz.Sl w (.slice A l.length c) l) (hz : Stz.Sz l) (hn : n.length ≤ 1000) (hg : Stz.Sm.gets l n = opv (lns S)) (hM : MaxN w) :
    Calls Tryz.prog 82 #[.pointer (some ⟨rb, 0, none⟩), .string ⟨n.toArray⟩, .func (.func 83) #[] #[]] w fun e w' => ∃ v, e = .returned v ∧ SsF w.heap.size w' v S ∧ Below w.heap.size w w' := by
  unfold opv at hg
  by_cases h0 : lns S = []
  · rw [if_pos h0] at hg
    have hD : S = [] := by
      cases S with
      | nil => rfl
      | cons s S => rw [lns_cons] at h0; cases h0
    subst hD
    exact (read82_none rb A c l n w hR hl hz hn hg).mono fun e w' ⟨h1, h2⟩ => ⟨_, h1, ⟨.inl ⟨rfl, _, _, rfl⟩⟩, h2⟩
  · rw [if_neg h0] at hg
    have hs := gets_le hz hg
    refine read82_some (fun W v => SsF w.heap.size W v S) (fun W W' v h k => h.on k) rb A c l n _ w hR hl hz hn hg fun W hW => ?_
    exact (ppaths_fresh S W (fun e => h0 (by rw [e]; rfl)) h20 hno (by omega) (hM.on hW)).mono fun e W' ⟨v, h2, h3, h4⟩ => ⟨v, h2, h3.mono hW.size, h4⟩
end
set_option maxHeartbeats 6400000 in
set_option maxRecDepth 100000 in
theorem read_fresh (p : Pck) (A : Option Addr) (c : Nat) (l : List Fd) (w : World) (hl : Stz.Sl w (.slice A l.length c) l) (hz : Stz.Sz l) (hg : Gt l p) (hk : rok p = true) (hF : p.F = []) (hp : Pg p) (hG : Sg w) (hT : Tab w) (hM : MaxN w) :
    Calls Tryz.prog 20 #[.slice A l.length c] w fun e w' => ∃ vD vA vG vB vR vP vS vL, e = .returned (.tuple #[pkv p.o.n p.o.e p.o.u p.o.r vD vA vG vB vR vP vS vL (.slice none 0 0), .nilIface]) ∧ PzF w.heap.size w' p vD vA vG vB vR vP vS vL (.slice none 0 0) ∧ Below w.heap.size w w' := by
  have hb0 : Below w.heap.size w (w.alloc zpk) := (Below.refl _ _).alloc (Nat.le_refl _) _
  have hl0 := hl.on hb0
  have g1 := Stz.get_any _ l [80, 97, 99, 107, 97, 103, 101] _ hl0 hz (by simp)
  rw [hg.n] at g1
  have g2 := fun W (hW : Stz.Sl W (.slice A l.length c) l) => Stz.get_any _ l [86, 101, 114, 115, 105, 111, 110] W hW hz (by simp)
  rw [hg.v] at g2
  have HL := Lib.hid hl0
  have HB0 := Lib.hid hb0
  have HZ0 := Lib.hid (World.alloc_heap_new w zpk)
  clear hl hl0 hb0
  obtain ⟨W0, hW0⟩ : ∃ W0, W0 = w.alloc zpk := ⟨_, rfl⟩
  go_enter Tryz.func20, Tryz.ntmps20
  go_wp2_with fail
  refine g1.mono ?_
  rintro x W1 ⟨rfl, hb1⟩
  rw [show Stz.getVal (some p.o.n) = .tuple #[.string ⟨p.o.n.toArray⟩, .bool true] from rfl]
  have G2 := g2 W1 (HL.out.on hb1)
  clear g1 g2
  go_wp2_with fail
  refine G2.mono ?_
  rintro x W2 ⟨rfl, hb2⟩
  rw [show Stz.getVal (some (Vm.pt p.o.e p.o.u p.o.r)) = .tuple #[.string ⟨(Vm.pt p.o.e p.o.u p.o.r).toArray⟩, .bool true] from rfl]
  clear G2
  have hb02 := hb1.trans (hb2.mono hb1.size)
  have HL2 := Lib.hid (HL.out.on hb02)
  have HB2 := Lib.hid (HB0.out.trans (hb02.mono HB0.out.size))
  have HZ2 := Lib.hid ((hb02.block w.heap.size (by simp)).trans HZ0.out)
  have hwl : w.heap.size < W2.heap.size := by have := hb02.size; simp at this; omega
  clear hb1 hb2 hb02 HL HB0 HZ0
  obtain ⟨pt, hpt⟩ : ∃ pt, pt = Vm.pt p.o.e p.o.u p.o.r := ⟨_, rfl⟩
  rw [← hpt]
  clear hpt
  have hb3 : Below W2.heap.size W2 (W2.alloc (rdo (.slice A l.length c))) := (Below.refl _ _).alloc (Nat.le_refl _) _
  have s3 : St9 w (W2.alloc (rdo (.slice A l.length c))) W2.heap.size (.slice A l.length c) l := ⟨⟨World.alloc_heap_new _ _⟩, HL2.out.on hb3, (hG.on HB2.out).on hb3, tab_on (tab_on hT HB2.out) hb3, (hM.on HB2.out).on hb3, HB2.out.trans (hb3.mono HB2.out.size)⟩
  have HK := Lib.hid (rk_of hk)
  have HGt := Lib.hid hg
  have HP := Lib.hid hp
  have HZ := Lib.hid hz
  have HZ3 := Lib.hid ((hb3.block w.heap.size hwl).trans HZ2.out)
  have cV := rd_V p.o.e p.o.u p.o.r HK.out.v s3.rd s3.sl HZ.out (n := [86, 101, 114, 115, 105, 111, 110]) (by simp) HGt.out.v s3.tab
  have hrb : w.heap.size < W2.heap.size := hwl
  have hrk := hk
  clear hG hT hM hk hg hp hz hb3 HL2 HZ2 HB2 hwl
  have S3 := Lib.hid s3
  clear s3
  obtain ⟨rb, hrbe⟩ : ∃ rb, rb = W2.heap.size := ⟨_, rfl⟩
  go_wp2_with fail
  refine cV.mono ?_
  rintro x W4 ⟨rfl, hb4⟩
  have s4 := S3.out.on hb4
  have HZ4 := Lib.hid ((hb4.block w.heap.size (by simp; omega)).trans HZ3.out)
  have hw4 : w.heap.size < W4.heap.size := by have := hb4.size; simp at this; omega
  rw [← hrbe] at s4 ⊢
  have S4 := Lib.hid s4
  have hrlt : w.heap.size ≠ rb := by omega
  clear cV hb4 s4 S3 HZ3 hrbe
  have c5 := rd_D2 p.D HK.out.D S4.out.rd S4.out.sl HZ.out (by simp) HGt.out.D S4.out.sg S4.out.tab
  go_wp2_with fail
  with_reducible refine c5.mono ?_
  rintro x W5 ⟨vD, rfl, hD, hb5⟩
  obtain ⟨AD, cD, rfl⟩ := as_len hD.as
  have S5 := Lib.hid (S4.out.on hb5)
  have HZ5 := Lib.hid ((hb5.block w.heap.size hw4).trans HZ4.out)
  have hw5 : w.heap.size < W5.heap.size := by have := hb5.size; omega
  have HD5 := Lib.hid (hD.mono hw4)
  clear c5 hD hb5 S4 HZ4 hw4 
  have c6 := rd_D2 p.A HK.out.A S5.out.rd S5.out.sl HZ.out (by simp) HGt.out.A S5.out.sg S5.out.tab
  go_wp2_with fail
  with_reducible refine c6.mono ?_
  rintro x W6 ⟨vA, rfl, hA, hb6⟩
  obtain ⟨AA, cA, rfl⟩ := as_len hA.as
  have S6 := Lib.hid (S5.out.on hb6)
  have HZ6 := Lib.hid ((hb6.block w.heap.size hw5).trans HZ5.out)
  have hw6 : w.heap.size < W6.heap.size := by have := hb6.size; omega
  have HD6 := Lib.hid (HD5.out.on hb6)
  have HA6 := Lib.hid (hA.mono hw5)
  clear c6 hA hb6 S5 HZ5 hw5 HD5
  have c7 := rd_G2 p.G HK.out.G S6.out.rd S6.out.sl HZ.out (by simp) HGt.out.G S6.out.sg S6.out.tab (ask_30 HK.out.G)
  go_wp2_with fail
  with_reducible refine c7.mono ?_
  rintro x W7 ⟨vG, rfl, hG, hb7⟩
  obtain ⟨AG, cG, rfl⟩ := ts_len hG.ts
  have S7 := Lib.hid (S6.out.on hb7)
  have HZ7 := Lib.hid ((hb7.block w.heap.size hw6).trans HZ6.out)
  have hw7 : w.heap.size < W7.heap.size := by have := hb7.size; omega
  have HD7 := Lib.hid (HD6.out.on hb7)
  have HA7 := Lib.hid (HA6.out.on hb7)
  have HG7 := Lib.hid (hG.mono hw6)
  clear c7 hG hb7 S6 HZ6 hw6 HD6 HA6
  have c8 := rd_G2 p.B HK.out.B S7.out.rd S7.out.sl HZ.out (by simp) HGt.out.B S7.out.sg S7.out.tab (ask_30 HK.out.B)
  go_wp2_with fail
  with_reducible refine c8.mono ?_
  rintro x W8 ⟨vB, rfl, hB, hb8⟩
  obtain ⟨AB, cB, rfl⟩ := ts_len hB.ts
  have S8 := Lib.hid (S7.out.on hb8)
  have HZ8 := Lib.hid ((hb8.block w.heap.size hw7).trans HZ7.out)
  have hw8 : w.heap.size < W8.heap.size := by have := hb8.size; omega
  have HD8 := Lib.hid (HD7.out.on hb8)
  have HA8 := Lib.hid (HA7.out.on hb8)
  have HG8 := Lib.hid (HG7.out.on hb8)
  have HB8 := Lib.hid (hB.mono hw7)
  clear c8 hB hb8 S7 HZ7 hw7 HD7 HA7 HG7
  have c9 := rd_G2 p.R HK.out.R S8.out.rd S8.out.sl HZ.out (by simp) HGt.out.R S8.out.sg S8.out.tab (ask_30 HK.out.R)
  go_wp2_with fail
  with_reducible refine c9.mono ?_
  rintro x W9 ⟨vR, rfl, hR, hb9⟩
  obtain ⟨AR, cR, rfl⟩ := ts_len hR.ts
  have S9 := Lib.hid (S8.out.on hb9)
  have HZ9 := Lib.hid ((hb9.block w.heap.size hw8).trans HZ8.out)
  have hw9 : w.heap.size < W9.heap.size := by have := hb9.size; omega
  have HD9 := Lib.hid (HD8.out.on hb9)
  have HA9 := Lib.hid (HA8.out.on hb9)
  have HG9 := Lib.hid (HG8.out.on hb9)
  have HB9 := Lib.hid (HB8.out.on hb9)
  have HR9 := Lib.hid (hR.mono hw8)
  clear c9 hR hb9 S8 HZ8 hw8 HD8 HA8 HG8 HB8
  have c10 := rd_G2 p.o.P HK.out.P S9.out.rd S9.out.sl HZ.out (by simp) HGt.out.P S9.out.sg S9.out.tab (ask_30 HK.out.P)
  go_wp2_with fail
  with_reducible refine c10.mono ?_
  rintro x W10 ⟨vP, rfl, hP, hb10⟩
  obtain ⟨AP, cP, rfl⟩ := ts_len hP.ts
  have S10 := Lib.hid (S9.out.on hb10)
  have HZ10 := Lib.hid ((hb10.block w.heap.size hw9).trans HZ9.out)
  have hw10 : w.heap.size < W10.heap.size := by have := hb10.size; omega
  have HD10 := Lib.hid (HD9.out.on hb10)
  have HA10 := Lib.hid (HA9.out.on hb10)
  have HG10 := Lib.hid (HG9.out.on hb10)
  have HB10 := Lib.hid (HB9.out.on hb10)
  have HR10 := Lib.hid (HR9.out.on hb10)
  have HP10 := Lib.hid (hP.mono hw9)
  clear c10 hP hb10 S9 HZ9 hw9 HD9 HA9 HG9 HB9 HR9
  have c11 := rd_S2 p.S (pths_20 HK.out.S).1 (pths_20 HK.out.S).2 S10.out.rd S10.out.sl HZ.out (by simp) HGt.out.S S10.out.mx
  go_wp2_with fail
  with_reducible refine c11.mono ?_
  rintro x W11 ⟨vS, rfl, hS, hb11⟩
  obtain ⟨AS, cS, rfl⟩ := ss_len hS.ss
  have S11 := Lib.hid (S10.out.on hb11)
  have HZ11 := Lib.hid ((hb11.block w.heap.size hw10).trans HZ10.out)
  have hw11 : w.heap.size < W11.heap.size := by have := hb11.size; omega
  have HD11 := Lib.hid (HD10.out.on hb11)
  have HA11 := Lib.hid (HA10.out.on hb11)
  have HG11 := Lib.hid (HG10.out.on hb11)
  have HB11 := Lib.hid (HB10.out.on hb11)
  have HR11 := Lib.hid (HR10.out.on hb11)
  have HP11 := Lib.hid (HP10.out.on hb11)
  have HS11 := Lib.hid (hS.mono hw10)
  clear c11 hS hb11 S10 HZ10 hw10 HD10 HA10 HG10 HB10 HR10 HP10
  have c12 := rd_S2 p.L (pths_20 HK.out.L).1 (pths_20 HK.out.L).2 S11.out.rd S11.out.sl HZ.out (by simp) HGt.out.L S11.out.mx
  go_wp2_with fail
  with_reducible refine c12.mono ?_
  rintro x W12 ⟨vL, rfl, hL, hb12⟩
  obtain ⟨AL, cL, rfl⟩ := ss_len hL.ss
  have S12 := Lib.hid (S11.out.on hb12)
  have HZ12 := Lib.hid ((hb12.block w.heap.size hw11).trans HZ11.out)
  have hw12 : w.heap.size < W12.heap.size := by have := hb12.size; omega
  have HD12 := Lib.hid (HD11.out.on hb12)
  have HA12 := Lib.hid (HA11.out.on hb12)
  have HG12 := Lib.hid (HG11.out.on hb12)
  have HB12 := Lib.hid (HB11.out.on hb12)
  have HR12 := Lib.hid (HR11.out.on hb12)
  have HP12 := Lib.hid (HP11.out.on hb12)
  have HS12 := Lib.hid (HS11.out.on hb12)
  have HL12 := Lib.hid (hL.mono hw11)
  clear c12 hL hb12 S11 HZ11 hw11 HD11 HA11 HG11 HB11 HR11 HP11 HS11
  obtain ⟨k0, k1, k2, k3⟩ := S12.out.rd.c
  have hpz : PzF (w.heap.size + 1) W12 p (.slice AD p.D.length cD) (.slice AA p.A.length cA) (.slice AG p.G.length cG) (.slice AB p.B.length cB) (.slice AR p.R.length cR) (.slice AP p.o.P.length cP) (.slice AS p.S.length cS) (.slice AL p.L.length cL) (.slice none 0 0) := ⟨HD12.out, HA12.out, HG12.out, HB12.out, HR12.out, HP12.out, HS12.out, HL12.out, hF, _, _, rfl⟩
  have HPZ := Lib.hid hpz
  clear hpz HD12 HA12 HG12 HB12 HR12 HP12 HS12 HL12
  have hb13 : Below W12.heap.size W12 (W12.alloc (pko p.o.n p.o.e p.o.u p.o.r (.slice AD p.D.length cD) (.slice AA p.A.length cA) (.slice AG p.G.length cG) (.slice AB p.B.length cB) (.slice AR p.R.length cR) (.slice AP p.o.P.length cP) (.slice AS p.S.length cS) (.slice AL p.L.length cL) (.slice none 0 0))) := b1c _ _
  have cRt := recright_any p _ _ _ _ _ _ _ _ _ _ (HPZ.out.pz.on hb13) HP.out (tab_on S12.out.tab hb13) (S12.out.mx.on hb13)
  rw [hrk] at cRt
  have B0 := pb_new W12 p (.slice AD p.D.length cD) (.slice AA p.A.length cA) (.slice AG p.G.length cG) (.slice AB p.B.length cB) (.slice AR p.R.length cR) (.slice AP p.o.P.length cP) (.slice AS p.S.length cS) (.slice AL p.L.length cL) (.slice none 0 0)
  have HB0 := Lib.hid B0
  have H13 := Lib.hid hb13
  clear B0 hb13
  go_wp2_with fail
  with_reducible refine cRt.mono ?_
  rintro x W14 ⟨rfl, hb14⟩
  have B4 := HB0.out.on hb14
  obtain ⟨e0, e1, e2, e3, e4, e5, e6, e7, e8, e9, e10, e11, e12⟩ := B4
  have hz14 : Zp W14 w.heap.size := ⟨(hb14.block w.heap.size (by simp; omega)).trans ((H13.out.block w.heap.size hw12).trans HZ12.out)⟩
  obtain ⟨z0, a0, a1, a2, a3, a4, a5, a6, a7, a8, a9, a10, a11, a12, f0, f1, f2, f3, f4, f5, f6, f7, f8, f9, f10, f11, f12⟩ := hz14.c
  have hb1214 := H13.out.trans (hb14.mono H13.out.size)
  have HPZ4 := Lib.hid (HPZ.out.on hb1214)
  have HBL := Lib.hid (S12.out.bl.trans (hb1214.mono S12.out.bl.size))
  have HZZ := Lib.hid hz14
  have nn1 : W12.heap.size ≠ w.heap.size := by omega
  have nn2 : w.heap.size ≠ W12.heap.size := by omega
  clear cRt hb14 hz14 hb1214 HPZ HB0 H13 k0 k1 k2 k3 S12 HZ12
  go_wp2_with fail
  have q0 := HPZ4.out
  have q1 := q0.set (a := ⟨w.heap.size, 0, none⟩) (Nat.lt_succ_self _) (.string ⟨p.o.n.toArray⟩)
  have q2 := q1.set (a := ⟨w.heap.size, 1, none⟩) (Nat.lt_succ_self _) (.int .i64 p.o.e)
  have q3 := q2.set (a := ⟨w.heap.size, 2, none⟩) (Nat.lt_succ_self _) (.string ⟨p.o.u.toArray⟩)
  have q4 := q3.set (a := ⟨w.heap.size, 3, none⟩) (Nat.lt_succ_self _) (.string ⟨p.o.r.toArray⟩)
  have q5 := q4.set (a := ⟨w.heap.size, 4, none⟩) (Nat.lt_succ_self _) (.slice AD p.D.length cD)
  have q6 := q5.set (a := ⟨w.heap.size, 5, none⟩) (Nat.lt_succ_self _) (.slice AA p.A.length cA)
  have q7 := q6.set (a := ⟨w.heap.size, 6, none⟩) (Nat.lt_succ_self _) (.slice AG p.G.length cG)
  have q8 := q7.set (a := ⟨w.heap.size, 7, none⟩) (Nat.lt_succ_self _) (.slice AB p.B.length cB)
  have q9 := q8.set (a := ⟨w.heap.size, 8, none⟩) (Nat.lt_succ_self _) (.slice AR p.R.length cR)
  have q10 := q9.set (a := ⟨w.heap.size, 9, none⟩) (Nat.lt_succ_self _) (.slice AP p.o.P.length cP)
  have q11 := q10.set (a := ⟨w.heap.size, 10, none⟩) (Nat.lt_succ_self _) (.slice AS p.S.length cS)
  have q12 := q11.set (a := ⟨w.heap.size, 11, none⟩) (Nat.lt_succ_self _) (.slice AL p.L.length cL)
  have q13 := q12.set (a := ⟨w.heap.size, 12, none⟩) (Nat.lt_succ_self _) (.slice none 0 0)
  have d0 := HBL.out
  have d1 := d0.setCell (p := ⟨w.heap.size, 0, none⟩) (Nat.le_refl _) (.string ⟨p.o.n.toArray⟩)
  have d2 := d1.setCell (p := ⟨w.heap.size, 1, none⟩) (Nat.le_refl _) (.int .i64 p.o.e)
  have d3 := d2.setCell (p := ⟨w.heap.size, 2, none⟩) (Nat.le_refl _) (.string ⟨p.o.u.toArray⟩)
  have d4 := d3.setCell (p := ⟨w.heap.size, 3, none⟩) (Nat.le_refl _) (.string ⟨p.o.r.toArray⟩)
  have d5 := d4.setCell (p := ⟨w.heap.size, 4, none⟩) (Nat.le_refl _) (.slice AD p.D.length cD)
  have d6 := d5.setCell (p := ⟨w.heap.size, 5, none⟩) (Nat.le_refl _) (.slice AA p.A.length cA)
  have d7 := d6.setCell (p := ⟨w.heap.size, 6, none⟩) (Nat.le_refl _) (.slice AG p.G.length cG)
  have d8 := d7.setCell (p := ⟨w.heap.size, 7, none⟩) (Nat.le_refl _) (.slice AB p.B.length cB)
  have d9 := d8.setCell (p := ⟨w.heap.size, 8, none⟩) (Nat.le_refl _) (.slice AR p.R.length cR)
  have d10 := d9.setCell (p := ⟨w.heap.size, 9, none⟩) (Nat.le_refl _) (.slice AP p.o.P.length cP)
  have d11 := d10.setCell (p := ⟨w.heap.size, 10, none⟩) (Nat.le_refl _) (.slice AS p.S.length cS)
  have d12 := d11.setCell (p := ⟨w.heap.size, 11, none⟩) (Nat.le_refl _) (.slice AL p.L.length cL)
  have d13 := d12.setCell (p := ⟨w.heap.size, 12, none⟩) (Nat.le_refl _) (.slice none 0 0)
  have HQ := Lib.hid (And.intro (q13.mono (Nat.le_succ _)) d13)
  clear q0 q1 q2 q3 q4 q5 q6 q7 q8 q9 q10 q11 q12 q13 d0 d1 d2 d3 d4 d5 d6 d7 d8 d9 d10 d11 d12 d13
  exact bodyPost_ret (v := .tuple #[pkv p.o.n p.o.e p.o.u p.o.r (.slice AD p.D.length cD) (.slice AA p.A.length cA) (.slice AG p.G.length cG) (.slice AB p.B.length cB) (.slice AR p.R.length cR) (.slice AP p.o.P.length cP) (.slice AS p.S.length cS) (.slice AL p.L.length cL) (.slice none 0 0), .nilIface]) (by simp [results, Tryz.results20, go_sem, *]) rfl ⟨_, _, _, _, _, _, _, _, rfl, HQ.out.1, HQ.out.2⟩
end Go.Proofs.YtmlmdncepgcimaaGreatDoor
