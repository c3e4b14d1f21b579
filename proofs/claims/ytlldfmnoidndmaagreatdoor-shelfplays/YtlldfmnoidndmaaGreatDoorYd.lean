/- The walks of vague, rightList, record's Right. -/
import Derived.Test.YtlldfmnoidndmaaGreatDoorYq
import Derived.Test.YtlldfmnoidndmaaGreatDoorXx
import Derived.Test.YtlldfmnoidndmaaGreatDoorDx
import Derived.Test.YtlldfmnoidndmaaGreatDoorUx
namespace Go.Proofs.YtlldfmnoidndmaaGreatDoor
open Go.RowKit Go.Shelf Go.Sort

set_option maxHeartbeats 1600000 in
set_option maxRecDepth 100000 in
theorem idx57_row (b o c : Nat) (l : List Tm) (q : Tm → Bool) (w : World) (h : Tl w b o l) (hn : l.length ≤ 1000000) (hq : ∀ i (hi : i < l.length) W, Below w.heap.size w W → Calls Tryz.prog 130 #[tv l[i]] W fun e w' => e = .returned (.bool (q l[i])) ∧ Below W.heap.size W w') :
    Calls Tryz.prog 181 #[.slice (some ⟨b, o, none⟩) l.length c, .func (Fn.func 130) #[] #[]] w fun e w' => e = .returned (.int .i64 (fx (l.findIdx? q))) ∧ Below w.heap.size w w' := by
  obtain ⟨r, hr⟩ : ∃ r, r = fx (l.findIdx? q) := ⟨_, rfl⟩
  have HR := Lib.hid hr
  rw [← hr]
  clear hr
  have HQ := Lib.hid hq
  have HF := Lib.hid h
  clear hq h
  go_enter Tryz.func181, Tryz.ntmps181
  go_wp2
  go_loopw [8] (fun i W => ∃ k : Nat, k ≤ l.length ∧ i = .int .i64 k ∧ Below w.heap.size w W ∧ Hid (∀ j (hj : j < l.length), j < k → q l[j] = false)) (fun i _ => l.length - (intOf i).toNat)
  case atStart => exact ⟨0, Nat.zero_le _, rfl, Below.refl _ _, fun j _ h => absurd h (Nat.not_lt_zero _)⟩
  case round =>
    obtain ⟨k, hk, rfl, hW, HP⟩ := hrel
    by_cases hlt : k < l.length
    · have hT := HF.out.on hW
      have c0 := hT.c0 k hlt
      have c1 := hT.c1 k hlt
      have c2 := hT.c2 k hlt
      have c3 := hT.c3 k hlt
      have c4 := hT.c4 k hlt
      have cC := HQ.out k hlt wr hW
      clear hT
      cases hq : q l[k] with
      | true =>
        rw [hq] at cC
        have HG : Hid (r = k) := by show r = _; rw [HR.out, fi_yes k hlt hq (fun j hj h => HP.out j hj h)]; rfl
        go_wp2_with fail
        refine cC.mono ?_
        rintro e w1 ⟨rfl, b1⟩
        go_wp2_with fail
        go_ret
        exact ⟨reti HG.out.symm, bon hW b1⟩
      | false =>
        rw [hq] at cC
        have HN : Hid (∀ j (hj : j < l.length), j < k + 1 → q l[j] = false) := fun j hj h => by
          by_cases e : j = k
          · subst e; exact hq
          · exact HP.out j hj (by omega)
        go_wp2_with fail
        refine cC.mono ?_
        rintro e w1 ⟨rfl, b1⟩
        go_wp2_with fail
        exact ⟨⟨k + 1, hlt, by go_num, bon hW b1, HN⟩, by simp [intOf]; omega⟩
    · go_wp2
      go_ret
      exact ⟨reti (by rw [HR.out, fi_no (fun j hj => HP.out j hj (by omega))]; rfl), hW⟩
theorem idx57_nil (A : Option Addr) (c : Nat) (w : World) : Calls Tryz.prog 181 #[.slice A 0 c, .func (Fn.func 130) #[] #[]] w fun e w' => e = .returned (.int .i64 (-1)) ∧ w' = w := by
  go_enter Tryz.func181, Tryz.ntmps181
  go_wp2
  refine wp_loop_rounds 1 ?_
  rw [rounds_succ]
  go_wp2
  go_ret
  exact ⟨rfl, rfl⟩
theorem idx57_any (v : Value) (l : List Tm) (q : Tm → Bool) (w : World) (h : Ts w v l) (hn : l.length ≤ 1000000) (hq : ∀ i (hi : i < l.length) W, Below w.heap.size w W → Calls Tryz.prog 130 #[tv l[i]] W fun e w' => e = .returned (.bool (q l[i])) ∧ Below W.heap.size W w') :
    Calls Tryz.prog 181 #[v, .func (Fn.func 130) #[] #[]] w fun e w' => e = .returned (.int .i64 (fx (l.findIdx? q))) ∧ Below w.heap.size w w' := by
  rcases h.is with ⟨rfl, A, c, rfl⟩ | ⟨b, o, c, rfl, hc, hf⟩
  · exact (idx57_nil A c w).mono fun x w' ⟨h1, h2⟩ => ⟨h1, by rw [h2]; exact Below.refl _ _⟩
  · exact idx57_row b o c l q w hf hn hq
theorem con57_any (v : Value) (l : List Tm) (q : Tm → Bool) (w : World) (h : Ts w v l) (hn : l.length ≤ 1000000) (hq : ∀ i (hi : i < l.length) W, Below w.heap.size w W → Calls Tryz.prog 130 #[tv l[i]] W fun e w' => e = .returned (.bool (q l[i])) ∧ Below W.heap.size W w') :
    Calls Tryz.prog 129 #[v, .func (Fn.func 130) #[] #[]] w fun e w' => e = .returned (.bool (l.any q)) ∧ Below w.heap.size w w' := by
  have cI := idx57_any v l q w h hn hq
  have HE := Lib.hid (fx_any q l)
  generalize fx (l.findIdx? q) = z at cI HE
  clear hq h
  go_enter Tryz.func129, Tryz.ntmps129
  go_wp2_with fail
  refine cI.mono ?_
  rintro e w1 ⟨rfl, b1⟩
  go_wp2
  all_goals go_ret
  all_goals exact ⟨retb (by rw [← HE.out]), b1⟩


/-- What nobody can provide. -/
def vg (t : Tm) : Bool := !(decide (t.o = 0)) && !(decide (t.o = 3))
theorem vague_any (t : Tm) (w : World) : Calls Tryz.prog 130 #[tv t] w fun e w' => e = .returned (.bool (vg t)) ∧ Below w.heap.size w w' := by
  go_enter Tryz.func130, Tryz.ntmps130
  go_wp2
  all_goals go_ret
  all_goals exact ⟨ret_bool (by unfold vg; rw [Bool.eq_iff_iff]; simp_all), bA1 _ _⟩
theorem i64_b {e : Int} (h : I64 e) : -9223372036854775808 ≤ e ∧ e ≤ 9223372036854775807 := by
  have := bounds_i64 h.h
  exact ⟨by omega, by omega⟩
theorem asx_of {l : List (List Tm)} (h : tla l = true) (hI : ∀ x ∈ l, ∀ t ∈ x, I64 t.o ∧ I64 t.e) : Asx l := by
  unfold tla at h
  simp only [Bool.and_eq_true, decide_eq_true_eq, List.all_eq_true] at h
  have g : ∀ x ∈ l, x.length ≤ 40 ∧ ∀ t ∈ x, t.n.length ≤ 60 ∧ t.u.length ≤ 100 ∧ t.r.length ≤ 100 := fun x hx => by
    have h1 := h.2 x hx
    unfold fla at h1
    simp only [Bool.and_eq_true, decide_eq_true_eq, List.all_eq_true] at h1
    refine ⟨h1.1, fun t ht => ?_⟩
    have h2 := h1.2 t ht
    unfold t1 at h2
    simp only [Bool.and_eq_true, decide_eq_true_eq] at h2
    exact h2
  refine ⟨h.1, fun x hx => (g x hx).1, fun x hx t ht => ?_, fun x hx t ht => by have := ((g x hx).2 t ht).1; omega⟩
  obtain ⟨a, b⟩ := i64_b (hI x hx t ht).1
  obtain ⟨a', b'⟩ := i64_b (hI x hx t ht).2
  have g2 := (g x hx).2 t ht
  exact ⟨a, b, a', b', by omega, by omega⟩
theorem tla_sing {m : List Tm} (h : fla m = true) : tla (sing m) = true := by
  unfold fla at h
  simp only [Bool.and_eq_true, decide_eq_true_eq, List.all_eq_true] at h
  unfold tla
  rw [show (sing m).length = m.length from by simp [sing], decide_eq_true h.1, Bool.true_and, List.all_eq_true]
  intro x hx
  obtain ⟨t, ht, rfl⟩ := List.mem_map.1 hx
  unfold fla
  simp [h.2 t ht]
theorem sing_flat (m : List Tm) : (sing m).flatten = m := by
  unfold sing
  induction m with
  | nil => rfl
  | cons t m ih => simp only [List.map_cons, List.flatten_cons, ih]; rfl
theorem asx_sing {m : List Tm} (h : fla m = true) (hI : ∀ t ∈ m, I64 t.o ∧ I64 t.e) : Asx (sing m) :=
  asx_of (tla_sing h) (fun x hx t ht => hI t (by rw [← sing_flat m]; exact List.mem_flatten.2 ⟨x, hx, ht⟩))
theorem Asx.f {l : List (List Tm)} (h : Asx l) : l.length ≤ 1000 ∧ (∀ x ∈ l, x.length ≤ 1000) ∧ ∀ t ∈ l.flatten, Shn t :=
  ⟨by have := h.n; omega, fun x hx => by have := h.x x hx; omega, fun t ht => by obtain ⟨x, hx, ht⟩ := List.mem_flatten.1 ht; exact h.s x hx t ht⟩
theorem askx_any (v : Value) (l : List (List Tm)) (w : World) (h : As w v l) (hX : Asx l) (hT : Tab w) : Calls Tryz.prog 127 #[v] w fun e w' => e = .returned (.bool (ask l)) ∧ Below w.heap.size w w' :=
  askr_any v l w h hX.f.1 hX.f.2.1 hX.f.2.2 hT

set_option maxHeartbeats 800000 in
set_option maxRecDepth 100000 in
theorem rlist_any (v : Value) (l : List Tm) (w : World) (h : Ts w v l) (hX : Asx (sing l)) (hT : Tab w) : Calls Tryz.prog 128 #[v] w fun e w' => e = .returned (.bool (ask (sing l))) ∧ Below w.heap.size w w' := by
  obtain ⟨r, hr⟩ : ∃ r, r = ask (sing l) := ⟨_, rfl⟩
  have hn : l.length ≤ 40 := by have := hX.n; simpa [sing] using this
  have cS := dsing_any v l w h (by omega)
  have cA := fun S W (hS : As W S (sing l)) (hW : Below w.heap.size w W) => askx_any S (sing l) W hS hX (tab_on hT hW)
  rw [← hr] at cA ⊢
  by_cases h30 : l.length ≤ 30
  · obtain ⟨A, c, rfl⟩ := ts_sl h
    clear hr h hX hT
    go_enter Tryz.func128, Tryz.ntmps128
    go_wp2_with fail
    refine cS.mono ?_
    rintro e w1 ⟨S, rfl, hS, b1⟩
    have cA' := cA S w1 hS b1
    obtain ⟨A1, c1, rfl⟩ := as_sl hS
    clear hS cA cS
    go_wp2_with fail
    refine cA'.mono ?_
    rintro e w2 ⟨rfl, b2⟩
    go_wp2
    go_ret
    exact ⟨rfl, bt2 b1 b2⟩
  · have hr0 : r = false := by rw [hr]; exact ask_long (by rw [sing_flat]; omega)
    subst hr0
    obtain ⟨A, c, rfl⟩ := ts_sl h
    clear hr h hX hT cA cS
    go_enter Tryz.func128, Tryz.ntmps128
    go_wp2
    go_ret
    exact ⟨rfl, Below.refl _ _⟩

/-- Of numbers that a word holds. -/
structure Pw (p : Pck) : Prop where
  e : I64 p.o.e
  D : ∀ x ∈ p.D, ∀ t ∈ x, I64 t.o ∧ I64 t.e
  A : ∀ x ∈ p.A, ∀ t ∈ x, I64 t.o ∧ I64 t.e
  G : ∀ t ∈ p.G, I64 t.o ∧ I64 t.e
  B : ∀ t ∈ p.B, I64 t.o ∧ I64 t.e
  R : ∀ t ∈ p.R, I64 t.o ∧ I64 t.e
  P : ∀ t ∈ p.o.P, I64 t.o ∧ I64 t.e
/-- What the walks want of a package. -/
structure Pg (p : Pck) : Prop where
  n : p.o.n.length ≤ 60
  e0 : -9223372036854775808 ≤ p.o.e
  e1 : p.o.e ≤ 9223372036854775807
  u : p.o.u.length ≤ 100
  r : p.o.r.length ≤ 100
  D : Asx p.D
  A : Asx p.A
  G : Asx (sing p.G)
  B : Asx (sing p.B)
  R : Asx (sing p.R)
  P : Asx (sing p.o.P)
  S : txs p.S = true
  L : txs p.L = true
  F : fls p.F = true
theorem pg_of {p : Pck} (h : Sok p) (hw : Pw p) : Pg p :=
  ⟨h.n, (i64_b hw.e).1, (i64_b hw.e).2, h.u, h.r, asx_of h.D hw.D, asx_of h.A hw.A, asx_sing h.G hw.G, asx_sing h.B hw.B, asx_sing h.R hw.R, asx_sing h.P hw.P, h.S, h.L, h.F⟩

/-- A package that may be, its files apart. -/
def rok (p : Pck) : Bool := nmo p.o.n && (Vm.rt p.o.e p.o.u p.o.r && (ask p.D && (ask p.A && (ask (sing p.G) && (ask (sing p.B) && (ask (sing p.R) && (ask (sing p.o.P) && (!(p.o.P.any vg) && (pths p.S && pths p.L)))))))))

set_option maxHeartbeats 6400000 in
set_option maxRecDepth 100000 in
theorem recright_any (p : Pck) (vD vA vG vB vR vP vS vL vF : Value) (w : World) (hz : Pz w p vD vA vG vB vR vP vS vL vF) (hp : Pg p) (hT : Tab w) (hM : MaxN w) : Calls Tryz.prog 88 #[pkv p.o.n p.o.e p.o.u p.o.r vD vA vG vB vR vP vS vL vF] w fun x w' => x = .returned (.bool (rok p)) ∧ Below w.heap.size w w' := by
  have c0 := b1c w (pko p.o.n p.o.e p.o.u p.o.r vD vA vG vB vR vP vS vL vF)
  have B0 := Lib.hid (pb_new w p vD vA vG vB vR vP vS vL vF)
  have Z0 := Lib.hid (hz.on c0)
  have HT := Lib.hid hT
  have HM := Lib.hid hM
  have HG := Lib.hid hp
  obtain ⟨r, hr⟩ : ∃ r, r = rok p := ⟨_, rfl⟩
  rw [← hr]
  have HR : Hid (r = (nmo p.o.n && (Vm.rt p.o.e p.o.u p.o.r && (ask p.D && (ask p.A && (ask (sing p.G) && (ask (sing p.B) && (ask (sing p.R) && (ask (sing p.o.P) && (!(p.o.P.any vg) && (pths p.S && pths p.L))))))))))) := hr
  have cN := fun W => name_any p.o.n W
  clear hz hr hT hM hp
  go_enter Tryz.func88, Tryz.ntmps88
  generalize nmo p.o.n = y at HR cN
  go_wp2_with fail
  refine (cN _).mono ?_
  rintro x w1 ⟨rfl, bw⟩
  clear cN
  cases y with
  | false =>
    have hr : r = false := HR.out
    subst hr
    go_wp2_with fail
    go_ret
    exact ⟨rfl, bon c0 bw⟩
  | true =>
    replace HR : Hid (r = (Vm.rt p.o.e p.o.u p.o.r && (ask p.D && (ask p.A && (ask (sing p.G) && (ask (sing p.B) && (ask (sing p.R) && (ask (sing p.o.P) && (!(p.o.P.any vg) && (pths p.S && (pths p.L))))))))))) := HR
    have c1 := bon c0 bw
    have B1 := Lib.hid (B0.out.on bw)
    have Z1 := Lib.hid (Z0.out.on bw)
    clear B0 Z0 bw c0
    have k1 := B1.out.c1
    have k2 := B1.out.c2
    have k3 := B1.out.c3
    have cT := Lib.hid (right_any p.o.e p.o.u p.o.r w1 HG.out.e0 HG.out.e1 (by have := HG.out.u; omega) (by have := HG.out.r; omega) (tab_on HT.out c1))
    generalize Vm.rt p.o.e p.o.u p.o.r = y at HR cT
    go_wp2_with fail
    refine cT.out.mono ?_
    rintro x w2 ⟨rfl, bw⟩
    clear cT k1 k2 k3
    cases y with
    | false =>
      have hr : r = false := HR.out
      subst hr
      go_wp2_with fail
      go_ret
      exact ⟨rfl, bon c1 bw⟩
    | true =>
      replace HR : Hid (r = (ask p.D && (ask p.A && (ask (sing p.G) && (ask (sing p.B) && (ask (sing p.R) && (ask (sing p.o.P) && (!(p.o.P.any vg) && (pths p.S && (pths p.L)))))))))) := HR
      have c2 := bon c1 bw
      have B2 := Lib.hid (B1.out.on bw)
      have Z2 := Lib.hid (Z1.out.on bw)
      clear B1 Z1 bw c1
      have k4 := B2.out.c4
      have cT := Lib.hid (askx_any vD p.D w2 Z2.out.D HG.out.D (tab_on HT.out c2))
      generalize ask p.D = y at HR cT
      go_wp2_with fail
      refine cT.out.mono ?_
      rintro x w3 ⟨rfl, bw⟩
      clear cT k4
      cases y with
      | false =>
        have hr : r = false := HR.out
        subst hr
        go_wp2_with fail
        go_ret
        exact ⟨rfl, bon c2 bw⟩
      | true =>
        replace HR : Hid (r = (ask p.A && (ask (sing p.G) && (ask (sing p.B) && (ask (sing p.R) && (ask (sing p.o.P) && (!(p.o.P.any vg) && (pths p.S && (pths p.L))))))))) := HR
        have c3 := bon c2 bw
        have B3 := Lib.hid (B2.out.on bw)
        have Z3 := Lib.hid (Z2.out.on bw)
        clear B2 Z2 bw c2
        have k5 := B3.out.c5
        have cT := Lib.hid (askx_any vA p.A w3 Z3.out.A HG.out.A (tab_on HT.out c3))
        generalize ask p.A = y at HR cT
        go_wp2_with fail
        refine cT.out.mono ?_
        rintro x w4 ⟨rfl, bw⟩
        clear cT k5
        cases y with
        | false =>
          have hr : r = false := HR.out
          subst hr
          go_wp2_with fail
          go_ret
          exact ⟨rfl, bon c3 bw⟩
        | true =>
          replace HR : Hid (r = (ask (sing p.G) && (ask (sing p.B) && (ask (sing p.R) && (ask (sing p.o.P) && (!(p.o.P.any vg) && (pths p.S && (pths p.L)))))))) := HR
          have c4 := bon c3 bw
          have B4 := Lib.hid (B3.out.on bw)
          have Z4 := Lib.hid (Z3.out.on bw)
          clear B3 Z3 bw c3
          have k6 := B4.out.c6
          have cT := Lib.hid (rlist_any vG p.G w4 Z4.out.G HG.out.G (tab_on HT.out c4))
          generalize ask (sing p.G) = y at HR cT
          go_wp2_with fail
          refine cT.out.mono ?_
          rintro x w5 ⟨rfl, bw⟩
          clear cT k6
          cases y with
          | false =>
            have hr : r = false := HR.out
            subst hr
            go_wp2_with fail
            go_ret
            exact ⟨rfl, bon c4 bw⟩
          | true =>
            replace HR : Hid (r = (ask (sing p.B) && (ask (sing p.R) && (ask (sing p.o.P) && (!(p.o.P.any vg) && (pths p.S && (pths p.L))))))) := HR
            have c5 := bon c4 bw
            have B5 := Lib.hid (B4.out.on bw)
            have Z5 := Lib.hid (Z4.out.on bw)
            clear B4 Z4 bw c4
            have k7 := B5.out.c7
            have cT := Lib.hid (rlist_any vB p.B w5 Z5.out.B HG.out.B (tab_on HT.out c5))
            generalize ask (sing p.B) = y at HR cT
            go_wp2_with fail
            refine cT.out.mono ?_
            rintro x w6 ⟨rfl, bw⟩
            clear cT k7
            cases y with
            | false =>
              have hr : r = false := HR.out
              subst hr
              go_wp2_with fail
              go_ret
              exact ⟨rfl, bon c5 bw⟩
            | true =>
              replace HR : Hid (r = (ask (sing p.R) && (ask (sing p.o.P) && (!(p.o.P.any vg) && (pths p.S && (pths p.L)))))) := HR
              have c6 := bon c5 bw
              have B6 := Lib.hid (B5.out.on bw)
              have Z6 := Lib.hid (Z5.out.on bw)
              clear B5 Z5 bw c5
              have k8 := B6.out.c8
              have cT := Lib.hid (rlist_any vR p.R w6 Z6.out.R HG.out.R (tab_on HT.out c6))
              generalize ask (sing p.R) = y at HR cT
              go_wp2_with fail
              refine cT.out.mono ?_
              rintro x w7 ⟨rfl, bw⟩
              clear cT k8
              cases y with
              | false =>
                have hr : r = false := HR.out
                subst hr
                go_wp2_with fail
                go_ret
                exact ⟨rfl, bon c6 bw⟩
              | true =>
                replace HR : Hid (r = (ask (sing p.o.P) && (!(p.o.P.any vg) && (pths p.S && (pths p.L))))) := HR
                have c7 := bon c6 bw
                have B7 := Lib.hid (B6.out.on bw)
                have Z7 := Lib.hid (Z6.out.on bw)
                clear B6 Z6 bw c6
                have k9 := B7.out.c9
                have cT := Lib.hid (rlist_any vP p.o.P w7 Z7.out.P HG.out.P (tab_on HT.out c7))
                generalize ask (sing p.o.P) = y at HR cT
                go_wp2_with fail
                refine cT.out.mono ?_
                rintro x w8 ⟨rfl, bw⟩
                clear cT k9
                cases y with
                | false =>
                  have hr : r = false := HR.out
                  subst hr
                  go_wp2_with fail
                  go_ret
                  exact ⟨rfl, bon c7 bw⟩
                | true =>
                  replace HR : Hid (r = (!(p.o.P.any vg) && (pths p.S && (pths p.L)))) := HR
                  have c8 := bon c7 bw
                  have B8 := Lib.hid (B7.out.on bw)
                  have Z8 := Lib.hid (Z7.out.on bw)
                  clear B7 Z7 bw c7
                  have k9 := B8.out.c9
                  have cT := Lib.hid (con57_any vP p.o.P vg w8 Z8.out.P (by have := HG.out.P.n; simp [sing] at this; omega) (fun i hi U _ => vague_any p.o.P[i] U))
                  generalize p.o.P.any vg = y at HR cT
                  go_wp2_with fail
                  refine cT.out.mono ?_
                  rintro x w9 ⟨rfl, bw⟩
                  clear cT k9
                  cases y with
                  | true =>
                    have hr : r = false := HR.out
                    subst hr
                    go_wp2_with fail
                    go_ret
                    exact ⟨rfl, bon c8 bw⟩
                  | false =>
                    replace HR : Hid (r = (pths p.S && (pths p.L))) := HR
                    have c9 := bon c8 bw
                    have B9 := Lib.hid (B8.out.on bw)
                    have Z9 := Lib.hid (Z8.out.on bw)
                    clear B8 Z8 bw c8
                    have k10 := B9.out.c10
                    have cT := Lib.hid (rpaths_any vS p.S w9 Z9.out.S (HM.out.on c9))
                    generalize pths p.S = y at HR cT
                    go_wp2_with fail
                    refine cT.out.mono ?_
                    rintro x w10 ⟨rfl, rfl⟩
                    have bw := Below.refl w10.heap.size w10
                    clear cT k10
                    cases y with
                    | false =>
                      have hr : r = false := HR.out
                      subst hr
                      go_wp2_with fail
                      go_ret
                      exact ⟨rfl, bon c9 bw⟩
                    | true =>
                      replace HR : Hid (r = (pths p.L)) := HR
                      have c10 := bon c9 bw
                      have B10 := Lib.hid (B9.out.on bw)
                      have Z10 := Lib.hid (Z9.out.on bw)
                      clear B9 Z9 bw c9
                      have k11 := B10.out.c11
                      have cT := Lib.hid (rpaths_any vL p.L w10 Z10.out.L (HM.out.on c10))
                      generalize pths p.L = y at HR cT
                      go_wp2_with fail
                      refine cT.out.mono ?_
                      rintro x w11 ⟨rfl, rfl⟩
                      have bw := Below.refl w11.heap.size w11
                      clear cT k11
                      have hr : r = y := HR.out
                      subst hr
                      go_wp2_with fail
                      go_ret
                      exact ⟨rfl, bon c10 bw⟩
end Go.Proofs.YtlldfmnoidndmaaGreatDoor
