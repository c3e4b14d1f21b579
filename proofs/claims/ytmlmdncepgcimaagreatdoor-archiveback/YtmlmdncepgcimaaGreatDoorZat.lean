/- The walks of vague, rightList, record's Right. -/
import Derived.Test.YtmlmdncepgcimaaGreatDoorZar
import Derived.Test.YtmlmdncepgcimaaGreatDoorZas
namespace Go.Proofs.YtmlmdncepgcimaaGreatDoor
open Go.RowKit Go.Shelf Go.Sort

set_option maxHeartbeats 1600000 in
set_option maxRecDepth 100000 in
theorem idx57_row (b o c : Nat) (l : List Tm) (q : Tm → Bool) (w : World) (h : Tl w b o l) (hn : l.length ≤ 1000000) (hq : ∀ i (hi : i < l.length) W, Below w.heap.size w W → Calls Tryz.prog 57 #[tv l[i]] W fun e w' => e = .returned (.bool (q l[i])) ∧ Below W.heap.size W w') :
    Calls Tryz.prog 131 #[.slice (some ⟨b, o, none⟩) l.length c, .func (Fn.func 57) #[] #[]] w fun e w' => e = .returned (.int .i64 (fx (l.findIdx? q))) ∧ Below w.heap.size w w' := by
  obtain ⟨r, hr⟩ : ∃ r, r = fx (l.findIdx? q) := ⟨_, rfl⟩
  have HR := Lib.hid hr
  rw [← hr]
  clear hr
  have HQ := Lib.hid hq
  have HF := Lib.hid h
  clear hq h
  go_enter Tryz.func131, Tryz.ntmps131
  go_wp2
  go_loopw [8] (fun i W => ∃ k : Nat, k ≤ l.length ∧ i = .int .i64 k ∧ Below w.heap.size w W ∧ Hid (∀ j (hj : j < l.length), j < k → q l[j] = false)) (fun i _ => l.length - (intOf i).toNat)
  case atStart => exact ⟨0, Nat.zero_le _, rfl, Below.refl _ _, fun j _ h => absurd h (Nat.not_lt_zero _)⟩
  case round =>
    obtain ⟨k, hk, rfl, hW, HP⟩ := hrel
    by_cases hlt : k < l.length
    · have hT := HF.out.on hW
      have c0 := hT.c0 k hlt
      have c1 := hT.c1 k hlt
      have c2 := hT.c2 k hlt
      have c3 := hT.c3 k hlt
      have c4 := hT.c4 k hlt
      have cC := HQ.out k hlt wr hW
      clear hT
      cases hq : q l[k] with
      | true =>
        rw [hq] at cC
        have HG : Hid (r = k) := by show r = _; rw [HR.out, fi_yes k hlt hq (fun j hj h => HP.out j hj h)]; rfl
        go_wp2_with fail
        refine cC.mono ?_
        rintro e w1 ⟨rfl, b1⟩
        go_wp2_with fail
        go_ret
        exact ⟨reti HG.out.symm, bon hW b1⟩
      | false =>
        rw [hq] at cC
        have HN : Hid (∀ j (hj : j < l.length), j < k + 1 → q l[j] = false) := fun j hj h => by
          by_cases e : j = k
          · subst e; exact hq
          · exact HP.out j hj (by omega)
        go_wp2_with fail
        refine cC.mono ?_
        rintro e w1 ⟨rfl, b1⟩
        go_wp2_with fail
        exact ⟨⟨k + 1, hlt, by go_num, bon hW b1, HN⟩, by simp [intOf]; omega⟩
    · go_wp2
      go_ret
      exact ⟨reti (by rw [HR.out, fi_no (fun j hj => HP.out j hj (by omega))]; rfl), hW⟩
theorem idx57_nil (A : Option Addr) (c : Nat) (w : World) : Calls Tryz.prog 131 #[.slice A 0 c, .func (Fn.func 57) #[] #[]] w fun e w' => e = .returned (.int .i64 (-1)) ∧ w' = w := by
  go_enter Tryz.func131, Tryz.ntmps131
  go_wp2
  refine wp_loop_rounds 1 ?_
  rw [rounds_succ]
  go_wp2
  go_ret
  exact ⟨rfl, rfl⟩
theorem idx57_any (v : Value) (l : List Tm) (q : Tm → Bool) (w : World) (h : Ts w v l) (hn : l.length ≤ 1000000) (hq : ∀ i (hi : i < l.length) W, Below w.heap.size w W → Calls Tryz.prog 57 #[tv l[i]] W fun e w' => e = .returned (.bool (q l[i])) ∧ Below W.heap.size W w') :
    Calls Tryz.prog 131 #[v, .func (Fn.func 57) #[] #[]] w fun e w' => e = .returned (.int .i64 (fx (l.findIdx? q))) ∧ Below w.heap.size w w' := by
  rcases h.is with ⟨rfl, A, c, rfl⟩ | ⟨b, o, c, rfl, hc, hf⟩
  · exact (idx57_nil A c w).mono fun x w' ⟨h1, h2⟩ => ⟨h1, by rw [h2]; exact Below.refl _ _⟩
  · exact idx57_row b o c l q w hf hn hq
theorem con57_any (v : Value) (l : List Tm) (q : Tm → Bool) (w : World) (h : Ts w v l) (hn : l.length ≤ 1000000) (hq : ∀ i (hi : i < l.length) W, Below w.heap.size w W → Calls Tryz.prog 57 #[tv l[i]] W fun e w' => e = .returned (.bool (q l[i])) ∧ Below W.heap.size W w') :
    Calls Tryz.prog 56 #[v, .func (Fn.func 57) #[] #[]] w fun e w' => e = .returned (.bool (l.any q)) ∧ Below w.heap.size w w' := by
  have cI := idx57_any v l q w h hn hq
  have HE := Lib.hid (fx_any q l)
  generalize fx (l.findIdx? q) = z at cI HE
  clear hq h
  go_enter Tryz.func56, Tryz.ntmps56
  go_wp2_with fail
  refine cI.mono ?_
  rintro e w1 ⟨rfl, b1⟩
  go_wp2
  all_goals go_ret
  all_goals exact ⟨retb (by rw [← HE.out]), b1⟩


/-- What nobody can provide. -/
def vg (t : Tm) : Bool := !(decide (t.o = 0)) && !(decide (t.o = 3))
theorem vague_any (t : Tm) (w : World) : Calls Tryz.prog 57 #[tv t] w fun e w' => e = .returned (.bool (vg t)) ∧ Below w.heap.size w w' := by
  go_enter Tryz.func57, Tryz.ntmps57
  go_wp2
  all_goals go_ret
  all_goals exact ⟨ret_bool (by unfold vg; rw [Bool.eq_iff_iff]; simp_all), bA1 _ _⟩
theorem i64_b {e : Int} (h : I64 e) : -9223372036854775808 ≤ e ∧ e ≤ 9223372036854775807 := by
  have := bounds_i64 h.h
  exact ⟨by omega, by omega⟩
theorem asx_of {l : List (List Tm)} (h : tla l = true) (hI : ∀ x ∈ l, ∀ t ∈ x, I64 t.o ∧ I64 t.e) : Asx l := by
  unfold tla at h
  simp only [Bool.and_eq_true, decide_eq_true_eq, List.all_eq_true] at h
  have g : ∀ x ∈ l, x.length ≤ 40 ∧ ∀ t ∈ x, t.n.length ≤ 60 ∧ t.u.length ≤ 100 ∧ t.r.length ≤ 100 := fun x hx => by
    have h1 := h.2 x hx
    unfold fla at h1
    simp only [Bool.and_eq_true, decide_eq_true_eq, List.all_eq_true] at h1
    refine ⟨h1.1, fun t ht => ?_⟩
    have h2 := h1.2 t ht
    unfold t1 at h2
    simp only [Bool.and_eq_true, decide_eq_true_eq] at h2
    exact h2
  refine ⟨h.1, fun x hx => (g x hx).1, fun x hx t ht => ?_, fun x hx t ht => by have := ((g x hx).2 t ht).1; omega⟩
  obtain ⟨a, b⟩ := i64_b (hI x hx t ht).1
  obtain ⟨a', b'⟩ := i64_b (hI x hx t ht).2
  have g2 := (g x hx).2 t ht
  exact ⟨a, b, a', b', by omega, by omega⟩
theorem tla_sing {m : List Tm} (h : fla m = true) : tla (sing m) = true := by
  unfold fla at h
  simp only [Bool.and_eq_true, decide_eq_true_eq, List.all_eq_true] at h
  unfold tla
  rw [show (sing m).length = m.length from by simp [sing], decide_eq_true h.1, Bool.true_and, List.all_eq_true]
  intro x hx
  obtain ⟨t, ht, rfl⟩ := List.mem_map.1 hx
  unfold fla
  simp [h.2 t ht]
theorem sing_flat (m : List Tm) : (sing m).flatten = m := by
  unfold sing
  induction m with
  | nil => rfl
  | cons t m ih => simp only [List.map_cons, List.flatten_cons, ih]; rfl
theorem asx_sing {m : List Tm} (h : fla m = true) (hI : ∀ t ∈ m, I64 t.o ∧ I64 t.e) : Asx (sing m) :=
  asx_of (tla_sing h) (fun x hx t ht => hI t (by rw [← sing_flat m]; exact List.mem_flatten.2 ⟨x, hx, ht⟩))
theorem Asx.f {l : List (List Tm)} (h : Asx l) : l.length ≤ 1000 ∧ (∀ x ∈ l, x.length ≤ 1000) ∧ ∀ t ∈ l.flatten, Shn t :=
  ⟨by have := h.n; omega, fun x hx => by have := h.x x hx; omega, fun t ht => by obtain ⟨x, hx, ht⟩ := List.mem_flatten.1 ht; exact h.s x hx t ht⟩
theorem askx_any (v : Value) (l : List (List Tm)) (w : World) (h : As w v l) (hX : Asx l) (hT : Tab w) : Calls Tryz.prog 54 #[v] w fun e w' => e = .returned (.bool (ask l)) ∧ Below w.heap.size w w' :=
  askr_any v l w h hX.f.1 hX.f.2.1 hX.f.2.2 hT

set_option maxHeartbeats 800000 in
set_option maxRecDepth 100000 in
theorem rlist_any (v : Value) (l : List Tm) (w : World) (h : Ts w v l) (hX : Asx (sing l)) (hT : Tab w) : Calls Tryz.prog 55 #[v] w fun e w' => e = .returned (.bool (ask (sing l))) ∧ Below w.heap.size w w' := by
  obtain ⟨r, hr⟩ : ∃ r, r = ask (sing l) := ⟨_, rfl⟩
  have hn : l.length ≤ 40 := by have := hX.n; simpa [sing] using this
  have cS := dsing_any v l w h (by omega)
  have cA := fun S W (hS : As W S (sing l)) (hW : Below w.heap.size w W) => askx_any S (sing l) W hS hX (tab_on hT hW)
  rw [← hr] at cA ⊢
  by_cases h30 : l.length ≤ 30
  · obtain ⟨A, c, rfl⟩ := ts_sl h
    clear hr h hX hT
    go_enter Tryz.func55, Tryz.ntmps55
    go_wp2_with fail
    refine cS.mono ?_
    rintro e w1 ⟨S, rfl, hS, b1⟩
    have cA' := cA S w1 hS b1
    obtain ⟨A1, c1, rfl⟩ := as_sl hS
    clear hS cA cS
    go_wp2_with fail
    refine cA'.mono ?_
    rintro e w2 ⟨rfl, b2⟩
    go_wp2
    go_ret
    exact ⟨rfl, bt2 b1 b2⟩
  · have hr0 : r = false := by rw [hr]; exact ask_long (by rw [sing_flat]; omega)
    subst hr0
    obtain ⟨A, c, rfl⟩ := ts_sl h
    clear hr h hX hT cA cS
    go_enter Tryz.func55, Tryz.ntmps55
    go_wp2
    go_ret
    exact ⟨rfl, Below.refl _ _⟩

/-- Of numbers that a word holds. -/
structure Pw (p : Pck) : Prop where
  e : I64 p.o.e
  D : ∀ x ∈ p.D, ∀ t ∈ x, I64 t.o ∧ I64 t.e
  A : ∀ x ∈ p.A, ∀ t ∈ x, I64 t.o ∧ I64 t.e
  G : ∀ t ∈ p.G, I64 t.o ∧ I64 t.e
  B : ∀ t ∈ p.B, I64 t.o ∧ I64 t.e
  R : ∀ t ∈ p.R, I64 t.o ∧ I64 t.e
  P : ∀ t ∈ p.o.P, I64 t.o ∧ I64 t.e
/-- What the walks want of a package. -/
structure Pg (p : Pck) : Prop where
  n : p.o.n.length ≤ 60
  e0 : -9223372036854775808 ≤ p.o.e
  e1 : p.o.e ≤ 9223372036854775807
  u : p.o.u.length ≤ 100
  r : p.o.r.length ≤ 100
  D : Asx p.D
  A : Asx p.A
  G : Asx (sing p.G)
  B : Asx (sing p.B)
  R : Asx (sing p.R)
  P : Asx (sing p.o.P)
  S : txs p.S = true
  L : txs p.L = true
  F : fls p.F = true
theorem pg_of {p : Pck} (h : Sok p) (hw : Pw p) : Pg p :=
  ⟨h.n, (i64_b hw.e).1, (i64_b hw.e).2, h.u, h.r, asx_of h.D hw.D, asx_of h.A hw.A, asx_sing h.G hw.G, asx_sing h.B hw.B, asx_sing h.R hw.R, asx_sing h.P hw.P, h.S, h.L, h.F⟩

/-- A package that may be, its files apart. -/
def rok (p : Pck) : Bool := nmo p.o.n && (Vm.rt p.o.e p.o.u p.o.r && (ask p.D && (ask p.A && (ask (sing p.G) && (ask (sing p.B) && (ask (sing p.R) && (ask (sing p.o.P) && (!(p.o.P.any vg) && (pths p.S && pths p.L)))))))))

set_option maxHeartbeats 6400000 in
set_option maxRecDepth 100000 in
theorem recright_any (p : Pck) (vD vA vG vB vR vP vS vL vF : Value) (w : World) (hz : Pz w p vD vA vG vB vR vP vS vL vF) (hp : Pg p) (hT : Tab w) (hM : MaxN w) : Calls Tryz.prog 14 #[pkv p.o.n p.o.e p.o.u p.o.r vD vA vG vB vR vP vS vL vF] w fun x w' => x = .returned (.bool (rok p)) ∧ Below w.heap.size w w' := by
  have c0 := b1c w (pko p.o.n p.o.e p.o.u p.o.r vD vA vG vB vR vP vS vL vF)
  have B0 := Lib.hid (pb_new w p vD vA vG vB vR vP vS vL vF)
  have Z0 := Lib.hid (hz.on c0)
  have HT := Lib.hid hT
  have HM := Lib.hid hM
  have HG := Lib.hid hp
  obtain ⟨r, hr⟩ : ∃ r, r = rok p := ⟨_, rfl⟩
  rw [← hr]
  have HR : Hid (r = (nmo p.o.n && (Vm.rt p.o.e p.o.u p.o.r && (ask p.D && (ask p.A && (ask (sing p.G) && (ask (sing p.B) && (ask (sing p.R) && (ask (sing p.o.P) && (!(p.o.P.any vg) && (pths p.S && pths p.L))))))))))) := hr
  have cN := fun W => name_any p.o.n W
  clear hz hr hT hM hp
  go_enter Tryz.func14, Tryz.ntmps14
  generalize nmo p.o.n = y at HR cN
  go_wp2_with fail
  refine (cN _).mono ?_
  rintro x w1 ⟨rfl, bw⟩
  clear cN
  cases y with
  | false =>
    have hr : r = false := HR.out
    subst hr
    go_wp2_with fail
    go_ret
    exact ⟨rfl, bon c0 bw⟩
  | true =>
    replace HR : Hid (r = (Vm.rt p.o.e p.o.u p.o.r && (ask p.D && (ask p.A && (ask (sing p.G) && (ask (sing p.B) && (ask (sing p.R) && (ask (sing p.o.P) && (!(p.o.P.any vg) && (pths p.S && (pths p.L))))))))))) := HR
    have c1 := bon c0 bw
    have B1 := Lib.hid (B0.out.on bw)
    have Z1 := Lib.hid (Z0.out.on bw)
    clear B0 Z0 bw c0
    have k1 := B1.out.c1
    have k2 := B1.out.c2
    have k3 := B1.out.c3
    have cT := Lib.hid (right_any p.o.e p.o.u p.o.r w1 HG.out.e0 HG.out.e1 (by have := HG.out.u; omega) (by have := HG.out.r; omega) (tab_on HT.out c1))
    generalize Vm.rt p.o.e p.o.u p.o.r = y at HR cT
    go_wp2_with fail
    refine cT.out.mono ?_
    rintro x w2 ⟨rfl, bw⟩
    clear cT k1 k2 k3
    cases y with
    | false =>
      have hr : r = false := HR.out
      subst hr
      go_wp2_with fail
      go_ret
      exact ⟨rfl, bon c1 bw⟩
    | true =>
      replace HR : Hid (r = (ask p.D && (ask p.A && (ask (sing p.G) && (ask (sing p.B) && (ask (sing p.R) && (ask (sing p.o.P) && (!(p.o.P.any vg) && (pths p.S && (pths p.L)))))))))) := HR
      have c2 := bon c1 bw
      have B2 := Lib.hid (B1.out.on bw)
      have Z2 := Lib.hid (Z1.out.on bw)
      clear B1 Z1 bw c1
      have k4 := B2.out.c4
      have cT := Lib.hid (askx_any vD p.D w2 Z2.out.D HG.out.D (tab_on HT.out c2))
      generalize ask p.D = y at HR cT
      go_wp2_with fail
      refine cT.out.mono ?_
      rintro x w3 ⟨rfl, bw⟩
      clear cT k4
      cases y with
      | false =>
        have hr : r = false := HR.out
        subst hr
        go_wp2_with fail
        go_ret
        exact ⟨rfl, bon c2 bw⟩
      | true =>
        replace HR : Hid (r = (ask p.A && (ask (sing p.G) && (ask (sing p.B) && (ask (sing p.R) && (ask (sing p.o.P) && (!(p.o.P.any vg) && (pths p.S && (pths p.L))))))))) := HR
        have c3 := bon c2 bw
        have B3 := Lib.hid (B2.out.on bw)
        have Z3 := Lib.hid (Z2.out.on bw)
        clear B2 Z2 bw c2
        have k5 := B3.out.c5
        have cT := Lib.hid (askx_any vA p.A w3 Z3.out.A HG.out.A (tab_on HT.out c3))
        generalize ask p.A = y at HR cT
        go_wp2_with fail
        refine cT.out.mono ?_
        rintro x w4 ⟨rfl, bw⟩
        clear cT k5
        cases y with
        | false =>
          have hr : r = false := HR.out
          subst hr
          go_wp2_with fail
          go_ret
          exact ⟨rfl, bon c3 bw⟩
        | true =>
          replace HR : Hid (r = (ask (sing p.G) && (ask (sing p.B) && (ask (sing p.R) && (ask (sing p.o.P) && (!(p.o.P.any vg) && (pths p.S && (pths p.L)))))))) := HR
          have c4 := bon c3 bw
          have B4 := Lib.hid (B3.out.on bw)
          have Z4 := Lib.hid (Z3.out.on bw)
          clear B3 Z3 bw c3
          have k6 := B4.out.c6
          have cT := Lib.hid (rlist_any vG p.G w4 Z4.out.G HG.out.G (tab_on HT.out c4))
          generalize ask (sing p.G) = y at HR cT
          go_wp2_with fail
          refine cT.out.mono ?_
          rintro x w5 ⟨rfl, bw⟩
          clear cT k6
          cases y with
          | false =>
            have hr : r = false := HR.out
            subst hr
            go_wp2_with fail
            go_ret
            exact ⟨rfl, bon c4 bw⟩
          | true =>
            replace HR : Hid (r = (ask (sing p.B) && (ask (sing p.R) && (ask (sing p.o.P) && (!(p.o.P.any vg) && (pths p.S && (pths p.L))))))) := HR
            have c5 := bon c4 bw
            have B5 := Lib.hid (B4.out.on bw)
            have Z5 := Lib.hid (Z4.out.on bw)
            clear B4 Z4 bw c4
            have k7 := B5.out.c7
            have cT := Lib.hid (rlist_any vB p.B w5 Z5.out.B HG.out.B (tab_on HT.out c5))
            generalize ask (sing p.B) = y at HR cT
            go_wp2_with fail
            refine cT.out.mono ?_
            rintro x w6 ⟨rfl, bw⟩
            clear cT k7
            cases y with
            | false =>
              have hr : r = false := HR.out
              subst hr
              go_wp2_with fail
              go_ret
              exact ⟨rfl, bon c5 bw⟩
            | true =>
              replace HR : Hid (r = (ask (sing p.R) && (ask (sing p.o.P) && (!(p.o.P.any vg) && (pths p.S && (pths p.L)))))) := HR
              have c6 := bon c5 bw
              have B6 := Lib.hid (B5.out.on bw)
              have Z6 := Lib.hid (Z5.out.on bw)
              clear B5 Z5 bw c5
              have k8 := B6.out.c8
              have cT := Lib.hid (rlist_any vR p.R w6 Z6.out.R HG.out.R (tab_on HT.out c6))
              generalize ask (sing p.R) = y at HR cT
              go_wp2_with fail
              refine cT.out.mono ?_
              rintro x w7 ⟨rfl, bw⟩
              clear cT k8
              cases y with
              | false =>
                have hr : r = false := HR.out
                subst hr
                go_wp2_with fail
                go_ret
                exact ⟨rfl, bon c6 bw⟩
              | true =>
                replace HR : Hid (r = (ask (sing p.o.P) && (!(p.o.P.any vg) && (pths p.S && (pths p.L))))) := HR
                have c7 := bon c6 bw
                have B7 := Lib.hid (B6.out.on bw)
                have Z7 := Lib.hid (Z6.out.on bw)
                clear B6 Z6 bw c6
                have k9 := B7.out.c9
                have cT := Lib.hid (rlist_any vP p.o.P w7 Z7.out.P HG.out.P (tab_on HT.out c7))
                generalize ask (sing p.o.P) = y at HR cT
                go_wp2_with fail
                refine cT.out.mono ?_
                rintro x w8 ⟨rfl, bw⟩
                clear cT k9
                cases y with
                | false =>
                  have hr : r = false := HR.out
                  subst hr
                  go_wp2_with fail
                  go_ret
                  exact ⟨rfl, bon c7 bw⟩
                | true =>
                  replace HR : Hid (r = (!(p.o.P.any vg) && (pths p.S && (pths p.L)))) := HR
                  have c8 := bon c7 bw
                  have B8 := Lib.hid (B7.out.on bw)
                  have Z8 := Lib.hid (Z7.out.on bw)
                  clear B7 Z7 bw c7
                  have k9 := B8.out.c9
                  have cT := Lib.hid (con57_any vP p.o.P vg w8 Z8.out.P (by have := HG.out.P.n; simp [sing] at this; omega) (fun i hi U _ => vague_any p.o.P[i] U))
                  generalize p.o.P.any vg = y at HR cT
                  go_wp2_with fail
                  refine cT.out.mono ?_
                  rintro x w9 ⟨rfl, bw⟩
                  clear cT k9
                  cases y with
                  | true =>
                    have hr : r = false := HR.out
                    subst hr
                    go_wp2_with fail
                    go_ret
                    exact ⟨rfl, bon c8 bw⟩
                  | false =>
                    replace HR : Hid (r = (pths p.S && (pths p.L))) := HR
                    have c9 := bon c8 bw
                    have B9 := Lib.hid (B8.out.on bw)
                    have Z9 := Lib.hid (Z8.out.on bw)
                    clear B8 Z8 bw c8
                    have k10 := B9.out.c10
                    have cT := Lib.hid (rpaths_any vS p.S w9 Z9.out.S (HM.out.on c9))
                    generalize pths p.S = y at HR cT
                    go_wp2_with fail
                    refine cT.out.mono ?_
                    rintro x w10 ⟨rfl, rfl⟩
                    have bw := Below.refl w10.heap.size w10
                    clear cT k10
                    cases y with
                    | false =>
                      have hr : r = false := HR.out
                      subst hr
                      go_wp2_with fail
                      go_ret
                      exact ⟨rfl, bon c9 bw⟩
                    | true =>
                      replace HR : Hid (r = (pths p.L)) := HR
                      have c10 := bon c9 bw
                      have B10 := Lib.hid (B9.out.on bw)
                      have Z10 := Lib.hid (Z9.out.on bw)
                      clear B9 Z9 bw c9
                      have k11 := B10.out.c11
                      have cT := Lib.hid (rpaths_any vL p.L w10 Z10.out.L (HM.out.on c10))
                      generalize pths p.L = y at HR cT
                      go_wp2_with fail
                      refine cT.out.mono ?_
                      rintro x w11 ⟨rfl, rfl⟩
                      have bw := Below.refl w11.heap.size w11
                      clear cT k11
                      have hr : r = y := HR.out
                      subst hr
                      go_wp2_with fail
                      go_ret
                      exact ⟨rfl, bon c10 bw⟩
end Go.Proofs.YtmlmdncepgcimaaGreatDoor

/- The walks of record's lines and printed; what a package says, as fields. -/
namespace Go.Proofs.YtmlmdncepgcimaaGreatDoor
open Go.RowKit Go.Shelf Go.Sort

/-- Lines behind an empty one. -/
def lns (l : List (List UInt8)) : List UInt8 := l.flatMap fun s => 10 :: s
theorem lns_up (l : List (List UInt8)) (i : Nat) (hi : i < l.length) : lns (l.take (i + 1)) = lns (l.take i) ++ [10] ++ l[i] := by
  unfold lns; rw [List.take_succ_eq_append_getElem hi, List.flatMap_append]; simp
theorem lns_le : ∀ l : List (List UInt8), (∀ s ∈ l, s.length ≤ 100) → (lns l).length ≤ l.length * 101
  | [], _ => by simp [lns]
  | s :: l, h => by
    have h1 := lns_le l (fun x hx => h x (List.mem_cons_of_mem _ hx))
    have h2 := h s (List.mem_cons_self ..)
    unfold lns at h1 ⊢
    simp only [List.flatMap_cons, List.length_append, List.length_cons]
    omega
theorem txs_p {l : List (List UInt8)} (h : txs l = true) : l.length ≤ 40 ∧ ∀ s ∈ l, s.length ≤ 100 := by
  unfold txs at h
  simpa only [Bool.and_eq_true, decide_eq_true_eq, List.all_eq_true] using h

set_option maxHeartbeats 1600000 in
set_option maxRecDepth 100000 in
theorem lines_row (b o c : Nat) (l : List (List UInt8)) (w : World) (h : Sr w b o l) (hx : txs l = true) : Calls Tryz.prog 48 #[.slice (some ⟨b, o, none⟩) l.length c] w fun e w' => e = .returned (.string ⟨(lns l).toArray⟩) ∧ Below w.heap.size w w' := by
  obtain ⟨hn, hs⟩ := txs_p hx
  have HF := Lib.hid h
  have HS := Lib.hid hs
  have hle : ∀ i, (lns (l.take i)).length ≤ 5000 := fun i => by
    have h1 := lns_le (l.take i) (fun s hs' => hs s (List.mem_of_mem_take hs'))
    have h2 : (l.take i).length ≤ 40 := by simp; omega
    have h3 : (l.take i).length * 101 ≤ 40 * 101 := Nat.mul_le_mul h2 (Nat.le_refl _)
    omega
  have HL := Lib.hid hle
  have d0 : Bd w.heap.size w.heap.size [] (w.alloc (.cells #[.pointer none, .slice none 0 0] 122)) := ⟨Lib.fresh_isBuilder 122 5 w, by simp⟩
  have bw0 := bA1 w (.cells #[.pointer none, .slice none 0 0] 122)
  clear h hx hs hle
  go_enter Tryz.func48, Tryz.ntmps48
  go_wp2_with fail
  go_loopw [8] (fun v W => ∃ i : Nat, i ≤ l.length ∧ v = .int .i64 i ∧ Below w.heap.size w W ∧ Bd w.heap.size w.heap.size (lns (l.take i)) W) (fun v _ => l.length - (intOf v).toNat)
  case atStart => exact ⟨0, Nat.zero_le _, rfl, bw0, by simpa [lns] using d0⟩
  case round =>
    obtain ⟨i, hi, rfl, hb, hd⟩ := hrel
    by_cases hlt : i < l.length
    · have c0 := (hb.cell (p := ⟨b, o + i, none⟩) HF.out.lt).trans (HF.out.c i hlt)
      have hsl := HS.out l[i] (List.getElem_mem hlt)
      have HU := Lib.hid (lns_up l i hlt)
      have hTl := HL.out i
      generalize lns (l.take i) = T at hd HU hTl
      generalize l[i] = s at c0 hsl HU
      have cB := bd_byte w.heap.size w.heap.size T 10 wr hd (by omega)
      have cW := fun W (hd : Bd w.heap.size w.heap.size (T ++ [10]) W) => bd_str w.heap.size w.heap.size (T ++ [10]) s W hd (by simp; omega) (by omega)
      clear hd
      go_wp2_with fail
      refine cB.mono ?_
      rintro e w1 ⟨rfl, hd1, b1, _⟩
      have cW' := cW w1 hd1
      have hb1 := hb.trans b1
      clear cB cW hd1 b1 hb
      go_wp2_with fail
      refine cW'.mono ?_
      rintro e w2 ⟨rfl, hd2, b2, _⟩
      have hb2 := hb1.trans b2
      rw [← HU.out] at hd2
      go_wp2_with fail
      exact ⟨⟨i + 1, hlt, by go_num, hb2, hd2⟩, by simp [intOf]; omega⟩
    · obtain rfl : i = l.length := by omega
      rw [List.take_length] at hd
      go_wp2_with fail
      refine (Tryz.Builder_String_any w.heap.size w.heap.size _ _ hd.is hd.le).mono ?_
      rintro e w2 ⟨rfl, b2⟩
      go_wp2
      go_ret
      exact ⟨rfl, hb.trans b2⟩
set_option maxHeartbeats 800000 in
set_option maxRecDepth 100000 in
theorem lines_nil (A : Option Addr) (c : Nat) (w : World) : Calls Tryz.prog 48 #[.slice A 0 c] w fun e w' => e = .returned (.string ⟨#[]⟩) ∧ Below w.heap.size w w' := by
  have d0 : Bd w.heap.size w.heap.size [] (w.alloc (.cells #[.pointer none, .slice none 0 0] 122)) := ⟨Lib.fresh_isBuilder 122 5 w, by simp⟩
  have bw0 := bA1 w (.cells #[.pointer none, .slice none 0 0] 122)
  go_enter Tryz.func48, Tryz.ntmps48
  go_wp2
  refine wp_loop_rounds 1 ?_
  rw [rounds_succ]
  go_wp2_with fail
  refine (Tryz.Builder_String_any w.heap.size w.heap.size _ _ d0.is d0.le).mono ?_
  rintro e w2 ⟨rfl, b2⟩
  go_wp2
  go_ret
  exact ⟨rfl, bw0.trans b2⟩
theorem lines_any (v : Value) (l : List (List UInt8)) (w : World) (h : Ss w v l) (hx : txs l = true) : Calls Tryz.prog 48 #[v] w fun e w' => e = .returned (.string ⟨(lns l).toArray⟩) ∧ Below w.heap.size w w' := by
  rcases h.is with ⟨rfl, A, c, rfl⟩ | ⟨b, o, c, rfl, _, hf⟩
  · exact lines_nil A c w
  · exact lines_row b o c l w hf hx

set_option maxHeartbeats 800000 in
set_option maxRecDepth 100000 in
theorem printed_any (v : Value) (l : List (List Tm)) (w : World) (h : As w v l) (hX : Asx l) (hk : ask l = true) (hG : Sg w) (hT : Tab w) : Calls Tryz.prog 46 #[v] w fun e w' => e = .returned (.string ⟨(wrA l).toArray⟩) ∧ Below w.heap.size w w' := by
  have cP := aprint_any v l w h hX.f.1 hX.f.2.1 hX.f.2.2 hG hT
  rw [if_pos hk] at cP
  obtain ⟨A, c, rfl⟩ := as_sl h
  clear h hX hk hG hT
  go_enter Tryz.func46, Tryz.ntmps46
  go_wp2_with fail
  refine cP.mono ?_
  rintro e w1 ⟨rfl, b1⟩
  go_wp2
  go_ret
  exact ⟨rfl, b1⟩
end Go.Proofs.YtmlmdncepgcimaaGreatDoor

/- The walk of the closure that adds a field. -/
namespace Go.Proofs.YtmlmdncepgcimaaGreatDoor
open Go.RowKit Go.Shelf Go.Sort

abbrev Fd := List UInt8 × List UInt8
def fcs (l : List Fd) : List Value := l.flatMap fun f => [.string ⟨f.1.toArray⟩, .string ⟨f.2.toArray⟩]
theorem fcs_snoc (l : List Fd) (f : Fd) : fcs (l ++ [f]) = fcs l ++ [.string ⟨f.1.toArray⟩, .string ⟨f.2.toArray⟩] := by simp [fcs]
theorem fcs_get : ∀ (l : List Fd) (i j : Nat) (hi : i < l.length), j < 2 → (fcs l)[i * 2 + j]? = ([Value.string ⟨l[i].1.toArray⟩, .string ⟨l[i].2.toArray⟩])[j]?
  | t :: l, 0, j, _, hj => by
    simp only [fcs, List.flatMap_cons, Nat.zero_mul, Nat.zero_add, List.getElem_cons_zero]
    rw [List.getElem?_append_left (by simp; omega)]
  | t :: l, i + 1, j, hi, hj => by
    simp only [List.getElem_cons_succ]
    rw [← fcs_get l i j (by simpa using hi) hj]
    simp only [fcs, List.flatMap_cons]
    rw [List.getElem?_append_right (by simp; omega)]
    congr 1
    simp; omega
/-- A list of fields that is built, its slice in a box. -/
structure Fo (w1 : World) (fs : List Fd) (W : World) : Prop where
  bel : Below w1.heap.size w1 W
  is : ∃ S, W.heap[w1.heap.size]? = some (Obj.cells #[S] 31 (0, 0)) ∧ W.ownsRow (w1.heap.size + 1) 52 2 S fs.length (fcs fs)
theorem Fo.on {w1 W W' : World} {fs : List Fd} (h : Fo w1 fs W) (k : Below W.heap.size W W') : Fo w1 fs W' := by
  obtain ⟨S, h1, h2⟩ := h.is
  exact ⟨h.bel.trans (k.mono h.bel.size), S, (kc_below k).2 _ _ _ _ h1, kc_own h2 (kc_below k)⟩
theorem fo_new (w1 : World) : Fo w1 [] (w1.alloc (.cells #[.slice none 0 0] 31)) :=
  ⟨bA1 _ _, _, nb0 _ _, World.ownsRow_nil _ _ _ _⟩
theorem info52 : (Tryz.prog.info? 52).map (fun i => (i.zero, i.size, i.bytes)) = some (some (.agg #[.string ⟨#[]⟩, .string ⟨#[]⟩]), 2, 32) := by kernel_rfl
theorem cell_blk {W : World} {b : Nat} {S : Value} {t : TypeId} (h : W.heap[b]? = some (Obj.cells #[S] t (0, 0))) : W.cell? ⟨b, 0, none⟩ = some S ∧ W.frozen? ⟨b, 0, none⟩ = false := by
  constructor
  · simp [World.cell?, h]
  · simp [World.frozen?, h]

set_option maxHeartbeats 800000 in
set_option maxRecDepth 100000 in
theorem add_nil (n : List UInt8) (p : Value) (w : World) : Calls Tryz.prog 43 #[.string ⟨n.toArray⟩, .string ⟨#[]⟩, p] w fun e w' => e = .returned (.tuple #[]) ∧ w' = w := by
  go_enter Tryz.func43, Tryz.ntmps43
  go_wp2
  exact bodyPost_end (results_none rfl _ _ _) rfl ⟨rfl, rfl⟩
/-- What is left when the new slice was stored. -/
theorem fo_step {w1 wa w6 : World} {fs : List Fd} {S : Value} {n v : List UInt8} {g cp : Nat} (hb : Below w1.heap.size w1 wa) (h1 : wa.heap[w1.heap.size]? = some (Obj.cells #[S] 31 (0, 0))) (h2 : wa.ownsRow (w1.heap.size + 1) 52 2 S fs.length (fcs fs))
    (ho : w6.ownsRow (w1.heap.size + 1) 52 2 (.slice (some ⟨g, 0, none⟩) (fs.length + 1) cp) (fs.length + 1) (fcs fs ++ [.string ⟨n.toArray⟩, .string ⟨v.toArray⟩])) (hg : wa.grownBy w6 S.ownBlock) :
    w6.heap[w1.heap.size]? = some (Obj.cells #[S] 31 (0, 0)) ∧ Fo w1 (fs ++ [(n, v)]) (w6.setCell ⟨w1.heap.size, 0, none⟩ (.slice (some ⟨g, 0, none⟩) (fs.length + 1) cp)) := by
  have hlt := (Array.getElem?_eq_some_iff.1 h1).1
  have hne : S.ownBlock ≠ some w1.heap.size := fun e => by
    have := (h2.lt _ e).1
    omega
  have k1 : w6.heap[w1.heap.size]? = some (Obj.cells #[S] 31 (0, 0)) := (hg.block _ hlt (fun e => hne e.symm)).trans h1
  refine ⟨k1, ?_⟩
  have hb6 : Below w1.heap.size w1 w6 := hb.grown hg hb.size (fun j e => by have := (h2.lt j e).1; omega)
  refine ⟨hb6.setCell (Nat.le_refl _) _, _, heap_setCell_same w6 w1.heap.size 0 #[S] 31 _ k1, ?_⟩
  rw [fcs_snoc, List.length_append]
  have hgne : (Value.slice (some ⟨g, 0, none⟩) (fs.length + 1) cp).ownBlock ≠ some w1.heap.size := fun e => by
    have := (ho.lt _ e).1
    omega
  exact ownsRow_setCell_other ho hgne _

set_option maxHeartbeats 1600000 in
set_option maxRecDepth 100000 in
theorem add_one (w1 : World) (fs : List Fd) (n v : List UInt8) (w : World) (h : Fo w1 fs w) (hn : fs.length ≤ 1000) (hv : v.isEmpty = false) : Calls Tryz.prog 43 #[.string ⟨n.toArray⟩, .string ⟨v.toArray⟩, .pointer (some ⟨w1.heap.size, 0, none⟩)] w fun e w' => e = .returned (.tuple #[]) ∧ Fo w1 (fs ++ [(n, v)]) w' := by
  obtain ⟨S, h1, h2⟩ := h.is
  have hb := h.bel
  obtain ⟨k1, k2⟩ := cell_blk h1
  obtain ⟨i0, hi0, hz0, hz1, hz2⟩ := infoQ info52
  have hwa : Below w1.heap.size w1 (w.alloc (.cells #[.string ⟨n.toArray⟩, .string ⟨v.toArray⟩] 52)) := hb.alloc hb.size _
  have hsz : w1.heap.size + 1 ≤ w.heap.size := (Array.getElem?_eq_some_iff.1 h1).1
  have HA := Lib.hid (h2.alloc (.cells #[.string ⟨n.toArray⟩, .string ⟨v.toArray⟩] 52))
  have H1 := Lib.hid ((kc_below (bA1 w (.cells #[.string ⟨n.toArray⟩, .string ⟨v.toArray⟩] 52))).2 _ _ _ _ h1)
  have HB := Lib.hid hwa
  clear h h1 hb hwa
  have hf : S = .slice none 0 0 ∨ ∃ g cap, S = .slice (some ⟨g, 0, none⟩) fs.length cap := by
    rcases Go.Joins.ownsRow_forms h2 with ⟨h, _⟩ | ⟨g, cap, h⟩
    · exact .inl h
    · exact .inr ⟨g, cap, h⟩
  rcases hf with rfl | ⟨g, cap, rfl⟩
  all_goals
    clear h2
    go_enter Tryz.func43, Tryz.ntmps43
    go_wp2_with (at_builtin; refine wpList_append_lies _ rfl _ _ 31 rfl (w1.heap.size + 1) 52 i0 _ 2 32 Tryz.underlying31 hi0 hz0 hz1 hz2 rfl (by decide) _ _ _ rfl HA.out ⟨w.heap.size, 0, none⟩ 1 1 [.string ⟨n.toArray⟩, .string ⟨v.toArray⟩] rfl rfl (World.news_of_block (nb0 w _)) (by intro u hu; simp at hu; rcases hu with rfl | rfl <;> rfl) (by decide) (by unfold maxLen; omega) (by omega) (by simp; omega) _ rfl ?_; intro g' cp w6 hown hgrow _ _; have hq := fo_step HB.out H1.out HA.out hown hgrow; obtain ⟨q1, q2⟩ := cell_blk hq.1; clear hown hgrow)
    exact bodyPost_end (results_none rfl _ _ _) rfl ⟨rfl, hq.2⟩
/-- A field is added, if it says something. -/
theorem add_any (w1 : World) (fs : List Fd) (n v : List UInt8) (w : World) (h : Fo w1 fs w) (hn : fs.length ≤ 1000) : Calls Tryz.prog 43 #[.string ⟨n.toArray⟩, .string ⟨v.toArray⟩, .pointer (some ⟨w1.heap.size, 0, none⟩)] w fun e w' => e = .returned (.tuple #[]) ∧ Fo w1 (fs ++ if v = [] then [] else [(n, v)]) w' := by
  cases v with
  | nil => exact (add_nil n _ w).mono fun e w' ⟨he, hw⟩ => ⟨he, by rw [hw]; simpa using h⟩
  | cons c t => exact add_one w1 fs n (c :: t) w h hn rfl
end Go.Proofs.YtmlmdncepgcimaaGreatDoor
