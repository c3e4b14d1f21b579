/- The reference's Line, where edges are refused. -/
import Derived.Test.YthijccmiemlilaaGreatDoorB5
import Derived.Test.YthijccmiemlilaaGreatDoorB6
namespace Go.Proofs.YthijccmiemlilaaGreatDoor.Ord
open Go.RowKit Go.Sort Go.Maps

theorem fv_ok : fv .ok = .agg #[.int .i64 0, .int .i64 (-1)] := rfl
theorem fv_no {r : Ro} (h : r ≠ .ok) : ∃ x y : Int, x ≠ 0 ∧ fv r = .agg #[.int .i64 x, .int .i64 y] := by
  rcases r with _ | _ | i
  · exact absurd rfl h
  · exact ⟨4, -1, by decide, rfl⟩
  · exact ⟨2, i, by decide, rfl⟩
set_option maxHeartbeats 1600000 in
set_option maxRecDepth 100000 in
theorem rline_no1 (n : Int) (A A' : Option Addr) (c m' c' : Nat) (l : List E) (w : World) (hl : l.length ≤ 1000000) (h : Es w (.slice A l.length c) l) (hF : Fi w) (hr : ro n l ≠ .ok) : Calls Tryz.prog 57 #[.int .i64 n, .slice A l.length c, .slice A' m' c'] w fun e w' => e = .returned (.tuple #[.slice none 0 0, fv (ro n l)]) ∧ Below w.heap.size w w' := by
  have b0 := bA1 w (.cells #[.int .i64 0, .int .i64 0] 42)
  have K0 := Lib.hid (k2_new w)
  have c1 := redges_any n A c l _ hl (h.on b0) (hF.on b0)
  have HFi := Lib.hid hF
  have HB0 := Lib.hid b0
  obtain ⟨x, y, hne, efv⟩ := fv_no hr
  rw [efv] at c1 ⊢
  clear efv hr b0 hF h
  go_enter Tryz.func57, Tryz.ntmps57
  go_wp2_with fail
  refine c1.mono ?_
  rintro e w2 ⟨rfl, b2⟩
  have b3 := bA1 w2 (.cells #[.int .i64 x, .int .i64 y] 42)
  have k3 := HB0.out.trans ((b2.trans (b3.mono b2.size)).mono HB0.out.size)
  obtain ⟨kl, q0, q1, f0, f1⟩ := (K0.out.on b2).on b3
  have g0 := (HFi.out.on k3).c0
  have g1 := (HFi.out.on k3).c1
  clear K0 c1 HB0 HFi
  go_wp2_with fail
  go_region
  go_wp2_with fail
  exact bodyPost_ret (v := .tuple #[.slice none 0 0, .agg #[.int .i64 x, .int .i64 y]]) (by simp [results, Tryz.results57, go_sem, q0, q1]) rfl ⟨rfl, ((k3.drew).setCell (Nat.le_refl _) _).setCell (Nat.le_refl _) _⟩
set_option maxHeartbeats 1600000 in
set_option maxRecDepth 100000 in
theorem rline_no2 (n : Int) (A A' : Option Addr) (c c' : Nat) (l l' : List E) (w : World) (hl : l.length ≤ 1000000) (hl' : l'.length ≤ 1000000) (h : Es w (.slice A l.length c) l) (h' : Es w (.slice A' l'.length c') l') (hF : Fi w) (hr0 : ro n l = .ok) (hr : ro n l' ≠ .ok) : Calls Tryz.prog 57 #[.int .i64 n, .slice A l.length c, .slice A' l'.length c'] w fun e w' => e = .returned (.tuple #[.slice none 0 0, fv (ro n l')]) ∧ Below w.heap.size w w' := by
  have b0 := bA1 w (.cells #[.int .i64 0, .int .i64 0] 42)
  have K0 := Lib.hid (k2_new w)
  have c1 := redges_any n A c l _ hl (h.on b0) (hF.on b0)
  have HC2 : Hid (∀ W, Below w.heap.size w W → Calls Tryz.prog 80 #[.int .i64 n, .slice A' l'.length c'] W fun e w' => e = .returned (fv (ro n l')) ∧ Below W.heap.size W w') := fun W b => redges_any n A' c' l' W hl' (h'.on b) (hF.on b)
  have HFi := Lib.hid hF
  have HB0 := Lib.hid b0
  obtain ⟨x, y, hne, efv⟩ := fv_no hr
  rw [efv] at HC2 ⊢
  rw [hr0, fv_ok] at c1
  clear efv hr b0 hF h h' hr0
  go_enter Tryz.func57, Tryz.ntmps57
  go_wp2_with fail
  refine c1.mono ?_
  rintro e w2 ⟨rfl, b2⟩
  have b3 := bA1 w2 (.cells #[.int .i64 0, .int .i64 (-1)] 42)
  have k3 := HB0.out.trans ((b2.trans (b3.mono b2.size)).mono HB0.out.size)
  have K3 := Lib.hid ((K0.out.on b2).on b3)
  have g0 := (HFi.out.on k3).c0
  have g1 := (HFi.out.on k3).c1
  have c2 := HC2.out _ k3
  clear K0 c1 HB0 HC2 b2 b3
  go_wp2_with fail
  refine c2.mono ?_
  rintro e w4 ⟨rfl, b4⟩
  have b5 := bA1 w4 (.cells #[.int .i64 x, .int .i64 y] 42)
  have k5 := bon (bon k3 b4) b5
  obtain ⟨kl, q0, q1, f0, f1⟩ := (K3.out.on b4).on b5
  have g0' := (HFi.out.on k5).c0
  have g1' := (HFi.out.on k5).c1
  clear K3 c2 HFi g0 g1 b4 b5 k3
  go_wp2_with fail
  go_region
  go_wp2_with fail
  exact bodyPost_ret (v := .tuple #[.slice none 0 0, .agg #[.int .i64 x, .int .i64 y]]) (by simp [results, Tryz.results57, go_sem, q0, q1]) rfl ⟨rfl, ((k5.drew).setCell (Nat.le_refl _) _).setCell (Nat.le_refl _) _⟩
end Go.Proofs.YthijccmiemlilaaGreatDoor.Ord
namespace Go.Proofs.YthijccmiemlilaaGreatDoor.Ord
open Go.RowKit Go.Sort Go.Maps

def tI (b : Bool) : Int := if b then 1 else 0
theorem ro_app {n : Nat} {l l' : List E} (hn : n ≤ 40) (h : roL n l = .ok) (h' : roL n l' = .ok) : ro n (l ++ l') = .ok := by
  unfold ro
  rw [if_neg (by omega)]
  have h1 := roL_ok h
  have h2 := roL_ok h'
  unfold roL
  rw [fi_no]
  intro j hj
  have hx : Rn n (l ++ l') := fun e he => by
    rcases List.mem_append.1 he with he | he
    · exact h1 e he
    · exact h2 e he
  have := hx (l ++ l')[j] (List.getElem_mem hj)
  unfold bade
  simp
  omega
/-- What the loops keep: the line so far, and who is told. -/
structure Iv (w9 : World) (mb : Nat) (W : World) (v : Value) (OD : List Nat) (told : Nat → Bool) (q : Nat) : Prop where
  b : Below w9.heap.size w9 W
  o : Iw W w9.heap.size v OD
  m : IM W mb (fun k => tI (told k)) told q
theorem Iv.on {w9 W W' : World} {mb q : Nat} {v : Value} {OD : List Nat} {told : Nat → Bool} (h : Iv w9 mb W v OD told q) (k : Below W.heap.size W W') : Iv w9 mb W' v OD told q := ⟨bon h.b k, own_on h.o k, h.m.on k⟩
abbrev Pq (told : Nat → Bool) (v : Nat) (e : E) (u : Nat) : Bool := decide (e.1 = (u : Int)) && (decide (e.2 = (v : Int)) && (!decide (u = v) && !told u))
theorem any_take (p : Nat → Bool) (r : List Nat) (i : Nat) (hi : i < r.length) : (r.take (i + 1)).any p = ((r.take i).any p || p r[i]) := by
  rw [List.take_succ_eq_append_getElem hi, List.any_append]; simp
theorem any_takeE (p : E → Bool) (r : List E) (i : Nat) (hi : i < r.length) : (r.take (i + 1)).any p = ((r.take i).any p || p r[i]) := by
  rw [List.take_succ_eq_append_getElem hi, List.any_append]; simp
set_option maxHeartbeats 6400000 in
set_option maxRecDepth 100000 in
theorem rline_in (n : Nat) (A A' : Option Addr) (c c' : Nat) (l l' : List E) (w : World) (hn : n ≤ 40) (hl : l.length ≤ 20000) (hl' : l'.length ≤ 20000) (h : Es w (.slice A l.length c) l) (h' : Es w (.slice A' l'.length c') l') (hA : A = none → c = 0) (hA' : A' = none → c' = 0) (hF : Fi w) (hr : roL n l = .ok) (hr' : roL n l' = .ok) : Calls Tryz.prog 57 #[.int .i64 n, .slice A l.length c, .slice A' l'.length c'] w fun e w' => ∃ v, e = .returned (.tuple #[v, fv .ok]) ∧ Iw w' w.heap.size v (lin (Om.cl n (et (l ++ l'))) (et l') n) ∧ Below w.heap.size w w' := by
  have er : ro n l = .ok := by unfold ro; rw [if_neg (by omega)]; exact hr
  have er' : ro n l' = .ok := by unfold ro; rw [if_neg (by omega)]; exact hr'
  have b0 := bA1 w (.cells #[.int .i64 0, .int .i64 0] 42)
  have K0 := Lib.hid (k2_new w)
  have c1 := redges_any n A c l _ (by omega) (h.on b0) (hF.on b0)
  have HC2 : Hid (∀ W, Below w.heap.size w W → Calls Tryz.prog 80 #[.int .i64 n, .slice A' l'.length c'] W fun e w' => e = .returned (fv (ro n l')) ∧ Below W.heap.size W w') := fun W b => redges_any n A' c' l' W (by omega) (h'.on b) (hF.on b)
  have era := ro_app hn hr hr'
  obtain ⟨C, hC⟩ : ∃ C, C = Om.cl n (et (l ++ l')) := ⟨_, rfl⟩
  have HRr : Hid (∀ W g cc, Below w.heap.size w W → Es W (.slice (some ⟨g, 0, none⟩) (l ++ l').length cc) (l ++ l') → Calls Tryz.prog 81 #[.int .i64 n, .slice (some ⟨g, 0, none⟩) (l ++ l').length cc] W fun e w' => ∃ v, e = .returned (.tuple #[v, .agg #[.int .i64 0, .int .i64 (-1)]]) ∧ Rl w' W.heap.size v (rgs C n) ∧ Below W.heap.size W w') := fun W g cc b he => by
    have := rrings_any n (some ⟨g, 0, none⟩) cc (l ++ l') W (by simp; omega) he (hF.on b)
    rw [era, rg_ok era, ← hC] at this
    exact this
  rw [show (l ++ l').length = l.length + l'.length by simp] at HRr
  rw [← hC, fv_ok]
  have HRg : Hid (∀ r ∈ rgs C n, 0 < r.length ∧ r.length ≤ 40 ∧ r.Nodup ∧ ∀ a ∈ r, a ≤ 1000) := fun r hr => by
    have hrf : ∀ a, a < n → C a a = true := fun a ha => by rw [hC]; exact Om.cl_refl _ ha
    obtain ⟨h1, h2, h3⟩ := rgs_at hrf hr
    have hwy : Wy n C := by rw [hC]; exact cl_wy _ _
    have hnd := rgs_nodup hwy
    exact ⟨h1, by omega, hnd.sublist (List.sublist_flatten_of_mem hr), fun a ha => by have := h3 a ha; omega⟩
  have hRl := rgs_len C n
  have HLn : Hid (lin C (et l') n = (rgs C n).flatMap (ob (et l'))) := rfl
  generalize lin C (et l') n = LL at HLn ⊢
  generalize rgs C n = R at HRr HRg hRl HLn
  have HFi := Lib.hid hF
  have HB0 := Lib.hid b0
  have HE := Lib.hid h
  have HE' := Lib.hid h'
  have HA := Lib.hid hA
  have HA' := Lib.hid hA'
  have HRn := Lib.hid (roL_ok hr')
  rw [er', fv_ok] at HC2
  rw [er, fv_ok] at c1
  clear hr hr' b0 hF h h' er er' era hC hA hA'
  go_enter Tryz.func57, Tryz.ntmps57
  go_wp2_with fail
  refine c1.mono ?_
  rintro e w2 ⟨rfl, b2⟩
  have b3 := bA1 w2 (.cells #[.int .i64 0, .int .i64 (-1)] 42)
  have k3 := HB0.out.trans ((b2.trans (b3.mono b2.size)).mono HB0.out.size)
  have K3 := Lib.hid ((K0.out.on b2).on b3)
  have g0 := (HFi.out.on k3).c0
  have g1 := (HFi.out.on k3).c1
  have c2 := HC2.out _ k3
  clear K0 c1 HB0 HC2 b2 b3
  go_wp2_with fail
  refine c2.mono ?_
  rintro e w4 ⟨rfl, b4⟩
  have b5 := bA1 w4 (.cells #[.int .i64 0, .int .i64 (-1)] 42)
  have k5 := bon (bon k3 b4) b5
  have K5 := Lib.hid ((K3.out.on b4).on b5)
  have g0' := (HFi.out.on k5).c0
  have g1' := (HFi.out.on k5).c1
  have b6 := bA1 (w4.alloc (.cells #[.int .i64 0, .int .i64 (-1)] 42)) (.cells #[] 107)
  have E6 : Ex ((w4.alloc (.cells #[.int .i64 0, .int .i64 (-1)] 42)).alloc (.cells #[] 107)) (w4.alloc (.cells #[.int .i64 0, .int .i64 (-1)] 42)).heap.size (.slice (some ⟨(w4.alloc (.cells #[.int .i64 0, .int .i64 (-1)] 42)).heap.size, 0, none⟩) 0 0) [] := World.ownsRow_lit (w4.alloc (.cells #[.int .i64 0, .int .i64 (-1)] 42)) #[] 0 (Nat.le_refl _) (by unfold maxLen; omega) (by simp)
  have hs1 := (HE.out.on k5).on b6
  have HS2 : Hid (∀ W, Below (w4.alloc (.cells #[.int .i64 0, .int .i64 (-1)] 42)).heap.size (w4.alloc (.cells #[.int .i64 0, .int .i64 (-1)] 42)) W → Es W (.slice A' l'.length c') l') := fun W hW => (HE'.out.on k5).on hW
  have hBa : (w4.alloc (.cells #[.int .i64 0, .int .i64 (-1)] 42)).heap.size ≤ ((w4.alloc (.cells #[.int .i64 0, .int .i64 (-1)] 42)).alloc (.cells #[] 107)).heap.size := b6.size
  have e56 : (w4.alloc (.cells #[.int .i64 0, .int .i64 (-1)] 42)).heap.size = w4.heap.size + 1 := World.size_alloc _ _
  have HK5 := Lib.hid k5
  rw [e56] at E6 HS2 hBa b6
  have HB6 := Lib.hid b6
  have HE56 := Lib.hid e56
  clear K3 c2 g0 g1 b4 b5 k3 b6 k5 e56
  go_wp2_with (first
    | (at_builtin; refine wpList_apX (l := []) (m := l) E6 rfl hs1 HA.out (by simp) (by omega) hBa rfl _ _ rfl rfl rfl ?_; intro g7 c7 w7 hE7 hB7; rw [List.nil_append, Nat.zero_add] at hE7; rw [Nat.zero_add]; have HE7 := Lib.hid hE7; have HB7 := Lib.hid (HB6.out.trans (hB7 _ (Nat.le_refl _))); clear hE7 hB7 E6 hs1 hBa)
    | (at_builtin; refine wpList_apX (l := l) (m := l') HE7.out rfl (HS2.out _ HB7.out) HA'.out (by omega) (by omega) (by have := HB7.out.size; rw [HE56.out] at this; exact this) rfl _ _ rfl rfl rfl ?_; intro g8 c8 w8 hE8 hB8; have HE8 := Lib.hid hE8; have HB8 := Lib.hid (HB7.out.trans (hB8 _ (Nat.le_refl _))); clear hE8 hB8)
    | fail)
  have HB8' : Hid (Below (w4.alloc (.cells #[.int .i64 0, .int .i64 (-1)] 42)).heap.size (w4.alloc (.cells #[.int .i64 0, .int .i64 (-1)] 42)) w8) := by rw [HE56.out]; exact HB8
  have HK8 := Lib.hid (bon HK5.out HB8'.out)
  have HKk := Lib.hid (K5.out.on HB8'.out)
  have cG := HRr.out w8 g8 c8 HK8.out (by have := ex_es HE8.out (by simp); simpa using this)
  clear HRr HE7 HB7 HE8 HS2 HB6 HK5 K5 HA HA' HB8 HB8' HE56 g0' g1'
  refine cG.mono ?_
  rintro e w9 ⟨v9, rfl, hR9, b9⟩
  obtain ⟨Z1, Z2, rfl⟩ := rl_sl hR9
  have b10 := bA1 w9 (.cells #[.int .i64 0, .int .i64 (-1)] 42)
  have HR10 := Lib.hid (hR9.on b10)
  have HB10 := Lib.hid (bon (bon HK8.out b9) b10)
  have HK10 := Lib.hid ((HKk.out.on b9).on b10)
  have hz10 : w8.heap.size ≤ w9.heap.size := b9.size
  obtain ⟨wx, hwx⟩ : ∃ wx, wx = w9.alloc (.cells #[.int .i64 0, .int .i64 (-1)] 42) := ⟨_, rfl⟩
  have hsx : wx.heap.size = w9.heap.size + 1 := by rw [hwx]; simp
  rw [← hwx] at HR10 HB10 HK10
  have HWX := Lib.hid hwx
  clear cG hR9 b9 b10 HKk HK8 hwx HE
  go_wp2_with fail
  have hRl2 : R.length ≤ 40 := by omega
  go_loopw [12, 52] (fun v i W => ∃ k : Nat, k ≤ R.length ∧ i = .int .i64 k ∧ Hid (Below wx.heap.size wx W) ∧ Hid (Iw W wx.heap.size v ((R.take k).flatMap (ob (et l'))))) (fun _ i _ => R.length - (intOf i).toNat)
  case atStart => exact ⟨0, Nat.zero_le _, rfl, by rw [HWX.out]; exact Below.refl _ _, World.ownsRow_nil _ _ _ _⟩
  case round =>
    obtain ⟨k, hk, rfl, HB, HI⟩ := hrel
    obtain ⟨I1, I2, rfl⟩ := iw_sl HI.out
    by_cases hlt : k < R.length
    · obtain ⟨zg, u, rfl, hcu, hIu⟩ := rl_at HR10.out k hlt
      obtain ⟨hr0, hr40, hrnd, hr1000⟩ := HRg.out R[k] (List.getElem_mem hlt)
      have HTk : Hid ((R.take (k + 1)).flatMap (ob (et l')) = (R.take k).flatMap (ob (et l')) ++ ob (et l') R[k]) := by show _ = _; rw [List.take_succ_eq_append_getElem hlt, List.flatMap_append]; simp
      have hO : ((R.take k).flatMap (ob (et l'))).length ≤ 10000 := by
        have h1 := flat_le (et l') (R.take k) (fun r hr => (HRg.out r (List.mem_of_mem_take hr)).2.1)
        have h2 : (R.take k).length ≤ 40 := by simp; omega
        omega
      generalize (R.take k).flatMap (ob (et l')) = O at HTk HI hO
      generalize R[k] = r at hIu hr0 hr40 hrnd hr1000 HTk
      have hcu' := (HB.out.cell (block_lt_of_cell hcu)).trans hcu
      obtain ⟨U1, U2, rfl⟩ := iw_sl hIu
      obtain ⟨ub, uo, rfl, hIr⟩ := is_row (iw_is hIu) hr0
      have HIr := Lib.hid hIr
      have HNd := Lib.hid hrnd
      have H1000 := Lib.hid hr1000
      have b11 := bA1 wr (.map #[] 0)
      have M1 : Hid (Iv wx wr.heap.size (wr.alloc (.map #[] 0)) (.slice I1 O.length I2) (O ++ []) (fun _ => false) 0) := ⟨bon HB.out b11, by rw [List.append_nil]; exact own_on HI.out b11, IM.new (nb0 _ _)⟩
      have hwm : wx.heap.size ≤ wr.heap.size := HB.out.size
      clear hcu hIu hIr hrnd hr1000 HB HI b11
      have hmm := @run_makeMap Tryz.prog
      go_wp2_with fail
      clear hmm
      generalize wr.heap.size = mb at M1 hwm ⊢
      go_loopw [12, 59] (fun v x W => ∃ (q : Nat) (told : Nat → Bool) (D : List Nat), q ≤ r.length ∧ x = .int .i64 q ∧ Hid (Iv wx mb W v (O ++ D) told q) ∧ Hid (Tl (et l') r q told D)) (fun _ i _ => r.length - (intOf i).toNat)
      case atStart => exact ⟨0, _, _, Nat.zero_le _, rfl, M1, tl_0 _ _⟩
      case round =>
        obtain ⟨q, told, D, hq, rfl, HV, HTl⟩ := hrel
        obtain ⟨J1, J2, rfl⟩ := iw_sl HV.out.o
        by_cases hltq : q < r.length
        · obtain ⟨b, hbst, hTl2⟩ := tl_next HTl.out hltq HNd.out
          have HBs := Lib.hid hbst
          have HT2 := Lib.hid hTl2
          obtain ⟨hbr, hbt⟩ := bst_in hbst
          have hb1000 := H1000.out b hbr
          have hDl : (O ++ D).length ≤ 100000 := by have := HTl.out.dl; simp; omega
          obtain ⟨ws, rfl⟩ : ∃ ws, ws = wr := ⟨_, rfl⟩
          clear hbst hTl2 HTl M1 hcu'
          have HOD : Hid (O ++ (D ++ [b]) = (O ++ D) ++ [b]) := (List.append_assoc _ _ _).symm
          generalize O ++ D = OD at HV hDl HOD ⊢
          go_wp2_with fail
          go_loopw [16, 63] (fun v x W => ∃ i : Nat, i ≤ r.length ∧ x = .int .i64 i ∧ v = .int .i64 (bI ((r.take i).find? (frL (et l') r told))) ∧ Hid (Below ws.heap.size ws W)) (fun _ i _ => r.length - (intOf i).toNat)
          case atStart => exact ⟨0, Nat.zero_le _, rfl, rfl, Below.refl _ _⟩
          case round =>
            obtain ⟨i, hi, rfl, rfl, HBw⟩ := hrel
            by_cases hlti : i < r.length
            · have hV := HV.out.on HBw.out
              have cV := (HIr.out.on hV.b).c i hlti
              have hv1000 := H1000.out _ (List.getElem_mem hlti)
              have hlk := hV.m.look r[i] (by omega)
              have HFt := Lib.hid (find_take (frL (et l') r told) r i hlti)
              generalize (r.take i).find? (frL (et l') r told) = o at HFt ⊢
              have HSa := Lib.hid (strong_any l' r told r[i])
              have HfrL : Hid (frL (et l') r told r[i] = (!told r[i] && !(r.any fun u => !decide (u = r[i]) && (et l' u r[i] && !told u)))) := rfl
              rw [← HSa.out] at HfrL
              generalize r[i] = v at cV hv1000 hlk HFt HfrL
              clear hV HSa
              generalize ht : told v = tv at hlk HfrL
              have HTv := Lib.hid ht
              clear ht
              go_wp2_with fail
              go_loopw [19, 73] (fun f x W => ∃ j : Nat, j ≤ l'.length ∧ x = .int .i64 j ∧ f = .bool (!tv && !((l'.take j).any fun e => r.any fun u => Pq told v e u)) ∧ Hid (Below ws.heap.size ws W)) (fun _ i _ => l'.length - (intOf i).toNat)
              case atStart => exact ⟨0, Nat.zero_le _, rfl, by cases tv <;> rfl, HBw⟩
              case round =>
                obtain ⟨j, hj, rfl, rfl, HBj⟩ := hrel
                by_cases hltj : j < l'.length
                · obtain ⟨eb, eo, rfl, hEr⟩ := es_row (HE'.out.on (bon HB10.out (HV.out.on HBj.out).b)) (by omega)
                  have c0 := hEr.c0 j hltj
                  have c1 := hEr.c1 j hltj
                  have HTj := Lib.hid (any_takeE (fun e => r.any fun u => Pq told v e u) l' j hltj)
                  generalize (l'.take j).any (fun e => r.any fun u => Pq told v e u) = P0 at HTj ⊢
                  generalize l'[j] = e at c0 c1 HTj
                  obtain ⟨x, y⟩ := e
                  dsimp only at c0 c1
                  have b12 := bA1 wr (.cells #[.int .i64 x, .int .i64 y] 107)
                  have HBe := Lib.hid (bon HBj.out b12)
                  have HEx : Hid (∀ W, Below (wr.heap.size + 1) (wr.alloc (.cells #[.int .i64 x, .int .i64 y] 107)) W → W.cell? ⟨wr.heap.size, 0, none⟩ = some (.int .i64 x) ∧ W.cell? ⟨wr.heap.size, 1, none⟩ = some (.int .i64 y)) := fun W hW => ⟨by rw [hW.cell (by simp)]; simp, by rw [hW.cell (by simp)]; simp⟩
                  obtain ⟨we, hwe⟩ : ∃ we, we = wr.alloc (.cells #[.int .i64 x, .int .i64 y] 107) := ⟨_, rfl⟩
                  have hse : we.heap.size = wr.heap.size + 1 := by rw [hwe]; simp
                  rw [← hwe, ← hse] at HEx
                  rw [← hwe] at HBe
                  have HWE := Lib.hid hwe
                  clear hEr b12 hwe hlk cV
                  generalize hF0 : (!tv && !P0) = F0
                  have HF0 := Lib.hid hF0
                  clear hF0
                  go_wp2_with fail
                  go_loopw [19, 79] (fun f z W => ∃ m : Nat, m ≤ r.length ∧ z = .int .i64 m ∧ f = .bool (F0 && !((r.take m).any (Pq told v (x, y)))) ∧ Hid (Below ws.heap.size ws W) ∧ Hid (Below we.heap.size we W)) (fun _ i _ => r.length - (intOf i).toNat)
                  case atStart => exact ⟨0, Nat.zero_le _, rfl, by simp, by rw [← HWE.out]; exact HBe, by rw [← HWE.out]; exact Below.refl _ _⟩
                  case round =>
                    obtain ⟨m, hm, rfl, rfl, HBm, HBn⟩ := hrel
                    by_cases hltm : m < r.length
                    · have hVm := HV.out.on HBm.out
                      have cU := (HIr.out.on hVm.b).c m hltm
                      have hu1000 := H1000.out _ (List.getElem_mem hltm)
                      have hlk := hVm.m.look r[m] (by omega)
                      obtain ⟨e0, e1⟩ := HEx.out _ HBn.out
                      have HTm := Lib.hid (any_take (Pq told v (x, y)) r m hltm)
                      generalize (r.take m).any (Pq told v (x, y)) = P1 at HTm ⊢
                      generalize r[m] = u at cU hu1000 hlk HTm
                      have HK0 : Hid (Pq told v (x, y) u = false → (F0 && !((r.take (m + 1)).any (Pq told v (x, y)))) = (F0 && !P1)) := fun h => by rw [HTm.out, h, Bool.or_false]
                      have HK1 : Hid (Pq told v (x, y) u = true → (F0 && !((r.take (m + 1)).any (Pq told v (x, y)))) = false) := fun h => by rw [HTm.out, h]; simp
                      generalize (F0 && !P1) = F1 at HK0 ⊢
                      generalize ht : told u = tu at hlk
                      have HTu := Lib.hid ht
                      clear hVm HTm ht HEx
                      by_cases h1 : x = (u : Int)
                      · by_cases h2 : y = (v : Int)
                        · by_cases h3 : u = v
                          · have e5 := Lib.hid (HK0.out (by unfold Pq; simp [h3]))
                            subst h1 h2 h3
                            clear HK0 HK1
                            go_wp2_with fail
                            exact ⟨⟨m + 1, hltm, by go_num, congrArg Value.bool e5.out.symm, HBm, HBn⟩, by simp [intOf]; omega⟩
                          · have h3' : ¬ (u : Int) = (v : Int) := by omega
                            cases tu with
                            | false =>
                              have e5 := Lib.hid (HK1.out (by unfold Pq; simp [h1, h2, h3, HTu.out]))
                              subst h1 h2
                              clear HK0 HK1
                              have e6 : tI false = 0 := rfl
                              rw [e6] at hlk
                              go_wp2_with fail
                              exact ⟨⟨m + 1, hltm, by go_num, congrArg Value.bool e5.out.symm, HBm, HBn⟩, by simp [intOf]; omega⟩
                            | true =>
                              have e5 := Lib.hid (HK0.out (by unfold Pq; simp [HTu.out]))
                              subst h1 h2
                              clear HK0 HK1
                              have e6 : tI true = 1 := rfl
                              rw [e6] at hlk
                              go_wp2_with fail
                              exact ⟨⟨m + 1, hltm, by go_num, congrArg Value.bool e5.out.symm, HBm, HBn⟩, by simp [intOf]; omega⟩
                        · have e5 := Lib.hid (HK0.out (by unfold Pq; simp [h2]))
                          subst h1
                          clear HK0 HK1
                          go_wp2_with fail
                          exact ⟨⟨m + 1, hltm, by go_num, congrArg Value.bool e5.out.symm, HBm, HBn⟩, by simp [intOf]; omega⟩
                      · have e5 := Lib.hid (HK0.out (by unfold Pq; simp [h1]))
                        clear HK0 HK1
                        go_wp2_with fail
                        exact ⟨⟨m + 1, hltm, by go_num, congrArg Value.bool e5.out.symm, HBm, HBn⟩, by simp [intOf]; omega⟩
                    · have em : m = r.length := by omega
                      subst em
                      rw [List.take_of_length_le (Nat.le_refl _)]
                      have e5 : Hid ((F0 && !(r.any (Pq told v (x, y)))) = (!tv && !((l'.take (j + 1)).any fun e => r.any fun u => Pq told v e u))) := by
                        show _ = _
                        rw [HTj.out, ← HF0.out]
                        cases tv <;> cases P0 <;> simp
                      generalize (F0 && !(r.any (Pq told v (x, y)))) = F2 at e5 ⊢
                      go_wp2_with fail
                      exact ⟨⟨j + 1, hltj, by go_num, congrArg Value.bool e5.out, HBm⟩, by simp [intOf]; omega⟩
                · have ej : j = l'.length := by omega
                  subst ej
                  rw [List.take_of_length_le (Nat.le_refl _), ← HfrL.out]
                  clear HfrL hlk cV
                  generalize frL (et l') r told v = fr at HFt ⊢
                  cases o with
                  | none =>
                    rw [show bI none = -1 from rfl]
                    cases fr with
                    | false =>
                      go_wp2_with fail
                      exact ⟨⟨i + 1, hlti, by go_num, congrArg (Value.int .i64) (by rw [HFt.out]; rfl), HBj⟩, by simp [intOf]; omega⟩
                    | true =>
                      go_wp2_with fail
                      exact ⟨⟨i + 1, hlti, by go_num, congrArg (Value.int .i64) (by rw [HFt.out]; rfl), HBj⟩, by simp [intOf]; omega⟩
                  | some y =>
                    rw [show bI (some y) = (y : Int) from rfl]
                    have hy : ¬ (y : Int) < 0 := by omega
                    cases fr with
                    | false =>
                      go_wp2_with fail
                      exact ⟨⟨i + 1, hlti, by go_num, congrArg (Value.int .i64) (by rw [HFt.out]; rfl), HBj⟩, by simp [intOf]; omega⟩
                    | true =>
                      go_wp2_with fail
                      exact ⟨⟨i + 1, hlti, by go_num, congrArg (Value.int .i64) (by rw [HFt.out]; rfl), HBj⟩, by simp [intOf]; omega⟩
            · have ei : i = r.length := by omega
              subst ei
              rw [List.take_of_length_le (Nat.le_refl _)]
              have HBs2 : Hid ((r.find? (frL (et l') r told)).or (r.find? fun v => !told v) = some b) := HBs
              generalize r.find? (frL (et l') r told) = o1 at HBs2 ⊢
              go_wp2_with fail
              go_loopw [16, 115] (fun v x W => ∃ i : Nat, i ≤ r.length ∧ x = .int .i64 i ∧ v = .int .i64 (bI (o1.or ((r.take i).find? fun v => !told v))) ∧ Hid (Below ws.heap.size ws W)) (fun _ i _ => r.length - (intOf i).toNat)
              case atStart => exact ⟨0, Nat.zero_le _, rfl, by simp, HBw⟩
              case round =>
                obtain ⟨i, hi, rfl, rfl, HBi⟩ := hrel
                have hV := HV.out.on HBi.out
                by_cases hlti : i < r.length
                · have cV := (HIr.out.on hV.b).c i hlti
                  have hv1000 := H1000.out _ (List.getElem_mem hlti)
                  have hlk := hV.m.look r[i] (by omega)
                  have HFt : Hid (o1.or ((r.take (i + 1)).find? fun v => !told v) = (o1.or ((r.take i).find? fun v => !told v)).or (if (!told r[i]) = true then some r[i] else none)) := by
                    show _ = _
                    rw [find_take (fun v => !told v) r i hlti, Option.or_assoc]
                  generalize o1.or ((r.take i).find? fun v => !told v) = o at HFt ⊢
                  generalize r[i] = v at cV hv1000 hlk HFt
                  generalize told v = tv at hlk HFt
                  clear hV
                  cases o with
                  | none =>
                    rw [show bI none = -1 from rfl]
                    cases tv with
                    | false =>
                      have e6 : tI false = 0 := rfl
                      rw [e6] at hlk
                      go_wp2_with fail
                      exact ⟨⟨i + 1, hlti, by go_num, congrArg (Value.int .i64) (by rw [HFt.out]; rfl), HBi⟩, by simp [intOf]; omega⟩
                    | true =>
                      have e6 : tI true = 1 := rfl
                      rw [e6] at hlk
                      go_wp2_with fail
                      exact ⟨⟨i + 1, hlti, by go_num, congrArg (Value.int .i64) (by rw [HFt.out]; rfl), HBi⟩, by simp [intOf]; omega⟩
                  | some y =>
                    rw [show bI (some y) = (y : Int) from rfl]
                    have hy : ¬ (y : Int) < 0 := by omega
                    go_wp2_with fail
                    exact ⟨⟨i + 1, hlti, by go_num, congrArg (Value.int .i64) (by rw [HFt.out]; rfl), HBi⟩, by simp [intOf]; omega⟩
                · have ei : i = r.length := by omega
                  subst ei
                  rw [List.take_of_length_le (Nat.le_refl _), HBs2.out, show bI (some b) = (b : Int) from rfl]
                  have hlk := hV.m.look b (by omega)
                  obtain ⟨W', e1, hM', hK'⟩ := hV.m.put b (by omega) (by omega) 1 hbt
                  have hI' := own_map hV.o hV.m hK'
                  have HB' := Lib.hid (hV.b.trans (hK'.below hV.b.size (fun j e => by omega)))
                  have hsz := HB'.out.size
                  have HM' := Lib.hid hM'
                  have HBs3 := HBs2
                  rw [hbt, show tI false = 0 from rfl] at hlk
                  clear hV hM' hK' HBs HBs2 HBs3 HBw HBi HV
                  go_wp2_with (first | (at_builtin; refine wpList_ap b hI' (by omega) hsz rfl _ _ rfl rfl _ rfl rfl ?_; intro g7 c7' w7' hI7 hB7 hgr; have HG := Lib.hid ((HM'.out.on (bA1 _ _)).grown (hI'.alloc _) hgr); have HI7 := Lib.hid hI7; have HB7 := Lib.hid (HB'.out.trans (hB7 _ (Nat.le_refl _))); clear hI7 hB7 hgr hI') | fail)
                  have hm : IM w7' mb (fun k => tI (decide (k = b) || told k)) (fun v => decide (v = b) || told v) (q + 1) := by
                    have h9 := HG.out
                    have e9 : (fun j => if j = b then (1 : Int) else tI (told j)) = fun k => tI (decide (k = b) || told k) := by
                      funext j
                      by_cases hj : j = b
                      · simp [hj, tI]
                      · simp [hj]
                    rw [e9] at h9
                    exact h9
                  refine ⟨⟨q + 1, fun v => decide (v = b) || told v, D ++ [b], hltq, by go_num, ?_, HT2⟩, by simp [intOf]; omega⟩
                  rw [HOD.out]
                  exact ⟨HB7.out, HI7.out, hm⟩
        · have eq : q = r.length := by omega
          subst eq
          have HI2 : Hid (Iw wr wx.heap.size (.slice J1 (O ++ D).length J2) ((R.take (k + 1)).flatMap (ob (et l')))) := by
            rw [HTk.out, ← tl_end HTl.out]
            exact HV.out.o
          have HB2 := Lib.hid HV.out.b
          generalize (O ++ D).length = ln at HI2 ⊢
          clear HV HTl M1 hcu'
          go_wp2_with fail
          exact ⟨⟨k + 1, hlt, by go_num, HB2, HI2⟩, by simp [intOf]; omega⟩
    · have ek : k = R.length := by omega
      subst ek
      have HI2 : Hid (Iw wr wx.heap.size (.slice I1 ((R.take R.length).flatMap (ob (et l'))).length I2) LL) := by
        rw [HLn.out]
        have h9 := HI.out
        rw [List.take_of_length_le (Nat.le_refl _)] at h9 ⊢
        exact h9
      generalize ((R.take R.length).flatMap (ob (et l'))).length = ln at HI2 ⊢
      obtain ⟨kl, q0, q1, f0, f1⟩ := HK10.out.on HB.out
      have HBf := Lib.hid (bon HB10.out HB.out)
      have g0 := (HFi.out.on HBf.out).c0
      have g1 := (HFi.out.on HBf.out).c1
      have hwl : w.heap.size < wx.heap.size := HK10.out.lt
      clear HI HLn HK10 HB10 HB HR10 HRg
      go_wp2_with fail
      go_region
      go_wp2_with fail
      refine bodyPost_ret (v := .tuple #[.slice I1 ln I2, .agg #[.int .i64 0, .int .i64 (-1)]]) (by simp [results, Tryz.results57, go_sem, q0, q1]) rfl ⟨_, rfl, ?_, ((HBf.out.setCell (Nat.le_refl _) _).setCell (Nat.le_refl _) _).drew⟩
      have kp : Kp (· = w.heap.size) wr (((wr.setCell ⟨w.heap.size, 0, none⟩ (.int .i64 0)).setCell ⟨w.heap.size, 1, none⟩ (.int .i64 (-1))).drew) := (((Kp.refl (· = w.heap.size) wr).set (p := ⟨w.heap.size, 0, none⟩) rfl _).set (p := ⟨w.heap.size, 1, none⟩) rfl _).drew
      exact own_low (own_kp HI2.out kp (fun y e => by obtain rfl : y = w.heap.size := e; exact hwl)) (Nat.le_of_lt hwl)
end Go.Proofs.YthijccmiemlilaaGreatDoor.Ord
namespace Go.Proofs.YthijccmiemlilaaGreatDoor.Ord
open Go.RowKit Go.Sort

/-- What the line is. -/
def li (n : Int) (l l' : List E) : List Nat := match ro2 n l l' with
  | .ok => lin (Om.cl n.toNat (et (l ++ l'))) (et l') n.toNat
  | _ => []
theorem li_ok {n : Nat} {l l' : List E} (h : ro2 n l l' = .ok) : li n l l' = lin (Om.cl n (et (l ++ l'))) (et l') n := by unfold li; rw [h]; rfl
theorem li_no {n : Int} {l l' : List E} (h : ro2 n l l' ≠ .ok) : li n l l' = [] := by
  unfold li
  rcases e : ro2 n l l' with _ | _ | i
  · exact absurd e h
  · rfl
  · rfl
theorem ro2_both {n : Int} {l l' : List E} (h : ro2 n l l' = .ok) : ∃ k : Nat, n = k ∧ k ≤ 40 ∧ roL k l = .ok ∧ roL k l' = .ok := by
  obtain ⟨r1, r2⟩ := ro2_ok h
  obtain ⟨k, rfl, hk, hr1⟩ := ro_ok r1
  obtain ⟨k', hk', _, hr2⟩ := ro_ok r2
  have e : k' = k := by omega
  subst e
  exact ⟨k', rfl, hk, hr1, hr2⟩
theorem li_len (n : Int) (l l' : List E) : (li n l l').length ≤ 40 := by
  by_cases h : ro2 n l l' = .ok
  · obtain ⟨k, rfl, hk, _, _⟩ := ro2_both h
    rw [li_ok h, (lin_all (cl_wy _ _) _).1]
    exact hk
  · rw [li_no h]; simp
theorem rline_any (n : Int) (A A' : Option Addr) (c c' : Nat) (l l' : List E) (w : World) (hl : l.length ≤ 20000) (hl' : l'.length ≤ 20000) (h : Es w (.slice A l.length c) l) (h' : Es w (.slice A' l'.length c') l') (hA : A = none → c = 0) (hA' : A' = none → c' = 0) (hF : Fi w) : Calls Tryz.prog 57 #[.int .i64 n, .slice A l.length c, .slice A' l'.length c'] w fun e w' => ∃ v, e = .returned (.tuple #[v, fv (ro2 n l l')]) ∧ Iw w' w.heap.size v (li n l l') ∧ Below w.heap.size w w' := by
  by_cases hr : ro2 n l l' = .ok
  · obtain ⟨k, rfl, hk, h1, h2⟩ := ro2_both hr
    rw [hr, li_ok hr]
    exact rline_in k A A' c c' l l' w hk hl hl' h h' hA hA' hF h1 h2
  · rw [li_no hr]
    by_cases h1 : ro n l = .ok
    · have e : ro2 n l l' = ro n l' := by unfold ro2; rw [h1]
      rw [e] at hr ⊢
      refine (rline_no2 n A A' c c' l l' w (by omega) (by omega) h h' hF h1 hr).mono ?_
      rintro e w1 ⟨rfl, b1⟩
      exact ⟨_, rfl, World.ownsRow_nil _ _ _ _, b1⟩
    · have e : ro2 n l l' = ro n l := by
        unfold ro2
        split
        · rename_i h2; exact absurd h2 h1
        · rfl
      rw [e]
      refine (rline_no1 n A A' c l'.length c' l w (by omega) h hF h1).mono ?_
      rintro e w1 ⟨rfl, b1⟩
      exact ⟨_, rfl, World.ownsRow_nil _ _ _ _, b1⟩
theorem pline_any (n : Int) (A A' : Option Addr) (c c' : Nat) (l l' : List E) (w : World) (hl : l.length ≤ 1000000) (hl' : l'.length ≤ 1000000) (h : Es w (.slice A l.length c) l) (h' : Es w (.slice A' l'.length c') l') : Calls Tryz.prog 56 #[.int .i64 n, .slice A l.length c, .slice A' l'.length c'] w fun e w' => ∃ v u, e = .returned (.tuple #[v, u]) ∧ Iw w' w.heap.size v (li n l l') ∧ Ev w' (ro2 n l l') u ∧ Below w.heap.size w w' := by
  by_cases hr : ro2 n l l' = .ok
  · obtain ⟨k, rfl, hk, h1, h2⟩ := ro2_both hr
    rw [hr, li_ok hr]
    refine (Line_ok k A A' c c' l l' w hk hl hl' h h' h1 h2).mono ?_
    rintro e w1 ⟨v, rfl, i1, b1⟩
    exact ⟨v, _, rfl, i1, rfl, b1⟩
  · refine (Line_no n A A' c c' l l' w hl hl' h h' hr).mono ?_
    rintro e w1 ⟨v, rfl, i1, b1⟩
    rw [li_no hr]
    exact ⟨_, v, rfl, World.ownsRow_nil _ _ _ _, i1, b1⟩
end Go.Proofs.YthijccmiemlilaaGreatDoor.Ord
