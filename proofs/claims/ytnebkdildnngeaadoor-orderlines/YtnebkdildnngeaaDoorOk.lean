/- Line. -/
import Derived.Test.YtnebkdildnngeaaDoorOj
namespace Go.Proofs.YtnebkdildnngeaaDoor
open Go.RowKit Go.Sort

/-- More numbers are appended. -/
theorem wpList_ap2 {W : World} {B : Nat} {S : Value} {l m : List Nat} {b o cx : Nat} (h : Iw W B S l) (hm : Ir W b o m) (h0 : 0 < m.length) (hl : l.length ≤ 1000000) (hml : m.length ≤ 1000000) (hB : B ≤ W.heap.size)
    {ops : Array Oper} {rest : List Oper} {op : Oper} {a : Act} {Q : Exit → Act → World → Prop} (hg : op.guard = none) (s x : Operand) (hop : op.op = Op.call { callee := Callee.builtin Builtin.append, args := #[s, x], argTypes := #[37, 37] }) (hs : a.eval s = S) (hx : a.eval x = .slice (some ⟨b, o, none⟩) m.length cx)
    (K : ∀ g c w6, Iw w6 B (.slice (some ⟨g, 0, none⟩) (l ++ m).length c) (l ++ m) → W.grownBy w6 S.ownBlock → (S.ownBlock = some g ∨ g = W.heap.size) → wpList Tryd.prog ops Q rest (a.put op.dst (.slice (some ⟨g, 0, none⟩) (l ++ m).length c)) w6) :
    wpList Tryd.prog ops Q (op :: rest) a W := by
  obtain ⟨i0, hi0, hz0, hz1, hz2⟩ := infoQ info3
  have news : ∀ j u, (m.map eI)[j]? = some u → W.cell? ((⟨b, o, none⟩ : Addr).add j) = some u := fun j u hj => by
    rw [List.getElem?_map] at hj
    obtain ⟨k, hk, rfl⟩ := Option.map_eq_some_iff.1 hj
    obtain ⟨h1, rfl⟩ := List.getElem?_eq_some_iff.1 hk
    rw [Addr.add_lit]
    exact hm.c j h1
  have ones : ∀ u ∈ m.map eI, u.oneCell' = true := by intro u hu; obtain ⟨k, _, rfl⟩ := List.mem_map.1 hu; rfl
  refine wpList_append_lies _ hg s x 37 hop B 3 i0 _ 1 8 Tryd.underlying37 hi0 hz0 hz1 hz2 rfl (by decide) _ _ _ hs h ⟨b, o, none⟩ m.length cx (m.map eI) hx (by simp) news ones h0 (by unfold maxLen; omega) (by omega) hB _ rfl ?_
  intro g' c' w6 hown hgr hor _
  have e : (l ++ m).length = l.length + m.length := by simp
  have h2 : Iw w6 B (.slice (some ⟨g', 0, none⟩) (l ++ m).length c') (l ++ m) := by
    unfold Iw
    rw [e, List.map_append]; exact hown
  have := K g' c' w6 h2 hgr hor
  rw [e] at this
  exact this
/-- Rows of the call's own stay where others turn. -/
theorem Rl.kp {W W' : World} {B : Nat} {v : Value} {R : List (List Nat)} {S : Nat → Prop} (h : Rl W B v R) (k : Kp S W W') (hS : ∀ j, S j → j < B) : Rl W' B v R := by
  obtain ⟨vs, h1, h2, h3⟩ := h.is
  exact ⟨vs, h1, own_kp h2 k hS, fun i a b => own_kp (h3 i a b) k hS⟩
theorem rl_at {W : World} {B : Nat} {A : Option Addr} {n c : Nat} {R : List (List Nat)} (h : Rl W B (.slice A n c) R) (j : Nat) (hj : j < R.length) : ∃ g u, A = some ⟨g, 0, none⟩ ∧ W.cell? ⟨g, j, none⟩ = some u ∧ Iw W B u R[j] := by
  obtain ⟨vs, h1, h2, h3⟩ := h.is
  have h2' := h2
  rcases h2'.2 with ⟨h', h0⟩ | ⟨g, cap, cur, h', _⟩
  · omega
  · cases h'
    refine ⟨g, vs[j], rfl, ?_, h3 j (by omega) hj⟩
    rw [World.ownsRow.cellAt h2 j (by omega)]
    simp
/-- The line. -/
def lin (C S : Om.T) (n : Nat) : List Nat := (rgs C n).flatMap (ob S)
theorem seto_in {C : Om.T} {n f : Nat} (hf : f < n) (hc : C f f = true) : f ∈ seto C n f := by unfold seto; rw [List.mem_filter]; simp [hf, hc]
theorem seto_lt {C : Om.T} {n f a : Nat} (h : a ∈ seto C n f) : a < n := by unfold seto at h; rw [List.mem_filter] at h; simpa using h.1
theorem seto_le (C : Om.T) (n f : Nat) : (seto C n f).length ≤ n := filt_le _ _
theorem rgs_at {C : Om.T} {n : Nat} (hC : ∀ a, a < n → C a a = true) {r : List Nat} (h : r ∈ rgs C n) : 0 < r.length ∧ r.length ≤ n ∧ ∀ a ∈ r, a < n := by
  obtain ⟨f, hf, rfl⟩ := List.mem_map.1 h
  have hl := fsts_lt C n f (ob_mem hf)
  exact ⟨List.length_pos_of_mem (seto_in hl (hC f hl)), seto_le C n f, fun a ha => seto_lt ha⟩
theorem rgs_len (C : Om.T) (n : Nat) : (rgs C n).length ≤ n := by unfold rgs; rw [List.length_map, ob_len]; exact fsts_le C n
/-- Lists of at most forty numbers, as many as there are. -/
theorem flat_le (S : Om.T) (R : List (List Nat)) (h : ∀ r ∈ R, r.length ≤ 40) : (R.flatMap (ob S)).length ≤ R.length * 40 := by
  induction R with
  | nil => simp
  | cons r R ih =>
    have h1 := h r (by simp)
    have h2 := ih fun x hx => h x (by simp [hx])
    rw [List.flatMap_cons, List.length_append, ob_len, List.length_cons]
    omega
/-- Where Line stands. -/
structure Ln (w w5 : World) (B0 B5 g0 : Nat) (W : World) (v : Value) (D : List Nat) : Prop where
  bel : Below w.heap.size w W
  kp : Kp (· = g0) w5 W
  own : Iw W B0 v D
  sl : ∃ g c, v = .slice (some ⟨g, 0, none⟩) D.length c ∧ (g = g0 ∨ w5.heap.size ≤ g)
theorem Ln.on {w w5 : World} {B0 B5 g0 : Nat} {W W' : World} {v : Value} {D : List Nat} (h : Ln w w5 B0 B5 g0 W v D) (k : Below W.heap.size W W') : Ln w w5 B0 B5 g0 W' v D :=
  ⟨bon h.bel k, h.kp.trans ⟨k.os, k.tape, k.output, k.size, fun i hi _ => k.block i hi⟩, own_on h.own k, h.sl⟩
theorem Ln.put {w w5 : World} {B0 B5 g0 : Nat} {W W' : World} {v : Value} {D D' : List Nat} {g' c' : Nat} (h : Ln w w5 B0 B5 g0 W v D) (hg : W.grownBy W' v.ownBlock) (ho : Iw W' B0 (.slice (some ⟨g', 0, none⟩) D'.length c') D') (hor : v.ownBlock = some g' ∨ g' = W.heap.size) (hB : w.heap.size ≤ B0) : Ln w w5 B0 B5 g0 W' (.slice (some ⟨g', 0, none⟩) D'.length c') D' := by
  obtain ⟨g, c, rfl, hgg⟩ := h.sl
  have hs : ∀ k, (Value.slice (some ⟨g, 0, none⟩) D.length c).ownBlock = some k → k = g := fun k e => by cases e; rfl
  refine ⟨h.bel.grown hg h.bel.size (fun k e => ?_), ⟨hg.os.trans h.kp.os, hg.tape.trans h.kp.tape, hg.output.trans h.kp.output, Nat.le_trans h.kp.size hg.size, fun i hi hne => (hg.block i (Nat.lt_of_lt_of_le hi h.kp.size) (fun e => ?_)).trans (h.kp.block i hi hne)⟩, ho, g', c', rfl, ?_⟩
  · have := (h.own.lt k e).1; omega
  · have e2 := hs i e.symm
    subst e2
    rcases hgg with e3 | e3
    · exact hne e3
    · omega
  · rcases hor with e | e
    · rw [hs g' e]; exact hgg
    · exact .inr (by rw [e]; exact h.kp.size)
set_option maxHeartbeats 3200000 in
set_option maxRecDepth 100000 in
theorem Line_ok (n : Nat) (A A' : Option Addr) (c c' : Nat) (l l' : List E) (w : World) (hn : n ≤ 40) (hl : l.length ≤ 1000000) (hl' : l'.length ≤ 1000000) (h : Es w (.slice A l.length c) l) (h' : Es w (.slice A' l'.length c') l') (hr : roL n l = .ok) (hr' : roL n l' = .ok) : Calls Tryd.prog 11 #[.int .i64 n, .slice A l.length c, .slice A' l'.length c'] w fun e w' => ∃ v, e = .returned (.tuple #[v, .nilIface]) ∧ Iw w' w.heap.size v (lin (Om.cl n (et (l ++ l'))) (et l') n) ∧ Below w.heap.size w w' := by
  have cR := right_in n A c l w hn hl h
  have cR' := fun w1 (b1 : Below w.heap.size w w1) => right_in n A' c' l' w1 hn hl' (h'.on b1)
  have HE := Lib.hid h
  have HE' := Lib.hid h'
  have HR := Lib.hid hr
  have HR' := Lib.hid hr'
  obtain ⟨C, hC⟩ : ∃ C, C = Om.cl n (et (l ++ l')) := ⟨_, rfl⟩
  obtain ⟨S, hS⟩ : ∃ S, S = et l' := ⟨_, rfl⟩
  have HCr : Hid (∀ a, a < n → C a a = true) := fun a ha => by rw [hC]; exact Om.cl_refl _ ha
  rw [← hC, ← hS]
  have HC := Lib.hid hC
  have HS := Lib.hid hS
  clear h h' hr hr' hC hS
  go_enter Tryd.func11, Tryd.ntmps11
  go_wp2_with fail
  refine cR.mono ?_
  rintro e w1 ⟨v, rfl, hE, b1⟩
  obtain rfl := ev_ok hE HR.out
  have cR2 := cR' w1 b1
  clear cR cR' hE
  go_wp2_with fail
  refine cR2.mono ?_
  rintro e w2 ⟨v, rfl, hE, b2⟩
  obtain rfl := ev_ok hE HR'.out
  have k2 := bon b1 b2
  have b3 := bA1 w2 (.cells #[.slice A' l'.length c'] 33)
  have cE := edges_any w2.heap.size 1 [l'] (w2.alloc (.cells #[.slice A' l'.length c'] 33)) (el_one (HE'.out.on k2) 33) (by simp; exact rn40 (roL_ok HR'.out) hn) (by simpa using hl') (by simp)
  rw [show ([l'] : List (List E)).flatten = l' by simp, ← HS.out] at cE
  have k3 := bon k2 b3
  clear cR2 hE b1 b2 k2 b3
  go_wp2_with fail
  refine cE.mono ?_
  rintro e w4 ⟨g, rfl, hg, hT4, b4⟩
  have k4 := bon k3 b4
  have HK4 := Lib.hid k4
  have HT4 := Lib.hid (hT4.less hn)
  obtain ⟨i0, hi0, hz0, hz1, hz2⟩ := infoQ info3
  clear cE k3 b4 hT4
  have hk4 := k4.size
  clear k4
  have cG : Hid (∀ w6, Below w4.heap.size w4 w6 → Calls Tryd.prog 14 #[eI n, .slice (some ⟨w6.heap.size, 0, none⟩) 2 2] (w6.alloc (.cells #[.slice A l.length c, .slice A' l'.length c'] 33)) fun e w' => ∃ v, e = .returned v ∧ Rl w' (w6.heap.size + 1) v (rgs C n) ∧ Below (w6.heap.size + 1) (w6.alloc (.cells #[.slice A l.length c, .slice A' l'.length c'] 33)) w') := fun w6 h6 => by
    have k6 := bon HK4.out h6
    have := rings_any n w6.heap.size 2 [l, l'] (w6.alloc (.cells #[.slice A l.length c, .slice A' l'.length c'] 33)) hn (el_two (HE.out.on k6) (HE'.out.on k6) 33) (by simp; exact ⟨rn40 (roL_ok HR.out) hn, rn40 (roL_ok HR'.out) hn⟩) (by simp; exact ⟨hl, hl'⟩) (by simp)
    rw [show ([l, l'] : List (List E)).flatten = l ++ l' by simp, ← HC.out, World.size_alloc] at this
    exact this
  go_wp2_with (first | (at_make; refine wpList_make_own _ rfl _ _ 37 rfl w4.heap.size 3 i0 _ 1 Tryd.underlying37 hi0 hz0 hz1 _ _ _ n rfl rfl rfl (by rw [hz2]; omega) (by unfold maxLen; omega) (Nat.le_refl _) ?_; intro w5 hown5 hgr5) | fail)
  have h45 : Below w4.heap.size w4 w5 := (Below.refl _ _).grown hgr5 (Nat.le_refl _) (fun k e => by cases e)
  have cG5 := cG.out w5 h45
  have hlt5 : w4.heap.size < w5.heap.size := (hown5.lt _ rfl).2
  refine cG5.mono ?_
  rintro e w6 ⟨rv, rfl, hRl, b6⟩
  have b5a := bA1 w5 (.cells #[.slice A l.length c, .slice A' l'.length c'] 33)
  have b56 : Below w5.heap.size w5 w6 := b5a.trans (b6.mono (by omega))
  have k6 := bon (bon HK4.out h45) b56
  have h56 := b56.size
  have LN0 : Ln w w6 w4.heap.size 0 w4.heap.size w6 (.slice (some ⟨w4.heap.size, 0, none⟩) 0 n) [] := ⟨k6, Kp.refl _ _, own_on hown5 b56, _, _, rfl, .inl rfl⟩
  have HLN := Lib.hid LN0
  have HRl := Lib.hid hRl
  have HT6 : Hid (∀ W, Kp (· = w4.heap.size) w6 W → Tb W g n S) := fun W h => ((HT4.out.on h45).on b56).kp h (by have := HT4.out.lt; show ¬ g = _; omega)
  have HRat := Lib.hid (fun r (h : r ∈ rgs C n) => rgs_at HCr.out h)
  have hRn := rgs_len C n
  have HLi : Hid (lin C S n = (rgs C n).flatMap (ob S)) := rfl
  generalize rgs C n = R at HRl HRat hRn HLi hRl
  have HFl : Hid (∀ j, ((R.take j).flatMap (ob S)).length ≤ 1600) := fun j => by
    have h1 := flat_le S (R.take j) fun r hr => by have := (HRat.out r (List.mem_of_mem_take hr)).2.1; omega
    have h2 : (R.take j).length ≤ 40 := by simp; omega
    omega
  obtain ⟨Z1, Z2, rfl⟩ := rl_sl hRl
  clear cG5 cG hRl b6 b5a b56 k6 LN0 hown5 hgr5 h45 HT4 HK4
  go_wp2
  go_loopw [11, 37] (fun v i W => ∃ j : Nat, j ≤ R.length ∧ i = .int .i64 j ∧ Hid (Ln w w6 w4.heap.size 0 w4.heap.size W v ((R.take j).flatMap (ob S)))) (fun _ i _ => R.length - (intOf i).toNat)
  case atStart => exact ⟨0, Nat.zero_le _, rfl, HLN⟩
  case round =>
    obtain ⟨j, hj, rfl, HL⟩ := hrel
    by_cases hlt : j < R.length
    · obtain ⟨rg, u, rfl, hcu, hIu⟩ := rl_at (HRl.out.kp HL.out.kp (fun k e => by omega)) j hlt
      obtain ⟨hr0, hrn, hra⟩ := HRat.out R[j] (List.getElem_mem hlt)
      have HTk : Hid ((R.take (j + 1)).flatMap (ob S) = (R.take j).flatMap (ob S) ++ ob S R[j]) := by show _ = _; rw [List.take_succ_eq_append_getElem hlt, List.flatMap_append]; simp
      have hDl := HFl.out j
      generalize R[j] = r at hcu hIu hr0 hrn hra HTk
      generalize (R.take j).flatMap (ob S) = D at HL HTk hDl
      have cO := obo_any g n S r u hra (by omega) wr (HT6.out wr HL.out.kp) (iw_is hIu) (fun e => by rw [e] at hr0; simp at hr0)
      have hol := ob_len S r
      have HOl := Lib.hid hol
      generalize ob S r = o at cO HTk HOl hol
      obtain ⟨U1, U2, rfl⟩ := iw_sl hIu
      obtain ⟨lg, lc, rfl, _⟩ := HL.out.sl
      clear hIu hol
      go_wp2_with fail
      refine cO.mono ?_
      rintro e w7 ⟨v7, rfl, hI7, b7⟩
      have HL7 := Lib.hid (HL.out.on b7)
      obtain ⟨V1, V2, rfl⟩ := iw_sl hI7
      have ho0 : 0 < o.length := by have := HOl.out; omega
      obtain ⟨ob7, oo7, rfl, hIr7⟩ := is_row (iw_is hI7) ho0
      have hown7 := HL7.out.own
      have hs7 : w4.heap.size ≤ w7.heap.size := Nat.le_trans (by omega) (Nat.le_trans HL7.out.kp.size (Nat.le_refl _))
      have hol40 : o.length ≤ 40 := by have := HOl.out; omega
      clear cO hI7 b7 HL
      go_wp2_with (first | (at_builtin; refine wpList_ap2 hown7 hIr7 ho0 (by omega) (by omega) hs7 rfl _ _ rfl rfl rfl ?_; intro g8 c8 w8 hI8 hgr8 hor8) | fail)
      exact ⟨⟨j + 1, hlt, by go_num, by rw [HTk.out]; have h9 := HL7.out.put hgr8 hI8 hor8 hk4; rw [List.length_append] at h9; exact h9⟩, by simp [intOf]; omega⟩
    · have ej : j = R.length := by omega
      subst ej
      rw [List.take_of_length_le (Nat.le_refl _), ← HLi.out] at HL
      obtain ⟨lg, lc, rfl, _⟩ := HL.out.sl
      go_wp2
      go_ret2
      exact ⟨_, rfl, own_low HL.out.own hk4, HL.out.bel⟩
theorem right_any (n : Int) (A : Option Addr) (c : Nat) (l : List E) (w : World) (hl : l.length ≤ 1000000) (h : Es w (.slice A l.length c) l) : Calls Tryd.prog 13 #[.int .i64 n, .slice A l.length c] w fun e w' => ∃ v, e = .returned v ∧ Ev w' (ro n l) v ∧ Below w.heap.size w w' := by
  by_cases hn : n < 0 ∨ 40 < n
  · refine (right_lim n _ w hn).mono ?_
    rintro e w' ⟨rfl, rfl⟩
    exact ⟨_, rfl, by unfold ro; rw [if_pos hn]; rfl, Below.refl _ _⟩
  · obtain ⟨k, rfl, hk⟩ := nat_of (z := n) (n := 41) (by omega) (by omega)
    have := right_in k A c l w (by omega) hl h
    rw [show roL k l = ro k l by unfold ro; rw [if_neg hn]] at this
    exact this
/-- Two errors, one behind the other. -/
def ro2 (n : Int) (l l' : List E) : Ro := match ro n l with | .ok => ro n l' | r => r
theorem ro2_ok {n : Int} {l l' : List E} (h : ro2 n l l' = .ok) : ro n l = .ok ∧ ro n l' = .ok := by
  unfold ro2 at h
  split at h
  · rename_i e; exact ⟨e, h⟩
  · rename_i r hr; exact absurd h hr
theorem ro_ok {n : Int} {l : List E} (h : ro n l = .ok) : ∃ k : Nat, n = k ∧ k ≤ 40 ∧ roL k l = .ok := by
  unfold ro at h
  split at h
  · cases h
  · rename_i hn
    obtain ⟨k, rfl, hk⟩ := nat_of (z := n) (n := 41) (by omega) (by omega)
    exact ⟨k, rfl, by omega, h⟩
set_option maxHeartbeats 1600000 in
set_option maxRecDepth 100000 in
theorem Line_no (n : Int) (A A' : Option Addr) (c c' : Nat) (l l' : List E) (w : World) (hl : l.length ≤ 1000000) (hl' : l'.length ≤ 1000000) (h : Es w (.slice A l.length c) l) (h' : Es w (.slice A' l'.length c') l') (hr : ro2 n l l' ≠ .ok) : Calls Tryd.prog 11 #[.int .i64 n, .slice A l.length c, .slice A' l'.length c'] w fun e w' => ∃ v, e = .returned (.tuple #[.slice none 0 0, v]) ∧ Ev w' (ro2 n l l') v ∧ Below w.heap.size w w' := by
  have cR := right_any n A c l w hl h
  have cR' := fun w1 (b1 : Below w.heap.size w w1) => right_any n A' c' l' w1 hl' (h'.on b1)
  obtain ⟨r, hr2⟩ : ∃ r, r = ro2 n l l' := ⟨_, rfl⟩
  rw [← hr2] at hr ⊢
  have HR : Hid (r = match ro n l with | .ok => ro n l' | r => r) := hr2
  generalize ro n l = r1 at cR HR
  generalize ro n l' = r2 at cR' HR
  clear h h' hr2
  go_enter Tryd.func11, Tryd.ntmps11
  go_wp2_with fail
  refine cR.mono ?_
  rintro e w1 ⟨v, rfl, hE, b1⟩
  by_cases h1 : r1 = .ok
  · subst h1
    obtain rfl := ev_ok hE rfl
    have hr3 : r = r2 := HR.out
    subst hr3
    have cR2 := cR' w1 b1
    clear cR cR' hE HR
    go_wp2_with fail
    refine cR2.mono ?_
    rintro e w2 ⟨v, rfl, hE, b2⟩
    have HE := Lib.hid hE
    obtain ⟨t, u, rfl⟩ := ev_no hE hr
    clear cR2 hE
    go_wp2
    go_ret2
    exact ⟨_, rfl, HE.out, bon b1 b2⟩
  · have hr3 : r = r1 := by have := HR.out; split at this; · exact absurd rfl h1
                            · exact this
    subst hr3
    have HE := Lib.hid hE
    obtain ⟨t, u, rfl⟩ := ev_no hE hr
    clear cR cR' hE HR
    go_wp2
    go_ret2
    exact ⟨_, rfl, HE.out, b1⟩
end Go.Proofs.YtnebkdildnngeaaDoor
