/- Line. -/
import Derived.Test.YthijccmiemlilaaGreatDoorB2
namespace Go.Proofs.YthijccmiemlilaaGreatDoor.Ord
open Go.RowKit Go.Sort

/-- More numbers are appended. -/
theorem wpList_ap2 {W : World} {B : Nat} {S : Value} {l m : List Nat} {b o cx : Nat} (h : Iw W B S l) (hm : Ir W b o m) (h0 : 0 < m.length) (hl : l.length ≤ 1000000) (hml : m.length ≤ 1000000) (hB : B ≤ W.heap.size)
    {ops : Array Oper} {rest : List Oper} {op : Oper} {a : Act} {Q : Exit → Act → World → Prop} (hg : op.guard = none) (s x : Operand) (hop : op.op = Op.call { callee := Callee.builtin Builtin.append, args := #[s, x], argTypes := #[31, 31] }) (hs : a.eval s = S) (hx : a.eval x = .slice (some ⟨b, o, none⟩) m.length cx)
    (K : ∀ g c w6, Iw w6 B (.slice (some ⟨g, 0, none⟩) (l ++ m).length c) (l ++ m) → W.grownBy w6 S.ownBlock → (S.ownBlock = some g ∨ g = W.heap.size) → wpList Tryz.prog ops Q rest (a.put op.dst (.slice (some ⟨g, 0, none⟩) (l ++ m).length c)) w6) :
    wpList Tryz.prog ops Q (op :: rest) a W := by
  obtain ⟨i0, hi0, hz0, hz1, hz2⟩ := infoQ info3
  have news : ∀ j u, (m.map eI)[j]? = some u → W.cell? ((⟨b, o, none⟩ : Addr).add j) = some u := fun j u hj => by
    rw [List.getElem?_map] at hj
    obtain ⟨k, hk, rfl⟩ := Option.map_eq_some_iff.1 hj
    obtain ⟨h1, rfl⟩ := List.getElem?_eq_some_iff.1 hk
    rw [Addr.add_lit]
    exact hm.c j h1
  have ones : ∀ u ∈ m.map eI, u.oneCell' = true := by intro u hu; obtain ⟨k, _, rfl⟩ := List.mem_map.1 hu; rfl
  refine wpList_append_lies _ hg s x 31 hop B 3 i0 _ 1 8 Tryz.underlying31 hi0 hz0 hz1 hz2 rfl (by decide) _ _ _ hs h ⟨b, o, none⟩ m.length cx (m.map eI) hx (by simp) news ones h0 (by unfold maxLen; omega) (by omega) hB _ rfl ?_
  intro g' c' w6 hown hgr hor _
  have e : (l ++ m).length = l.length + m.length := by simp
  have h2 : Iw w6 B (.slice (some ⟨g', 0, none⟩) (l ++ m).length c') (l ++ m) := by
    unfold Iw
    rw [e, List.map_append]; exact hown
  have := K g' c' w6 h2 hgr hor
  rw [e] at this
  exact this
/-- Rows of the call's own stay where others turn. -/
theorem Rl.kp {W W' : World} {B : Nat} {v : Value} {R : List (List Nat)} {S : Nat → Prop} (h : Rl W B v R) (k : Kp S W W') (hS : ∀ j, S j → j < B) : Rl W' B v R := by
  obtain ⟨vs, h1, h2, h3⟩ := h.is
  exact ⟨vs, h1, own_kp h2 k hS, fun i a b => own_kp (h3 i a b) k hS⟩
theorem rl_at {W : World} {B : Nat} {A : Option Addr} {n c : Nat} {R : List (List Nat)} (h : Rl W B (.slice A n c) R) (j : Nat) (hj : j < R.length) : ∃ g u, A = some ⟨g, 0, none⟩ ∧ W.cell? ⟨g, j, none⟩ = some u ∧ Iw W B u R[j] := by
  obtain ⟨vs, h1, h2, h3⟩ := h.is
  have h2' := h2
  rcases h2'.2 with ⟨h', h0⟩ | ⟨g, cap, cur, h', _⟩
  · omega
  · cases h'
    refine ⟨g, vs[j], rfl, ?_, h3 j (by omega) hj⟩
    rw [World.ownsRow.cellAt h2 j (by omega)]
    simp
/-- The line. -/
def lin (C S : Om.T) (n : Nat) : List Nat := (rgs C n).flatMap (ob S)
theorem seto_in {C : Om.T} {n f : Nat} (hf : f < n) (hc : C f f = true) : f ∈ seto C n f := by unfold seto; rw [List.mem_filter]; simp [hf, hc]
theorem seto_lt {C : Om.T} {n f a : Nat} (h : a ∈ seto C n f) : a < n := by unfold seto at h; rw [List.mem_filter] at h; simpa using h.1
theorem seto_le (C : Om.T) (n f : Nat) : (seto C n f).length ≤ n := filt_le _ _
theorem rgs_at {C : Om.T} {n : Nat} (hC : ∀ a, a < n → C a a = true) {r : List Nat} (h : r ∈ rgs C n) : 0 < r.length ∧ r.length ≤ n ∧ ∀ a ∈ r, a < n := by
  obtain ⟨f, hf, rfl⟩ := List.mem_map.1 h
  have hl := fsts_lt C n f (ob_mem hf)
  exact ⟨List.length_pos_of_mem (seto_in hl (hC f hl)), seto_le C n f, fun a ha => seto_lt ha⟩
theorem rgs_len (C : Om.T) (n : Nat) : (rgs C n).length ≤ n := by unfold rgs; rw [List.length_map, ob_len]; exact fsts_le C n
/-- Lists of at most forty numbers, as many as there are. -/
theorem flat_le (S : Om.T) (R : List (List Nat)) (h : ∀ r ∈ R, r.length ≤ 40) : (R.flatMap (ob S)).length ≤ R.length * 40 := by
  induction R with
  | nil => simp
  | cons r R ih =>
    have h1 := h r (by simp)
    have h2 := ih fun x hx => h x (by simp [hx])
    rw [List.flatMap_cons, List.length_append, ob_len, List.length_cons]
    omega
/-- Where Line stands. -/
structure Ln (w w5 : World) (B0 B5 g0 : Nat) (W : World) (v : Value) (D : List Nat) : Prop where
  bel : Below w.heap.size w W
  kp : Kp (· = g0) w5 W
  own : Iw W B0 v D
  sl : ∃ g c, v = .slice (some ⟨g, 0, none⟩) D.length c ∧ (g = g0 ∨ w5.heap.size ≤ g)
theorem Ln.on {w w5 : World} {B0 B5 g0 : Nat} {W W' : World} {v : Value} {D : List Nat} (h : Ln w w5 B0 B5 g0 W v D) (k : Below W.heap.size W W') : Ln w w5 B0 B5 g0 W' v D :=
  ⟨bon h.bel k, h.kp.trans ⟨k.os, k.tape, k.output, k.size, fun i hi _ => k.block i hi⟩, own_on h.own k, h.sl⟩
theorem Ln.put {w w5 : World} {B0 B5 g0 : Nat} {W W' : World} {v : Value} {D D' : List Nat} {g' c' : Nat} (h : Ln w w5 B0 B5 g0 W v D) (hg : W.grownBy W' v.ownBlock) (ho : Iw W' B0 (.slice (some ⟨g', 0, none⟩) D'.length c') D') (hor : v.ownBlock = some g' ∨ g' = W.heap.size) (hB : w.heap.size ≤ B0) : Ln w w5 B0 B5 g0 W' (.slice (some ⟨g', 0, none⟩) D'.length c') D' := by
  obtain ⟨g, c, rfl, hgg⟩ := h.sl
  have hs : ∀ k, (Value.slice (some ⟨g, 0, none⟩) D.length c).ownBlock = some k → k = g := fun k e => by cases e; rfl
  refine ⟨h.bel.grown hg h.bel.size (fun k e => ?_), ⟨hg.os.trans h.kp.os, hg.tape.trans h.kp.tape, hg.output.trans h.kp.output, Nat.le_trans h.kp.size hg.size, fun i hi hne => (hg.block i (Nat.lt_of_lt_of_le hi h.kp.size) (fun e => ?_)).trans (h.kp.block i hi hne)⟩, ho, g', c', rfl, ?_⟩
  · have := (h.own.lt k e).1; omega
  · have e2 := hs i e.symm
    subst e2
    rcases hgg with e3 | e3
    · exact hne e3
    · omega
  · rcases hor with e | e
    · rw [hs g' e]; exact hgg
    · exact .inr (by rw [e]; exact h.kp.size)
set_option maxHeartbeats 3200000 in
set_option maxRecDepth 100000 in
theorem Line_ok (n : Nat) (A A' : Option Addr) (c c' : Nat) (l l' : List E) (w : World) (hn : n ≤ 40) (hl : l.length ≤ 1000000) (hl' : l'.length ≤ 1000000) (h : Es w (.slice A l.length c) l) (h' : Es w (.slice A' l'.length c') l') (hr : roL n l = .ok) (hr' : roL n l' = .ok) : Calls Tryz.prog 56 #[.int .i64 n, .slice A l.length c, .slice A' l'.length c'] w fun e w' => ∃ v, e = .returned (.tuple #[v, .nilIface]) ∧ Iw w' w.heap.size v (lin (Om.cl n (et (l ++ l'))) (et l') n) ∧ Below w.heap.size w w' := by
  have cR := right_in n A c l w hn hl h
  have cR' := fun w1 (b1 : Below w.heap.size w w1) => right_in n A' c' l' w1 hn hl' (h'.on b1)
  have HE := Lib.hid h
  have HE' := Lib.hid h'
  have HR := Lib.hid hr
  have HR' := Lib.hid hr'
  obtain ⟨C, hC⟩ : ∃ C, C = Om.cl n (et (l ++ l')) := ⟨_, rfl⟩
  obtain ⟨S, hS⟩ : ∃ S, S = et l' := ⟨_, rfl⟩
  have HCr : Hid (∀ a, a < n → C a a = true) := fun a ha => by rw [hC]; exact Om.cl_refl _ ha
  rw [← hC, ← hS]
  have HC := Lib.hid hC
  have HS := Lib.hid hS
  clear h h' hr hr' hC hS
  go_enter Tryz.func56, Tryz.ntmps56
  go_wp2_with fail
  refine cR.mono ?_
  rintro e w1 ⟨v, rfl, hE, b1⟩
  obtain rfl := ev_ok hE HR.out
  have cR2 := cR' w1 b1
  clear cR cR' hE
  go_wp2_with fail
  refine cR2.mono ?_
  rintro e w2 ⟨v, rfl, hE, b2⟩
  obtain rfl := ev_ok hE HR'.out
  have k2 := bon b1 b2
  have b3 := bA1 w2 (.cells #[.slice A' l'.length c'] 100)
  have cE := edges_any w2.heap.size 1 [l'] (w2.alloc (.cells #[.slice A' l'.length c'] 100)) (el_one (HE'.out.on k2) 100) (by simp; exact rn40 (roL_ok HR'.out) hn) (by simpa using hl') (by simp)
  rw [show ([l'] : List (List E)).flatten = l' by simp, ← HS.out] at cE
  have k3 := bon k2 b3
  clear cR2 hE b1 b2 k2 b3
  go_wp2_with fail
  refine cE.mono ?_
  rintro e w4 ⟨g, rfl, hg, hT4, b4⟩
  have k4 := bon k3 b4
  have HK4 := Lib.hid k4
  have HT4 := Lib.hid (hT4.less hn)
  obtain ⟨i0, hi0, hz0, hz1, hz2⟩ := infoQ info3
  clear cE k3 b4 hT4
  have hk4 := k4.size
  clear k4
  have cG : Hid (∀ w6, Below w4.heap.size w4 w6 → Calls Tryz.prog 78 #[eI n, .slice (some ⟨w6.heap.size, 0, none⟩) 2 2] (w6.alloc (.cells #[.slice A l.length c, .slice A' l'.length c'] 100)) fun e w' => ∃ v, e = .returned v ∧ Rl w' (w6.heap.size + 1) v (rgs C n) ∧ Below (w6.heap.size + 1) (w6.alloc (.cells #[.slice A l.length c, .slice A' l'.length c'] 100)) w') := fun w6 h6 => by
    have k6 := bon HK4.out h6
    have := rings_any n w6.heap.size 2 [l, l'] (w6.alloc (.cells #[.slice A l.length c, .slice A' l'.length c'] 100)) hn (el_two (HE.out.on k6) (HE'.out.on k6) 100) (by simp; exact ⟨rn40 (roL_ok HR.out) hn, rn40 (roL_ok HR'.out) hn⟩) (by simp; exact ⟨hl, hl'⟩) (by simp)
    rw [show ([l, l'] : List (List E)).flatten = l ++ l' by simp, ← HC.out, World.size_alloc] at this
    exact this
  go_wp2_with (first | (at_make; refine wpList_make_own _ rfl _ _ 31 rfl w4.heap.size 3 i0 _ 1 Tryz.underlying31 hi0 hz0 hz1 _ _ _ n rfl rfl rfl (by rw [hz2]; omega) (by unfold maxLen; omega) (Nat.le_refl _) ?_; intro w5 hown5 hgr5) | fail)
  have h45 : Below w4.heap.size w4 w5 := (Below.refl _ _).grown hgr5 (Nat.le_refl _) (fun k e => by cases e)
  have cG5 := cG.out w5 h45
  have hlt5 : w4.heap.size < w5.heap.size := (hown5.lt _ rfl).2
  refine cG5.mono ?_
  rintro e w6 ⟨rv, rfl, hRl, b6⟩
  have b5a := bA1 w5 (.cells #[.slice A l.length c, .slice A' l'.length c'] 100)
  have b56 : Below w5.heap.size w5 w6 := b5a.trans (b6.mono (by omega))
  have k6 := bon (bon HK4.out h45) b56
  have h56 := b56.size
  have LN0 : Ln w w6 w4.heap.size 0 w4.heap.size w6 (.slice (some ⟨w4.heap.size, 0, none⟩) 0 n) [] := ⟨k6, Kp.refl _ _, own_on hown5 b56, _, _, rfl, .inl rfl⟩
  have HLN := Lib.hid LN0
  have HRl := Lib.hid hRl
  have HT6 : Hid (∀ W, Kp (· = w4.heap.size) w6 W → Tb W g n S) := fun W h => ((HT4.out.on h45).on b56).kp h (by have := HT4.out.lt; show ¬ g = _; omega)
  have HRat := Lib.hid (fun r (h : r ∈ rgs C n) => rgs_at HCr.out h)
  have hRn := rgs_len C n
  have HLi : Hid (lin C S n = (rgs C n).flatMap (ob S)) := rfl
  generalize rgs C n = R at HRl HRat hRn HLi hRl
  have HFl : Hid (∀ j, ((R.take j).flatMap (ob S)).length ≤ 1600) := fun j => by
    have h1 := flat_le S (R.take j) fun r hr => by have := (HRat.out r (List.mem_of_mem_take hr)).2.1; omega
    have h2 : (R.take j).length ≤ 40 := by simp; omega
    omega
  obtain ⟨Z1, Z2, rfl⟩ := rl_sl hRl
  clear cG5 cG hRl b6 b5a b56 k6 LN0 hown5 hgr5 h45 HT4 HK4
  go_wp2
  go_loopw [11, 37] (fun v i W => ∃ j : Nat, j ≤ R.length ∧ i = .int .i64 j ∧ Hid (Ln w w6 w4.heap.size 0 w4.heap.size W v ((R.take j).flatMap (ob S)))) (fun _ i _ => R.length - (intOf i).toNat)
  case atStart => exact ⟨0, Nat.zero_le _, rfl, HLN⟩
  case round =>
    obtain ⟨j, hj, rfl, HL⟩ := hrel
    by_cases hlt : j < R.length
    · obtain ⟨rg, u, rfl, hcu, hIu⟩ := rl_at (HRl.out.kp HL.out.kp (fun k e => by omega)) j hlt
      obtain ⟨hr0, hrn, hra⟩ := HRat.out R[j] (List.getElem_mem hlt)
      have HTk : Hid ((R.take (j + 1)).flatMap (ob S) = (R.take j).flatMap (ob S) ++ ob S R[j]) := by show _ = _; rw [List.take_succ_eq_append_getElem hlt, List.flatMap_append]; simp
      have hDl := HFl.out j
      generalize R[j] = r at hcu hIu hr0 hrn hra HTk
      generalize (R.take j).flatMap (ob S) = D at HL HTk hDl
      have cO := obo_any g n S r u hra (by omega) wr (HT6.out wr HL.out.kp) (iw_is hIu) (fun e => by rw [e] at hr0; simp at hr0)
      have hol := ob_len S r
      have HOl := Lib.hid hol
      generalize ob S r = o at cO HTk HOl hol
      obtain ⟨U1, U2, rfl⟩ := iw_sl hIu
      obtain ⟨lg, lc, rfl, _⟩ := HL.out.sl
      clear hIu hol
      go_wp2_with fail
      refine cO.mono ?_
      rintro e w7 ⟨v7, rfl, hI7, b7⟩
      have HL7 := Lib.hid (HL.out.on b7)
      obtain ⟨V1, V2, rfl⟩ := iw_sl hI7
      have ho0 : 0 < o.length := by have := HOl.out; omega
      obtain ⟨ob7, oo7, rfl, hIr7⟩ := is_row (iw_is hI7) ho0
      have hown7 := HL7.out.own
      have hs7 : w4.heap.size ≤ w7.heap.size := Nat.le_trans (by omega) (Nat.le_trans HL7.out.kp.size (Nat.le_refl _))
      have hol40 : o.length ≤ 40 := by have := HOl.out; omega
      clear cO hI7 b7 HL
      go_wp2_with (first | (at_builtin; refine wpList_ap2 hown7 hIr7 ho0 (by omega) (by omega) hs7 rfl _ _ rfl rfl rfl ?_; intro g8 c8 w8 hI8 hgr8 hor8) | fail)
      exact ⟨⟨j + 1, hlt, by go_num, by rw [HTk.out]; have h9 := HL7.out.put hgr8 hI8 hor8 hk4; rw [List.length_append] at h9; exact h9⟩, by simp [intOf]; omega⟩
    · have ej : j = R.length := by omega
      subst ej
      rw [List.take_of_length_le (Nat.le_refl _), ← HLi.out] at HL
      obtain ⟨lg, lc, rfl, _⟩ := HL.out.sl
      go_wp2
      go_ret2
      exact ⟨_, rfl, own_low HL.out.own hk4, HL.out.bel⟩
theorem right_any (n : Int) (A : Option Addr) (c : Nat) (l : List E) (w : World) (hl : l.length ≤ 1000000) (h : Es w (.slice A l.length c) l) : Calls Tryz.prog 76 #[.int .i64 n, .slice A l.length c] w fun e w' => ∃ v, e = .returned v ∧ Ev w' (ro n l) v ∧ Below w.heap.size w w' := by
  by_cases hn : n < 0 ∨ 40 < n
  · refine (right_lim n _ w hn).mono ?_
    rintro e w' ⟨rfl, rfl⟩
    exact ⟨_, rfl, by unfold ro; rw [if_pos hn]; rfl, Below.refl _ _⟩
  · obtain ⟨k, rfl, hk⟩ := nat_of (z := n) (n := 41) (by omega) (by omega)
    have := right_in k A c l w (by omega) hl h
    rw [show roL k l = ro k l by unfold ro; rw [if_neg hn]] at this
    exact this
/-- Two errors, one behind the other. -/
def ro2 (n : Int) (l l' : List E) : Ro := match ro n l with | .ok => ro n l' | r => r
theorem ro2_ok {n : Int} {l l' : List E} (h : ro2 n l l' = .ok) : ro n l = .ok ∧ ro n l' = .ok := by
  unfold ro2 at h
  split at h
  · rename_i e; exact ⟨e, h⟩
  · rename_i r hr; exact absurd h hr
theorem ro_ok {n : Int} {l : List E} (h : ro n l = .ok) : ∃ k : Nat, n = k ∧ k ≤ 40 ∧ roL k l = .ok := by
  unfold ro at h
  split at h
  · cases h
  · rename_i hn
    obtain ⟨k, rfl, hk⟩ := nat_of (z := n) (n := 41) (by omega) (by omega)
    exact ⟨k, rfl, by omega, h⟩
set_option maxHeartbeats 1600000 in
set_option maxRecDepth 100000 in
theorem Line_no (n : Int) (A A' : Option Addr) (c c' : Nat) (l l' : List E) (w : World) (hl : l.length ≤ 1000000) (hl' : l'.length ≤ 1000000) (h : Es w (.slice A l.length c) l) (h' : Es w (.slice A' l'.length c') l') (hr : ro2 n l l' ≠ .ok) : Calls Tryz.prog 56 #[.int .i64 n, .slice A l.length c, .slice A' l'.length c'] w fun e w' => ∃ v, e = .returned (.tuple #[.slice none 0 0, v]) ∧ Ev w' (ro2 n l l') v ∧ Below w.heap.size w w' := by
  have cR := right_any n A c l w hl h
  have cR' := fun w1 (b1 : Below w.heap.size w w1) => right_any n A' c' l' w1 hl' (h'.on b1)
  obtain ⟨r, hr2⟩ : ∃ r, r = ro2 n l l' := ⟨_, rfl⟩
  rw [← hr2] at hr ⊢
  have HR : Hid (r = match ro n l with | .ok => ro n l' | r => r) := hr2
  generalize ro n l = r1 at cR HR
  generalize ro n l' = r2 at cR' HR
  clear h h' hr2
  go_enter Tryz.func56, Tryz.ntmps56
  go_wp2_with fail
  refine cR.mono ?_
  rintro e w1 ⟨v, rfl, hE, b1⟩
  by_cases h1 : r1 = .ok
  · subst h1
    obtain rfl := ev_ok hE rfl
    have hr3 : r = r2 := HR.out
    subst hr3
    have cR2 := cR' w1 b1
    clear cR cR' hE HR
    go_wp2_with fail
    refine cR2.mono ?_
    rintro e w2 ⟨v, rfl, hE, b2⟩
    have HE := Lib.hid hE
    obtain ⟨t, u, rfl⟩ := ev_no hE hr
    clear cR2 hE
    go_wp2
    go_ret2
    exact ⟨_, rfl, HE.out, bon b1 b2⟩
  · have hr3 : r = r1 := by have := HR.out; split at this; · exact absurd rfl h1
                            · exact this
    subst hr3
    have HE := Lib.hid hE
    obtain ⟨t, u, rfl⟩ := ev_no hE hr
    clear cR cR' hE HR
    go_wp2
    go_ret2
    exact ⟨_, rfl, HE.out, b1⟩
end Go.Proofs.YthijccmiemlilaaGreatDoor.Ord
namespace Go.Proofs.YthijccmiemlilaaGreatDoor.Ord
open Om

/-- One that none other comes ahead of. -/
theorem minex {P : T} {n : Nat} (htr : ∀ a b c, b < n → P a b = true → P b c = true → P a c = true) : ∀ L : List Nat, L ≠ [] → (∀ a ∈ L, a < n) → (∀ a ∈ L, ∀ b ∈ L, P a b = true → P b a = true → a = b) → ∃ m ∈ L, ∀ a ∈ L, a ≠ m → P a m = false
  | [], h, _, _ => absurd rfl h
  | [x], _, _, _ => ⟨x, by simp, fun a ha hne => absurd (by simpa using ha) hne⟩
  | x :: y :: L, _, hn, ha => by
    obtain ⟨m, hm, hmin⟩ := minex htr (y :: L) (by simp) (fun a h => hn a (by simp [h])) (fun a h1 b h2 => ha a (by simp [h1]) b (by simp [h2]))
    by_cases hx : x ≠ m ∧ P x m = true
    · refine ⟨x, by simp, fun a h hne => ?_⟩
      have h' : a ∈ y :: L := by rcases List.mem_cons.1 h with e | e; · exact absurd e hne
                                 · exact e
      cases e : P a x with
      | false => rfl
      | true =>
        have h2 := htr a x m (hn x (by simp)) e hx.2
        by_cases e2 : a = m
        · subst e2
          exact absurd (ha x (by simp) a (by simp [h']) hx.2 e) (Ne.symm hne)
        · rw [hmin a h' e2] at h2; cases h2
    · refine ⟨m, by simp [hm], fun a h hne => ?_⟩
      rcases List.mem_cons.1 h with e | e
      · subst e
        cases e2 : P a m with
        | false => rfl
        | true => exact absurd ⟨hne, e2⟩ hx
      · exact hmin a e hne
/-- Of every few of them there is one that does not wait. -/
def Good (A : T) (L : List Nat) : Prop := ∀ M : List Nat, M ≠ [] → (∀ a ∈ M, a ∈ L) → ∃ m ∈ M, ∀ a ∈ M, a ≠ m → A a m = false
theorem erase_perm (L : List Nat) (i : Nat) (h : i < L.length) : (L[i] :: L.eraseIdx i).Perm L := by
  have e : L.take i ++ L[i] :: L.drop (i + 1) = L := by rw [← List.drop_eq_getElem_cons h, List.take_append_drop]
  have hp : (L[i] :: (L.take i ++ L.drop (i + 1))).Perm (L.take i ++ L[i] :: L.drop (i + 1)) := List.perm_middle.symm
  rw [List.eraseIdx_eq_take_drop_succ]
  rw [e] at hp
  exact hp
theorem nx_good {A : T} {L : List Nat} (h0 : 0 < L.length) (hg : Good A L) : ∀ a ∈ L, a ≠ L[nx A L]'(nx_lt A L h0).1 → A a (L[nx A L]'(nx_lt A L h0).1) = false := by
  obtain ⟨m, hm, hmin⟩ := hg L (List.ne_nil_of_length_pos h0) (fun _ h => h)
  obtain ⟨j, hj, rfl⟩ := List.getElem_of_mem hm
  have hw : wts A L L[j] = false := by
    unfold wts
    rw [List.any_eq_false]
    intro a ha
    by_cases e : a = L[j]
    · simp [e]
    · simp [hmin a ha e]
  have hex : ∃ k, L.findIdx? (fun b => !wts A L b) = some k := by
    cases e : L.findIdx? (fun b => !wts A L b) with
    | some k => exact ⟨k, rfl⟩
    | none =>
      rw [List.findIdx?_eq_none_iff] at e
      have := e _ hm
      rw [hw] at this; cases this
  obtain ⟨k, hk⟩ := hex
  have hnx : nx A L = k := by unfold nx; rw [hk]; simp [fx]
  obtain ⟨hkl, hkw, _⟩ := List.findIdx?_eq_some_iff_getElem.1 hk
  have hwk : wts A L L[k] = false := by simpa using hkw
  intro a ha hne
  unfold wts at hwk
  rw [List.any_eq_false] at hwk
  have h3 := hwk a ha
  simp only [hnx] at hne ⊢
  cases e : A a L[k] with
  | false => rfl
  | true => rw [e] at h3; simp [hne] at h3
theorem obo_perm (A : T) : ∀ (k : Nat) (L : List Nat), k = L.length → (obo A k L).Perm L
  | 0, L, h => by rw [List.length_eq_zero_iff.1 h.symm]; exact List.Perm.refl _
  | k + 1, L, h => by
    have h0 : 0 < L.length := by omega
    have hi := (nx_lt A L h0).1
    have e : obo A (k + 1) L = L[nx A L]'hi :: obo A k (L.eraseIdx (nx A L)) := by show L.getD (nx A L) 0 :: _ = _; simp [List.getD, hi]
    rw [e]
    exact ((obo_perm A k _ (by rw [List.length_eraseIdx_of_lt hi]; omega)).cons _).trans (erase_perm L _ hi)
theorem ob_perm (A : T) (L : List Nat) : (ob A L).Perm L := obo_perm A _ L rfl
theorem obo_pw (A : T) : ∀ (k : Nat) (L : List Nat), k = L.length → L.Nodup → Good A L → (obo A k L).Pairwise fun a b => A b a = false
  | 0, L, _, _, _ => List.Pairwise.nil
  | k + 1, L, h, hnd, hg => by
    have h0 : 0 < L.length := by omega
    have hi := (nx_lt A L h0).1
    have e : obo A (k + 1) L = L[nx A L]'hi :: obo A k (L.eraseIdx (nx A L)) := by show L.getD (nx A L) 0 :: _ = _; simp [List.getD, hi]
    have hx := nx_good h0 hg
    have hp := erase_perm L _ hi
    have hnd2 := hp.nodup_iff.2 hnd
    rw [List.nodup_cons] at hnd2
    rw [e, List.pairwise_cons]
    refine ⟨fun b hb => ?_, obo_pw A k _ (by rw [List.length_eraseIdx_of_lt hi]; omega) hnd2.2 (fun M hM hs => hg M hM fun a ha => List.mem_of_mem_eraseIdx (hs a ha))⟩
    have hb' := (obo_perm A k _ (by rw [List.length_eraseIdx_of_lt hi]; omega)).mem_iff.1 hb
    exact hx b (List.mem_of_mem_eraseIdx hb') (fun e => hnd2.1 (e ▸ hb'))
theorem ob_pw {A : T} {L : List Nat} (hnd : L.Nodup) (hg : Good A L) : (ob A L).Pairwise fun a b => A b a = false := obo_pw A _ L rfl hnd hg

theorem fsts_nodup (C : T) : ∀ n, (fsts C n).Nodup
  | 0 => by simp [fsts]
  | n + 1 => by
    have ih := fsts_nodup C n
    unfold fsts
    split
    · exact ih
    · rw [List.nodup_append]
      exact ⟨ih, by simp, fun a ha b hb => by have := fsts_lt C n a ha; simp at hb; omega⟩
theorem fsts_apart (C : T) : ∀ n, ∀ a ∈ fsts C n, ∀ b ∈ fsts C n, C a b = true → C b a = true → a = b
  | 0, a, h => by simp [fsts] at h
  | n + 1, a, ha => by
    have ih := fsts_apart C n
    intro b hb h1 h2
    unfold fsts at ha hb
    split at ha
    · rename_i h; rw [if_pos h] at hb; exact ih a ha b hb h1 h2
    · rename_i h
      rw [if_neg h] at hb
      have hno : ∀ x ∈ fsts C n, ¬ (C n x = true ∧ C x n = true) := fun x hx hh => h (by rw [List.any_eq_true]; exact ⟨x, hx, by simp [hh.1, hh.2]⟩)
      rcases List.mem_append.1 ha with ha | ha <;> rcases List.mem_append.1 hb with hb | hb
      · exact ih a ha b hb h1 h2
      · simp at hb; subst hb; exact absurd ⟨h2, h1⟩ (hno a ha)
      · simp at ha; subst ha; exact absurd ⟨h1, h2⟩ (hno b hb)
      · simp at ha hb; rw [ha, hb]
theorem fsts_all {C : T} {m : Nat} (hr : ∀ a, a < m → C a a = true) : ∀ n, n ≤ m → ∀ a, a < n → ∃ f ∈ fsts C n, C a f = true ∧ C f a = true
  | 0, _, a, h => absurd h (Nat.not_lt_zero _)
  | n + 1, hm, a, h => by
    have ih := fsts_all hr n (by omega)
    unfold fsts
    by_cases ha : a < n
    · obtain ⟨f, hf, h1⟩ := ih a ha
      split
      · exact ⟨f, hf, h1⟩
      · exact ⟨f, by simp [hf], h1⟩
    · have e : a = n := by omega
      subst e
      split
      · rename_i h2
        rw [List.any_eq_true] at h2
        obtain ⟨f, hf, h3⟩ := h2
        simp at h3
        exact ⟨f, hf, h3⟩
      · exact ⟨a, by simp, hr a (by omega), hr a (by omega)⟩
theorem mem_seto {C : T} {n f a : Nat} : a ∈ seto C n f ↔ a < n ∧ C f a = true ∧ C a f = true := by unfold seto; rw [List.mem_filter]; simp
/-- A table of ways. -/
structure Wy (n : Nat) (C : T) : Prop where
  r : ∀ a, a < n → C a a = true
  t : ∀ a b c, b < n → C a b = true → C b c = true → C a c = true
theorem cl_wy (n : Nat) (M : T) : Wy n (cl n M) := ⟨fun _ h => cl_refl M h, fun _ _ _ hb h1 h2 => cl_tr M hb h1 h2⟩
theorem fsts_good {n : Nat} {C : T} (h : Wy n C) : Good C (fsts C n) := fun M hM hs =>
  minex (P := C) (n := n) h.t M hM (fun a ha => fsts_lt C n a (hs a ha)) (fun a ha b hb => fsts_apart C n a (hs a ha) b (hs b hb))
/-- Sets that are told first come ahead, or apart. -/
theorem rgs_pw {n : Nat} {C : T} (h : Wy n C) : (rgs C n).Pairwise fun r s => ∀ a ∈ r, ∀ b ∈ s, C b a = false := by
  unfold rgs
  rw [List.pairwise_map]
  have hp := ob_pw (fsts_nodup C n) (fsts_good h)
  refine hp.imp_of_mem ?_
  intro f g hf hg hfg a ha b hb
  have hfn := fsts_lt C n f (ob_mem hf)
  have hgn := fsts_lt C n g (ob_mem hg)
  rw [mem_seto] at ha hb
  cases e : C b a with
  | false => rfl
  | true =>
    have h1 := h.t g b a hb.1 hb.2.1 e
    have h2 := h.t g a f ha.1 h1 ha.2.2
    rw [hfg] at h2; cases h2
theorem rgs_nodup {n : Nat} {C : T} (h : Wy n C) : (rgs C n).flatten.Nodup := by
  have hn : ∀ r ∈ rgs C n, r.Nodup := fun r hr => by
    obtain ⟨f, _, rfl⟩ := List.mem_map.1 hr
    exact List.Nodup.sublist (List.filter_sublist) List.nodup_range
  have hp := rgs_pw h
  unfold List.Nodup
  rw [List.pairwise_flatten]
  refine ⟨hn, (hp.imp_of_mem ?_)⟩
  intro r s hr hs hrs a ha b hb e
  subst e
  have hlt := (rgs_at h.r hr).2.2 a ha
  have := h.r a hlt
  rw [hrs a ha a hb] at this
  cases this
theorem mem_rgs {n : Nat} {C : T} (h : Wy n C) (a : Nat) : a ∈ (rgs C n).flatten ↔ a < n := by
  constructor
  · intro ha
    obtain ⟨r, hr, har⟩ := List.mem_flatten.1 ha
    exact (rgs_at h.r hr).2.2 a har
  · intro ha
    obtain ⟨f, hf, h1, h2⟩ := fsts_all h.r n (Nat.le_refl _) a ha
    exact List.mem_flatten.2 ⟨seto C n f, List.mem_map.2 ⟨f, (ob_perm C _).mem_iff.2 hf, rfl⟩, mem_seto.2 ⟨ha, h2, h1⟩⟩
theorem perm_range : ∀ (n : Nat) (l : List Nat), l.Nodup → (∀ a, a ∈ l ↔ a < n) → l.length = n
  | 0, l, _, h => by
    cases l with
    | nil => rfl
    | cons a l => exact absurd ((h a).1 (by simp)) (Nat.not_lt_zero _)
  | n + 1, l, hnd, h => by
    have hn := (h n).2 (by omega)
    have hp := List.perm_cons_erase hn
    have hnd2 := hp.nodup_iff.1 hnd
    rw [List.nodup_cons] at hnd2
    have := perm_range n (l.erase n) hnd2.2 (fun a => by
      have hm := hp.mem_iff (a := a)
      rw [List.mem_cons, h a] at hm
      constructor
      · intro ha
        have h1 := hm.2 (.inr ha)
        have : a ≠ n := fun e => hnd2.1 (e ▸ ha)
        omega
      · intro ha
        rcases hm.1 (by omega) with e | e
        · omega
        · exact e)
    have hl := hp.length_eq
    rw [List.length_cons] at hl
    omega
theorem flat_perm (S : T) : ∀ R : List (List Nat), (R.flatMap (ob S)).Perm R.flatten
  | [] => List.Perm.refl _
  | r :: R => by rw [List.flatMap_cons, List.flatten_cons]; exact (ob_perm S r).append (flat_perm S R)
theorem lin_perm (C S : T) (n : Nat) : (lin C S n).Perm (rgs C n).flatten := flat_perm S _
/-- All are told, each once. -/
theorem lin_all {n : Nat} {C : T} (h : Wy n C) (S : T) : (lin C S n).length = n ∧ (lin C S n).Nodup ∧ ∀ a, a ∈ lin C S n ↔ a < n := by
  have hp := lin_perm C S n
  have h1 : (lin C S n).Nodup := hp.nodup_iff.2 (rgs_nodup h)
  have h2 : ∀ a, a ∈ lin C S n ↔ a < n := fun a => hp.mem_iff.trans (mem_rgs h a)
  exact ⟨perm_range n _ h1 h2, h1, h2⟩
/-- Where sets stand in line. -/
theorem lin_pw {n : Nat} {C S : T} (h : Wy n C) (Q : Nat → Nat → Prop) (h1 : ∀ r ∈ rgs C n, ∀ a ∈ r, ∀ b ∈ r, Q a b) (h2 : ∀ a b, C b a = false → Q a b) : (lin C S n).Pairwise Q := by
  unfold lin
  rw [List.pairwise_flatMap]
  refine ⟨fun r hr => ?_, (rgs_pw h).imp_of_mem ?_⟩
  · refine List.pairwise_iff_getElem.2 fun i j hi hj _ => ?_
    exact h1 r hr _ (ob_mem (List.getElem_mem hi)) _ (ob_mem (List.getElem_mem hj))
  · intro r s hr hs hrs a ha b hb
    exact h2 a b (hrs a (ob_mem ha) b (ob_mem hb))
/-- Of strong edges without rings each is kept. -/
theorem lin_strong {n : Nat} {C S : T} (h : Wy n C) (hS : ∀ a b, S a b = true → C a b = true) (hlen : n ≤ (rgs (cl n S) n).length) : (lin C S n).Pairwise fun a b => S b a = false := by
  have hw := cl_wy n S
  have hl : (fsts (cl n S) n).length = n := by
    have h1 : (rgs (cl n S) n).length = (fsts (cl n S) n).length := by unfold rgs; rw [List.length_map, ob_len]
    have := fsts_le (cl n S) n
    omega
  have hall : ∀ m, (fsts (cl n S) m).length = m → ∀ a, a < m → a ∈ fsts (cl n S) m := by
    intro m
    induction m with
    | zero => intro _ a ha; omega
    | succ m ih =>
      intro hm a ha
      have hle := fsts_le (cl n S) m
      unfold fsts at hm ⊢
      split at hm
      · omega
      · rename_i hc
        rw [if_neg hc]
        simp at hm
        by_cases e : a < m
        · exact List.mem_append.2 (.inl (ih hm a e))
        · exact List.mem_append.2 (.inr (by simp; omega))
  have hanti : ∀ a b, a < n → b < n → cl n S a b = true → cl n S b a = true → a = b := fun a b ha hb => fsts_apart _ n a (hall n hl a ha) b (hall n hl b hb)
  have hgood : ∀ r ∈ rgs C n, Good S r := fun r hr M hM hs => by
    have hlt : ∀ a ∈ M, a < n := fun a ha => (rgs_at h.r hr).2.2 a (hs a ha)
    obtain ⟨m, hm, hmin⟩ := minex (P := cl n S) (n := n) hw.t M hM hlt (fun a ha b hb => hanti a b (hlt a ha) (hlt b hb))
    refine ⟨m, hm, fun a ha hne => ?_⟩
    cases e : S a m with
    | false => rfl
    | true => have := hmin a ha hne; rw [cl_ge e] at this; cases this
  unfold lin
  rw [List.pairwise_flatMap]
  refine ⟨fun r hr => ?_, (rgs_pw h).imp_of_mem ?_⟩
  · obtain ⟨f, _, rfl⟩ := List.mem_map.1 hr
    exact ob_pw (List.Nodup.sublist (List.filter_sublist) List.nodup_range) (hgood _ hr)
  · intro r s hr hs hrs a ha b hb
    cases e : S b a with
    | false => rfl
    | true => have := hrs a (ob_mem ha) b (ob_mem hb); rw [hS b a e] at this; cases this
end Go.Proofs.YthijccmiemlilaaGreatDoor.Ord
namespace Go.Proofs.YthijccmiemlilaaGreatDoor.Ord
open Om

def frb (C : T) (n : Nat) (told : Nat → Bool) (i : Nat) : Bool := !told i && (List.range n).all fun j => told j || (!C j i || C i j)
def tel (C : T) (told : Nat → Bool) (i : Nat) : Nat → Bool := fun j => told j || (C i j && C j i)
def rst (C : T) (n : Nat) (told : Nat → Bool) : Option Nat := (List.range n).find? (frb C n told)
def rr (C : T) (n : Nat) : Nat → (Nat → Bool) → List (List Nat)
  | 0, _ => []
  | k + 1, told => match rst C n told with
    | none => rr C n k told
    | some i => seto C n i :: rr C n k (tel C told i)
theorem fsts_least {C : T} {m : Nat} (h : Wy m C) : ∀ n, n ≤ m → ∀ f ∈ fsts C n, ∀ i, i < n → C f i = true → C i f = true → f ≤ i
  | 0, _, f, hf => by simp [fsts] at hf
  | n + 1, hm, f, hf => by
    intro i hi h1 h2
    have ih := fsts_least h n (by omega)
    unfold fsts at hf
    split at hf
    · by_cases e : i < n
      · exact ih f hf i e h1 h2
      · have := fsts_lt C n f hf; omega
    · rename_i hc
      rcases List.mem_append.1 hf with hf | hf
      · by_cases e : i < n
        · exact ih f hf i e h1 h2
        · have := fsts_lt C n f hf; omega
      · simp at hf
        subst hf
        by_cases e : i < f
        · exfalso
          obtain ⟨g, hg, g1, g2⟩ := fsts_all (m := m) h.r f (by omega) i e
          exact hc (by rw [List.any_eq_true]; exact ⟨g, hg, by simp [h.t f i g (by omega) h1 g1, h.t g i f (by omega) g2 h2]⟩)
        · omega
/-- Whose set is not yet told. -/
structure Lf (C : T) (n : Nat) (L : List Nat) (told : Nat → Bool) : Prop where
  sub : ∀ f ∈ L, f ∈ fsts C n
  srt : L.Pairwise (· < ·)
  told : ∀ j, j < n → (told j = false ↔ ∃ f ∈ L, C f j = true ∧ C j f = true)
theorem Lf.nd {C : T} {n : Nat} {L : List Nat} {told : Nat → Bool} (h : Lf C n L told) : L.Nodup := h.srt.imp fun h e => by omega
theorem Lf.good {C : T} {n : Nat} {L : List Nat} {told : Nat → Bool} (h : Lf C n L told) (hw : Wy n C) : Good C L := fun M hM hs => fsts_good hw M hM fun a ha => h.sub a (hs a ha)
theorem nx_first {A : T} {L : List Nat} (_h0 : 0 < L.length) (_hg : Good A L) : ∀ k (hk : k < L.length), wts A L L[k] = false → nx A L ≤ k := by
  intro k hk hw
  unfold nx
  cases e : L.findIdx? (fun b => !wts A L b) with
  | none =>
    rw [List.findIdx?_eq_none_iff] at e
    have := e _ (List.getElem_mem hk)
    rw [hw] at this; cases this
  | some j =>
    obtain ⟨hj, _, hmin⟩ := List.findIdx?_eq_some_iff_getElem.1 e
    simp [fx]
    rcases Nat.lt_or_ge k j with h | h
    · have := hmin k h
      rw [hw] at this; simp at this
    · exact h
theorem rst_some {C : T} {n : Nat} {L : List Nat} {told : Nat → Bool} (hw : Wy n C) (h : Lf C n L told) (h0 : 0 < L.length) : rst C n told = some (L[nx C L]'(nx_lt C L h0).1) := by
  have hi := (nx_lt C L h0).1
  have hg := h.good hw
  have hx := nx_good h0 hg
  obtain ⟨x, ex⟩ : ∃ x, x = L[nx C L]'hi := ⟨_, rfl⟩
  rw [← ex] at hx ⊢
  have hxL : x ∈ L := by rw [ex]; exact List.getElem_mem hi
  have hxn := fsts_lt C n x (h.sub x hxL)
  unfold rst
  rw [List.find?_range_eq_some]
  refine ⟨?_, by simpa using hxn, ?_⟩
  · unfold frb
    rw [Bool.and_eq_true, List.all_eq_true]
    refine ⟨by rw [(h.told x hxn).2 ⟨x, hxL, hw.r x hxn, hw.r x hxn⟩]; rfl, fun j hj => ?_⟩
    have hj' : j < n := by simpa using hj
    cases ht : told j with
    | true => rfl
    | false =>
      obtain ⟨f, hf, f1, f2⟩ := (h.told j hj').1 ht
      cases hc : C j x with
      | false => rfl
      | true =>
        by_cases e : f = x
        · subst e; simp [f1]
        · have := hx f hf e
          rw [hw.t f j x hj' f1 hc] at this; cases this
  · intro i hix
    have hin : i < n := by omega
    rw [Bool.not_eq_true', ← Bool.not_eq_true]
    intro hfi
    unfold frb at hfi
    rw [Bool.and_eq_true, List.all_eq_true] at hfi
    have ht : told i = false := by simpa using hfi.1
    obtain ⟨f, hf, f1, f2⟩ := (h.told i hin).1 ht
    have hfn := fsts_lt C n f (h.sub f hf)
    have hfi2 := fsts_least hw n (Nat.le_refl _) f (h.sub f hf) i hin f1 f2
    obtain ⟨k, hk, ek⟩ := List.getElem_of_mem hf
    have hwf : wts C L L[k] = false := by
      unfold wts
      rw [List.any_eq_false]
      intro a ha
      rw [ek]
      by_cases e : a = f
      · simp [e]
      · have han := fsts_lt C n a (h.sub a ha)
        have hta : told a = false := (h.told a han).2 ⟨a, ha, hw.r a han, hw.r a han⟩
        have h5 := hfi.2 a (by simpa using han)
        cases hc : C a f with
        | false => simp
        | true =>
          exfalso
          have c1 := hw.t a f i hfn hc f1
          rw [hta, c1] at h5
          have c2 : C i a = true := by simpa using h5
          exact e (fsts_apart C n a (h.sub a ha) f (h.sub f hf) hc (hw.t f i a hin f1 c2))
    have hle := nx_first h0 hg k hk hwf
    have hlt : L[k] < L[nx C L] := by rw [ek, ← ex]; omega
    rcases Nat.lt_or_ge (nx C L) k with c | c
    · have := List.pairwise_iff_getElem.1 h.srt (nx C L) k hi hk c; omega
    · have : nx C L = k := by omega
      simp only [this] at hlt
      omega
theorem rst_none {C : T} {n : Nat} {told : Nat → Bool} (h : Lf C n [] told) : rst C n told = none := by
  unfold rst
  rw [List.find?_eq_none]
  intro i hi
  have hin : i < n := by simpa using hi
  have : told i = true := by
    cases ht : told i with
    | true => rfl
    | false => obtain ⟨f, hf, _⟩ := (h.told i hin).1 ht; simp at hf
  unfold frb; simp [this]
theorem Lf.next {C : T} {n : Nat} {L : List Nat} {told : Nat → Bool} (hw : Wy n C) (h : Lf C n L told) (i : Nat) (hi : i < L.length) : Lf C n (L.eraseIdx i) (tel C told L[i]) := by
  have hxL : L[i] ∈ L := List.getElem_mem hi
  have hp := erase_perm L i hi
  have hnd := hp.nodup_iff.2 h.nd
  rw [List.nodup_cons] at hnd
  have hxn := fsts_lt C n L[i] (h.sub _ hxL)
  refine ⟨fun f hf => h.sub f (List.mem_of_mem_eraseIdx hf), h.srt.sublist (List.eraseIdx_sublist _ _), fun j hj => ?_⟩
  unfold tel
  rw [Bool.or_eq_false_iff, h.told j hj]
  constructor
  · rintro ⟨⟨f, hf, f1, f2⟩, hc⟩
    have hne : f ≠ L[i] := fun e => by rw [← e, f1, f2] at hc; cases hc
    rcases List.mem_cons.1 (hp.mem_iff.2 hf) with e | e
    · exact absurd e hne
    · exact ⟨f, e, f1, f2⟩
  · rintro ⟨f, hf, f1, f2⟩
    have hfL := List.mem_of_mem_eraseIdx hf
    have hne : f ≠ L[i] := fun e => hnd.1 (e ▸ hf)
    refine ⟨⟨f, hfL, f1, f2⟩, ?_⟩
    cases hc : (C L[i] j && C j L[i]) with
    | false => rfl
    | true =>
      rw [Bool.and_eq_true] at hc
      exact absurd (fsts_apart C n f (h.sub f hfL) L[i] (h.sub _ hxL) (hw.t f j _ hj f1 hc.2) (hw.t _ j f hj hc.1 f2)) hne
theorem rr_obo {C : T} {n : Nat} (hw : Wy n C) : ∀ (k : Nat) (L : List Nat) (told : Nat → Bool), L.length ≤ k → Lf C n L told → rr C n k told = (obo C L.length L).map (seto C n)
  | 0, L, told, hk, _ => by rw [List.length_eq_zero_iff.1 (by omega : L.length = 0)]; rfl
  | k + 1, L, told, hk, h => by
    by_cases h0 : 0 < L.length
    · have hi := (nx_lt C L h0).1
      have e : obo C L.length L = L[nx C L]'hi :: obo C (L.eraseIdx (nx C L)).length (L.eraseIdx (nx C L)) := ob_step C L h0
      have hl : (L.eraseIdx (nx C L)).length = L.length - 1 := List.length_eraseIdx_of_lt hi
      show (match rst C n told with | none => rr C n k told | some i => seto C n i :: rr C n k (tel C told i)) = _
      rw [rst_some hw h h0, e, List.map_cons]
      rw [← rr_obo hw k (L.eraseIdx (nx C L)) (tel C told (L[nx C L]'hi)) (by omega) (h.next hw _ hi)]
    · have e : L = [] := List.length_eq_zero_iff.1 (by omega)
      subst e
      show (match rst C n told with | none => rr C n k told | some i => seto C n i :: rr C n k (tel C told i)) = _
      rw [rst_none h]
      exact rr_obo hw k [] told (Nat.zero_le _) h
theorem fsts_srt (C : T) : ∀ n, (fsts C n).Pairwise (· < ·)
  | 0 => by simp [fsts]
  | n + 1 => by
    unfold fsts
    split
    · exact fsts_srt C n
    · rw [List.pairwise_append]
      exact ⟨fsts_srt C n, by simp, fun a ha b hb => by have := fsts_lt C n a ha; simp at hb; omega⟩
/-- The reference's sets are the program's. -/
theorem rr_rgs {C : T} {n : Nat} (hw : Wy n C) : rr C n n (fun _ => false) = rgs C n :=
  rr_obo hw n (fsts C n) _ (fsts_le C n) ⟨fun _ h => h, fsts_srt C n, fun j hj => by
    constructor
    · intro _
      obtain ⟨f, hf, h1, h2⟩ := fsts_all hw.r n (Nat.le_refl _) j hj
      exact ⟨f, hf, h2, h1⟩
    · intro _; rfl⟩
end Go.Proofs.YthijccmiemlilaaGreatDoor.Ord
