/- The sets: rings. -/
import Derived.Test.YthijccmiemlilaaGreatDoorXOg
import Derived.Lib.OwnKind
namespace Go.Proofs.YthijccmiemlilaaGreatDoor.Ord
open Go.RowKit Go.Sort

theorem info37 : (Tryz.prog.info? 31).map (fun i => (i.zero, i.size, i.bytes)) = some (some (.slice none 0 0), 1, 24) := by kernel_rfl
/-- Lists of numbers of the call's own. -/
structure Rl (W : World) (B : Nat) (v : Value) (R : List (List Nat)) : Prop where
  is : ∃ vs : List Value, vs.length = R.length ∧ W.ownsRow B 31 1 v R.length vs ∧ ∀ i (h1 : i < vs.length) (h2 : i < R.length), Iw W B vs[i] R[i]
theorem Rl.on {W W' : World} {B : Nat} {v : Value} {R : List (List Nat)} (h : Rl W B v R) (k : Below W.heap.size W W') : Rl W' B v R := by
  obtain ⟨vs, h1, h2, h3⟩ := h.is
  exact ⟨vs, h1, own_on h2 k, fun i a b => own_on (h3 i a b) k⟩
theorem Rl.low {W : World} {B B' : Nat} {v : Value} {R : List (List Nat)} (h : Rl W B v R) (k : B' ≤ B) : Rl W B' v R := by
  obtain ⟨vs, h1, h2, h3⟩ := h.is
  exact ⟨vs, h1, own_low h2 k, fun i a b => own_low (h3 i a b) k⟩
theorem rl_sl {W : World} {B : Nat} {v : Value} {R : List (List Nat)} (h : Rl W B v R) : ∃ A c, v = .slice A R.length c := by
  obtain ⟨vs, h1, h2, h3⟩ := h.is
  rcases h2.2 with ⟨rfl, h0⟩ | ⟨g, cap, cur, rfl, _⟩
  · exact ⟨none, 0, by rw [h0]⟩
  · exact ⟨_, cap, rfl⟩
theorem rl_nil {W : World} {B : Nat} {v : Value} (h : W.ownsRow B 31 1 v 0 []) : Rl W B v [] := ⟨[], rfl, h, fun i h1 => absurd h1 (by simp)⟩
/-- Rows of numbers stay where a row of lists grows. -/
theorem iw_grown {W W' : World} {B B' : Nat} {S v : Value} {n : Nat} {vs : List Value} {l : List Nat} (h : Iw W B v l) (ho : W.ownsRow B' 31 1 S n vs) (hg : W.grownBy W' S.ownBlock) : Iw W' B v l := by
  refine ⟨h.1, ?_⟩
  rcases h.2 with hn | ⟨g, cap, cur, rfl, hb, hgg, rest⟩
  · exact .inl hn
  · refine .inr ⟨g, cap, cur, rfl, hb, ?_, rest⟩
    refine (hg.block g (Array.getElem?_eq_some_iff.1 hgg).1 (fun e => ?_)).trans hgg
    obtain ⟨c', fz, h2⟩ := Lib.ownsRow_kind ho g e.symm
    rw [hgg] at h2
    cases h2
/-- One more list is appended. -/
theorem wpList_apR {W : World} {B : Nat} {S u : Value} {R : List (List Nat)} {l : List Nat} (h : Rl W B S R) (hu : Iw W B u l) (hl : R.length ≤ 1000000) (hB : B ≤ W.heap.size)
    {ops : Array Oper} {rest : List Oper} {o : Oper} {a : Act} {Q : Exit → Act → World → Prop} (hg : o.guard = none) (s x : Operand) (hop : o.op = Op.call { callee := Callee.builtin Builtin.append, args := #[s, x], argTypes := #[139, 139] }) (hs : a.eval s = S) (N : Nat) (hx : a.eval x = .slice (some ⟨N, 0, none⟩) 1 1) (hN : N = W.heap.size)
    (K : ∀ g c w6, Rl w6 B (.slice (some ⟨g, 0, none⟩) (R.length + 1) c) (R ++ [l]) → (∀ B', B' ≤ B → Below B' W w6) → (∀ B' v m, Iw W B' v m → Iw w6 B' v m) → wpList Tryz.prog ops Q rest (a.put o.dst (.slice (some ⟨g, 0, none⟩) (R.length + 1) c)) w6) :
    wpList Tryz.prog ops Q (o :: rest) a (W.alloc (.cells #[u] 31)) := by
  subst hN
  obtain ⟨i0, hi0, hz0, hz1, hz2⟩ := infoQ info37
  obtain ⟨vs, v1, v2, v3⟩ := h.is
  have news : ∀ j y, ([u])[j]? = some y → (W.alloc (.cells #[u] 31)).cell? ((⟨W.heap.size, 0, none⟩ : Addr).add j) = some y := World.news_of_block (nb0 W _)
  have ones : ∀ y ∈ [u], y.oneCell' = true := by
    intro y hy; simp at hy; rw [hy]
    obtain ⟨A, c, rfl⟩ := iw_sl hu
    rfl
  refine wpList_append_lies _ hg s x 139 hop B 31 i0 _ 1 24 Tryz.underlying139 hi0 hz0 hz1 hz2 rfl (by decide) _ _ _ hs (v2.alloc _) ⟨W.heap.size, 0, none⟩ 1 1 _ hx rfl news ones (by decide) (by unfold maxLen; omega) (by omega) (by rw [World.size_alloc]; omega) _ rfl ?_
  intro g' c' w6 hown hgr _ _
  refine K g' c' w6 ⟨vs ++ [u], by simp [v1], ?_, fun i h1 h2 => ?_⟩ (fun B' hB' => ((bA1 W _).mono (Nat.le_trans hB' hB)).grown hgr (by rw [World.size_alloc]; omega) (fun j e => Nat.le_trans hB' (v2.lt j e).1)) (fun B' v m h => iw_grown (own_on h (bA1 W _)) (v2.alloc _) hgr)
  · rw [List.length_append]; exact hown
  · by_cases e : i < R.length
    · rw [List.getElem_append_left (by omega), List.getElem_append_left e]
      exact iw_grown (own_on (v3 i (by omega) e) (bA1 W _)) (v2.alloc _) hgr
    · have e2 : i = R.length := by simp at h2; omega
      subst e2
      rw [List.getElem_append_right (by omega), List.getElem_append_right (by omega)]
      simp only [v1, Nat.sub_self, List.getElem_cons_zero]
      exact iw_grown (own_on hu (bA1 W _)) (v2.alloc _) hgr
/-- The least of each set. -/
def fsts (C : Om.T) : Nat → List Nat
  | 0 => []
  | a + 1 => if (fsts C a).any (fun b => C a b && C b a) then fsts C a else fsts C a ++ [a]
theorem fsts_le (C : Om.T) : ∀ n, (fsts C n).length ≤ n
  | 0 => by simp [fsts]
  | n + 1 => by
    have := fsts_le C n
    unfold fsts
    split
    · omega
    · simp; omega
theorem fsts_lt (C : Om.T) : ∀ n, ∀ a ∈ fsts C n, a < n
  | 0, a, h => by simp [fsts] at h
  | n + 1, a, h => by
    have ih := fsts_lt C n a
    unfold fsts at h
    split at h
    · have := ih h; omega
    · rcases List.mem_append.1 h with h | h
      · have := ih h; omega
      · simp at h; omega
def seto (C : Om.T) (n f : Nat) : List Nat := (List.range n).filter fun a => C f a && C a f
def rgs (C : Om.T) (n : Nat) : List (List Nat) := (ob C (fsts C n)).map (seto C n)
theorem obo_mem (A : Om.T) : ∀ (k : Nat) (L : List Nat), k = L.length → ∀ x ∈ obo A k L, x ∈ L
  | 0, _, _, x, h => by simp [obo] at h
  | k + 1, L, e, x, h => by
    have h0 : 0 < L.length := by omega
    have hi := (nx_lt A L h0).1
    rcases List.mem_cons.1 h with rfl | h
    · simp [List.getD, hi]
    · exact List.mem_of_mem_eraseIdx (obo_mem A k _ (by rw [List.length_eraseIdx_of_lt hi]; omega) x h)
theorem ob_mem {A : Om.T} {L : List Nat} {x : Nat} (h : x ∈ ob A L) : x ∈ L := obo_mem A _ L rfl x h
theorem obo_len (A : Om.T) : ∀ (k : Nat) (L : List Nat), (obo A k L).length = k
  | 0, _ => rfl
  | k + 1, L => by show (_ :: _).length = _; rw [List.length_cons, obo_len A k]
theorem ob_len (A : Om.T) (L : List Nat) : (ob A L).length = L.length := obo_len A _ L
set_option maxHeartbeats 3200000 in
set_option maxRecDepth 100000 in
theorem rings_any (n lb c : Nat) (Ls : List (List E)) (w : World) (hn : n ≤ 40) (h : El w lb Ls) (hr : ∀ l ∈ Ls, Rn 40 l) (hs : ∀ l ∈ Ls, l.length ≤ 1000000) (hm : Ls.length ≤ 10) :
    Calls Tryz.prog 78 #[eI n, .slice (some ⟨lb, 0, none⟩) Ls.length c] w fun e w' => ∃ v, e = .returned v ∧ Rl w' w.heap.size v (rgs (Om.cl n (et Ls.flatten)) n) ∧ Below w.heap.size w w' := by
  have cE := edges_any lb c Ls w h hr hs hm
  obtain ⟨C, hC⟩ : ∃ C, C = Om.cl n (et Ls.flatten) := ⟨_, rfl⟩
  rw [← hC]
  have HCC := Lib.hid hC
  clear h hr hs hC
  go_enter Tryz.func78, Tryz.ntmps78
  go_wp2_with fail
  refine cE.mono ?_
  rintro e w1 ⟨g, rfl, hg, hT1, b1⟩
  generalize et Ls.flatten = M at hT1 HCC
  have b2 := bA1 w1 (.cells #[pt g] 137)
  have x2 := bx_new w1 (pt g) 137
  have hcb := x2.c
  have cF := follow_any g n M _ ((hT1.less hn).on b2)
  have hgl := hT1.lt
  have HB12 := Lib.hid (bon b1 b2)
  have HX2 := Lib.hid x2
  obtain ⟨W2, hW2⟩ : ∃ W2, W2 = w1.alloc (.cells #[pt g] 137) := ⟨_, rfl⟩
  have e2 : W2.heap.size = w1.heap.size + 1 := by rw [hW2]; simp
  rw [← hW2] at HB12 HX2
  have HW2 := Lib.hid hW2
  clear hW2
  clear cE hT1 b1 b2 x2
  go_wp2_with fail
  refine cF.mono ?_
  rintro e w3 ⟨rfl, hT3, k3⟩
  rw [← HW2.out] at k3
  rw [← HCC.out] at hT3
  have hgw : w.heap.size ≤ g := hg
  have b3 : Below w.heap.size w w3 := HB12.out.trans (k3.below HB12.out.size (fun j e => by omega))
  have x3 := HX2.out.kp k3 (show ¬ w1.heap.size = g by omega)
  clear cF k3 HB12 HX2 hcb
  have b4 := bA1 w3 (.cells #[tgv w1.heap.size] 56)
  have t4 := bx_new w3 (tgv w1.heap.size) 56
  obtain ⟨W4, hW4⟩ : ∃ W4, W4 = w3.alloc (.cells #[tgv w1.heap.size] 56) := ⟨_, rfl⟩
  rw [← hW4] at b4 t4
  have HT := Lib.hid (hT3.on b4)
  have HC := Lib.hid (x3.on b4)
  have HTg := Lib.hid t4
  have HB4 := Lib.hid (bon b3 b4)
  have HW4 := Lib.hid hW4
  clear hW4 b3 b4 t4 x3 hT3 e2
  go_wp2
  go_loopw [7, 19] (fun v i W => ∃ k : Nat, k ≤ n ∧ i = .int .i64 k ∧ Below W4.heap.size W4 W ∧ Hid (Iw W W4.heap.size v (fsts C k)) ∧ Hid (fsts C k = [] → v = .slice none 0 0)) (fun _ i _ => n - (intOf i).toNat)
  case atStart => exact ⟨0, Nat.zero_le _, rfl, by rw [HW4.out]; exact Below.refl _ _, World.ownsRow_nil _ _ _ _, fun _ => rfl⟩
  case round =>
    obtain ⟨k, hk, rfl, hW, HI, HN⟩ := hrel
    obtain ⟨U1, U2, rfl⟩ := iw_sl HI.out
    by_cases hlt : k < n
    · have hle := fsts_le C k
      have HF : Hid (fsts C (k + 1) = if (fsts C k).any (fun b => C k b && C b k) then fsts C k else fsts C k ++ [k]) := by show _ = _; rw [fsts]
      have b5 := bA1 wr (.cells #[eI k] 3)
      have cC := con_any23 (pt w3.heap.size) (pt wr.heap.size) (.slice U1 (fsts C k).length U2) (fsts C k) (fun b => C k b && C b k) (wr.alloc (.cells #[eI k] 3)) (iw_is (own_on HI.out b5)) (by omega) (fun i hi W hWW => c23_any k (fsts C k)[i] w1.heap.size w3.heap.size wr.heap.size g n C hlt (Nat.lt_trans (fsts_lt C k _ (List.getElem_mem hi)) hlt) W (((HT.out.on hW).on b5).on hWW) (((HC.out.on hW).on b5).on hWW) (((HTg.out.on hW).on b5).on hWW) ((bx_new wr (eI k) 3).on hWW))
      have HN2 : Hid ((fsts C k).any (fun b => C k b && C b k) = true → fsts C k ≠ []) := fun h e => by rw [e] at h; simp at h
      generalize (fsts C k).any (fun b => C k b && C b k) = r at cC HF HN2
      have HW := Lib.hid (bon hW b5)
      have HI5 := Lib.hid (own_on HI.out b5)
      have xa := bx_new wr (eI k) 3
      have HXA := Lib.hid xa
      generalize fsts C k = F at cC HF HN2 HI HN HI5 hle
      clear HI hW b5 xa
      cases r with
      | true =>
        have HF2 : Hid (fsts C (k + 1) = F) := HF.out
        clear HF
        go_wp2_with fail
        refine cC.mono ?_
        rintro e w6 ⟨rfl, b6⟩
        have hI6 := Lib.hid (own_on HI5.out b6)
        have hW6 := Lib.hid (bon HW.out b6)
        clear cC HI5 HW b6
        rw [← HF2.out] at hI6 HN
        go_wp2_with fail
        exact ⟨⟨k + 1, hlt, by go_num, hW6.out, by rw [HF2.out] at hI6 ⊢; exact hI6, fun e => absurd (HF2.out.symm.trans e) (HN2.out trivial)⟩, by simp [intOf]; omega⟩
      | false =>
        have HF2 : Hid (fsts C (k + 1) = F ++ [k]) := HF.out
        clear HF
        go_wp2_with fail
        refine cC.mono ?_
        rintro e w6 ⟨rfl, b6⟩
        have hI6 := own_on HI5.out b6
        have hW6 := bon HW.out b6
        have xa := (HXA.out.on b6).c
        clear cC HI5 HW b6
        go_wp2_with (first | (at_builtin; refine wpList_ap k hI6 (by omega) hW6.size rfl _ _ rfl rfl _ rfl rfl ?_; intro g7 c7 w7 hI7 hB7 _) | fail)
        exact ⟨⟨k + 1, hlt, by go_num, hW6.trans (hB7 _ (Nat.le_refl _)), by rw [HF2.out]; exact hI7, fun e => absurd (HF2.out.symm.trans e) (by simp)⟩, by simp [intOf]; omega⟩
    · have ek : k = n := by omega
      subst ek
      have hle := fsts_le C k
      have HFl := Lib.hid (fsts_lt C k)
      have HR : Hid (rgs C k = (ob C (fsts C k)).map (seto C k)) := rfl
      have hol := Lib.hid (ob_len C (fsts C k))
      have HOm : Hid (∀ x ∈ ob C (fsts C k), x < k) := fun x hx => fsts_lt C k x (ob_mem hx)
      have HOb : Hid (∀ W v, Tb W g k C → Is W v (fsts C k) → (fsts C k = [] → v = .slice none 0 0) → Calls Tryz.prog 79 #[v, pt g] W fun e w' => ∃ v, e = .returned v ∧ Iw w' W.heap.size v (ob C (fsts C k)) ∧ Below W.heap.size W w') := fun W v h1 h2 h3 => obo_any g k C (fsts C k) v (fsts_lt C k) (by omega) W h1 h2 h3
      generalize ob C (fsts C k) = O at HR hol HOm HOb
      generalize fsts C k = F at hle HFl HI HN hol HOb
      have HW := Lib.hid hW
      obtain ⟨i0, hi0, hz0, hz1, hz2⟩ := infoQ info37
      have hsz := hW.size
      clear hW
      have HIs : Hid (∀ W, wr.grownBy W none → Below W4.heap.size W4 W ∧ Iw W W4.heap.size (.slice U1 F.length U2) F) := fun W h => ⟨HW.out.trans ((Below.refl _ _).grown h hsz (fun j e => by cases e)), own_on HI.out ((Below.refl _ _).grown h (Nat.le_refl _) (fun j e => by cases e))⟩
      go_wp2_with (first | (at_make; refine wpList_make_own _ rfl _ _ 139 rfl W4.heap.size 31 i0 _ 1 Tryz.underlying139 hi0 hz0 hz1 _ _ _ F.length rfl rfl rfl (by rw [hz2]; omega) (by unfold maxLen; omega) hsz ?_; intro w5 hown5 hgr5; have HI5 := Lib.hid (HIs.out w5 hgr5); have HO5 := Lib.hid hown5; have cb5 := (HC.out.on HI5.out.1).c; have cO := HOb.out w5 _ (HT.out.on HI5.out.1) (iw_is HI5.out.2) HN.out; clear hown5 hgr5 HIs HOb) | fail)
      refine cO.mono ?_
      rintro e w6 ⟨v6, rfl, hI6, b6⟩
      obtain ⟨O1, O2, rfl⟩ := iw_sl hI6
      have HR6 := Lib.hid (rl_nil (own_on HO5.out b6))
      have HW6 := Lib.hid (bon HI5.out.1 b6)
      have hs56 := HI5.out.1.size
      have HI6 := Lib.hid (own_low hI6 hs56)
      clear cO HO5 HI5 b6 HI HW hI6 cb5
      go_wp2
      have hOl : O.length ≤ 40 := by have := hol.out; omega
      go_loopw [9, 38] (fun v i W => ∃ j : Nat, j ≤ O.length ∧ i = .int .i64 j ∧ Below W4.heap.size W4 W ∧ Hid (Iw W W4.heap.size (.slice O1 O.length O2) O) ∧ Hid (Rl W W4.heap.size v ((O.take j).map (seto C k)))) (fun _ i _ => O.length - (intOf i).toNat)
      case atStart => exact ⟨0, Nat.zero_le _, rfl, HW6.out, HI6.out, HR6.out⟩
      case round =>
        obtain ⟨j, hj, rfl, hW, HI, HRl⟩ := hrel
        obtain ⟨R1, R2, rfl⟩ := rl_sl HRl.out
        by_cases hltj : j < O.length
        · obtain ⟨ob, oo, rfl, hIr⟩ := is_row (iw_is HI.out) (by omega)
          have c0 := hIr.c j hltj
          have hxk := HOm.out O[j] (List.getElem_mem hltj)
          have HTk : Hid ((O.take (j + 1)).map (seto C k) = (O.take j).map (seto C k) ++ [seto C k O[j]]) := by show _ = _; rw [List.take_succ_eq_append_getElem hltj, List.map_append]; rfl
          have hlj : ((O.take j).map (seto C k)).length ≤ 40 := by simp; omega
          generalize hx : O[j] = x at c0 hxk HTk
          have b7 := bA1 wr (.cells #[eI x] 3)
          have cM := match_any k (pt w3.heap.size) (pt wr.heap.size) (fun a => C x a && C a x) (wr.alloc (.cells #[eI x] 3)) hn (fun i hi W hWW => c25_any x i w1.heap.size w3.heap.size wr.heap.size g k C hxk hi W (((HT.out.on hW).on b7).on hWW) (((HC.out.on hW).on b7).on hWW) (((HTg.out.on hW).on b7).on hWW) ((bx_new wr (eI x) 3).on hWW))
          have HW7 := Lib.hid (bon hW b7)
          have HI7 := Lib.hid (own_on HI.out b7)
          have HR7 := Lib.hid (HRl.out.on b7)
          generalize (O.take j).map (seto C k) = R at HTk hlj HRl HR7
          clear hIr hW HI HRl b7 hx
          go_wp2_with fail
          refine cM.mono ?_
          rintro e w8 ⟨v8, rfl, hI8, b8⟩
          have hI8' : Iw w8 W4.heap.size v8 (seto C k x) := own_low hI8 (by have := HW7.out.size; exact this)
          have hR8 := HR7.out.on b8
          have HI8 := Lib.hid (own_on HI7.out b8)
          have hW8 := bon HW7.out b8
          obtain ⟨V1, V2, rfl⟩ := iw_sl hI8
          clear cM hI8 b8 HI7 HR7 HW7
          go_wp2_with (first | (at_builtin; refine wpList_apR hR8 hI8' (by omega) hW8.size rfl _ _ rfl rfl _ rfl rfl ?_; intro g9 c9 w9 hR9 hB9 hK9) | fail)
          exact ⟨⟨j + 1, hltj, by go_num, hW8.trans (hB9 _ (Nat.le_refl _)), hK9 _ _ _ HI8.out, by rw [HTk.out]; exact hR9⟩, by simp [intOf]; omega⟩
        · have ej : j = O.length := by omega
          subst ej
          have HE : Hid ((O.take O.length).map (seto C k) = rgs C k) := by show _ = _; rw [List.take_of_length_le (Nat.le_refl _), HR.out]
          go_wp2
          go_ret
          refine ⟨_, rfl, ?_, HB4.out.trans (hW.mono HB4.out.size)⟩
          rw [← HE.out]
          exact HRl.out.low HB4.out.size
end Go.Proofs.YthijccmiemlilaaGreatDoor.Ord
namespace Go.Proofs.YthijccmiemlilaaGreatDoor.Ord
open Go.RowKit Go.Sort

/-- An edge that has a number that is none of them. -/
def bade (n : Int) (e : E) : Bool := decide (e.1 < 0) || decide (n ≤ e.1) || decide (e.2 < 0) || decide (n ≤ e.2)
inductive Ro where
  | ok : Ro
  | lim : Ro
  | at : Nat → Ro
def roL (n : Int) (l : List E) : Ro := match l.findIdx? (bade n) with | none => .ok | some i => .at i
def ro (n : Int) (l : List E) : Ro := if n < 0 ∨ 40 < n then .lim else roL n l
/-- An error, as it lies in memory. -/
def Ev (W : World) : Ro → Value → Prop
  | .ok, v => v = .nilIface
  | .lim, v => v = .iface 40 (.int .i64 4)
  | .at i, v => ∃ q, v = .iface 84 (pt q) ∧ W.heap[q]? = some (.cells #[.int .i64 2, .int .i64 i] 85)
theorem Ev.on {W W' : World} {r : Ro} {v : Value} (h : Ev W r v) (k : Below W.heap.size W W') : Ev W' r v := by
  cases r with
  | ok => exact h
  | lim => exact h
  | «at» i =>
    obtain ⟨q, h1, h2⟩ := h
    exact ⟨q, h1, (k.block q (Array.getElem?_eq_some_iff.1 h2).1).trans h2⟩
theorem rn_of {n : Nat} {l : List E} (h : l.findIdx? (bade n) = none) : Rn n l := by
  rw [List.findIdx?_eq_none_iff] at h
  intro e he
  have := h e he
  unfold bade at this
  simp at this
  omega
set_option maxHeartbeats 1600000 in
set_option maxRecDepth 100000 in
theorem right_lim (n : Int) (v : Value) (w : World) (h : n < 0 ∨ 40 < n) : Calls Tryz.prog 76 #[.int .i64 n, v] w fun e w' => e = .returned (.iface 40 (.int .i64 4)) ∧ w' = w := by
  rcases h with h | h
  · go_enter Tryz.func76, Tryz.ntmps76
    go_wp2
    go_ret
    exact ⟨rfl, rfl⟩
  · have h0 : ¬ n < 0 := by omega
    go_enter Tryz.func76, Tryz.ntmps76
    go_wp2
    go_ret
    exact ⟨rfl, rfl⟩
set_option maxHeartbeats 1600000 in
set_option maxRecDepth 100000 in
theorem right_in (n : Nat) (A : Option Addr) (c : Nat) (l : List E) (w : World) (hn : n ≤ 40) (hl : l.length ≤ 1000000) (h : Es w (.slice A l.length c) l) : Calls Tryz.prog 76 #[.int .i64 n, .slice A l.length c] w fun e w' => ∃ v, e = .returned v ∧ Ev w' (roL n l) v ∧ Below w.heap.size w w' := by
  obtain ⟨r, hr⟩ : ∃ r, r = roL n l := ⟨_, rfl⟩
  have HR := Lib.hid hr
  rw [← hr]
  have HE := Lib.hid h
  clear hr h
  have h0 : ¬ (n : Int) < 0 := by omega
  have h1 : ¬ (40 : Int) < (n : Int) := by omega
  go_enter Tryz.func76, Tryz.ntmps76
  go_wp2
  go_loopw [16] (fun i W => ∃ k : Nat, k ≤ l.length ∧ i = .int .i64 k ∧ Below w.heap.size w W ∧ Hid (∀ j (hj : j < l.length), j < k → bade n l[j] = false)) (fun i _ => l.length - (intOf i).toNat)
  case atStart => exact ⟨0, Nat.zero_le _, rfl, Below.refl _ _, fun j _ h => absurd h (Nat.not_lt_zero _)⟩
  case round =>
    obtain ⟨k, hk, rfl, hW, HP⟩ := hrel
    by_cases hlt : k < l.length
    · obtain ⟨b, o, rfl, hEr⟩ := es_row (HE.out.on hW) (by omega)
      have c0 := hEr.c0 k hlt
      have c1 := hEr.c1 k hlt
      have HB : Hid (bade n l[k] = true → r = .at k) := fun h => by rw [HR.out]; unfold roL; rw [fi_yes k hlt h (fun j hj hjk => HP.out j hj hjk)]
      have HN : Hid (bade n l[k] = false → ∀ j (hj : j < l.length), j < k + 1 → bade n l[j] = false) := fun h j hj hjk => by
        by_cases e : j = k
        · subst e; exact h
        · exact HP.out j hj (by omega)
      generalize l[k] = e at c0 c1 HB HN
      obtain ⟨x, y⟩ := e
      dsimp only at c0 c1
      have b1 := bA1 wr (.cells #[.int .i64 x, .int .i64 y] 135)
      have k1 := bon hW b1
      have HQ : Hid (∀ W, Below w.heap.size w W → bade n (x, y) = true → ∃ v, Ending.returned (.iface 84 (pt W.heap.size)) = .returned v ∧ Ev (W.alloc (.cells #[.int .i64 2, .int .i64 k] 85)) r v ∧ Below w.heap.size w (W.alloc (.cells #[.int .i64 2, .int .i64 k] 85))) := fun W hWW hb => ⟨_, rfl, by rw [HB.out hb]; exact ⟨_, rfl, nb0 _ _⟩, bon hWW (bA1 W _)⟩
      clear hEr HB hW b1
      by_cases t1 : x < 0
      · have hb : bade n (x, y) = true := by unfold bade; simp [t1]
        have HQ2 := Lib.hid (HQ.out _ k1 hb); rw [World.size_alloc] at HQ2
        clear HQ hb
        go_wp2
        go_ret
        exact HQ2.out
      · by_cases t2 : (n : Int) ≤ x
        · have hb : bade n (x, y) = true := by unfold bade; simp [t2]
          have HQ2 := Lib.hid (HQ.out _ k1 hb); rw [World.size_alloc] at HQ2
          clear HQ hb
          go_wp2
          go_ret
          exact HQ2.out
        · by_cases t3 : y < 0
          · have hb : bade n (x, y) = true := by unfold bade; simp [t3]
            have HQ2 := Lib.hid (HQ.out _ k1 hb); rw [World.size_alloc] at HQ2
            clear HQ hb
            go_wp2
            go_ret
            exact HQ2.out
          · by_cases t4 : (n : Int) ≤ y
            · have hb : bade n (x, y) = true := by unfold bade; simp [t4]
              have HQ2 := Lib.hid (HQ.out _ k1 hb); rw [World.size_alloc] at HQ2
              clear HQ hb
              go_wp2
              go_ret
              exact HQ2.out
            · have hb : bade n (x, y) = false := by unfold bade; simp [t1, t2, t3, t4]
              have HN2 := Lib.hid (HN.out hb)
              clear HQ hb
              go_wp2
              exact ⟨⟨k + 1, hlt, by go_num, k1, HN2.out⟩, by simp [intOf]; omega⟩
    · have hr : r = .ok := by rw [HR.out]; unfold roL; rw [fi_no (fun j hj => HP.out j hj (by omega))]
      go_wp2
      go_ret
      exact ⟨_, rfl, by rw [hr]; rfl, hW⟩
end Go.Proofs.YthijccmiemlilaaGreatDoor.Ord
namespace Go.Proofs.YthijccmiemlilaaGreatDoor.Ord
open Go.RowKit Go.Sort

theorem nb1 {w : World} {vs : List Value} (j : Nat) (v : Value) (h : vs[j]? = some v) (t : Nat) : (w.alloc (.cells vs.toArray t)).cell? ⟨w.heap.size, j, none⟩ = some v := by
  have e := nb0 w (.cells vs.toArray t)
  unfold World.cell?
  rw [e]
  simpa using h
theorem el_one {w : World} {A : Option Addr} {c : Nat} {l : List E} (h : Es w (.slice A l.length c) l) (t : Nat) : El (w.alloc (.cells #[.slice A l.length c] t)) w.heap.size [l] := by
  refine ⟨by simp, fun i hi => ?_⟩
  obtain rfl : i = 0 := by simpa using hi
  exact ⟨A, c, nb1 (vs := [.slice A l.length c]) 0 _ rfl t, h.on (bA1 w _)⟩
theorem el_two {w : World} {A A' : Option Addr} {c c' : Nat} {l l' : List E} (h : Es w (.slice A l.length c) l) (h' : Es w (.slice A' l'.length c') l') (t : Nat) : El (w.alloc (.cells #[.slice A l.length c, .slice A' l'.length c'] t)) w.heap.size [l, l'] := by
  refine ⟨by simp, fun i hi => ?_⟩
  have hi2 : i = 0 ∨ i = 1 := by simp at hi; omega
  rcases hi2 with rfl | rfl
  · exact ⟨A, c, nb1 (vs := [.slice A l.length c, .slice A' l'.length c']) 0 _ rfl t, h.on (bA1 w _)⟩
  · exact ⟨A', c', nb1 (vs := [.slice A l.length c, .slice A' l'.length c']) 1 _ rfl t, h'.on (bA1 w _)⟩
theorem rn40 {n : Nat} {l : List E} (h : Rn n l) (hn : n ≤ 40) : Rn 40 l := fun e he => by have := h e he; omega
theorem roL_ok {n : Nat} {l : List E} (h : roL n l = .ok) : Rn n l := by
  unfold roL at h
  cases e : l.findIdx? (bade n) with
  | none => exact rn_of e
  | some i => rw [e] at h; cases h
theorem ev_ok {W : World} {r : Ro} {v : Value} (h : Ev W r v) (hr : r = .ok) : v = .nilIface := by subst hr; exact h
theorem ev_no {W : World} {r : Ro} {v : Value} (h : Ev W r v) (hr : r ≠ .ok) : ∃ t u, v = .iface t u := by
  cases r with
  | ok => exact absurd rfl hr
  | lim => exact ⟨_, _, h⟩
  | «at» i => obtain ⟨q, h1, _⟩ := h; exact ⟨_, _, h1⟩
end Go.Proofs.YthijccmiemlilaaGreatDoor.Ord
