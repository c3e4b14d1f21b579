/- The reference's PrintStatus. -/
import Derived.Test.YtoojbpldhhbkbaaGreatDoorHh
namespace Go.Proofs.YtoojbpldhhbkbaaGreatDoor
open Go.RowKit Go.Shelf Go.Sort

theorem stands_any (x : Sta) (vW vT : Value) (w : World) (hW : Ss w vW x.W) (hT : Ss w vT x.T) (g : Sg x) (htab : Tab w) :
    Calls Tryz.prog 10 #[stv x.n x.e x.u x.r x.held vW vT] w fun y w' => y = .returned (.bool (sok x)) ∧ Below w.heap.size w w' := by
  obtain ⟨n, e, u, r, held, W, T⟩ := x
  obtain ⟨A, c, rfl⟩ := hW.sl
  obtain ⟨A', c', rfl⟩ := hT.sl
  rw [sok_ref]
  cases hA : sokA ⟨n, e, u, r, held, W, T⟩ with
  | false => exact stands_no n e u r held A A' c c' W T w hW hT hA
  | true =>
    rw [Bool.true_and]
    dsimp only
    by_cases hn : n = 0
    · subst hn
      rw [if_pos rfl]
      exact stands_0 e u r held A A' c c' W T w hW hT hA
    · rw [if_neg hn]
      exact stands_n n hn e u r held A A' c c' W T w hW hT hA g htab
theorem join_jn (c : UInt8) : ∀ l : List (List UInt8), Lib.join l [c] = jn c l
  | [] => rfl
  | [a] => by rw [Lib.join_one]; rfl
  | a :: b :: t => by
    have := join_jn c (b :: t)
    unfold Lib.join at this ⊢
    unfold jn
    rw [← this]
    simp [List.intercalate]
theorem xjoin_any (v : Value) (L : List (List UInt8)) (w : World) (h : Ss w v L) (h0 : L ≠ []) (hL : L.length ≤ 40) (hx : ∀ s ∈ L, s.length ≤ 400) : Calls Tryz.prog 15 #[v, .string ⟨#[44]⟩] w fun e w' => e = .returned (.string ⟨(jn 44 L).toArray⟩) ∧ Below w.heap.size w w' := by
  rcases h.is with ⟨h1, _⟩ | ⟨b, o, c, rfl, hc, hs⟩
  · exact absurd h1 h0
  · have hm : (L.map fun l => (⟨l.toArray⟩ : ByteArray)).map (·.data.toList) = L := by rw [List.map_map]; exact List.map_id'' (fun _ => rfl) L
    have := jn_le 44 400 L hx
    have h2 : L.length * (400 + 1) ≤ 40 * 401 := Nat.mul_le_mul hL (by omega)
    have hj : Lib.join ((L.map fun l => (⟨l.toArray⟩ : ByteArray)).map (·.data.toList)) (ByteArray.mk #[44]).data.toList = jn 44 L := by rw [hm]; exact join_jn 44 L
    have cJ := Tryz.strings_Join b o c (L.map fun l => (⟨l.toArray⟩ : ByteArray)) ⟨#[44]⟩ w (fun j x hx => by
      rw [List.getElem?_map] at hx
      obtain ⟨l, hl, rfl⟩ := Option.map_eq_some_iff.1 hx
      obtain ⟨hj, rfl⟩ := List.getElem?_eq_some_iff.1 hl
      exact hs.c j hj) hs.lt (by simp; omega) (by simpa using hc) (by rw [hj]; omega)
    rw [hj, List.length_map] at cJ
    exact cJ
theorem xprint_no (x : Sta) (hx : sok x = false) (vW vT : Value) (w : World) (hW : Ss w vW x.W) (hT : Ss w vT x.T) (g : Sg x) (htab : Tab w) :
    Calls Tryz.prog 6 #[stv x.n x.e x.u x.r x.held vW vT] w fun y w' => y = .returned (.tuple #[.string ⟨#[]⟩, .int .i64 1]) ∧ Below w.heap.size w w' := by
  obtain ⟨A, c, rfl⟩ := hW.sl
  obtain ⟨A', c', rfl⟩ := hT.sl
  have b1 := bA1 w (sto x.n x.e x.u x.r x.held (.slice A x.W.length c) (.slice A' x.T.length c') 26)
  have c1 := stands_any x _ _ _ (hW.on b1) (hT.on b1) g (tab_on htab b1)
  rw [hx] at c1
  have HB := Lib.hid b1
  clear b1 hW hT g htab hx
  go_enter Tryz.func6, Tryz.ntmps6
  go_wp2_with fail
  with_reducible refine c1.mono ?_
  rintro y w2 ⟨rfl, b2⟩
  go_wp2
  go_ret2
  exact ⟨rfl, bt2 HB.out b2⟩
theorem ret_sv2 {a b : ByteArray} {n : Int} (h : a = b) : Ending.returned (.tuple #[.string a, .int .i64 n]) = .returned (.tuple #[.string b, .int .i64 n]) := by rw [h]
theorem cat9 (a b c d e : List UInt8) : (((((((ByteArray.mk a.toArray ++ ByteArray.mk #[32]) ++ ByteArray.mk b.toArray) ++ ByteArray.mk #[32]) ++ ByteArray.mk c.toArray) ++ ByteArray.mk #[32]) ++ ByteArray.mk d.toArray) ++ ByteArray.mk #[32]) ++ ByteArray.mk e.toArray = ByteArray.mk (a ++ [32] ++ b ++ [32] ++ c ++ [32] ++ d ++ [32] ++ e).toArray := by
  apply ByteArray.ext
  simp
set_option maxHeartbeats 6400000 in
theorem xprint_0 (e : Int) (u r : List UInt8) (held : Bool) (A A' : Option Addr) (c c' : Nat) (W T : List (List UInt8)) (hx : sok ⟨0, e, u, r, held, W, T⟩ = true) (w : World) (hW : Ss w (.slice A W.length c) W) (hT : Ss w (.slice A' T.length c') T) (g : Sg ⟨0, e, u, r, held, W, T⟩) (htab : Tab w) :
    Calls Tryz.prog 6 #[stv 0 e u r held (.slice A W.length c) (.slice A' T.length c')] w fun y w' => y = .returned (.tuple #[.string ⟨(stx ⟨0, e, u, r, held, W, T⟩).toArray⟩, .int .i64 0]) ∧ Below w.heap.size w w' := by
  have b1 := bA1 w (sto 0 e u r held (.slice A W.length c) (.slice A' T.length c') 26)
  have c1 := stands_any ⟨0, e, u, r, held, W, T⟩ _ _ _ (hW.on b1) (hT.on b1) g (tab_on htab b1)
  have hz := hx
  rw [sok0] at hz
  simp only [Bool.and_eq_true, decide_eq_true_eq, Bool.not_eq_true'] at hz
  obtain ⟨_, rfl, hW0, hT0⟩ := hz
  obtain rfl := List.length_eq_zero_iff.1 hW0
  obtain rfl := List.length_eq_zero_iff.1 hT0
  rw [hx] at c1
  have hTX : stx ⟨0, e, u, r, false, [], []⟩ = Lib.decDigits 0 ++ [32] ++ [45] ++ [32] ++ [102, 114, 101, 101] ++ [32] ++ [45] ++ [32] ++ [45] := by rw [stx_eq]; simp [Lib.itoa, vtx, htx, ltx]
  have HTX := Lib.hid hTX
  have HS := Lib.hid (stc_new w 0 e u r false (.slice A 0 c) (.slice A' 0 c') 26)
  have HB := Lib.hid b1
  generalize stx ⟨0, e, u, r, false, [], []⟩ = tx at HTX ⊢
  have hDl : (Lib.decDigits 0).length ≤ 2 := Vm.dd_len 1 0 (by omega)
  clear b1 hW hT g htab hx hTX hW0 hT0
  simp only [List.length_nil] at c1 HB
  go_enter Tryz.func6, Tryz.ntmps6
  go_wp2_with fail
  with_reducible refine c1.mono ?_
  rintro y w2 ⟨rfl, b2⟩
  obtain ⟨_, a0, a1, a2, a3, a4, a5, a6⟩ := HS.out.on b2
  have c2 := Tryz.strconv_Itoa_small 0 (by omega) w2
  go_wp2_with fail
  refine c2.mono ?_
  rintro y w3 ⟨rfl, rfl⟩
  generalize Lib.decDigits 0 = d0 at *
  go_wp2
  go_ret2
  exact ⟨ret_sv2 (by rw [HTX.out]; exact cat9 d0 [45] [102, 114, 101, 101] [45] [45]), bt2 HB.out b2⟩
/-- The last step of PrintStatus: what stands in its four texts is joined. -/
structure Pn (k : Nat) (tv th tw tt tx : List UInt8) : Prop where
  k8 : k < 100
  dl : (Lib.decDigits k).length ≤ 2
  vl : tv.length ≤ 100
  hl : th.length ≤ 10
  wl : tw.length ≤ 16100
  tl : tt.length ≤ 16100
  tx : tx = Lib.decDigits k ++ [32] ++ tv ++ [32] ++ th ++ [32] ++ tw ++ [32] ++ tt
set_option maxRecDepth 100000 in
set_option maxHeartbeats 12800000 in
theorem xprint_n (k : Nat) (hk0 : k ≠ 0) (e : Int) (u r : List UInt8) (held : Bool) (A A' : Option Addr) (c c' : Nat) (W T : List (List UInt8)) (hx : sok ⟨k, e, u, r, held, W, T⟩ = true) (w : World) (hW : Ss w (.slice A W.length c) W) (hT : Ss w (.slice A' T.length c') T) (g : Sg ⟨k, e, u, r, held, W, T⟩) (htab : Tab w) :
    Calls Tryz.prog 6 #[stv k e u r held (.slice A W.length c) (.slice A' T.length c')] w fun y w' => y = .returned (.tuple #[.string ⟨(stx ⟨k, e, u, r, held, W, T⟩).toArray⟩, .int .i64 0]) ∧ Below w.heap.size w w' := by
  have b1 := bA1 w (sto k e u r held (.slice A W.length c) (.slice A' T.length c') 26)
  have c1 := stands_any ⟨k, e, u, r, held, W, T⟩ _ _ _ (hW.on b1) (hT.on b1) g (tab_on htab b1)
  rw [hx] at c1
  have hk7 : k < 100 := by have := (wok_of hx).n7; dsimp only at this; omega
  have hv : vtx ⟨k, e, u, r, held, W, T⟩ = Vm.pt e u r := by unfold vtx; rw [if_neg (show ((k : Int)) ≠ 0 by omega)]
  have hW4 : W.length ≤ 40 := by have := (wok_of hx).WL; dsimp only at this; omega
  have hT4 : T.length ≤ 40 := by have := (wok_of hx).TL; dsimp only at this; omega
  have hP : Pn k (Vm.pt e u r) (htx held) (ltx W) (ltx T) (stx ⟨k, e, u, r, held, W, T⟩) :=
    ⟨hk7, Vm.dd_len 1 k (by omega), hv ▸ vtx_le hx, by cases held <;> simp [htx], ltx_le (l := W) hW4 g.w, ltx_le (l := T) hT4 g.t, by rw [stx_eq, hv]; simp [Lib.itoa]⟩
  have HP := Lib.hid hP
  have HS := Lib.hid (stc_new w k e u r held (.slice A W.length c) (.slice A' T.length c') 26)
  have HB := Lib.hid b1
  have HW := Lib.hid (hW.on b1)
  have HT := Lib.hid (hT.on b1)
  have HG := Lib.hid g
  have HTab := Lib.hid (tab_on htab b1)
  have hkz : ((k : Int) == 0) = false := by rw [beq_eq_false_iff_ne]; omega
  generalize stx ⟨k, e, u, r, held, W, T⟩ = tx at HP ⊢
  clear b1 hW hT g htab hx hv hP hk0 hk7
  dsimp only at c1
  go_enter Tryz.func6, Tryz.ntmps6
  go_wp2_with fail
  with_reducible refine c1.mono ?_
  rintro y w2 ⟨rfl, b2⟩
  clear c1
  obtain ⟨_, a0, a1, a2, a3, a4, a5, a6⟩ := HS.out.on b2
  have cP := xprint_any e u r w2 HG.out.i.lo HG.out.i.hi HG.out.u HG.out.r (tab_on HTab.out b2)
  go_wp2_with fail
  with_reducible refine cP.mono ?_
  rintro y w3 ⟨rfl, b3⟩
  clear cP a0 a1 a2 a3 a4 a5 a6
  have b23 := bt2 b2 b3
  clear b2 b3
  obtain ⟨_, a0, a1, a2, a3, a4, a5, a6⟩ := HS.out.on b23
  have cI := fun w9 => Tryz.strconv_Itoa_small k HP.out.k8 w9
  have cJ := fun w8 (h : Below _ _ w8) (h0 : T ≠ []) => xjoin_any _ T w8 (HT.out.on h) h0 hT4 HG.out.t
  have cJW := fun (h0 : W ≠ []) => xjoin_any _ W w3 (HW.out.on b23) h0 hW4 HG.out.w
  have hvl := HP.out.vl
  have hwl := HP.out.wl
  have htl := HP.out.tl
  have hdl := HP.out.dl
  have hhl := HP.out.hl
  have HTX := Lib.hid HP.out.tx
  clear HP HG HW HT HTab
  generalize Vm.pt e u r = tv at *
  generalize Lib.decDigits k = dk at *
  cases held with
  | true =>
    by_cases hW0 : W = []
    · have hWl : W.length = 0 := by rw [hW0]; rfl
      have hWt : ltx W = [45] := by rw [hW0]; rfl
      rw [hWt] at HTX hwl
      clear hW0 hWt cJW
      by_cases hT0 : T = []
      · have hTl : T.length = 0 := by rw [hT0]; rfl
        have hTt : ltx T = [45] := by rw [hT0]; rfl
        rw [hTt] at HTX htl
        clear hT0 hTt cJ
        go_wp2_with fail
        refine (cI _).mono ?_
        rintro y w9 ⟨rfl, rfl⟩
        go_wp2
        go_ret2
        exact ⟨ret_sv2 (by rw [HTX.out]; exact cat9 _ _ _ _ _), bt2 HB.out b23⟩
      · have hTl : 0 < T.length := List.length_pos_iff.2 hT0
        have hTt : ltx T = jn 44 T := by unfold ltx; rw [if_neg hT0]
        rw [hTt] at HTX htl
        have cT := cJ _ b23 hT0
        clear hT0 hTt cJ
        go_wp2_with fail
        refine cT.mono ?_
        rintro y w7 ⟨rfl, b7⟩
        clear cT a0 a1 a2 a3 a4 a5 a6
        have b27 := bt2 b23 b7
        obtain ⟨_, a0, a1, a2, a3, a4, a5, a6⟩ := HS.out.on b27
        go_wp2_with fail
        refine (cI _).mono ?_
        rintro y w9 ⟨rfl, rfl⟩
        go_wp2
        go_ret2
        exact ⟨ret_sv2 (by rw [HTX.out]; exact cat9 _ _ _ _ _), bt2 HB.out b27⟩
    · have hWl : 0 < W.length := List.length_pos_iff.2 hW0
      have hWt : ltx W = jn 44 W := by unfold ltx; rw [if_neg hW0]
      rw [hWt] at HTX hwl
      have cW := cJW hW0
      clear hW0 hWt cJW
      go_wp2_with fail
      refine cW.mono ?_
      rintro y w4 ⟨rfl, b4⟩
      clear cW a0 a1 a2 a3 a4 a5 a6
      have b24 := bt2 b23 b4
      obtain ⟨_, a0, a1, a2, a3, a4, a5, a6⟩ := HS.out.on b24
      by_cases hT0 : T = []
      · have hTl : T.length = 0 := by rw [hT0]; rfl
        have hTt : ltx T = [45] := by rw [hT0]; rfl
        rw [hTt] at HTX htl
        clear hT0 hTt cJ
        go_wp2_with fail
        refine (cI _).mono ?_
        rintro y w9 ⟨rfl, rfl⟩
        go_wp2
        go_ret2
        exact ⟨ret_sv2 (by rw [HTX.out]; exact cat9 _ _ _ _ _), bt2 HB.out b24⟩
      · have hTl : 0 < T.length := List.length_pos_iff.2 hT0
        have hTt : ltx T = jn 44 T := by unfold ltx; rw [if_neg hT0]
        rw [hTt] at HTX htl
        have cT := cJ _ b24 hT0
        clear hT0 hTt cJ
        go_wp2_with fail
        refine cT.mono ?_
        rintro y w7 ⟨rfl, b7⟩
        clear cT a0 a1 a2 a3 a4 a5 a6
        have b27 := bt2 b24 b7
        obtain ⟨_, a0, a1, a2, a3, a4, a5, a6⟩ := HS.out.on b27
        go_wp2_with fail
        refine (cI _).mono ?_
        rintro y w9 ⟨rfl, rfl⟩
        go_wp2
        go_ret2
        exact ⟨ret_sv2 (by rw [HTX.out]; exact cat9 _ _ _ _ _), bt2 HB.out b27⟩
  | false =>
    by_cases hW0 : W = []
    · have hWl : W.length = 0 := by rw [hW0]; rfl
      have hWt : ltx W = [45] := by rw [hW0]; rfl
      rw [hWt] at HTX hwl
      clear hW0 hWt cJW
      by_cases hT0 : T = []
      · have hTl : T.length = 0 := by rw [hT0]; rfl
        have hTt : ltx T = [45] := by rw [hT0]; rfl
        rw [hTt] at HTX htl
        clear hT0 hTt cJ
        go_wp2_with fail
        refine (cI _).mono ?_
        rintro y w9 ⟨rfl, rfl⟩
        go_wp2
        go_ret2
        exact ⟨ret_sv2 (by rw [HTX.out]; exact cat9 _ _ _ _ _), bt2 HB.out b23⟩
      · have hTl : 0 < T.length := List.length_pos_iff.2 hT0
        have hTt : ltx T = jn 44 T := by unfold ltx; rw [if_neg hT0]
        rw [hTt] at HTX htl
        have cT := cJ _ b23 hT0
        clear hT0 hTt cJ
        go_wp2_with fail
        refine cT.mono ?_
        rintro y w7 ⟨rfl, b7⟩
        clear cT a0 a1 a2 a3 a4 a5 a6
        have b27 := bt2 b23 b7
        obtain ⟨_, a0, a1, a2, a3, a4, a5, a6⟩ := HS.out.on b27
        go_wp2_with fail
        refine (cI _).mono ?_
        rintro y w9 ⟨rfl, rfl⟩
        go_wp2
        go_ret2
        exact ⟨ret_sv2 (by rw [HTX.out]; exact cat9 _ _ _ _ _), bt2 HB.out b27⟩
    · have hWl : 0 < W.length := List.length_pos_iff.2 hW0
      have hWt : ltx W = jn 44 W := by unfold ltx; rw [if_neg hW0]
      rw [hWt] at HTX hwl
      have cW := cJW hW0
      clear hW0 hWt cJW
      go_wp2_with fail
      refine cW.mono ?_
      rintro y w4 ⟨rfl, b4⟩
      clear cW a0 a1 a2 a3 a4 a5 a6
      have b24 := bt2 b23 b4
      obtain ⟨_, a0, a1, a2, a3, a4, a5, a6⟩ := HS.out.on b24
      by_cases hT0 : T = []
      · have hTl : T.length = 0 := by rw [hT0]; rfl
        have hTt : ltx T = [45] := by rw [hT0]; rfl
        rw [hTt] at HTX htl
        clear hT0 hTt cJ
        go_wp2_with fail
        refine (cI _).mono ?_
        rintro y w9 ⟨rfl, rfl⟩
        go_wp2
        go_ret2
        exact ⟨ret_sv2 (by rw [HTX.out]; exact cat9 _ _ _ _ _), bt2 HB.out b24⟩
      · have hTl : 0 < T.length := List.length_pos_iff.2 hT0
        have hTt : ltx T = jn 44 T := by unfold ltx; rw [if_neg hT0]
        rw [hTt] at HTX htl
        have cT := cJ _ b24 hT0
        clear hT0 hTt cJ
        go_wp2_with fail
        refine cT.mono ?_
        rintro y w7 ⟨rfl, b7⟩
        clear cT a0 a1 a2 a3 a4 a5 a6
        have b27 := bt2 b24 b7
        obtain ⟨_, a0, a1, a2, a3, a4, a5, a6⟩ := HS.out.on b27
        go_wp2_with fail
        refine (cI _).mono ?_
        rintro y w9 ⟨rfl, rfl⟩
        go_wp2
        go_ret2
        exact ⟨ret_sv2 (by rw [HTX.out]; exact cat9 _ _ _ _ _), bt2 HB.out b27⟩
/-- What PrintStatus answers. -/
def xprv (x : Sta) : Value := if sok x then .tuple #[.string ⟨(stx x).toArray⟩, .int .i64 0] else .tuple #[.string ⟨#[]⟩, .int .i64 1]
theorem xprints_any (x : Sta) (vW vT : Value) (w : World) (hW : Ss w vW x.W) (hT : Ss w vT x.T) (g : Sg x) (htab : Tab w) :
    Calls Tryz.prog 6 #[stv x.n x.e x.u x.r x.held vW vT] w fun y w' => y = .returned (xprv x) ∧ Below w.heap.size w w' := by
  unfold xprv
  cases hx : sok x with
  | false => exact xprint_no x hx vW vT w hW hT g htab
  | true =>
    obtain ⟨n, e, u, r, held, W, T⟩ := x
    obtain ⟨k, rfl⟩ : ∃ k : Nat, n = k := ⟨n.toNat, by have := (wok_of hx).n0; dsimp only at this; omega⟩
    obtain ⟨A, c, rfl⟩ := hW.sl
    obtain ⟨A', c', rfl⟩ := hT.sl
    by_cases hk : k = 0
    · subst hk; exact xprint_0 e u r held A A' c c' W T hx w hW hT g htab
    · exact xprint_n k hk e u r held A A' c c' W T hx w hW hT g htab
end Go.Proofs.YtoojbpldhhbkbaaGreatDoor
