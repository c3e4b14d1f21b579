/- The program's Print of a status. -/
import Derived.Test.YtoojbpldhhbkbaaDoorHc
import Derived.Test.YtoojbpldhhbkbaaDoorBu
namespace Go.Proofs.YtoojbpldhhbkbaaDoor
open Go.RowKit Go.Shelf Go.Sort

theorem jn_snoc (c : UInt8) (x : List UInt8) : ∀ l : List (List UInt8), jn c (l ++ [x]) = jn c l ++ (if 0 < l.length then [c] else []) ++ x
  | [] => by simp [jn]
  | [y] => by simp [jn]
  | y :: z :: l => by
    have := jn_snoc c x (z :: l)
    simp only [List.cons_append] at this ⊢
    simp only [jn]
    rw [this]
    simp
theorem jn_succ (c : UInt8) (l : List (List UInt8)) (i : Nat) (hi : i < l.length) : jn c (l.take (i + 1)) = jn c (l.take i) ++ (if 0 < i then [c] else []) ++ l[i] := by
  rw [List.take_succ_eq_append_getElem hi, jn_snoc, List.length_take, Nat.min_eq_left (by omega)]
theorem jn_le (c : UInt8) (m : Nat) : ∀ l : List (List UInt8), (∀ x ∈ l, x.length ≤ m) → (jn c l).length ≤ l.length * (m + 1)
  | [], _ => by simp [jn]
  | [a], h => by have := h a (by simp); simp [jn]; omega
  | a :: b :: t, h => by
    have h1 := h a (by simp)
    have h2 := jn_le c m (b :: t) fun x hx => h x (List.mem_cons_of_mem _ hx)
    simp only [jn, List.length_append, List.length_cons, Nat.add_mul, Nat.one_mul] at *
    omega
theorem pver_0 (e : Int) (u r : List UInt8) (held : Bool) (vW vT : Value) (w : World) : Calls Tryd.prog 25 #[stv 0 e u r held vW vT] w fun x w' => x = .returned (.string ⟨#[45]⟩) ∧ Below w.heap.size w w' := by
  go_enter Tryd.func25, Tryd.ntmps25
  go_wp2
  go_ret
  exact ⟨rfl, bA1 _ _⟩
theorem pver_n (n : Int) (hn : n ≠ 0) (e : Int) (u r : List UInt8) (held : Bool) (A A' : Option Addr) (k k' c c' : Nat) (w : World) (i : In64 e) (hu : u.length ≤ 200) (hr : r.length ≤ 200) (htab : Tab w) : Calls Tryd.prog 25 #[stv n e u r held (.slice A k c) (.slice A' k' c')] w fun x w' => x = .returned (.string ⟨(Vm.pt e u r).toArray⟩) ∧ Below w.heap.size w w' := by
  have hn0 : (n == 0) = false := beq_eq_false_iff_ne.2 hn
  have b1 := bA1 w (sto n e u r held (.slice A k c) (.slice A' k' c') 35)
  have c2 := print_any e u r (w.alloc (sto n e u r held (.slice A k c) (.slice A' k' c') 35)) i.lo i.hi hu hr (tab_on htab b1)
  clear htab i hn
  have HB := Lib.hid b1
  clear b1
  go_enter Tryd.func25, Tryd.ntmps25
  go_wp2_with fail
  with_reducible refine c2.mono ?_
  rintro x w2 ⟨rfl, b2⟩
  go_wp2
  go_ret
  exact ⟨rfl, bt2 HB.out b2⟩
theorem pver_any (x : Sta) (A A' : Option Addr) (k k' c c' : Nat) (w : World) (i : In64 x.e) (hu : x.u.length ≤ 200) (hr : x.r.length ≤ 200) (htab : Tab w) : Calls Tryd.prog 25 #[stv x.n x.e x.u x.r x.held (.slice A k c) (.slice A' k' c')] w fun y w' => y = .returned (.string ⟨(vtx x).toArray⟩) ∧ Below w.heap.size w w' := by
  obtain ⟨n, e, u, r, held, W, T⟩ := x
  unfold vtx
  by_cases hn : n = 0
  · subst hn; exact pver_0 e u r held _ _ w
  · rw [if_neg hn]; exact pver_n n hn e u r held A A' k k' c c' w i hu hr htab
theorem phe_any (b : Bool) (w : World) : Calls Tryd.prog 26 #[.bool b] w fun x w' => x = .returned (.string ⟨(htx b).toArray⟩) ∧ w' = w := by
  cases b
  all_goals
    go_enter Tryd.func26, Tryd.ntmps26
    go_wp2
    go_ret
    exact ⟨rfl, rfl⟩
theorem bd_32 (B b : Nat) (l : List UInt8) (w : World) (h : Bd B b l w) (hl : l.length ≤ 1000000) :
    Calls Tryd.prog 22 #[.pointer (some ⟨b, 0, none⟩), .int .u8 32] w fun e w' => e = .returned .nilIface ∧ Bd B b (l ++ [32]) w' ∧ Below B w w' ∧ Lib.OthersKept 5 (some b) w w' := bd_byte B b l 32 w h hl
theorem bd_44 (B b : Nat) (l : List UInt8) (w : World) (h : Bd B b l w) (hl : l.length ≤ 1000000) :
    Calls Tryd.prog 22 #[.pointer (some ⟨b, 0, none⟩), .int .u8 44] w fun e w' => e = .returned .nilIface ∧ Bd B b (l ++ [44]) w' ∧ Below B w w' ∧ Lib.OthersKept 5 (some b) w w' := bd_byte B b l 44 w h hl
theorem bd_dash (B b : Nat) (l : List UInt8) (w : World) (h : Bd B b l w) (hl : l.length ≤ 1000000) :
    Calls Tryd.prog 23 #[.pointer (some ⟨b, 0, none⟩), .string ⟨#[45]⟩] w fun e w' => e = .returned (.tuple #[.int .i64 1, .nilIface]) ∧ Bd B b (l ++ [45]) w' ∧ Below B w w' ∧ Lib.OthersKept 5 (some b) w w' := bd_str B b l [45] w h hl (by simp)
theorem lst_nil (B b : Nat) (l : List UInt8) (A : Option Addr) (c : Nat) (w : World) (h : Bd B b l w) (hl : l.length ≤ 30000) :
    Calls Tryd.prog 21 #[.slice A 0 c, .pointer (some ⟨b, 0, none⟩)] w fun x w' => x = .returned (.tuple #[]) ∧ Bd B b (l ++ [32] ++ [45]) w' ∧ Below B w w' := by
  have c1 := bd_32 B b l w h (by omega)
  clear h
  go_enter Tryd.func21, Tryd.ntmps21
  go_wp2_with fail
  with_reducible refine c1.mono ?_
  rintro x w1 ⟨rfl, h1, b1, _⟩
  have c2 := bd_dash B b _ w1 h1 (by simp; omega)
  clear h1 c1
  go_wp2_with fail
  with_reducible refine c2.mono ?_
  rintro x w2 ⟨rfl, h2, b2, _⟩
  clear c2
  go_wp2
  refine wp_loop_rounds 1 ?_
  rw [rounds_succ]
  go_wp2
  exact bodyPost_end (results_none rfl _ _ _) rfl ⟨rfl, h2, b1.trans b2⟩
set_option maxHeartbeats 1600000 in
theorem lst_row (B b : Nat) (l : List UInt8) (bb o c : Nat) (L : List (List UInt8)) (w : World) (h : Bd B b l w) (hl : l.length ≤ 30000) (hL0 : 0 < L.length) (hL : L.length ≤ 40) (hx : ∀ s ∈ L, s.length ≤ 400) (hS : ∀ W, Below B w W → Sr W bb o L) :
    Calls Tryd.prog 21 #[.slice (some ⟨bb, o, none⟩) L.length c, .pointer (some ⟨b, 0, none⟩)] w fun x w' => x = .returned (.tuple #[]) ∧ Bd B b (l ++ [32] ++ jn 44 L) w' ∧ Below B w w' := by
  have c1 := bd_32 B b l w h (by omega)
  have HX := Lib.hid hx
  have HS := Lib.hid hS
  have hL0' : ((L.length : Int) == 0) = false := by rw [beq_eq_false_iff_ne]; omega
  clear h hx hS
  go_enter Tryd.func21, Tryd.ntmps21
  go_wp2_with fail
  with_reducible refine c1.mono ?_
  rintro x w1 ⟨rfl, h1, b1, _⟩
  clear c1
  go_wp2
  go_loopw [12] (fun i W => ∃ k : Nat, k ≤ L.length ∧ i = .int .i64 k ∧ Below B w W ∧ Bd B b (l ++ [32] ++ jn 44 (L.take k)) W) (fun i _ => L.length - (intOf i).toNat)
  case atStart => exact ⟨0, Nat.zero_le _, rfl, b1, by simpa [jn] using h1⟩
  case round =>
    obtain ⟨k, hk, rfl, hB, hD⟩ := hrel
    by_cases hlt : k < L.length
    · have hc := (HS.out wr hB).c k hlt
      have hlk : (l ++ [32] ++ jn 44 (L.take k)).length ≤ 50000 := by
        have := jn_le 44 400 (L.take k) (fun x hx => HX.out x (List.mem_of_mem_take hx))
        simp only [List.length_append, List.length_take, List.length_singleton] at this ⊢
        have : min k L.length * (400 + 1) ≤ 40 * 401 := Nat.mul_le_mul (by omega) (by omega)
        omega
      have hxl := HX.out L[k] (List.getElem_mem hlt)
      have hj := jn_succ 44 L k hlt
      obtain ⟨x, hx⟩ : ∃ x, x = L[k] := ⟨_, rfl⟩
      rw [← hx] at hc hxl hj
      clear hx
      have HJ := Lib.hid hj
      have HD := Lib.hid hD
      clear hj hD
      by_cases hk0 : k = 0
      · have hg : ¬ (0 : Int) < (k : Int) := by omega
        have HK : Hid (Bd B b (l ++ [32] ++ jn 44 (L.take k) ++ x) = Bd B b (l ++ [32] ++ jn 44 (L.take (k + 1)))) := Lib.hid (by
          rw [HJ.out, if_neg (by omega)]; simp)
        clear hk0
        have c2 := bd_str B b _ x wr HD.out (by omega) (by omega)
        go_wp2_with fail
        with_reducible refine c2.mono ?_
        rintro e w2 ⟨rfl, h2, b2, _⟩
        rw [HK.out] at h2
        have h2 := Lib.hid h2
        clear c2
        go_wp2
        exact ⟨⟨k + 1, hlt, by go_num, hB.trans b2, h2.out⟩, by simp [intOf]; omega⟩
      · have hg : (0 : Int) < (k : Int) := by omega
        have HK : Hid (Bd B b (l ++ [32] ++ jn 44 (L.take k) ++ [44] ++ x) = Bd B b (l ++ [32] ++ jn 44 (L.take (k + 1)))) := Lib.hid (by
          rw [HJ.out, if_pos (by omega)]; simp)
        clear hk0
        have c1 := bd_44 B b _ wr HD.out (by omega)
        go_wp2_with fail
        with_reducible refine c1.mono ?_
        rintro e w1' ⟨rfl, h1', b1', _⟩
        have c2 := bd_str B b _ x w1' h1' (by simp at hlk ⊢; omega) (by omega)
        have hc' := hc
        clear c1 h1'
        go_wp2_with fail
        with_reducible refine c2.mono ?_
        rintro e w2 ⟨rfl, h2, b2, _⟩
        rw [HK.out] at h2
        have h2 := Lib.hid h2
        clear c2
        go_wp2
        exact ⟨⟨k + 1, hlt, by go_num, hB.trans (b1'.trans b2), h2.out⟩, by simp [intOf]; omega⟩
    · have hd : Bd B b (l ++ [32] ++ jn 44 L) wr := by rw [List.take_of_length_le (by omega)] at hD; exact hD
      have HD := Lib.hid hd
      clear hd hD
      go_wp2
      exact bodyPost_end (results_none rfl _ _ _) rfl ⟨rfl, HD.out, hB⟩
theorem lst_any (B b : Nat) (l : List UInt8) (v : Value) (L : List (List UInt8)) (w : World) (h : Bd B b l w) (hl : l.length ≤ 30000) (hL : L.length ≤ 40) (hx : ∀ s ∈ L, s.length ≤ 400) (hS : ∀ W, Below B w W → Ss W v L) :
    Calls Tryd.prog 21 #[v, .pointer (some ⟨b, 0, none⟩)] w fun x w' => x = .returned (.tuple #[]) ∧ Bd B b (l ++ [32] ++ ltx L) w' ∧ Below B w w' := by
  by_cases h0 : L = []
  · subst h0
    obtain ⟨A, c, rfl⟩ := (hS w (Below.refl _ _)).sl
    exact lst_nil B b l A c w h hl
  · unfold ltx
    rw [if_neg h0]
    rcases (hS w (Below.refl _ _)).is with ⟨h1, _⟩ | ⟨bb, o, c, rfl, _, _⟩
    · exact absurd h1 h0
    · refine lst_row B b l bb o c L w h hl (List.length_pos_iff.2 h0) hL hx fun W hW => ?_
      rcases (hS W hW).is with ⟨h1, _⟩ | ⟨bb', o', c', e, _, hs⟩
      · exact absurd h1 h0
      · cases e; exact hs
/-- What Print answers. -/
def prv (x : Sta) : Value := if sok x then .tuple #[.string ⟨(stx x).toArray⟩, .nilIface] else .tuple #[.string ⟨#[]⟩, .iface 22 (.int .i64 1)]
theorem stx_eq (x : Sta) : stx x = Lib.itoa x.n ++ [32] ++ vtx x ++ [32] ++ htx x.held ++ [32] ++ ltx x.W ++ [32] ++ ltx x.T := by
  unfold stx wds
  simp [jn]
/-- What the walks want of a status. -/
structure Sg (x : Sta) : Prop where
  i : In64 x.e
  u : x.u.length ≤ 200
  r : x.r.length ≤ 200
  W : x.W.length ≤ 1000
  T : x.T.length ≤ 1000
  w : ∀ s ∈ x.W, s.length ≤ 400
  t : ∀ s ∈ x.T, s.length ≤ 400
theorem ltx_le {l : List (List UInt8)} (h : l.length ≤ 40) (k : ∀ s ∈ l, s.length ≤ 400) : (ltx l).length ≤ 16100 := by
  unfold ltx
  split
  · simp
  · have := jn_le 44 400 l k
    have : l.length * (400 + 1) ≤ 40 * 401 := Nat.mul_le_mul h (by omega)
    omega
theorem sprint_no (x : Sta) (hx : sok x = false) (vW vT : Value) (w : World) (hW : Ss w vW x.W) (hT : Ss w vT x.T) (g : Sg x) (htab : Tab w) :
    Calls Tryd.prog 12 #[stv x.n x.e x.u x.r x.held vW vT] w fun y w' => y = .returned (.tuple #[.string ⟨#[]⟩, .iface 22 (.int .i64 1)]) ∧ Below w.heap.size w w' := by
  obtain ⟨A, c, rfl⟩ := hW.sl
  obtain ⟨A', c', rfl⟩ := hT.sl
  have b1 := bA1 w (sto x.n x.e x.u x.r x.held (.slice A x.W.length c) (.slice A' x.T.length c') 35)
  have c1 := sright_any x _ _ _ (hW.on b1) (hT.on b1) g.i g.u g.r (tab_on htab b1)
  rw [hx] at c1
  have HB := Lib.hid b1
  clear b1 hW hT g htab hx
  go_enter Tryd.func12, Tryd.ntmps12
  go_wp2_with fail
  with_reducible refine c1.mono ?_
  rintro y w2 ⟨rfl, b2⟩
  go_wp2
  go_ret2
  exact ⟨rfl, bt2 HB.out b2⟩
theorem vtx_le {x : Sta} (hx : sok x = true) : (vtx x).length ≤ 100 := by
  unfold vtx
  split
  · simp
  · rename_i h0
    unfold sok at hx
    rw [if_neg h0] at hx
    simp only [Bool.and_eq_true] at hx
    have := (Vm.rt_parts hx.1.1.1.1.2).2.2.2.2.1
    omega
set_option maxHeartbeats 3200000 in
theorem sprint_yes (k : Nat) (e : Int) (u r : List UInt8) (held : Bool) (W T : List (List UInt8)) (hx : sok ⟨k, e, u, r, held, W, T⟩ = true) (vW vT : Value) (w : World) (hW : Ss w vW W) (hT : Ss w vT T) (g : Sg ⟨k, e, u, r, held, W, T⟩) (htab : Tab w) :
    Calls Tryd.prog 12 #[stv k e u r held vW vT] w fun y w' => y = .returned (.tuple #[.string ⟨(stx ⟨k, e, u, r, held, W, T⟩).toArray⟩, .nilIface]) ∧ Below w.heap.size w w' := by
  obtain ⟨A, c, rfl⟩ := hW.sl
  obtain ⟨A', c', rfl⟩ := hT.sl
  have b1 := bA1 w (sto k e u r held (.slice A W.length c) (.slice A' T.length c') 35)
  have S1 := stc_new w k e u r held (.slice A W.length c) (.slice A' T.length c') 35
  have c1 := sright_any ⟨k, e, u, r, held, W, T⟩ _ _ _ (hW.on b1) (hT.on b1) g.i g.u g.r (tab_on htab b1)
  rw [hx] at c1
  have cV := fun W0 hW0 => pver_any ⟨k, e, u, r, held, W, T⟩ A A' W.length T.length c c' W0 g.i g.u g.r hW0
  have hk8 : k < 100 := by have := (wok_of hx).n7; dsimp only at this; omega
  have hVl := vtx_le hx
  have hDl : (Lib.decDigits k).length ≤ 2 := Vm.dd_len 1 k (by omega)
  have hHl : (htx held).length ≤ 10 := by cases held <;> simp [htx]
  have hW4 : W.length ≤ 40 := by have := (wok_of hx).WL; dsimp only at this; omega
  have hT4 : T.length ≤ 40 := by have := (wok_of hx).TL; dsimp only at this; omega
  have hWl := ltx_le (l := W) hW4 g.w
  have hTX : stx ⟨k, e, u, r, held, W, T⟩ = [] ++ Lib.decDigits k ++ [32] ++ vtx ⟨k, e, u, r, held, W, T⟩ ++ [32] ++ htx held ++ [32] ++ ltx W ++ [32] ++ ltx T := by rw [stx_eq]; simp [Lib.itoa]
  have HTX := Lib.hid hTX
  have HB := Lib.hid b1
  have HS := Lib.hid S1
  have HW := Lib.hid (hW.on b1)
  have HT := Lib.hid (hT.on b1)
  have HG := Lib.hid g
  have HTab := Lib.hid (tab_on htab b1)
  clear hTX
  dsimp only at c1 cV hVl
  generalize vtx ⟨k, e, u, r, held, W, T⟩ = tv at cV hVl HTX
  generalize stx ⟨k, e, u, r, held, W, T⟩ = tx at HTX ⊢
  clear b1 S1 hW hT g htab hx
  go_enter Tryd.func12, Tryd.ntmps12
  go_wp2_with fail
  with_reducible refine c1.mono ?_
  rintro y w2 ⟨rfl, b2⟩
  clear c1
  have d0 : Bd w2.heap.size w2.heap.size [] (w2.alloc (.cells #[.pointer none, .slice none 0 0] 61)) := ⟨Lib.fresh_isBuilder 61 5 w2, by simp⟩
  have bw0 := bA1 w2 (.cells #[.pointer none, .slice none 0 0] 61)
  have S3 := (HS.out.on b2).on bw0
  have HS2 := Lib.hid (HS.out.on b2)
  have HBW := Lib.hid bw0
  have HB2 := Lib.hid b2
  have D0 := Lib.hid d0
  have c2 := Tryd.strconv_Itoa_small k hk8 (w2.alloc (.cells #[.pointer none, .slice none 0 0] 61))
  clear d0 bw0 HS b2
  obtain ⟨_, a0, a1, a2, a3, a4, a5, a6⟩ := S3
  go_wp2_with fail
  with_reducible refine c2.mono ?_
  rintro y w3 ⟨rfl, rfl⟩
  clear c2
  have c3 := bd_str w2.heap.size w2.heap.size [] (Lib.decDigits k) _ D0.out (by simp) (by omega)
  clear a0 a1 a2 a3 a4 a5 a6
  go_wp2_with fail
  with_reducible refine c3.mono ?_
  rintro y w4 ⟨rfl, h4, b4, _⟩
  clear c3
  have c4 := bd_32 w2.heap.size w2.heap.size _ w4 h4 (by simp; omega)
  clear h4
  go_wp2_with fail
  with_reducible refine c4.mono ?_
  rintro y w5 ⟨rfl, h5, b5, _⟩
  clear c4
  have b05 := HBW.out.trans (b4.trans b5)
  clear b4 b5
  obtain ⟨_, a0, a1, a2, a3, a4, a5, a6⟩ := HS2.out.on b05
  have c5 := cV w5 (tab_on (tab_on HTab.out HB2.out) b05)
  clear cV
  go_wp2_with fail
  with_reducible refine c5.mono ?_
  rintro y w6 ⟨rfl, b6⟩
  have h6 := h5.on b6
  clear c5 h5 a0 a1 a2 a3 a4 a5 a6
  have b06 := bt2 b05 b6
  clear b05 b6
  have c6 := bd_str w2.heap.size w2.heap.size _ tv w6 h6 (by simp; omega) (by omega)
  clear h6
  go_wp2_with fail
  with_reducible refine c6.mono ?_
  rintro y w7 ⟨rfl, h7, b7, _⟩
  clear c6
  have c7 := bd_32 w2.heap.size w2.heap.size _ w7 h7 (by simp; omega)
  clear h7
  go_wp2_with fail
  with_reducible refine c7.mono ?_
  rintro y w8 ⟨rfl, h8, b8, _⟩
  clear c7
  have b08 := b06.trans (b7.trans b8)
  clear b06 b7 b8
  obtain ⟨_, a0, a1, a2, a3, a4, a5, a6⟩ := HS2.out.on b08
  have c8 := phe_any held w8
  go_wp2_with fail
  with_reducible refine c8.mono ?_
  rintro y w9 ⟨rfl, rfl⟩
  clear c8 a0 a1 a2 a3 a4 a5 a6
  have c9 := bd_str w2.heap.size w2.heap.size _ (htx held) w9 h8 (by simp; omega) (by omega)
  clear h8
  go_wp2_with fail
  with_reducible refine c9.mono ?_
  rintro y w10 ⟨rfl, h10, b10, _⟩
  clear c9
  have b010 := b08.trans b10
  clear b08 b10
  obtain ⟨_, a0, a1, a2, a3, a4, a5, a6⟩ := HS2.out.on b010
  have c10 := lst_any w2.heap.size w2.heap.size _ _ W w10 h10 (by simp; omega) hW4 HG.out.w fun W0 hW0 => (HW.out.on HB2.out).on (b010.trans hW0)
  clear h10
  go_wp2_with fail
  with_reducible refine c10.mono ?_
  rintro y w11 ⟨rfl, h11, b11⟩
  clear c10 a0 a1 a2 a3 a4 a5 a6
  have b011 := b010.trans b11
  clear b010 b11
  obtain ⟨_, a0, a1, a2, a3, a4, a5, a6⟩ := HS2.out.on b011
  have c11 := lst_any w2.heap.size w2.heap.size _ _ T w11 h11 (by simp; omega) hT4 HG.out.t fun W0 hW0 => (HT.out.on HB2.out).on (b011.trans hW0)
  clear h11
  go_wp2_with fail
  with_reducible refine c11.mono ?_
  rintro y w12 ⟨rfl, h12, b12⟩
  clear c11 a0 a1 a2 a3 a4 a5 a6
  have b012 := b011.trans b12
  clear b011 b12
  have c12 := Tryd.Builder_String_any w2.heap.size w2.heap.size _ w12 h12.is h12.le
  rw [← HTX.out] at c12
  clear h12
  go_wp2_with fail
  with_reducible refine c12.mono ?_
  rintro y w13 ⟨rfl, b13⟩
  clear c12
  go_wp2
  go_ret2
  exact ⟨rfl, bt2 (bt2 HB.out HB2.out) (b012.trans b13)⟩
theorem sprint_any (x : Sta) (vW vT : Value) (w : World) (hW : Ss w vW x.W) (hT : Ss w vT x.T) (g : Sg x) (htab : Tab w) :
    Calls Tryd.prog 12 #[stv x.n x.e x.u x.r x.held vW vT] w fun y w' => y = .returned (prv x) ∧ Below w.heap.size w w' := by
  unfold prv
  cases hx : sok x with
  | false => exact sprint_no x hx vW vT w hW hT g htab
  | true =>
    obtain ⟨n, e, u, r, held, W, T⟩ := x
    obtain ⟨k, rfl⟩ : ∃ k : Nat, n = k := ⟨n.toNat, by have := (wok_of hx).n0; dsimp only at this; omega⟩
    exact sprint_yes k e u r held W T hx vW vT w hW hT g htab
end Go.Proofs.YtoojbpldhhbkbaaDoor
