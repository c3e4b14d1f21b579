/- The reference's Rings: the squares. -/
import Derived.Test.YthijccmiemlilaaGreatDoorB4
namespace Go.Proofs.YthijccmiemlilaaGreatDoor.Ord
open Go.RowKit Go.Sort

/-- A make whose run is known. -/
theorem wpList_mk {P : Program} {W W' : World} {t : TypeId} {n : Nat} {v : Value} (hrun : (Instr.makeSlice t (.int .i64 (n : Int)) (.int .i64 (n : Int))).run P W = .ok v W') {ops : Array Oper} {rest : List Oper} {o : Oper} {a : Act} {Q : Exit → Act → World → Prop} (hg : o.guard = none) (x y : Operand) (hop : o.op = Op.makeSlice t x y) (hx : a.eval x = .int .i64 n) (hy : a.eval y = .int .i64 n) (K : wpList P ops Q rest (a.put o.dst v) W') : wpList P ops Q (o :: rest) a W := by
  refine wpList_plain hg fun K hK' => ?_
  unfold Oper.wp
  simp [execOp, hop, hx, hy, hrun, Result.andThen]
  exact hK' _ _ (by assumption)
set_option maxHeartbeats 1600000 in
set_option maxRecDepth 100000 in
/-- Where the edges are refused. -/
theorem rrings_no (n : Int) (A : Option Addr) (m c : Nat) (r : Ro) (w : World) (hF : Fi w) (hr : r ≠ .ok) (hE : ∀ W, Below w.heap.size w W → Calls Tryz.prog 80 #[.int .i64 n, .slice A m c] W fun e w' => e = .returned (fv r) ∧ Below W.heap.size W w') : Calls Tryz.prog 81 #[.int .i64 n, .slice A m c] w fun e w' => e = .returned (.tuple #[.slice none 0 0, fv r]) ∧ Below w.heap.size w w' := by
  have b0 := bA1 w (.cells #[.int .i64 0, .int .i64 0] 42)
  have K0 := Lib.hid (k2_new w)
  have c1 := hE _ b0
  have HFi := Lib.hid hF
  have HB0 := Lib.hid b0
  clear hE b0 hF
  obtain ⟨x, y, hxy⟩ : ∃ x y, fau r = (x, y) := ⟨_, _, rfl⟩
  have hne : x ≠ 0 := by
    rcases r with _ | _ | i
    · exact absurd rfl hr
    · cases hxy; decide
    · cases hxy; decide
  have efv : fv r = .agg #[.int .i64 x, .int .i64 y] := by unfold fv; rw [hxy]
  rw [efv] at c1 ⊢
  clear efv hxy hr
  go_enter Tryz.func81, Tryz.ntmps81
  go_wp2_with fail
  refine c1.mono ?_
  rintro e w2 ⟨rfl, b2⟩
  have b3 := bA1 w2 (.cells #[.int .i64 x, .int .i64 y] 42)
  have k3 := HB0.out.trans ((b2.trans (b3.mono b2.size)).mono HB0.out.size)
  obtain ⟨kl, q0, q1, f0, f1⟩ := (K0.out.on b2).on b3
  have g0 := (HFi.out.on k3).c0
  have g1 := (HFi.out.on k3).c1
  clear K0 c1 HB0 HFi
  go_wp2_with fail
  go_region
  go_wp2_with fail
  exact bodyPost_ret (v := .tuple #[.slice none 0 0, .agg #[.int .i64 x, .int .i64 y]]) (by simp [results, Tryz.results81, go_sem, q0, q1]) rfl ⟨rfl, ((k3.drew).setCell (Nat.le_refl _) _).setCell (Nat.le_refl _) _⟩
theorem K2.ne {W : World} {g : Nat} (h : K2 W g) {p : Addr} (hp : g ≠ p.block) (v : Value) : K2 (W.setCell p v) g := by
  have e := Below.heap_setCell W p v g hp
  exact ⟨by simpa [World.setCell] using h.lt, (World.cell?_of_block e).trans h.c0, (World.cell?_of_block e).trans h.c1, (World.frozen?_of_block e).trans h.f0, (World.frozen?_of_block e).trans h.f1⟩
theorem K2.drew {W : World} {g : Nat} (h : K2 W g) : K2 W.drew g := ⟨h.lt, h.c0, h.c1, h.f0, h.f1⟩
theorem Kp.low {S : Nat → Prop} {a b c : World} (h : Kp S a b) (k : Below a.heap.size b c) : Kp S a c :=
  ⟨k.os.trans h.os, k.tape.trans h.tape, k.output.trans h.output, Nat.le_trans h.size k.size, fun i hi hs => (k.block i hi).trans (h.block i hi hs)⟩
theorem K2.kp {S : Nat → Prop} {W W' : World} {g : Nat} (h : K2 W g) (k : Kp S W W') (hs : ¬ S g) : K2 W' g := by
  have e := k.block g h.lt hs
  exact ⟨Nat.lt_of_lt_of_le h.lt k.size, (World.cell?_of_block e).trans h.c0, (World.cell?_of_block e).trans h.c1, (World.frozen?_of_block e).trans h.f0, (World.frozen?_of_block e).trans h.f1⟩
theorem rst_yes {C : Om.T} {n i : Nat} {told : Nat → Bool} (hi : i < n) (h : frb C n told i = true) (hb : ∀ j, j < i → frb C n told j = false) : rst C n told = some i := by
  unfold rst
  rw [List.find?_range_eq_some]
  exact ⟨h, by simpa using hi, fun j hj => by simp [hb j hj]⟩
theorem rst_no {C : Om.T} {n : Nat} {told : Nat → Bool} (hb : ∀ j, j < n → frb C n told j = false) : rst C n told = none := by
  unfold rst
  rw [List.find?_eq_none]
  intro x hx
  simp at hx
  simp [hb x hx]
set_option maxHeartbeats 6400000 in
set_option maxRecDepth 100000 in
theorem rrings_in (n : Nat) (A : Option Addr) (c : Nat) (l : List E) (w : World) (hn : n ≤ 40) (hl : l.length ≤ 1000000) (h : Es w (.slice A l.length c) l) (hF : Fi w) (hr : roL n l = .ok) (hR : Rn n l) : Calls Tryz.prog 81 #[.int .i64 n, .slice A l.length c] w fun e w' => ∃ v, e = .returned (.tuple #[v, fv .ok]) ∧ Rl w' w.heap.size v (rr (Om.cl n (et l)) n n (fun _ => false)) ∧ Below w.heap.size w w' := by
  have b0 := bA1 w (.cells #[.int .i64 0, .int .i64 0] 42)
  have K0 := Lib.hid (k2_new w)
  have c1 := redges_in n A c l _ hn hl (h.on b0) (hF.on b0)
  rw [hr] at c1
  have HFi := Lib.hid hF
  have HB0 := Lib.hid b0
  have HE := Lib.hid h
  have HRn := Lib.hid hR
  have efv : fv .ok = .agg #[.int .i64 0, .int .i64 (-1)] := rfl
  rw [efv] at c1 ⊢
  obtain ⟨C, hC⟩ : ∃ C, C = Om.cl n (et l) := ⟨_, rfl⟩
  rw [← hC]
  have HCC := Lib.hid hC
  clear efv b0 hF h hr hR hC
  go_enter Tryz.func81, Tryz.ntmps81
  go_wp2_with fail
  refine c1.mono ?_
  rintro e w2 ⟨rfl, b2⟩
  have b3 := bA1 w2 (.cells #[.int .i64 0, .int .i64 (-1)] 42)
  have k3 := HB0.out.trans ((b2.trans (b3.mono b2.size)).mono HB0.out.size)
  have HK3 := Lib.hid ((K0.out.on b2).on b3)
  have g0 := (HFi.out.on k3).c0
  have g1 := (HFi.out.on k3).c1
  have gw2 : w.heap.size < w2.heap.size := Nat.lt_of_lt_of_le (by have := K0.out.lt; exact this) b2.size
  clear K0 c1 HB0 b2 b3
  obtain ⟨W3, hW3⟩ : ∃ W3, W3 = w2.alloc (.cells #[.int .i64 0, .int .i64 (-1)] 42) := ⟨_, rfl⟩
  rw [← hW3] at k3 HK3
  have HW3 := Lib.hid k3
  have mk := mk45 n hn W3
  rw [hW3] at mk
  have M0 := mo_new W3 n
  have b4 := bA1 W3 (.cells (madeCells #[.slice none 0 0] n) 92)
  obtain ⟨W4, hW4⟩ : ∃ W4, W4 = W3.alloc (.cells (madeCells #[.slice none 0 0] n) 92) := ⟨_, rfl⟩
  have HX := Lib.hid hW4
  rw [← hW3, ← hW4, hW3] at mk
  rw [← hW4] at M0 b4
  have HM0 := Lib.hid M0
  have HB4 := Lib.hid (bon HW3.out b4)
  have HK4 := Lib.hid (HK3.out.on b4)
  have hob : (w2.alloc (.cells #[.int .i64 0, .int .i64 (-1)] 42)).heap.size = W3.heap.size := by rw [hW3]
  rw [hob] at mk
  have hws : w.heap.size ≤ W3.heap.size := HW3.out.size
  have hws2 : w.heap.size ≠ W3.heap.size := by have := HK3.out.lt; omega
  clear hob hW3 hW4 k3 HK3 M0 b4
  go_wp2_with (first | (at_make; refine wpList_mk mk rfl _ _ rfl rfl rfl ?_; clear g0 g1 mk) | fail)
  generalize W3.heap.size = ob at *
  go_loopw [31] (fun i W => ∃ k : Nat, k ≤ n ∧ i = .int .i64 k ∧ Hid (Below w.heap.size w W) ∧ Hid (K2 W w.heap.size) ∧ ∃ rb, Hid (Mo W ob ob n k rb (fun a b => decide (a = b)))) (fun i _ => n - (intOf i).toNat)
  case atStart => exact ⟨0, Nat.zero_le _, rfl, HB4, HK4, _, HM0.out.congr fun a _ h => absurd h (Nat.not_lt_zero _)⟩
  case round =>
    obtain ⟨k, hk, rfl, HB, HK, rb, HM⟩ := hrel
    by_cases hlt : k < n
    · have mk := mk46 n hn wr
      have hA := HM.out.add hlt
      have hS := hA.set k k (by omega) true
      simp only [if_true] at hS
      obtain ⟨f, h1, h2⟩ := HM.out.o
      have hoN : ob < wr.heap.size := h1.lt
      have cO := (h1.alloc (.cells (madeCells #[.bool false] n) 4)).cell hlt
      have fO := (h1.alloc (.cells (madeCells #[.bool false] n) 4)).frozen k
      have cN := (World.rowIs_made wr (.bool false) n 4).cell hlt
      have fN := (World.rowIs_made wr (.bool false) n 4).frozen k
      have b5 := bA1 wr (.cells (madeCells #[.bool false] n) 4)
      have HB5 := Lib.hid (bon HB.out b5)
      have HK5 := Lib.hid (HK.out.on b5)
      have HS := Lib.hid hS
      have hbN := HB.out.size
      obtain ⟨W5, hW5⟩ : ∃ W5, W5 = wr.alloc (.cells (madeCells #[.bool false] n) 4) := ⟨_, rfl⟩
      rw [← hW5] at mk cO fO cN fN HB5 HK5 HS
      generalize wr.heap.size = N at *
      generalize f k = f0 at cO
      have hne : ob ≠ N := by omega
      have hne2 : N ≠ ob := by omega
      clear HB HK HM hA hS h1 h2 b5 hW5
      go_wp2_with (first | (at_make; refine wpList_mk mk rfl _ _ rfl rfl rfl ?_; clear mk) | fail)
      refine ⟨⟨k + 1, hlt, by go_num, (HB5.out.setCell (by show _ ≤ ob; omega) _).setCell (by show _ ≤ N; omega) _, (HK5.out.ne (by show _ ≠ ob; omega) _).ne (by show _ ≠ N; omega) _, _, HS.out.congr fun a b ha hb => ?_⟩, by simp [intOf]; omega⟩
      by_cases e1 : a = k
      · subst e1
        by_cases e2 : b = a
        · simp [e2]
        · simp [e2]; omega
      · simp [e1]
    · have ek : k = n := by omega
      subst ek
      clear hk hlt HM0 HX HB4 HK4 HW3
      go_wp2
      go_loopw [48] (fun i W => ∃ j : Nat, j ≤ l.length ∧ i = .int .i64 j ∧ Hid (Below w.heap.size w W) ∧ Hid (K2 W w.heap.size) ∧ Hid (Mo W ob ob k k rb (fun a b => decide (a = b) || et (l.take j) a b))) (fun i _ => l.length - (intOf i).toNat)
      case atStart => exact ⟨0, Nat.zero_le _, rfl, HB, HK, HM.out.congr fun a b _ _ => by rw [List.take_zero, et_nil]; simp⟩
      case round =>
        obtain ⟨j, hj, rfl, HB, HK, HM⟩ := hrel
        by_cases hltj : j < l.length
        · obtain ⟨eb, eo, rfl, hEr⟩ := es_row (HE.out.on HB.out) (by omega)
          have c0 := hEr.c0 j hltj
          have c1 := hEr.c1 j hltj
          obtain ⟨p1, p2, p3, p4⟩ := HRn.out _ (List.getElem_mem hltj)
          have HTk : Hid (l.take (j + 1) = l.take j ++ [l[j]]) := List.take_succ_eq_append_getElem hltj
          generalize l.take j = l0 at HM HTk
          generalize l[j] = e at c0 c1 p1 p2 p3 p4 HTk
          obtain ⟨x, y⟩ := e
          dsimp only at c0 c1 p1 p2 p3 p4
          obtain ⟨x, rfl, hx⟩ := nat_of p1 p2
          obtain ⟨y, rfl, hy⟩ := nat_of p3 p4
          have b1 := bA1 wr (.cells #[.int .i64 x, .int .i64 y] 107)
          have hM1 := HM.out.on b1
          have HB1 := Lib.hid (bon HB.out b1)
          have HK1 := Lib.hid (HK.out.on b1)
          have cO := hM1.co x hx (Nat.le_refl _)
          have cN := hM1.c x y hx hy
          have fN := hM1.f x y hx
          have HS := Lib.hid (hM1.set x y hx true).drew
          have hbr : ob ≤ rb x := (hM1.br x hx).1
          clear hM1 HB HK HM hEr b1 p1 p2 p3 p4
          go_wp2_with fail
          go_region
          go_wp2_with fail
          refine ⟨⟨j + 1, hltj, by go_num, (HB1.out.setCell (by show _ ≤ rb x; omega) _).drew, (HK1.out.ne (by show _ ≠ rb x; omega) _).drew, HS.out.congr fun a b ha hb => ?_⟩, by simp [intOf]; omega⟩
          rw [HTk.out, et_snoc]
          by_cases e : a = x ∧ b = y
          · simp [e]
          · simp [e]
        · have ej : j = l.length := by omega
          subst ej
          rw [List.take_of_length_le (Nat.le_refl _)] at HM
          obtain ⟨M, hM⟩ : ∃ M : Om.T, M = fun a b => decide (a = b) || et l a b := ⟨_, rfl⟩
          rw [← hM] at HM
          have HMM : Hid (∀ W, Mo W ob ob k k rb (Om.fw M k) → Mo W ob ob k k rb C) := fun W h => by rw [HCC.out]; exact h.congr (fw_congr (fun a b ha hb => by rw [hM]; unfold Om.dg; simp [ha, Bool.or_comm]) k (Nat.le_refl _))
          clear hM hltj hj HE HRn
          go_wp2
          go_loopw [62] (fun i W => ∃ j : Nat, j ≤ k ∧ i = .int .i64 j ∧ Hid (Below w.heap.size w W) ∧ Hid (K2 W w.heap.size) ∧ Hid (Mo W ob ob k k rb (Om.fw M j))) (fun i _ => k - (intOf i).toNat)
          case atStart => exact ⟨0, Nat.zero_le _, rfl, HB, HK, HM⟩
          case round =>
            obtain ⟨j, hj, rfl, HB, HK, HM⟩ := hrel
            by_cases hltj : j < k
            · have HN : Hid (∀ N, N = Om.fw M j → Om.fw M (j + 1) = Om.stp N j) := fun N h => by rw [h]; rfl
              generalize Om.fw M j = N at HM HN
              go_wp2
              go_loopw [66] (fun i W => ∃ a : Nat, a ≤ k ∧ i = .int .i64 a ∧ Hid (Below w.heap.size w W) ∧ Hid (K2 W w.heap.size) ∧ Hid (Mo W ob ob k k rb (Om.sq N j a 0))) (fun i _ => k - (intOf i).toNat)
              case atStart => exact ⟨0, Nat.zero_le _, rfl, HB, HK, by rw [Om.sq_0]; exact HM⟩
              case round =>
                obtain ⟨a, ha, rfl, HB, HK, HM⟩ := hrel
                by_cases hlta : a < k
                · go_wp2
                  go_loopw [70] (fun i W => ∃ b : Nat, b ≤ k ∧ i = .int .i64 b ∧ Hid (Below w.heap.size w W) ∧ Hid (K2 W w.heap.size) ∧ Hid (Mo W ob ob k k rb (Om.sq N j a b))) (fun i _ => k - (intOf i).toNat)
                  case atStart => exact ⟨0, Nat.zero_le _, rfl, HB, HK, HM⟩
                  case round =>
                    obtain ⟨b, hb, rfl, HB, HK, HM⟩ := hrel
                    by_cases hltb : b < k
                    · have cA := HM.out.co a hlta (Nat.le_refl _)
                      have cJ := HM.out.co j hltj (Nat.le_refl _)
                      have c0 := HM.out.c a b hlta hltb
                      have c1 := HM.out.c a j hlta hltj
                      have c2 := HM.out.c j b hltj hltb
                      have f0 := HM.out.f a b hlta
                      have hbr : ob ≤ rb a := (HM.out.br a hlta).1
                      rw [Om.sq_here] at c0
                      rw [Om.sq_col] at c1
                      rw [Om.sq_row] at c2
                      have HS : Hid (Om.stp N j a b = (N a b || (N a j && N j b))) := rfl
                      generalize N a b = x at c0 HS
                      generalize N a j = y at c1 HS
                      generalize N j b = z at c2 HS
                      have HF : Hid (∀ v, v = (x || (y && z)) → Mo (wr.setCell ⟨rb a, b, none⟩ (.bool v)).drew ob ob k k rb (Om.sq N j a (b + 1))) := fun v hv => by
                        rw [Om.sq_next, HS.out, ← hv]
                        exact (HM.out.set a b hlta v).drew
                      clear HS HM
                      generalize rb j = rj at cJ c2
                      generalize rb a = ra at *
                      cases x <;> cases y <;> cases z
                      all_goals (go_wp2; go_region; go_wp2)
                      all_goals exact ⟨⟨b + 1, hltb, by go_num, (HB.out.setCell (by show _ ≤ ra; omega) _).drew, (HK.out.ne (by show _ ≠ ra; omega) _).drew, HF.out _ rfl⟩, by simp [intOf]; omega⟩
                    · have eb : b = k := by omega
                      subst eb
                      go_wp2
                      refine ⟨⟨a + 1, hlta, by go_num, HB, HK, ?_⟩, by simp [intOf]; omega⟩
                      refine HM.out.congr fun x y hx hy => ?_
                      unfold Om.sq
                      by_cases e : x < a ∨ (x = a ∧ y < b)
                      · rw [if_pos e, if_pos (by omega)]
                      · rw [if_neg e, if_neg (by omega)]
                · have ea : a = k := by omega
                  subst ea
                  go_wp2
                  refine ⟨⟨j + 1, hltj, by go_num, HB, HK, ?_⟩, by simp [intOf]; omega⟩
                  refine HM.out.congr fun x y hx hy => ?_
                  rw [HN.out _ rfl]
                  unfold Om.sq
                  rw [if_pos (.inl hx)]
            · have ej : j = k := by omega
              subst ej
              have HM2 := Lib.hid (HMM.out _ HM.out)
              clear HM HMM hltj hj HCC
              obtain ⟨Z, hZ⟩ : ∃ Z, Z = rr C j j (fun _ => false) := ⟨_, rfl⟩
              have HZ := Lib.hid hZ
              clear hZ
              have mk := mk46 j hn wr
              have T0 := Lib.hid (World.rowIs_made wr (.bool false) j 4)
              have b5 := bA1 wr (.cells (madeCells #[.bool false] j) 4)
              have HM6 := Lib.hid (HM2.out.on b5)
              have HB6 := Lib.hid (bon HB.out b5)
              have HK6 := Lib.hid (HK.out.on b5)
              have HLt : Hid (ob < wr.heap.size ∧ ∀ i, i < j → rb i < wr.heap.size) := by
                obtain ⟨f, h1, _⟩ := HM2.out.o
                exact ⟨h1.lt, fun i hi => (HM2.out.r i hi).lt⟩
              have htb : ob < wr.heap.size := HLt.out.1
              obtain ⟨W6, hW6⟩ : ∃ W6, W6 = wr.alloc (.cells (madeCells #[.bool false] j) 4) := ⟨_, rfl⟩
              have hs6 : W6.heap.size = wr.heap.size + 1 := by rw [hW6]; simp
              rw [← hW6] at mk T0 HM6 HB6 HK6
              clear hW6 HB HK HM2 b5
              generalize wr.heap.size = tb at *
              go_wp2_with (first | (at_make; refine wpList_mk mk rfl _ _ rfl rfl rfl ?_; clear mk) | fail)
              go_loopw [14, 110] (fun v i W => ∃ k : Nat, k ≤ j ∧ i = .int .i64 k ∧ Hid (Kp (· = tb) W6 W) ∧ ∃ told R, Hid (W.rowIs tb 4 j (fun a => .bool (told a))) ∧ Hid (Rl W (tb + 1) v R) ∧ Hid (R ++ rr C j (j - k) told = Z) ∧ Hid (R.length ≤ k)) (fun _ i _ => j - (intOf i).toNat)
              case atStart => exact ⟨0, Nat.zero_le _, rfl, Kp.refl _ _, fun _ => false, [], T0, rl_nil (World.ownsRow_nil _ _ _ _), by show _ = _; rw [HZ.out]; rfl, Nat.zero_le _⟩
              case round =>
                obtain ⟨k, hk, rfl, HKp, told, R, HT, HRl, HRR, HRn⟩ := hrel
                obtain ⟨R1, R2, rfl⟩ := rl_sl HRl.out
                by_cases hltk : k < j
                · go_wp2
                  go_loopw [14, 113] (fun v x W => ∃ i : Nat, i ≤ j ∧ x = .int .i64 i ∧ v = .slice R1 R.length R2 ∧ Hid (Kp (· = tb) W6 W) ∧ Hid (W.rowIs tb 4 j (fun a => .bool (told a))) ∧ Hid (Rl W (tb + 1) (.slice R1 R.length R2) R) ∧ Hid (∀ i', i' < i → frb C j told i' = false)) (fun _ i _ => j - (intOf i).toNat)
                  case atStart => exact ⟨0, Nat.zero_le _, rfl, rfl, HKp, HT, HRl, fun i' h => absurd h (Nat.not_lt_zero _)⟩
                  case round =>
                    obtain ⟨i, hi, rfl, rfl, HKp, HT, HRl, HFr⟩ := hrel
                    by_cases hlti : i < j
                    · have cT := HT.out.cell hlti
                      go_wp2
                      go_loopw [17, 122] (fun f x W => ∃ m : Nat, m ≤ j ∧ x = .int .i64 m ∧ f = .bool (!told i && (List.range m).all (fun a => told a || (!C a i || C i a))) ∧ Hid (Kp (· = tb) W6 W) ∧ Hid (W.rowIs tb 4 j (fun a => .bool (told a))) ∧ Hid (Rl W (tb + 1) (.slice R1 R.length R2) R)) (fun _ i _ => j - (intOf i).toNat)
                      case atStart => exact ⟨0, Nat.zero_le _, rfl, by simp, HKp, HT, HRl⟩
                      case round =>
                        obtain ⟨m, hm, rfl, rfl, HKp, HT, HRl⟩ := hrel
                        by_cases hltm : m < j
                        · have hM := HM6.out.kp HKp.out (fun y e => by obtain rfl : y = tb := e; exact ⟨by omega, fun i hi => by have := HLt.out.2 i hi; omega⟩)
                          have cM := HT.out.cell hltm
                          have cI := hM.co i hlti (Nat.le_refl _)
                          have cJ := hM.co m hltm (Nat.le_refl _)
                          have c1 := hM.c m i hltm hlti
                          have c2 := hM.c i m hlti hltm
                          have HA : Hid ((!told i && (List.range (m + 1)).all (fun a => told a || (!C a i || C i a))) = ((!told i && (List.range m).all (fun a => told a || (!C a i || C i a))) && (told m || (!C m i || C i m)))) := by
                            show _ = _
                            rw [List.range_succ, List.all_append]; simp [Bool.and_assoc]
                          generalize (!told i && (List.range m).all (fun a => told a || (!C a i || C i a))) = F at HA ⊢
                          generalize told m = x at cM HA
                          generalize C m i = y at c1 HA
                          generalize C i m = z at c2 HA
                          generalize rb i = ri at cI c2
                          generalize rb m = rm at cJ c1
                          clear hM cT
                          have HF2 : Hid (∀ v, v = (F && (x || (!y || z))) → v = (!told i && (List.range (m + 1)).all (fun a => told a || (!C a i || C i a)))) := fun v hv => by rw [HA.out]; exact hv
                          clear HA
                          cases F <;> cases x <;> cases y <;> cases z
                          all_goals go_wp2
                          all_goals exact ⟨⟨m + 1, hltm, by go_num, congrArg Value.bool (HF2.out _ rfl), HKp, HT, HRl⟩, by simp [intOf]; omega⟩
                        · have em : m = j := by omega
                          subst em
                          have hf : (!told i && (List.range m).all (fun a => told a || (!C a i || C i a))) = frb C m told i := rfl
                          rw [hf]
                          clear hf
                          cases hfr : frb C m told i with
                          | false =>
                            have HFr2 : Hid (∀ i', i' < i + 1 → frb C m told i' = false) := fun i' h => by
                              by_cases e : i' = i
                              · rw [e]; exact hfr
                              · exact HFr.out i' (by omega)
                            clear hfr
                            go_wp2
                            exact ⟨⟨i + 1, hlti, by go_num, rfl, HKp, HT, HRl, HFr2⟩, by simp [intOf]; omega⟩
                          | true =>
                            have HRst : Hid (R ++ (seto C m i :: rr C m (m - (k + 1)) (tel C told i)) = Z) := by
                              have h1 := HRR.out
                              rw [show m - k = m - (k + 1) + 1 by omega] at h1
                              unfold rr at h1
                              rw [rst_yes hlti hfr HFr.out] at h1
                              exact h1
                            clear hfr HFr
                            obtain ⟨ws, rfl⟩ : ∃ ws, ws = wr := ⟨_, rfl⟩
                            have hws3 : tb < ws.heap.size := HT.out.lt
                            have hws4 := HKp.out.size
                            go_wp2
                            go_loopw [19, 155] (fun v x W => ∃ q : Nat, q ≤ m ∧ x = .int .i64 q ∧ Hid (Kp (· = tb) ws W) ∧ Hid (W.rowIs tb 4 m (fun a => .bool (told a || (decide (a < q) && (C i a && C a i))))) ∧ Hid (Iw W ws.heap.size v ((List.range q).filter (fun a => C i a && C a i)))) (fun _ i _ => m - (intOf i).toNat)
                            case atStart => exact ⟨0, Nat.zero_le _, rfl, Kp.refl _ _, HT.out.congr fun a _ => by simp, World.ownsRow_nil _ _ _ _⟩
                            case round =>
                              obtain ⟨q, hq, rfl, HKs, HTq, HI⟩ := hrel
                              obtain ⟨I1, I2, rfl⟩ := iw_sl HI.out
                              by_cases hltq : q < m
                              · have hM := HM6.out.kp (HKp.out.trans HKs.out) (fun y e => by obtain rfl : y = tb := e; exact ⟨by omega, fun i hi => by have := HLt.out.2 i hi; omega⟩)
                                have cI := hM.co i hlti (Nat.le_refl _)
                                have cJ := hM.co q hltq (Nat.le_refl _)
                                have c1 := hM.c i q hlti hltq
                                have c2 := hM.c q i hltq hlti
                                have hlq := filt_le (fun a => C i a && C a i) q
                                have HF := Lib.hid (filt_succ (fun a => C i a && C a i) q)
                                generalize (List.range q).filter (fun a => C i a && C a i) = F at HI hlq HF
                                have HC1 : Hid (∀ x y, C i q = x → C q i = y → (x && y) = false → (List.range (q + 1)).filter (fun a => C i a && C a i) = F ∧ ∀ W : World, W.rowIs tb 4 m (fun a => .bool (told a || (decide (a < q) && (C i a && C a i)))) → W.rowIs tb 4 m (fun a => .bool (told a || (decide (a < q + 1) && (C i a && C a i))))) := fun x y hx hy hxy => by
                                  refine ⟨by rw [HF.out]; simp [hx, hy, hxy], fun W h => h.congr fun a _ => ?_⟩
                                  by_cases e : a = q
                                  · subst e; simp [hx, hy, hxy]
                                  · rw [show decide (a < q + 1) = decide (a < q) by rw [decide_eq_decide]; omega]
                                have HC2 : Hid (∀ x y, C i q = x → C q i = y → (x && y) = true → (List.range (q + 1)).filter (fun a => C i a && C a i) = F ++ [q] ∧ ∀ W : World, W.rowIs tb 4 m (fun a => .bool (told a || (decide (a < q) && (C i a && C a i)))) → (W.setCell ⟨tb, q, none⟩ (.bool true)).rowIs tb 4 m (fun a => .bool (told a || (decide (a < q + 1) && (C i a && C a i))))) := fun x y hx hy hxy => by
                                  refine ⟨by rw [HF.out]; simp [hx, hy, hxy], fun W h => (h.set q _).congr fun a _ => ?_⟩
                                  by_cases e : a = q
                                  · subst e; simp [hx, hy, hxy]
                                  · simp only [if_neg e]
                                    rw [show decide (a < q + 1) = decide (a < q) by rw [decide_eq_decide]; omega]
                                generalize hx : C i q = x at c1
                                generalize hy : C q i = y at c2
                                have HC1' := Lib.hid (HC1.out x y hx hy)
                                have HC2' := Lib.hid (HC2.out x y hx hy)
                                generalize rb i = ri at cI c1
                                generalize rb q = rq at cJ c2
                                clear HC1 HC2 hM hx hy HF
                                have fT := HTq.out.frozen q
                                cases x
                                · obtain ⟨e1, e2⟩ := HC1'.out rfl
                                  have HI2 : Hid (Iw wr ws.heap.size (.slice I1 F.length I2) ((List.range (q + 1)).filter (fun a => C i a && C a i))) := by rw [e1]; exact HI
                                  have HT2 := Lib.hid (e2 _ HTq.out)
                                  clear HC1' HC2' e1 e2 HI HTq
                                  go_wp2
                                  exact ⟨⟨q + 1, hltq, by go_num, HKs, HT2, HI2⟩, by simp [intOf]; omega⟩
                                · cases y
                                  · obtain ⟨e1, e2⟩ := HC1'.out rfl
                                    have HI2 : Hid (Iw wr ws.heap.size (.slice I1 F.length I2) ((List.range (q + 1)).filter (fun a => C i a && C a i))) := by rw [e1]; exact HI
                                    have HT2 := Lib.hid (e2 _ HTq.out)
                                    clear HC1' HC2' e1 e2 HI HTq
                                    go_wp2
                                    exact ⟨⟨q + 1, hltq, by go_num, HKs, HT2, HI2⟩, by simp [intOf]; omega⟩
                                  · obtain ⟨e1, e2⟩ := HC2'.out rfl
                                    have hsz := HKs.out.size
                                    have hI := HI.out
                                    have HE1 := Lib.hid e1
                                    have HE2 := Lib.hid e2
                                    clear HC1' HC2' e1 e2 HI
                                    go_wp2_with (first | (at_builtin; refine wpList_ap q hI (by omega) hsz rfl _ _ rfl rfl _ rfl rfl ?_; intro g7 c7 w7 hI7 hB7 _; have HB7 := Lib.hid (hB7 _ (Nat.le_refl _)); have hT7 := HTq.out.of_block (HB7.out.block tb hws3); have cT7 := hT7.cell hltq; have fT7 := hT7.frozen q; have HT7 := Lib.hid (HE2.out _ hT7); have HI7 := Lib.hid hI7; clear hT7 hI7 hB7) | fail)
                                    refine ⟨⟨q + 1, hltq, by go_num, (HKs.out.low HB7.out).set rfl _, HT7, ?_⟩, by simp [intOf]; omega⟩
                                    rw [HE1.out]
                                    have h9 : Iw (w7.setCell ⟨tb, q, none⟩ (.bool true)) ws.heap.size (.slice (some ⟨g7, 0, none⟩) (F.length + 1) c7) (F ++ [q]) := own_kp HI7.out ((Kp.refl (· = tb) w7).set rfl _) (fun y e => by obtain rfl : y = tb := e; exact hws3)
                                    exact h9
                              · have eq : q = m := by omega
                                subst eq
                                have hR := HRl.out.kp HKs.out (fun y e => by omega)
                                have hI : Iw wr (tb + 1) (.slice I1 ((List.range q).filter (fun a => C i a && C a i)).length I2) (seto C q i) := own_low HI.out (by omega)
                                have hlR : R.length ≤ 1000000 := by have := HRn.out; omega
                                have hsz : tb + 1 ≤ wr.heap.size := by have := HKs.out.size; omega
                                have HT2 : Hid (wr.rowIs tb 4 q (fun a => .bool (tel C told i a))) := HTq.out.congr fun a ha => by simp [tel, ha]
                                have HRn2 : Hid ((R ++ [seto C q i]).length ≤ k + 1) := by have := HRn.out; show _ ≤ _; simp; omega
                                have HKw := Lib.hid (HKp.out.trans HKs.out)
                                have HRst2 : Hid (R ++ [seto C q i] ++ rr C q (q - (k + 1)) (tel C told i) = Z) := by show _ = _; rw [← HRst.out]; simp
                                have hRl2 : (R ++ [seto C q i]).length = R.length + 1 := by simp
                                generalize ((List.range q).filter (fun a => C i a && C a i)).length = il at hI ⊢
                                clear HI HRst HTq HT HRn HKs HKp HRR HRl cT hq hlti
                                generalize seto C q i = si at *
                                go_wp2_with (first | (at_builtin; refine wpList_apR hR hI hlR hsz rfl _ _ rfl rfl _ rfl rfl ?_; intro g9 c9 w9 hR9 hB9 _; have HB9 := Lib.hid (hB9 _ (Nat.le_refl _)); have HR9 := Lib.hid hR9; clear hR9 hB9 hR hI) | fail)
                                rw [← hRl2] at HR9 ⊢
                                exact ⟨⟨k + 1, hltk, by go_num, HKw.out.low (by rw [hs6]; exact HB9.out), _, _, HT2.out.of_block (HB9.out.block tb (by omega)), HR9, HRst2, HRn2⟩, by simp [intOf]; omega⟩
                    · have ei : i = j := by omega
                      subst ei
                      have HRst : Hid (R ++ rr C i (i - (k + 1)) told = Z) := by
                        have h1 := HRR.out
                        rw [show i - k = i - (k + 1) + 1 by omega] at h1
                        unfold rr at h1
                        rw [rst_no HFr.out] at h1
                        exact h1
                      go_wp2
                      exact ⟨⟨k + 1, hltk, by go_num, HKp, told, R, HT, HRl, HRst, by have := HRn.out; show _ ≤ _; omega⟩, by simp [intOf]; omega⟩
                · have ek : k = j := by omega
                  subst ek
                  have HE : Hid (R = Z) := by
                    have := HRR.out
                    rw [Nat.sub_self] at this
                    show R = Z
                    simpa [rr] using this
                  generalize R.length = rl at HRl ⊢
                  rw [HE.out] at HRl
                  obtain ⟨kl, q0, q1, f0, f1⟩ := HK6.out.kp HKp.out (show ¬ w.heap.size = tb by omega)
                  have HBf := Lib.hid (HB6.out.trans (HKp.out.below HB6.out.size (fun i e => by omega)))
                  have g0 := (HFi.out.on HBf.out).c0
                  have g1 := (HFi.out.on HBf.out).c1
                  have HZZ := HZ
                  clear HKp HT HRR HRn HE HZ HM6 T0
                  go_wp2_with fail
                  go_region
                  go_wp2_with fail
                  refine bodyPost_ret (v := .tuple #[.slice R1 rl R2, .agg #[.int .i64 0, .int .i64 (-1)]]) (by simp [results, Tryz.results81, go_sem, q0, q1]) rfl ⟨_, rfl, ?_, ((HBf.out.setCell (Nat.le_refl _) _).setCell (Nat.le_refl _) _).drew⟩
                  rw [← HZZ.out]
                  have kp : Kp (· = w.heap.size) wr (((wr.setCell ⟨w.heap.size, 0, none⟩ (.int .i64 0)).setCell ⟨w.heap.size, 1, none⟩ (.int .i64 (-1))).drew) := (((Kp.refl (· = w.heap.size) wr).set (p := ⟨w.heap.size, 0, none⟩) rfl _).set (p := ⟨w.heap.size, 1, none⟩) rfl _).drew
                  have h9 : w.heap.size ≤ tb + 1 := by omega
                  have h10 := HRl.out.kp kp (fun y e => by obtain rfl : y = w.heap.size := e; omega)
                  exact h10.low h9
end Go.Proofs.YthijccmiemlilaaGreatDoor.Ord
