/- The walk of depend's Print. -/
import Derived.Test.YtmlmdncepgcimaaGreatDoorZan
namespace Go.Proofs.YtmlmdncepgcimaaGreatDoor
open Go.RowKit Go.Shelf Go.Sort

/-- Texts with another one between. -/
def jn (s : List UInt8) : List (List UInt8) → List UInt8
  | [] => []
  | x :: xs => x ++ xs.flatMap fun y => s ++ y
theorem jn_snoc (s : List UInt8) (x : List UInt8) : ∀ l : List (List UInt8), jn s (l ++ [x]) = jn s l ++ (if 0 < l.length then s else []) ++ x
  | [] => by simp [jn]
  | y :: l => by simp [jn, List.append_assoc]
theorem jn_succ (s : List UInt8) (l : List (List UInt8)) (i : Nat) (hi : i < l.length) : jn s (l.take (i + 1)) = jn s (l.take i) ++ (if 0 < i then s else []) ++ l[i] := by
  rw [List.take_succ_eq_append_getElem hi, jn_snoc, List.length_take, Nat.min_eq_left (by omega)]
/-- How terms are written. -/
def wrS (x : List Tm) : List UInt8 := jn [32, 124, 32] (x.map wrT)
def wrA (l : List (List Tm)) : List UInt8 := jn [44, 32] (l.map wrS)

theorem wrT_le {t : Tm} (h : tok t = true) : (wrT t).length ≤ 100 := by
  unfold tok at h
  rw [Bool.and_eq_true] at h
  have hn := h.1
  unfold nmo at hn
  simp only [Bool.and_eq_true, decide_eq_true_eq] at hn
  unfold wrT
  by_cases ho : t.o = 0
  · rw [if_pos ho]; omega
  · have h2 := h.2
    rw [if_neg ho] at h2
    simp only [Bool.and_eq_true, decide_eq_true_eq] at h2
    have hp := (Vm.rt_parts h2.2.2).2.2.2.2.1
    have hs : ∀ k, (sgt k).length ≤ 2 := fun k => by unfold sgt; split <;> simp
    have := hs t.o.toNat
    rw [if_neg ho]; simp; omega
theorem jn_le (s : List UInt8) (m : Nat) : ∀ l : List (List UInt8), (∀ x ∈ l, x.length ≤ m) → (jn s l).length ≤ l.length * (m + s.length)
  | [], _ => by simp [jn]
  | x :: l, h => by
    have h1 := h x (List.mem_cons_self ..)
    have h2 : (l.flatMap fun y => s ++ y).length ≤ l.length * (m + s.length) := by
      have : ∀ l' : List (List UInt8), (∀ x ∈ l', x.length ≤ m) → (l'.flatMap fun y => s ++ y).length ≤ l'.length * (m + s.length) := by
        intro l'
        induction l' with
        | nil => intro _; simp
        | cons y l' ih =>
          intro h'
          have := ih (fun x hx => h' x (List.mem_cons_of_mem _ hx))
          have := h' y (List.mem_cons_self ..)
          simp only [List.flatMap_cons, List.length_append, List.length_cons, Nat.add_mul, Nat.one_mul] at *
          omega
      exact this l (fun x hx => h x (List.mem_cons_of_mem _ hx))
    simp only [jn, List.length_append, List.length_cons, Nat.add_mul, Nat.one_mul] at *
    omega

/-- Terms that may be, few and short. -/
structure Pok (l : List (List Tm)) : Prop where
  n : l.length ≤ 30
  m : ∀ x ∈ l, x.length ≤ 30
  k : ∀ x ∈ l, ∀ t ∈ x, tok t = true
  s : ∀ x ∈ l, ∀ t ∈ x, Shn t
theorem Pok.lx {l : List (List Tm)} (h : Pok l) {x : List Tm} (hx : x ∈ l) (j : Nat) : (jn [32, 124, 32] ((x.map wrT).take j)).length ≤ 4000 := by
  have h1 := jn_le [32, 124, 32] 100 ((x.map wrT).take j) (fun y hy => by
    obtain ⟨t, ht, rfl⟩ := List.mem_map.1 (List.mem_of_mem_take hy)
    exact wrT_le (h.k x hx t ht))
  have h2 := h.m x hx
  have h3 : ((x.map wrT).take j).length ≤ 30 := by simp; omega
  have h4 : ((x.map wrT).take j).length * (100 + 3) ≤ 30 * 103 := Nat.mul_le_mul h3 (Nat.le_refl _)
  simp only [List.length_cons, List.length_nil] at h1
  omega
theorem Pok.ll {l : List (List Tm)} (h : Pok l) (i : Nat) : (jn [44, 32] ((l.map wrS).take i)).length ≤ 200000 := by
  have h1 := jn_le [44, 32] 4000 ((l.map wrS).take i) (fun y hy => by
    obtain ⟨x, hx, rfl⟩ := List.mem_map.1 (List.mem_of_mem_take hy)
    have := h.lx hx x.length
    unfold wrS
    rwa [List.take_of_length_le (by simp)] at this)
  have h2 := h.n
  have h3 : ((l.map wrS).take i).length ≤ 30 := by simp; omega
  have h4 : ((l.map wrS).take i).length * (4000 + 2) ≤ 30 * 4002 := Nat.mul_le_mul h3 (Nat.le_refl _)
  simp only [List.length_cons, List.length_nil] at h1
  omega

set_option maxHeartbeats 3200000 in
set_option maxRecDepth 100000 in
theorem print_row (b o c : Nat) (l : List (List Tm)) (w : World) (h : Al w b o l) (hcl : l.length ≤ c) (hk : ask l = true) (hP : Pok l) (hG : Sg w) (hT : Tab w) : Calls Tryz.prog 118 #[.slice (some ⟨b, o, none⟩) l.length c] w fun e w' => e = .returned (.tuple #[.string ⟨(wrA l).toArray⟩, .nilIface]) ∧ Below w.heap.size w w' := by
  have cR := askr_any (.slice (some ⟨b, o, none⟩) l.length c) l w ⟨.inr ⟨b, o, c, rfl, hcl, h⟩⟩ (by have := hP.n; omega) (fun x hx => by have := hP.m x hx; omega) (fun t ht => by obtain ⟨x, hx, ht⟩ := List.mem_flatten.1 ht; exact hP.s x hx t ht) hT
  rw [hk] at cR
  go_enter Tryz.func118, Tryz.ntmps118
  go_wp2_with fail
  refine cR.mono ?_
  rintro e w1 ⟨rfl, b1⟩
  have HA := Lib.hid (h.on b1)
  have HP := Lib.hid hP
  have HG := Lib.hid hG
  have HT := Lib.hid hT
  have hl30 := hP.n
  have d0 : Bd w1.heap.size w1.heap.size [] (w1.alloc (.cells #[.pointer none, .slice none 0 0] 122)) := ⟨Lib.fresh_isBuilder 122 5 w1, by simp⟩
  have bw0 := bA1 w1 (.cells #[.pointer none, .slice none 0 0] 122)
  clear h hk hP hG hT cR
  go_wp2_with fail
  go_loopw [15] (fun v W => ∃ i : Nat, i ≤ l.length ∧ v = .int .i64 i ∧ Below w1.heap.size w1 W ∧ Bd w1.heap.size w1.heap.size (jn [44, 32] ((l.map wrS).take i)) W ∧ w1.heap.size < W.heap.size) (fun v _ => l.length - (intOf v).toNat)
  case atStart => exact ⟨0, Nat.zero_le _, rfl, bw0, d0, by simp⟩
  case round =>
    obtain ⟨i, hi, rfl, hb, hd, hz⟩ := hrel
    by_cases hlt : i < l.length
    · obtain ⟨vi, c0, hTs⟩ := HA.out.c i hlt
      have c1 : wr.cell? ⟨b, o + i, none⟩ = some vi := (hb.cell (p := ⟨b, o + i, none⟩) HA.out.lt).trans c0
      obtain ⟨x, hx⟩ : ∃ x, x = l[i] := ⟨_, rfl⟩
      have hxm : x ∈ l := by rw [hx]; exact List.getElem_mem hlt
      have hx30 := HP.out.m x hxm
      have hln := HP.out.ll i
      have HN : Hid (jn [44, 32] ((l.map wrS).take (i + 1)) = jn [44, 32] ((l.map wrS).take i) ++ (if 0 < i then [44, 32] else []) ++ wrS x) := by
        show _ = _
        rw [jn_succ _ _ _ (by simpa using hlt), hx]; simp
      rw [← hx] at hTs
      obtain ⟨A, c', rfl⟩ := ts_sl hTs
      have HS := Lib.hid hTs
      clear hTs c0 hx
      obtain ⟨T, hTt⟩ : ∃ T, T = jn [44, 32] ((l.map wrS).take i) := ⟨_, rfl⟩
      rw [← hTt] at hd HN hln
      clear hTt
      have cW := bd_str w1.heap.size w1.heap.size T [44, 32] wr hd (by omega) (by simp)
      obtain ⟨T0, hT0⟩ : ∃ T0, T0 = T ++ (if 0 < i then [44, 32] else []) := ⟨_, rfl⟩
      have HN2 : Hid (jn [44, 32] ((l.map wrS).take (i + 1)) = T0 ++ wrS x) := by show _ = _; rw [HN.out, hT0]
      have hT0l : T0.length ≤ 200002 := by rw [hT0]; split <;> simp <;> omega
      clear HN
      by_cases hi0 : i = 0
      case' pos =>
        have hd2 : Bd w1.heap.size w1.heap.size T0 wr := by rw [hT0, if_neg (by omega)]; simpa using hd
        have hi0' : ¬ (0 : Int) < (i : Int) := by omega
        clear cW hd hT0 hln hi0
        go_wp2_with fail
      case' neg =>
        have hi0' : (0 : Int) < (i : Int) := by omega
        rw [show T ++ [44, 32] = T0 by rw [hT0, if_pos (by omega)]] at cW
        clear hd hT0 hln hi0
        go_wp2_with fail
        refine cW.mono ?_
        rintro e w2 ⟨rfl, hd2, bb2, _⟩
        have hb := hb.trans bb2
        have hz := Nat.lt_of_lt_of_le hz bb2.size
        go_wp2_with fail
      all_goals
        clear c1
        go_loopw [25] (fun v W => ∃ j : Nat, j ≤ x.length ∧ v = .int .i64 j ∧ Below w1.heap.size w1 W ∧ Bd w1.heap.size w1.heap.size (T0 ++ jn [32, 124, 32] ((x.map wrT).take j)) W ∧ w1.heap.size < W.heap.size) (fun v _ => x.length - (intOf v).toNat)
        case atStart => exact ⟨0, Nat.zero_le _, rfl, hb, by simpa [jn] using hd2, hz⟩
        case round =>
          clear hd2 hb hz
          obtain ⟨j, hj, rfl, hb, hd, hz⟩ := hrel
          by_cases hlt2 : j < x.length
          · rcases HS.out.is with ⟨hnil, _⟩ | ⟨b2, o2, c2, hv2, _, hTl⟩
            · rw [hnil] at hlt2; simp at hlt2
            cases hv2
            have hxj := HP.out.lx hxm j
            have htk := HP.out.k x hxm x[j] (List.getElem_mem hlt2)
            have hts := HP.out.s x hxm x[j] (List.getElem_mem hlt2)
            have HN3 : Hid (jn [32, 124, 32] ((x.map wrT).take (j + 1)) = jn [32, 124, 32] ((x.map wrT).take j) ++ (if 0 < j then [32, 124, 32] else []) ++ wrT x[j]) := by
              show _ = _
              rw [jn_succ _ _ _ (by simpa using hlt2)]; simp
            have hTw := hTl.lt
            have e0 := (hb.cell (p := ⟨b2, o2 + j * 5, none⟩) hTw).trans (hTl.c0 j hlt2)
            have e1 := (hb.cell (p := ⟨b2, o2 + j * 5 + 1, none⟩) hTw).trans (hTl.c1 j hlt2)
            have e2 := (hb.cell (p := ⟨b2, o2 + j * 5 + 2, none⟩) hTw).trans (hTl.c2 j hlt2)
            have e3 := (hb.cell (p := ⟨b2, o2 + j * 5 + 3, none⟩) hTw).trans (hTl.c3 j hlt2)
            have e4 := (hb.cell (p := ⟨b2, o2 + j * 5 + 4, none⟩) hTw).trans (hTl.c4 j hlt2)
            have bN := bA1 wr (.cells #[.string ⟨x[j].n.toArray⟩, .int .i64 x[j].o, .int .i64 x[j].e, .string ⟨x[j].u.toArray⟩, .string ⟨x[j].r.toArray⟩] 83)
            have hN : (wr.alloc (.cells #[.string ⟨x[j].n.toArray⟩, .int .i64 x[j].o, .int .i64 x[j].e, .string ⟨x[j].u.toArray⟩, .string ⟨x[j].r.toArray⟩] 83)).heap[wr.heap.size]? = some (.cells #[.string ⟨x[j].n.toArray⟩, .int .i64 x[j].o, .int .i64 x[j].e, .string ⟨x[j].u.toArray⟩, .string ⟨x[j].r.toArray⟩] 83 (0, 0)) := World.alloc_heap_new wr _
            have hdN := hd.on bN
            have hbN := hb.trans (bN.mono hb.size)
            have hzN : w1.heap.size < (wr.alloc (.cells #[.string ⟨x[j].n.toArray⟩, .int .i64 x[j].o, .int .i64 x[j].e, .string ⟨x[j].u.toArray⟩, .string ⟨x[j].r.toArray⟩] 83)).heap.size := by simp; omega
            have hne : wr.heap.size ≠ w1.heap.size := by omega
            have hsz := hz
            clear hd hTl hTw
            obtain ⟨U, hU⟩ : ∃ U, U = T0 ++ jn [32, 124, 32] ((x.map wrT).take j) := ⟨_, rfl⟩
            rw [← hU] at hdN
            obtain ⟨U2, hU2⟩ : ∃ U2, U2 = U ++ (if 0 < j then [32, 124, 32] else []) := ⟨_, rfl⟩
            have HN4 : Hid (T0 ++ jn [32, 124, 32] ((x.map wrT).take (j + 1)) = U2 ++ wrT x[j]) := by show _ = _; rw [HN3.out, hU2, hU]; simp [List.append_assoc]
            have hUl : U.length ≤ 300000 := by rw [hU, List.length_append]; omega
            have hU2l : U2.length ≤ 300003 := by rw [hU2]; split <;> simp <;> omega
            have cW := bd_str w1.heap.size w1.heap.size U [32, 124, 32] _ hdN (by omega) (by simp)
            have cT := fun W (hd : Bd w1.heap.size w1.heap.size U2 W) (hz : w1.heap.size < W.heap.size) (hb : Below w.heap.size w W) => wterm_any w1.heap.size w1.heap.size x[j] U2 w W hd hz hb b1.size (by omega) htk hts HG.out HT.out
            have hbw := b1.trans (hbN.mono b1.size)
            unfold tmv at cT
            clear HN3 hU hxj htk hts
            by_cases hj0 : j = 0
            · have hj0' : ¬ (0 : Int) < (j : Int) := by omega
              have hd2 : Bd w1.heap.size w1.heap.size U2 (wr.alloc (.cells #[.string ⟨x[j].n.toArray⟩, .int .i64 x[j].o, .int .i64 x[j].e, .string ⟨x[j].u.toArray⟩, .string ⟨x[j].r.toArray⟩] 83)) := by rw [hU2, if_neg (by omega)]; simpa using hdN
              have cT2 := cT _ hd2 hzN hbw
              clear cW hj0 hU2 hdN cT
              go_wp2_with fail
              refine cT2.mono ?_
              rintro e w3 ⟨rfl, hd3, b3, _⟩
              rw [← HN4.out] at hd3
              go_wp2_with fail
              exact ⟨⟨j + 1, hlt2, by go_num, hbN.trans b3, hd3, Nat.lt_of_lt_of_le hzN b3.size⟩, by simp [intOf]; omega⟩
            · have hj0' : (0 : Int) < (j : Int) := by omega
              rw [show U ++ [32, 124, 32] = U2 by rw [hU2, if_pos (by omega)]] at cW
              clear hj0 hU2 hdN
              go_wp2_with fail
              refine cW.mono ?_
              rintro e w2 ⟨rfl, hd2, b2', k2⟩
              have hN2 := ok_cell k2 hN hne (by decide)
              obtain ⟨q0, q1, q2, q3, q4, qf, ql⟩ := K5.of hN2
              have cT2 := cT _ hd2 (Nat.lt_of_lt_of_le hzN b2'.size) (hbw.trans (b2'.mono b1.size))
              clear cT
              go_wp2_with fail
              refine cT2.mono ?_
              rintro e w3 ⟨rfl, hd3, b3, _⟩
              rw [← HN4.out] at hd3
              go_wp2_with fail
              exact ⟨⟨j + 1, hlt2, by go_num, (hbN.trans b2').trans b3, hd3, Nat.lt_of_lt_of_le hzN (Nat.le_trans b2'.size b3.size)⟩, by simp [intOf]; omega⟩
          · obtain rfl : j = x.length := by omega
            have hd2 : Bd w1.heap.size w1.heap.size (jn [44, 32] ((l.map wrS).take (i + 1))) wr := by
              rw [HN2.out]; have := hd; rwa [List.take_of_length_le (by simp)] at this
            clear hd
            go_wp2_with fail
            exact ⟨⟨i + 1, hlt, by go_num, hb, hd2, hz⟩, by simp [intOf]; omega⟩
    · obtain rfl : i = l.length := by omega
      have hd2 : Bd w1.heap.size w1.heap.size (wrA l) wr := by
        have := hd; rwa [List.take_of_length_le (by simp)] at this
      clear hd
      go_wp2_with fail
      refine (Tryz.Builder_String_any w1.heap.size w1.heap.size _ _ hd2.is hd2.le).mono ?_
      rintro e w2 ⟨rfl, b2⟩
      go_wp2
      go_ret2
      exact ⟨rfl, b1.trans ((hb.trans b2).mono b1.size)⟩

set_option maxHeartbeats 800000 in
set_option maxRecDepth 100000 in
theorem print_no (v : Value) (l : List (List Tm)) (w : World) (h : As w v l) (hn : l.length ≤ 1000) (hx : ∀ x ∈ l, x.length ≤ 1000) (hS : ∀ t ∈ l.flatten, Shn t) (hk : ask l = false) (hT : Tab w) : Calls Tryz.prog 118 #[v] w fun e w' => e = .returned (.tuple #[.string ⟨#[]⟩, .iface 32 (.int .i64 1)]) ∧ Below w.heap.size w w' := by
  have cR := askr_any v l w h hn hx hS hT
  rw [hk] at cR
  obtain ⟨A, c, rfl⟩ := as_sl h
  clear h hS hT hk
  go_enter Tryz.func118, Tryz.ntmps118
  go_wp2_with fail
  refine cR.mono ?_
  rintro e w1 ⟨rfl, b1⟩
  go_wp2
  go_ret2
  exact ⟨rfl, b1⟩
set_option maxHeartbeats 800000 in
set_option maxRecDepth 100000 in
theorem print_nil (A : Option Addr) (c : Nat) (w : World) (hT : Tab w) : Calls Tryz.prog 118 #[.slice A 0 c] w fun e w' => e = .returned (.tuple #[.string ⟨#[]⟩, .nilIface]) ∧ Below w.heap.size w w' := by
  have cR := askr_any (.slice A 0 c) [] w ⟨.inl ⟨rfl, A, c, rfl⟩⟩ (by simp) (by simp) (by simp) hT
  rw [show ask [] = true from rfl] at cR
  clear hT
  go_enter Tryz.func118, Tryz.ntmps118
  go_wp2_with fail
  refine cR.mono ?_
  rintro e w1 ⟨rfl, b1⟩
  have d0 : Bd w1.heap.size w1.heap.size [] (w1.alloc (.cells #[.pointer none, .slice none 0 0] 122)) := ⟨Lib.fresh_isBuilder 122 5 w1, by simp⟩
  go_wp2
  refine wp_loop_rounds 1 ?_
  rw [rounds_succ]
  go_wp2_with fail
  refine (Tryz.Builder_String_any w1.heap.size w1.heap.size [] _ d0.is d0.le).mono ?_
  rintro e w2 ⟨rfl, b2⟩
  go_wp2
  go_ret2
  exact ⟨rfl, b1.trans (((bA1 _ _).trans b2).mono b1.size)⟩

theorem flat_len (l : List (List Tm)) (h : ∀ x ∈ l, x ≠ []) : l.length ≤ l.flatten.length := by
  induction l with
  | nil => simp
  | cons x l ih =>
    have h1 := ih (fun y hy => h y (List.mem_cons_of_mem _ hy))
    have h2 : 0 < x.length := List.length_pos_iff.2 (h x (List.mem_cons_self ..))
    simp only [List.flatten_cons, List.length_append, List.length_cons]
    omega
theorem flat_mem (l : List (List Tm)) : ∀ x ∈ l, x.length ≤ l.flatten.length := by
  induction l with
  | nil => simp
  | cons y l ih =>
    intro x hx
    simp only [List.flatten_cons, List.length_append]
    rcases List.mem_cons.1 hx with rfl | hx
    · omega
    · have := ih x hx; omega
theorem pok_of {l : List (List Tm)} (h : ask l = true) (hS : ∀ t ∈ l.flatten, Shn t) : Pok l := by
  unfold ask at h
  simp only [Bool.and_eq_true, List.all_eq_true, decide_eq_true_eq] at h
  have h1 := flat_len l h.1
  refine ⟨by omega, fun x hx => by have := flat_mem l x hx; omega, fun x hx t ht => h.2.2 t (List.mem_flatten.2 ⟨x, hx, ht⟩), fun x hx t ht => hS t (List.mem_flatten.2 ⟨x, hx, ht⟩)⟩
/-- What is asked for is written, if it may be. -/
theorem aprint_any (v : Value) (l : List (List Tm)) (w : World) (h : As w v l) (hn : l.length ≤ 1000) (hx : ∀ x ∈ l, x.length ≤ 1000) (hS : ∀ t ∈ l.flatten, Shn t) (hG : Sg w) (hT : Tab w) : Calls Tryz.prog 118 #[v] w fun e w' => e = .returned (if ask l = true then .tuple #[.string ⟨(wrA l).toArray⟩, .nilIface] else .tuple #[.string ⟨#[]⟩, .iface 32 (.int .i64 1)]) ∧ Below w.heap.size w w' := by
  cases hk : ask l with
  | false => exact print_no v l w h hn hx hS hk hT
  | true =>
    rw [if_pos rfl]
    rcases h.is with ⟨rfl, A, c, rfl⟩ | ⟨b, o, c, rfl, hc, hA⟩
    · exact print_nil A c w hT
    · exact print_row b o c l w hA hc hk (pok_of hk hS) hG hT

end Go.Proofs.YtmlmdncepgcimaaGreatDoor
