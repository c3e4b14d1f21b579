/- The walk of depend's Right. -/
import Derived.Test.YtppogjjhippefaaGreatDoorUx
import Derived.Test.YtppogjjhippefaaGreatDoorTx
import Derived.Test.YtppogjjhippefaaGreatDoorRx
namespace Go.Proofs.YtppogjjhippefaaGreatDoor
open Go.RowKit Go.Shelf Go.Sort
attribute [local go_sem] Oper.semAt_some

/-- What may be asked for. -/
def ask (l : List (List Tm)) : Bool := l.all (fun x => decide (x ≠ [])) && (decide (l.flatten.length ≤ 30) && l.flatten.all tok)

theorem empty_any (A : Option Addr) (n c : Nat) (w : World) : Calls Tryz.prog 177 #[.slice A n c] w fun e w' => e = .returned (.bool (decide (n = 0))) ∧ w' = w := by
  go_enter Tryz.func177, Tryz.ntmps177
  go_wp2
  go_ret
  exact ⟨ret_bool (by rw [Bool.eq_iff_iff]; simp), rfl⟩

/-- The index of the first empty one, or -1. -/
def Iz (l : List (List Tm)) (e : Ending) : Prop := ∃ z : Int, e = .returned (.int .i64 z) ∧ -1 ≤ z ∧ z ≤ 1000 ∧ decide (0 ≤ z) = !(l.all fun x => decide (x ≠ []))
theorem ts_sl {W : World} {v : Value} {x : List Tm} (h : Ts W v x) : ∃ A c, v = .slice A x.length c := by
  rcases h.is with ⟨rfl, A, c, rfl⟩ | ⟨b, o, c, rfl, _⟩
  · exact ⟨_, _, rfl⟩
  · exact ⟨_, _, rfl⟩

set_option maxHeartbeats 800000 in
set_option maxRecDepth 100000 in
theorem idx_row (b o c : Nat) (l : List (List Tm)) (w : World) (h : Al w b o l) (hn : l.length ≤ 1000) : Calls Tryz.prog 202 #[.slice (some ⟨b, o, none⟩) l.length c, .func (.func 177) #[] #[]] w fun e w' => Iz l e ∧ w' = w := by
  have HF := Lib.hid h
  clear h
  go_enter Tryz.func202, Tryz.ntmps202
  go_wp2
  go_loopw [8] (fun v W => ∃ k : Nat, k ≤ l.length ∧ v = .int .i64 k ∧ W = w ∧ Hid (∀ j (hj : j < l.length), j < k → l[j] ≠ [])) (fun v _ => l.length - (intOf v).toNat)
  case atStart => exact ⟨0, Nat.zero_le _, rfl, rfl, fun j _ h => absurd h (Nat.not_lt_zero _)⟩
  case round =>
    obtain ⟨k, hk, rfl, rfl, HP⟩ := hrel
    by_cases hlt : k < l.length
    · obtain ⟨vi, c0, hT⟩ := HF.out.c k hlt
      obtain ⟨A, c', rfl⟩ := ts_sl hT
      have cE := fun W => empty_any A l[k].length c' W
      by_cases he : l[k].length = 0
      · have HG : Hid ((l.all fun x => decide (x ≠ [])) = false) := by
          show (l.all fun x => decide (x ≠ [])) = false
          rw [List.all_eq_false]
          exact ⟨l[k], List.getElem_mem hlt, by simp [List.length_eq_zero_iff.1 he]⟩
        rw [decide_eq_true he] at cE
        clear hT he
        go_wp2_with (go_at_call 177; refine (cE _).mono ?_; rintro e w' ⟨rfl, rfl⟩)
        go_ret
        exact ⟨⟨k, rfl, by omega, by omega, by rw [HG.out]; simp⟩, rfl⟩
      · have HG : Hid (∀ j (hj : j < l.length), j < k + 1 → l[j] ≠ []) := fun j hj h => by
          by_cases e2 : j = k
          · subst e2; intro e3; rw [e3] at he; exact he rfl
          · exact HP.out j hj (by omega)
        rw [decide_eq_false he] at cE
        clear hT he
        go_wp2_with (go_at_call 177; refine (cE _).mono ?_; rintro e w' ⟨rfl, rfl⟩)
        exact ⟨⟨k + 1, hlt, by go_num, trivial, HG⟩, by simp [intOf]; omega⟩
    · have HG : Hid ((l.all fun x => decide (x ≠ [])) = true) := by
        show (l.all fun x => decide (x ≠ [])) = true
        rw [List.all_eq_true]
        intro x hx
        obtain ⟨j, hj, rfl⟩ := List.getElem_of_mem hx
        simpa using HP.out j hj (by omega)
      go_wp2
      go_ret
      exact ⟨⟨-1, rfl, by omega, by omega, by rw [HG.out]; simp⟩, rfl⟩
theorem idx_none (A : Option Addr) (c : Nat) (w : World) : Calls Tryz.prog 202 #[.slice A 0 c, .func (.func 177) #[] #[]] w fun e w' => Iz [] e ∧ w' = w := by
  go_enter Tryz.func202, Tryz.ntmps202
  go_wp2
  refine wp_loop_rounds 1 ?_
  rw [rounds_succ]
  go_wp2
  go_ret
  exact ⟨⟨-1, rfl, by omega, by omega, rfl⟩, rfl⟩
theorem idx_any' (v : Value) (l : List (List Tm)) (w : World) (h : As w v l) (hn : l.length ≤ 1000) : Calls Tryz.prog 202 #[v, .func (.func 177) #[] #[]] w fun e w' => Iz l e ∧ w' = w := by
  rcases h.is with ⟨rfl, A, c, rfl⟩ | ⟨b, o, c, rfl, _, hA⟩
  · exact idx_none A c w
  · exact idx_row b o c l w hA hn
theorem as_sl {W : World} {v : Value} {l : List (List Tm)} (h : As W v l) : ∃ A c, v = .slice A l.length c := by
  rcases h.is with ⟨rfl, A, c, rfl⟩ | ⟨b, o, c, rfl, _⟩
  · exact ⟨_, _, rfl⟩
  · exact ⟨_, _, rfl⟩
theorem conE_any (v : Value) (l : List (List Tm)) (w : World) (h : As w v l) (hn : l.length ≤ 1000) : Calls Tryz.prog 176 #[v, .func (.func 177) #[] #[]] w fun e w' => e = .returned (.bool (!(l.all fun x => decide (x ≠ [])))) ∧ w' = w := by
  have cI := idx_any' v l w h hn
  obtain ⟨A, c, rfl⟩ := as_sl h
  clear h
  go_enter Tryz.func176, Tryz.ntmps176
  go_wp2_with fail
  refine cI.mono ?_
  rintro e w' ⟨⟨z, rfl, h0, h1, hz⟩, rfl⟩
  have HZ := Lib.hid hz
  clear hz
  go_wp2
  go_ret
  exact ⟨ret_bool (by rw [← HZ.out]), rfl⟩

theorem ask_empty {l : List (List Tm)} (h : (l.all fun x => decide (x ≠ [])) = false) : ask l = false := by unfold ask; rw [h]; rfl
theorem ask_long {l : List (List Tm)} (h : 30 < l.flatten.length) : ask l = false := by
  unfold ask; rw [decide_eq_false (by omega : ¬ l.flatten.length ≤ 30)]; simp
theorem ask_no {l : List (List Tm)} {k : Nat} {t : Tm} (h : l.flatten[k]? = some t) (ht : tok t = false) : ask l = false := by
  have : l.flatten.all tok = false := by
    rw [List.all_eq_false]; exact ⟨t, List.mem_of_getElem? h, by rw [ht]; simp⟩
  unfold ask; rw [this]; simp
theorem ask_yes {l : List (List Tm)} (h : (l.all fun x => decide (x ≠ [])) = true) (hn : l.flatten.length ≤ 30) (hk : ∀ j (hj : j < l.flatten.length), tok l.flatten[j] = true) : ask l = true := by
  have : l.flatten.all tok = true := by
    rw [List.all_eq_true]; intro t ht; obtain ⟨j, hj, rfl⟩ := List.getElem_of_mem ht; exact hk j hj
  unfold ask; rw [h, this, decide_eq_true hn]; rfl

/-- Between two rounds of Right. -/
structure RI (w : World) (l : List (List Tm)) (k : Nat) (W : World) : Prop where
  le : k ≤ 30
  bel : Below w.heap.size w W
  r : Boxed W w.heap.size 4 (.bool false)
  n : Boxed W (w.heap.size + 1) 3 (.int .i64 k)
  sz : w.heap.size + 3 ≤ W.heap.size
  ok : ∀ j (hj : j < l.flatten.length), j < k → tok l.flatten[j] = true
structure RX (w : World) (l : List (List Tm)) (W : World) : Prop where
  bel : Below w.heap.size w W
  no : ask l = false
  r : Boxed W w.heap.size 4 (.bool false)
theorem RI.own {w : World} {l : List (List Tm)} {B : Nat} (hB : w.heap.size ≤ B) : OwnFrom B (RI w l) := fun k W W' row h hg hr => by
  have kc := kc_grown hg (fun r e => (hr r e).2)
  exact ⟨h.le, h.bel.grown hg h.bel.size (fun r e => Nat.le_trans hB (hr r e).1), kc_box h.r kc, kc_box h.n kc, Nat.le_trans h.sz kc.1, h.ok⟩
theorem RX.own {w : World} {l : List (List Tm)} {B : Nat} (hB : w.heap.size ≤ B) : OwnFrom B (fun (_ : Unit) W => RX w l W) := fun k W W' row h hg hr => by
  have kc := kc_grown hg (fun r e => (hr r e).2)
  exact ⟨h.bel.grown hg h.bel.size (fun r e => Nat.le_trans hB (hr r e).1), h.no, kc_box h.r kc⟩

theorem K5.of {W : World} {g : Nat} {x0 x1 x2 x3 x4 : Value} {t : TypeId} (h : W.heap[g]? = some (.cells #[x0, x1, x2, x3, x4] t (0, 0))) : K5 W g x0 x1 x2 x3 x4 :=
  ⟨by simp [World.cell?, h], by simp [World.cell?, h], by simp [World.cell?, h], by simp [World.cell?, h], by simp [World.cell?, h], fun j => by simp [World.frozen?, h], (Array.getElem?_eq_some_iff.1 h).1⟩
/-- A round's term lies in a block. -/
def Rx (B0 : Nat) (F : List Tm) (mk : Value → Value → Act) (k : Nat) (a' : Act) (W : World) : Prop :=
  ∃ Bt, B0 ≤ Bt ∧ W.heap[Bt]? = some (Obj.cells #[.string ⟨(F[k]?.getD default).n.toArray⟩, .int .i64 (F[k]?.getD default).o, .int .i64 (F[k]?.getD default).e, .string ⟨(F[k]?.getD default).u.toArray⟩, .string ⟨(F[k]?.getD default).r.toArray⟩] 125 (0, 0)) ∧ a' = mk (.pointer (some ⟨Bt, 0, none⟩)) (tmv (F[k]?.getD default))
theorem Rx.own {B0 : Nat} {F : List Tm} {mk : Value → Value → Act} {k : Nat} {a' : Act} {B : Nat} : OwnFrom B (fun (_ : Unit) W => Rx B0 F mk k a' W) := fun _ W W' row h hg hr => by
  have kc := kc_grown hg (fun r e => (hr r e).2)
  obtain ⟨Bt, h1, h2, h3⟩ := h
  exact ⟨Bt, h1, kc.2 _ _ _ _ h2, h3⟩

set_option maxRecDepth 100000 in
set_option maxHeartbeats 2000000 in
theorem askr_main (v : Value) (l : List (List Tm)) (w : World) (h : As w v l) (hn : l.length ≤ 1000) (hx : ∀ x ∈ l, x.length ≤ 1000) (hS : ∀ t ∈ l.flatten, Shn t) (he : (l.all fun x => decide (x ≠ [])) = true) (hT : Tab w) : Calls Tryz.prog 127 #[v] w fun e w' => e = .returned (.bool (ask l)) ∧ Below w.heap.size w w' := by
  have cE := fun W (h : As W v l) => conE_any v l W h hn
  rw [he] at cE
  have HA := Lib.hid h
  have HE := Lib.hid he
  have HS := Lib.hid hS
  obtain ⟨A, c, rfl⟩ := as_sl h
  clear h he hS
  refine (callsIn_wide (n := 9)).1 ?_
  refine callsIn_of_wp_marks Tryz.func127 rfl trivial ?_ rfl
  simp only [Tryz.ntmps127, List.size_toArray, List.length_cons, List.length_nil, Nat.reduceAdd, Nat.reduceSub, Array.replicate_succ, Array.replicate_zero, List.push_toArray, List.append_toArray, List.nil_append, List.cons_append]
  gi_wp2_with fail
  refine ⟨trivial, (callsIn_wide.2 (cE _ (HA.out.on (bA1 _ _)))).mono ?_⟩
  rintro e w1 ⟨rfl, rfl⟩
  gi_wp2_with fail
  refine ⟨trivial, (callsIn_wide.2 (all_any A l.length c _)).mono ?_⟩
  rintro e w2 ⟨rfl, rfl⟩
  gi_wp2_with fail
  have bR := ((Boxed.new w 4 (.bool false)).alloc (.cells #[.int .i64 0] 3)).alloc (.cells #[.slice A l.length c] 38)
  have bN := (Boxed.new (w.alloc (.cells #[.bool false] 4)) 3 (.int .i64 0)).alloc (.cells #[.slice A l.length c] 38)
  have bS := Boxed.new ((w.alloc (.cells #[.bool false] 4)).alloc (.cells #[.int .i64 0] 3)) 38 (.slice A l.length c)
  rw [World.size_alloc] at bN
  rw [World.size_alloc, World.size_alloc] at bS
  have hb0 : Below w.heap.size w (((w.alloc (.cells #[.bool false] 4)).alloc (.cells #[.int .i64 0] 3)).alloc (.cells #[.slice A l.length c] 38)) := (((Below.refl _ w).alloc (Nat.le_refl _) _).alloc (by simp) _).alloc (by simp; omega) _
  have i0 : RI w l 0 (((w.alloc (.cells #[.bool false] 4)).alloc (.cells #[.int .i64 0] 3)).alloc (.cells #[.slice A l.length c] 38)) := ⟨by omega, hb0, bR, bN, by simp, fun j _ h => absurd h (Nat.not_lt_zero _)⟩
  refine range_lays (gf := 203) (lb := #[.pointer (some ⟨w.heap.size + 1 + 1, 0, none⟩)]) (n₀ := w.heap.size) rfl (enters_of Tryz.func203 (by kernel_rfl) rfl) (all_turns HA.out hn hx _ _ _ hb0 bS.lt bS.cell) (Below.refl _ _) (by simp; omega) (fun _ => rfl)
    (RI w l) (RX w l) (RI.own (by simp; omega)) (RX.own (by simp; omega)) i0
    (Rx (w.heap.size + 3) l.flatten (fun p t => { tmps := #[.slice A l.length c, undef, .pointer (some ⟨w.heap.size, 0, none⟩), .pointer (some ⟨w.heap.size + 1, 0, none⟩), p, .slice A l.length c, .bool false, .slice A l.length c, .func (.func 203) #[] #[.pointer (some ⟨w.heap.size + 1 + 1, 0, none⟩)], t, undef, undef, undef, undef, undef, undef, undef, undef, undef], defers := [] })) (fun k a' => Rx.own) ?assign ?body ?done ?stop
  case assign =>
    intro ll k W K hI hK
    unfold alE tmv
    gi_wp2
    refine hK _ _ (bA1 _ _) ⟨W.heap.size, hI.sz, World.alloc_heap_new W _, rfl⟩
  case done =>
    rintro D W hD hI hK
    have HY : Hid (ask l = true) := ask_yes HE.out hI.le (fun j hj => hI.ok j hj hj)
    have c0 := hI.r.cell
    have f0 := hI.r.frozen
    have kK := (KeepsOthers.setCell W ⟨w.heap.size, 0, none⟩ (.bool true)).same D _ hK rfl
    have q0 : Boxed (W.setCell ⟨w.heap.size, 0, none⟩ (.bool true)) w.heap.size 4 (.bool true) := hI.r.set _
    have hb := hI.bel.setCell (p := ⟨w.heap.size, 0, none⟩) (Nat.le_refl _) (.bool true)
    have kc := kc_grown (grownBy_putObj' (W.setCell ⟨w.heap.size, 0, none⟩ (.bool true)) D (.deferred none)) (fun r e => by cases e; exact ⟨_, kK, rfl⟩)
    have r0 := (kc_box q0 kc).cell
    have hD' : w.heap.size ≤ D := by simp at hD; omega
    have hb2 := hb.trans (belowK_b (w := w) (Nat.le_refl _) _ D _ (.deferred none) hD' kK rfl rfl)
    clear i0 hb0 bR bN bS hI hK kc q0 hb
    gi_wp2
    refine ⟨by simp, .inl ⟨_, _, rfl, run_takeDeferred kK, ?_⟩⟩
    exact ⟨.bool true, by simp only [results, Tryz.results127]; simp [go_sem, r0], by rw [HY.out], hb2⟩
  case stop =>
    rintro D W hD hX hK
    have kc := kc_grown (grownBy_putObj' W D (.deferred none)) (fun r e => by cases e; exact ⟨_, hK, rfl⟩)
    have r0 := (kc_box hX.r kc).cell
    have hD' : w.heap.size ≤ D := by simp at hD; omega
    have hb2 := hX.bel.trans (belowK_b (w := w) (Nat.le_refl _) _ D _ (.deferred none) hD' hK rfl rfl)
    have HN := Lib.hid hX.no
    clear hX i0 hb0 bR bN bS kc
    gi_wp2
    refine ⟨by simp, .inl ⟨_, _, rfl, run_takeDeferred hK, ?_⟩⟩
    exact ⟨.bool false, by simp only [results, Tryz.results127]; simp [go_sem, r0], by rw [HN.out], hb2⟩
  case body =>
    rintro ll k a' W hk hI ⟨Bt, hBt, hhp, rfl⟩
    obtain ⟨t, ht⟩ : ∃ t, l.flatten[k]? = some t := ⟨_, List.getElem?_eq_getElem hk⟩
    have HT := Lib.hid ht
    rw [ht] at hhp
    simp only [Option.getD_some] at hhp
    rw [ht]
    simp only [Option.getD_some]
    have tK := K5.of hhp
    have hS := HS.out t (List.mem_of_getElem? ht)
    have cP := fun W' (hW : Below w.heap.size w W') => rterm_any t W' hS (tab_on hT hW)
    have hko : KeepsOthers W (W.setCell ⟨w.heap.size + 1, 0, none⟩ (.int .i64 ((k : Int) + 1))) := KeepsOthers.setCell _ _ _
    have hbS := hI.bel.setCell (p := ⟨w.heap.size + 1, 0, none⟩) (Nat.le_succ _) (.int .i64 ((k : Int) + 1))
    have cn := hI.n.cell
    have fn := hI.n.frozen
    have lt1 := hI.n.lt
    have hk30 := hI.le
    have r1 := hI.r.other (B' := w.heap.size + 1) (by omega) (.int .i64 ((k : Int) + 1))
    have n1 := hI.n.set (.int .i64 ((k : Int) + 1))
    have tK1 := tK.other (B := w.heap.size + 1) (by omega) (.int .i64 ((k : Int) + 1))
    clear i0 hb0 bR bN bS ht hhp tK hS
    by_cases h30 : k = 30
    · have HN : Hid (ask l = false) := ask_long (by omega)
      have h31 : (30 : Int) < (k : Int) + 1 := by omega
      obtain ⟨t0, t1, t2, t3, t4, tf, tl⟩ := tK1
      have rc := r1.cell
      have rf := r1.frozen
      clear h30
      gi_wp2
      refine ⟨trivial, ?_⟩
      gi_wp2
      exact ⟨hko.trans (KeepsOthers.setCell _ _ _), hbS.setCell (p := ⟨w.heap.size, 0, none⟩) (Nat.le_refl _) _, HN.out, r1.set _⟩
    · have h31 : (k : Int) + 1 ≤ 30 := by omega
      have cQ := cP _ hbS
      cases hk2 : tok t with
      | false =>
        have HN : Hid (ask l = false) := ask_no HT.out hk2
        rw [hk2] at cQ
        unfold tmv at cQ
        obtain ⟨t0, t1, t2, t3, t4, tf, tl⟩ := tK1
        clear h30 cP
        gi_wp2_with fail
        refine ⟨trivial, (CallsIn.inRound ll (callsIn_wide.2 cQ)).mono ?_⟩
        rintro e w3 ⟨rfl, b3⟩
        have r3 := kc_box r1 (kc_below b3)
        have rc := r3.cell
        have rf := r3.frozen
        gi_wp2
        exact ⟨(hko.trans (ko_below b3)).trans (KeepsOthers.setCell _ _ _), (hbS.trans (b3.mono hbS.size)).setCell (p := ⟨w.heap.size, 0, none⟩) (Nat.le_refl _) _, HN.out, r3.set _⟩
      | true =>
        have HM : Hid (∀ j (hj : j < l.flatten.length), j < k + 1 → tok l.flatten[j] = true) := fun j hj h => by
          by_cases e : j = k
          · subst e
            have := HT.out
            rw [List.getElem?_eq_getElem hj] at this
            rw [Option.some.inj this]; exact hk2
          · exact hI.ok j hj (by omega)
        rw [hk2] at cQ
        unfold tmv at cQ
        obtain ⟨t0, t1, t2, t3, t4, tf, tl⟩ := tK1
        have hIb := hI.bel
        have hsz := hI.sz
        clear h30 cP hI
        gi_wp2_with fail
        refine ⟨trivial, (CallsIn.inRound ll (callsIn_wide.2 cQ)).mono ?_⟩
        rintro e w3 ⟨rfl, b3⟩
        have r3 := kc_box r1 (kc_below b3)
        have n3 := kc_box n1 (kc_below b3)
        rw [show ((k : Int) + 1) = ((k + 1 : Nat) : Int) by omega] at n3
        have hb3 := hbS.trans (b3.mono hbS.size)
        gi_wp2
        exact ⟨hko.trans (ko_below b3), ((Below.refl _ W).setCell (p := ⟨w.heap.size + 1, 0, none⟩) (Nat.le_succ _) _).trans (b3.mono hbS.size), by omega, hb3, r3, n3, by have := b3.size; simp at this; omega, HM.out⟩

/-- Whether what is asked for may be. -/
theorem askr_any (v : Value) (l : List (List Tm)) (w : World) (h : As w v l) (hn : l.length ≤ 1000) (hx : ∀ x ∈ l, x.length ≤ 1000) (hS : ∀ t ∈ l.flatten, Shn t) (hT : Tab w) : Calls Tryz.prog 127 #[v] w fun e w' => e = .returned (.bool (ask l)) ∧ Below w.heap.size w w' := by
  cases he : (l.all fun x => decide (x ≠ [])) with
  | true => exact askr_main v l w h hn hx hS he hT
  | false =>
    have cE := fun W (h : As W v l) => conE_any v l W h hn
    rw [he] at cE
    have HN := Lib.hid (ask_empty he)
    have HA := Lib.hid h
    obtain ⟨A, c, rfl⟩ := as_sl h
    clear h he hS hT
    go_enter Tryz.func127, Tryz.ntmps127
    go_wp2_with fail
    refine (cE _ (HA.out.on (bA1 _ _))).mono ?_
    rintro e w1 ⟨rfl, rfl⟩
    go_wp2
    exact bodyPost_ret (v := .bool false) (by simp only [results, Tryz.results127]; simp [go_sem]) rfl ⟨ret_bool HN.out.symm, bA1 _ _⟩

end Go.Proofs.YtppogjjhippefaaGreatDoor
