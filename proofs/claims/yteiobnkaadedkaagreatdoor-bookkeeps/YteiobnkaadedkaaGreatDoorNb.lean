/- A range over a map that is known; the walk of the reference's Write. -/
import Derived.Test.YteiobnkaadedkaaGreatDoorNa
namespace Go.Proofs.YteiobnkaadedkaaGreatDoor
open Go.RowKit Go.Sort Go.Maps

/-- A step of a range over a map: a key, and what lies there. -/
theorem wpList_next_kv {α : Type} {f : α → Value} {K : Kv α} (_hS : Srt K) (_hf : ∀ a b, f a = f b → a = b) (w : World) {ops : Array Oper} {rest : List Oper} {o : Oper} {a : Act} {Q : Exit → Act → World → Prop} (hg : o.guard = none) (it : Operand) (hop : o.op = Op.next it false) (b r n : Nat) (left : Lit → Bool) (cnt : Nat)
    (hit : a.eval it = .pointer (some ⟨r, 0, none⟩)) (h : w.ranges Tryz.prog 9 Rv b r n (toD f K) left cnt)
    (hDone : cnt = 0 → (∀ kl, left kl = false) → wpList Tryz.prog ops Q rest (a.put o.dst (.tuple #[.bool false])) w)
    (hMore : ∀ (x : List UInt8) (c : α) (w' : World) (cnt' : Nat), lkL x K = some c → left (.string x) = true → w'.ranges Tryz.prog 9 Rv b r n (toD f K) (fun z => left z && !z.sameKey (.string x)) cnt' → cnt' < cnt → w.grownBy w' (some r) → w'.heap.size = w.heap.size →
      (Instr.entry (.pointer (some ⟨r, 0, none⟩))).run Tryz.prog w' = .ok (.tuple #[.string ⟨x.toArray⟩, f c]) w' → wpList Tryz.prog ops Q rest (a.put o.dst (.tuple #[.bool true, .string ⟨x.toArray⟩, f c])) w') :
    wpList Tryz.prog ops Q (o :: rest) a w := by
  refine wpList_next_ranges w hg it hop 9 law9 Rv encStr id (fun key kl hk => by obtain ⟨x, hx, _⟩ := Maps.keyOf_str Tryz.underlying9 hk; exact ⟨x, hx⟩) (fun v y _ => ⟨v, rfl⟩) b r n (toD f K) left cnt hit h hDone ?_
  intro x c kl y w' cnt' hkey hlk hv hat hrg hlt hgr hsz hen
  obtain ⟨x', ex, rfl, _⟩ := Maps.keyOf_str Tryz.underlying9 hkey
  obtain rfl : x = x' := encStr_inj ex
  have hy : y = (.held c, []) := by simpa [Rv, eq_comm] using hv
  have h1 := hat .nil
  rw [toD_at, hy] at h1
  cases hl : lkL x K with
  | none => rw [hl] at h1; cases h1
  | some d =>
    rw [hl] at h1
    have hc : c = f d := by simpa [eq_comm] using h1
    subst hc
    exact hMore x d w' cnt' hl hlk hrg hlt hgr hsz hen
theorem rvv_inj (a b : Rx) (h : rvv a = rvv b) : a = b := by
  obtain ⟨n, p⟩ := a
  obtain ⟨n', p'⟩ := b
  unfold rvv at h
  simp only [Value.agg.injEq, Array.mk.injEq, List.cons.injEq, Value.string.injEq, Value.pointer.injEq, ByteArray.mk.injEq, and_true] at h
  obtain ⟨h1, h2⟩ := h
  have e1 : n = n' := by simpa using h1
  have e2 : p = p' := by
    cases p <;> cases p' <;> simp_all
  rw [e1, e2]

/-- The reference's disk behind a change. -/
structure Ro (b m : Nat) (L : Kv Ent) (lf bt : Int) (w w' : World) : Prop where
  is : ∃ m' K, RD w' b m' K L lf bt ∧ (m' = m ∨ w.heap.size ≤ m')
  kp : Kp (RX b m) w w'
theorem Ro.then {b m : Nat} {L : Kv Ent} {lf bt : Int} {w w1 w2 : World} (hk : Kp (RX b m) w w1) (h : Ro b m L lf bt w1 w2) : Ro b m L lf bt w w2 := by
  obtain ⟨⟨m', K, h1, h2⟩, h3⟩ := h
  exact ⟨⟨m', K, h1, h2.imp id fun h => Nat.le_trans hk.size h⟩, hk.t h3⟩
theorem Ro.same {b m : Nat} {K : Kv Rx} {L : Kv Ent} {lf bt : Int} {w w' : World} (h : RD w' b m K L lf bt) (hk : Kp (RX b m) w w') : Ro b m L lf bt w w' := ⟨⟨m, K, h, .inl rfl⟩, hk⟩
theorem Ro.below {b m : Nat} {L : Kv Ent} {lf bt : Int} {w w1 w2 : World} (hk : Below w.heap.size w w1) (h : Ro b m L lf bt w1 w2) : Ro b m L lf bt w w2 := Ro.then (Kp.of hk) h
theorem kp_rx {b m : Nat} {w w' : World} (h : Kp (fun k => k = b) w w') : Kp (RX b m) w w' := h.mono fun _ h => .inl h
/-- A file is laid into the map. -/
theorem RD.put {w w' : World} {b m : Nat} {K : Kv Rx} {L : Kv Ent} {lf bt : Int} (h : RD w b m K L lf bt) {k : List UInt8} {x : Rx} {e : Ent} (hn : x.now = e.now) (hB : Bx w x.p e.sf) {n : Nat} (ho : w'.ownsMap Tryz.prog 9 Rv m n ((toD rvv K).put (.string k) (.held (rvv x)))) (ht : w.mapTurned w' m) : RD w' b m (putL k x K) (putL k e L) lf bt := by
  have hk : Kp (fun i => i = m) w w' := Kp.grown ht.grown fun i hi => by cases hi; rfl
  have hX : ∀ i, i = m → NoB w i := fun i hi => by subst hi; exact nob_map h.map
  rw [toD_put] at ho
  refine ⟨(hk.block b (Array.getElem?_eq_some_iff.1 h.blk).1 fun e => h.ne e.symm).trans h.blk, own_tight ho, h.srt.put _ _, h.srtL.put _ _, fun y => ?_⟩
  by_cases hy : y = k
  · subst hy
    rw [lk_put_same h.srt, lk_put_same h.srtL]
    exact ⟨.inr ⟨x, e, rfl, rfl, hn, hB.kp hk hX⟩⟩
  · rw [lk_put_other h.srt hy, lk_put_other h.srtL hy]
    exact (h.rel y).kp hk hX
theorem RD.del {w w' : World} {b m : Nat} {K : Kv Rx} {L : Kv Ent} {lf bt : Int} (h : RD w b m K L lf bt) {k : List UInt8} {n : Nat} (ho : w'.ownsMap Tryz.prog 9 Rv m n ((toD rvv K).del (.string k))) (ht : w.mapTurned w' m) : RD w' b m (delL k K) (delL k L) lf bt := by
  have hk : Kp (fun i => i = m) w w' := Kp.grown ht.grown fun i hi => by cases hi; rfl
  have hX : ∀ i, i = m → NoB w i := fun i hi => by subst hi; exact nob_map h.map
  rw [toD_del] at ho
  refine ⟨(hk.block b (Array.getElem?_eq_some_iff.1 h.blk).1 fun e => h.ne e.symm).trans h.blk, own_tight ho, h.srt.del _, h.srtL.del _, fun y => ?_⟩
  by_cases hy : y = k
  · subst hy
    rw [lk_del_same, lk_del_same]
    exact ⟨.inl ⟨rfl, rfl⟩⟩
  · rw [lk_del_other h.srt hy, lk_del_other h.srtL hy]
    exact (h.rel y).kp hk hX
theorem kp_turn {b m : Nat} {w w' : World} (h : w.mapTurned w' m) : Kp (RX b m) w w' := Kp.grown h.grown fun i hi => by cases hi; exact .inr rfl
theorem RD.at {w : World} {b m : Nat} {K : Kv Rx} {L : Kv Ent} {lf bt : Int} (h : RD w b m K L lf bt) (k : List UInt8) : (rent k K).now = (ent k L).now ∧ Bx w (rent k K).p (ent k L).sf ∧ (lkL k K).isSome = (lkL k L).isSome := by
  unfold rent ent
  rcases (h.rel k).is with ⟨h1, h2⟩ | ⟨x, e, h1, h2, h3, h4⟩
  · rw [h1, h2]; exact ⟨rfl, ⟨.inl ⟨rfl, rfl⟩⟩, rfl⟩
  · rw [h1, h2]; exact ⟨h3, h4, rfl⟩
def rfit (L : Kv Ent) (k s : List UInt8) (bt : Int) : Bool := !(decide (0 ≤ bt) && decide (bt < (s.length + tot nl (delL k L) : Int)))
def rwcd (L : Kv Ent) (lf bt : Int) (k s : List UInt8) : Int := if nok k = false then 1 else if lf = 0 then 14 else if rfit L k s bt = false then 12 else 0
def rwL (L : Kv Ent) (lf bt : Int) (k s : List UInt8) : Kv Ent := if nok k = true ∧ lf ≠ 0 ∧ rfit L k s bt = true then putL k ⟨s, (ent k L).sf⟩ L else L
def rwl (lf : Int) (k : List UInt8) : Int := if nok k = true then rch lf else lf

/-- What the last region of Write reads. -/
structure Qs (b m bx : Nat) (p : Option Nat) (W : World) : Prop where
  c0 : W.cell? ⟨b, 0, none⟩ = some (.map (some m))
  e1 : W.cell? ⟨bx, 1, none⟩ = some (.pointer (p.map fun a => ⟨a, 0, none⟩))
/-- What is summed: those that have come, and are others. -/
def qf (left : Lit → Bool) (k x : List UInt8) : Bool := !left (.string x) && !(x == k)
theorem qf_same (f : Rx → Nat) (left : Lit → Bool) (k : List UInt8) (K : Kv Rx) : totI f (qf (fun z => left z && !z.sameKey (.string k)) k) K = totI f (qf left k) K := by
  congr 1
  funext x
  unfold qf
  by_cases h : x = k
  · subst h; simp
  · have : Lit.sameKey (.string x) (.string k) = false := by simpa [Lit.sameKey] using h
    dsimp only
    rw [this]; simp
theorem qf_step {left : Lit → Bool} {k x : List UInt8} {K : Kv Rx} {c : Rx} (hS : Srt K) (hl : lkL x K = some c) (hx : left (.string x) = true) (hne : x ≠ k) : totI rnl (qf (fun z => left z && !z.sameKey (.string x)) k) K = totI rnl (qf left k) K + c.now.length := by
  rw [totI_step rnl (qf left k) _ x hS (by unfold qf; rw [hx]; rfl) (by unfold qf; simp [Lit.sameKey, hne]) (fun y hy => by
    unfold qf
    have : Lit.sameKey (.string y) (.string x) = false := by simpa [Lit.sameKey] using hy
    dsimp only
    rw [this]; simp)]
  unfold olen; rw [hl]; rfl
theorem qf_start (k : List UInt8) (K : Kv Rx) : totI rnl (qf (has (toD rvv K)) k) K = 0 := by
  refine totI_none _ _ _ fun p hp => ?_
  unfold qf
  rw [toD_has]
  have : (lkL p.1 K).isSome = true := by
    cases h : lkL p.1 K with
    | none => exact absurd rfl (lk_none.1 h p hp)
    | some _ => rfl
  rw [this]; rfl
theorem qf_end {left : Lit → Bool} (h : ∀ kl, left kl = false) (k : List UInt8) (K : Kv Rx) : totI rnl (qf left k) K = tot rnl (delL k K) := by
  rw [← totI_del]
  congr 1
  funext x
  unfold qf; rw [h]; rfl
theorem totI_le (f : Rx → Nat) (q : List UInt8 → Bool) (K : Kv Rx) : totI f q K ≤ tot f K := by
  induction K with
  | nil => exact Nat.le_refl _
  | cons y r ih =>
    simp only [totI, tot, List.map_cons, List.sum_cons] at ih ⊢
    split <;> omega
theorem RD.tot {w : World} {b m : Nat} {K : Kv Rx} {L : Kv Ent} {lf bt : Int} (h : RD w b m K L lf bt) : tot rnl K = tot nl L := by
  have e := congrArg (fun M => Go.Proofs.YteiobnkaadedkaaGreatDoor.tot List.length M) h.nows
  simp only [mapV_tot] at e
  exact e
theorem fit_r {L : Kv Ent} {k s : List UInt8} {bt : Int} : rfit L k s bt = false ↔ 0 ≤ bt ∧ bt < (s.length + Go.Proofs.YteiobnkaadedkaaGreatDoor.tot nl (delL k L) : Int) := by
  unfold rfit; simp
set_option maxHeartbeats 6400000 in
set_option maxRecDepth 100000 in
theorem rwrite_any (b m : Nat) (K : Kv Rx) (L : Kv Ent) (lf bt : Int) (k s : List UInt8) (w : World) (h : RD w b m K L lf bt) (hl : lf ≤ 9223372036854775807) (hk : k.length ≤ 1000000) (hs : s.length ≤ 1000000) (hT : tot nl L ≤ 1000000) (hn : L.length < 5000) :
    Calls Tryz.prog 11 #[.pointer (some ⟨b, 0, none⟩), .string ⟨k.toArray⟩, .string ⟨s.toArray⟩] w fun x w' => x = .returned (.int .i64 (rwcd L lf bt k s)) ∧ Ro b m (rwL L lf bt k s) (rwl lf k) bt w w' := by
  obtain ⟨x, hx⟩ : ∃ x, x = rwcd L lf bt k s := ⟨_, rfl⟩
  obtain ⟨L', hL'⟩ : ∃ L', L' = rwL L lf bt k s := ⟨_, rfl⟩
  obtain ⟨l', hl'⟩ : ∃ l', l' = rwl lf k := ⟨_, rfl⟩
  rw [← hx, ← hL', ← hl']
  unfold rwcd at hx
  unfold rwL at hL'
  unfold rwl at hl'
  have cN := in_any k.length w
  rw [nok_in] at cN
  cases hz : nok k with
  | false =>
    rw [hz] at cN hx hL' hl'
    simp only [if_true, Bool.false_eq_true, false_and, if_false] at hx hL' hl'
    subst hx hL' hl'
    go_enter Tryz.func11, Tryz.ntmps11
    go_wp2_with fail
    refine cN.mono ?_
    rintro x w1 ⟨rfl, rfl⟩
    go_wp2
    go_ret
    exact ⟨rfl, Ro.same h (Kp.refl _ _)⟩
  | true =>
    rw [hz] at cN hx hL' hl'
    simp only [Bool.true_eq_false, if_false, true_and, if_true] at hx hL' hl'
    have cP := power_any b m K L lf bt w h hl
    rw [← hl'] at cP
    by_cases h0 : lf = 0
    · have e1 : rpw lf = 14 := by unfold rpw; rw [if_pos h0]
      rw [e1] at cP
      rw [if_pos h0] at hx
      rw [if_neg (fun hh => hh.1 h0)] at hL'
      subst hx hL'
      clear hl' h0 e1
      go_enter Tryz.func11, Tryz.ntmps11
      go_wp2_with fail
      refine cN.mono ?_
      rintro x w1 ⟨rfl, rfl⟩
      go_wp2_with fail
      refine cP.mono ?_
      rintro x w2 ⟨rfl, hd, hkp⟩
      go_wp2
      go_ret
      exact ⟨rfl, Ro.same hd (kp_rx hkp)⟩
    · have e1 : rpw lf = 0 := by unfold rpw; rw [if_neg h0]
      rw [e1] at cP
      rw [if_neg h0] at hx
      simp only [ne_eq, h0, not_false_eq_true, true_and] at hL'
      have HX := Lib.hid hx
      have HL := Lib.hid hL'
      clear hx hL' hl' h0 e1 hl
      go_enter Tryz.func11, Tryz.ntmps11
      go_wp2_with fail
      refine cN.mono ?_
      rintro x w1 ⟨rfl, rfl⟩
      go_wp2_with fail
      refine cP.mono ?_
      rintro x w2 ⟨rfl, hd, hkp⟩
      have hat := hd.at k
      have hy := (rlook_own hd.map k hk).2
      rw [hat.2.2] at hy
      have c0 := (rc_of hd.blk).c0
      have hltb := (rc_of hd.blk).lt
      obtain ⟨y, hye⟩ : ∃ y, y = rent k K := ⟨_, rfl⟩
      rw [← hye] at hat hy
      have hb3 := (Below.refl w2.heap.size w2).alloc (Nat.le_refl _) (rxo y)
      have hd3 := hd.up hb3
      have hX3 := nb0 w2 (rxo y)
      have HK := Lib.hid (kp_rx (m := m) hkp)
      have HA := Lib.hid hat
      have HD3 := Lib.hid hd3
      have HB3 := Lib.hid hb3
      have HX3 := Lib.hid hX3
      have hown := hd3.map
      unfold rvv at hy
      clear cN cP hd hkp hat hye hb3 hd3 hX3
      go_wp2_with (first | (at_range; refine wpList_range_own _ rfl _ 48 rfl 9 47 law9 Tryz.underlying48 Rv m K.length _ rfl hown ?_; intro w4 hrg4 hg4 hs4))
      have HG4 : Hid (Below (w2.alloc (rxo y)).heap.size (w2.alloc (rxo y)) w4) := ⟨hg4.os, hg4.tape, hg4.output, hg4.size, fun i hi => hg4.block i hi (by simp)⟩
      have HR4 := Lib.hid hrg4
      have hsz : Hid ((w2.alloc (rxo y)).heap.size = (w2.alloc (rxo y)).heap.size) := rfl
      have HSr := Lib.hid HD3.out.srt
      have htot := HD3.out.tot
      clear hg4 hs4 hrg4 hown hy c0
      go_frame
      obtain ⟨r, hr⟩ : ∃ r, r = (w2.alloc (rxo y)).heap.size := ⟨_, rfl⟩
      have HSz := Lib.hid hr
      rw [← hr] at HR4 HG4 ⊢
      clear hr hsz
      go_loopw [10] (fun nv wr => ∃ (left : Lit → Bool) (cnt : Nat), nv = .int .i64 ((s.length + totI rnl (qf left k) K : Nat) : Int) ∧ wr.ranges Tryz.prog 9 Rv m r K.length (toD rvv K) left cnt ∧ Below r (w2.alloc (rxo y)) wr) (fun _ wr => wr.rangeLeft m r)
      case atStart => exact ⟨_, _, by rw [qf_start]; rfl, HR4.out, HG4.out⟩
      case round =>
        obtain ⟨left, cnt, rfl, hrg, hbw⟩ := hrel
        have hle := totI_le rnl (qf left k) K
        rw [htot] at hle
        have HRg := Lib.hid hrg
        go_wp2_with (first | (at_next; refine wpList_next_kv HSr.out rvv_inj _ rfl _ rfl m r K.length _ _ rfl hrg ?_ ?_))
        · intro hc0 hl0
          have hnn : totI rnl (qf left k) K = Go.Proofs.YteiobnkaadedkaaGreatDoor.tot nl (delL k L) := by rw [qf_end hl0, HD3.out.totd]
          rw [hnn]
          have hb5 : Below (w2.alloc (rxo y)).heap.size (w2.alloc (rxo y)) wr := by rw [← HSz.out]; exact hbw
          have hd5 := HD3.out.up hb5
          have hX5 : wr.heap[w2.heap.size]? = some (rxo y) := (hb5.block _ (by simp)).trans HX3.out
          clear hrg HRg hc0 hl0 hle hnn
          have hNn : Go.Proofs.YteiobnkaadedkaaGreatDoor.tot nl (delL k L) ≤ 1000000 := by
            have := tot_del nl k hd5.srtL
            omega
          obtain ⟨hlt5, c0, c1, c2, f0, f1, f2⟩ := rc_of hd5.blk
          have x0 : wr.cell? ⟨w2.heap.size, 0, none⟩ = some (.string ⟨y.now.toArray⟩) := by simp [World.cell?, hX5]
          have x1 : wr.cell? ⟨w2.heap.size, 1, none⟩ = some (.pointer (y.p.map fun a => ⟨a, 0, none⟩)) := by simp [World.cell?, hX5]
          have hlen := fun ty => hd5.map.len Tryz.underlying48 ty
          rw [toD_size] at hlen
          have hKL := hd5.len
          have hKl : (K.length : Int) < 5000 := by omega
          have HB5 := Lib.hid (HB3.out.trans (hb5.mono HB3.out.size))
          have HD5 := Lib.hid hd5
          have HX5 := Lib.hid hX5
          have HA5 := Lib.hid (HA.out.2.1.kp (Kp.of (X := fun _ => False) HB5.out) (fun _ h => h.elim))
          have hwb : w2.heap.size < wr.heap.size := (Array.getElem?_eq_some_iff.1 hX5).1
          clear hb5 hd5 hX5 hbw HSr HR4 HG4 HSz HD3 HX3 HA htot hKL
          cases hf : rfit L k s bt with
          | false =>
            rw [hf] at HX HL
            have HX' : Hid (x = 12) := HX
            have HL' : Hid (L' = L) := HL
            obtain ⟨hA1, hA2⟩ := fit_r.1 hf
            have HRo := Lib.hid (Ro.then HK.out (Ro.below HB5.out (Ro.same HD5.out (Kp.refl _ _))))
            clear HX HL HD5 HX5 HA5 HK HB5 hf
            go_wp2
            go_ret
            exact ⟨by rw [HX'.out]; rfl, by rw [HL'.out]; exact HRo.out⟩
          | true =>
            rw [hf] at HX HL
            have HX' : Hid (x = 0) := HX
            have HL' : Hid (L' = putL k ⟨s, (ent k L).sf⟩ L) := HL
            have hA : ¬ (0 ≤ bt ∧ bt < (s.length + Go.Proofs.YteiobnkaadedkaaGreatDoor.tot nl (delL k L) : Int)) := fun hh => by rw [fit_r.2 hh] at hf; cases hf
            clear HX HL hf
            have key : bt < 0 ∨ (0 ≤ bt ∧ ¬ bt < (s.length + Go.Proofs.YteiobnkaadedkaaGreatDoor.tot nl (delL k L) : Int)) := by omega
            clear hA
            rcases key with hA | ⟨hA, hB⟩
            all_goals
              cases hz2 : (lkL k L).isSome
              all_goals
                go_wp2_with fail
                clear x0 x1 c0 c1 c2 f0 f1 f2 hlen
                have bd1 := (Below.refl wr.heap.size wr).drew
                have hd6 := HD5.out.up bd1
                have lc1 : Qs b m w2.heap.size y.p wr.drew := ⟨(rc_of hd6.blk).c0, by have hX6 := (bd1.block _ hwb).trans HX5.out; simp [World.cell?, hX6]⟩
                obtain ⟨w7, hrun, hown7, hturn⟩ := hd6.map.store law9 Tryz.underlying48 (by unfold maxLen; omega) (key9 k hk) (val := rvv ⟨s, y.p⟩) (d := .held (rvv ⟨s, y.p⟩)) (ps := []) rfl
                have HRD := Lib.hid (hd6.put (x := ⟨s, y.p⟩) (e := ⟨s, (ent k L).sf⟩) rfl (HA5.out.kp (Kp.of (X := fun _ => False) bd1) (fun _ h => h.elim)) hown7 hturn)
                have lc7 : Qs b m w2.heap.size y.p w7 := by
                  have hwm : w2.heap.size ≠ m := fun e1 => by
                    have hX6 := (bd1.block _ hwb).trans HX5.out
                    obtain ⟨es, cl, h1, _⟩ := hd6.map
                    rw [← e1, hX6] at h1; cases h1
                  have hX7 : w7.heap[w2.heap.size]? = some (rxo y) := (hturn.grown.block _ hwb (fun e1 => hwm (by cases e1; rfl))).trans ((bd1.block _ hwb).trans HX5.out)
                  exact ⟨(rc_of HRD.out.blk).c0, by simp [World.cell?, hX7]⟩
                have HRo := Lib.hid (Ro.then HK.out (Ro.below HB5.out (Ro.below bd1 (Ro.same HRD.out (kp_turn hturn)))))
                rw [← HL'.out] at HRo
                clear hown7 hturn hd6 bd1 HA5 HD5 HX5 HB5 HRD HL'
                refine wp_region_held (S := Qs b m w2.heap.size y.p) (by kernel_rfl) ?_
                refine wpAnyH_take (i := 0) (v := .pointer (some ⟨b, 0, none⟩)) rfl (by kernel_rfl) (by kernel_rfl) (by kernel_rfl) (fun _ _ _ h => h) (.inl ⟨rfl, fun w' _ => by simp [go_sem]⟩) lc1 ?_
                refine wpAnyH_take (i := 1) (v := .pointer (some ⟨b, 0, none⟩)) rfl (by kernel_rfl) (by kernel_rfl) (by kernel_rfl) (fun _ _ _ h => h) (.inl ⟨rfl, fun w' _ => by simp [go_sem]⟩) lc1 ?_
                refine wpAnyH_take (i := 2) (v := .pointer (some ⟨b, 0, none⟩)) rfl (by kernel_rfl) (by kernel_rfl) (by kernel_rfl) (fun _ _ _ h => h) (.inl ⟨rfl, fun w' _ => by simp [go_sem]⟩) lc1 ?_
                refine wpAnyH_take (i := 3) (v := .map (some m)) rfl (by kernel_rfl) (by kernel_rfl) (by kernel_rfl) (fun _ _ _ h => h) (.inl ⟨rfl, fun w' hw => by have h1 := hw.c0; simp [go_sem, h1]⟩) lc1 ?_
                refine wpAnyH_take (i := 4) (v := .string ⟨k.toArray⟩) rfl (by kernel_rfl) (by kernel_rfl) (by kernel_rfl) (fun _ _ _ h => h) (.inl ⟨rfl, fun w' _ => by simp [go_sem]⟩) lc1 ?_
                refine wpAnyH_take (i := 5) (v := .string ⟨s.toArray⟩) rfl (by kernel_rfl) (by kernel_rfl) (by kernel_rfl) (fun _ _ _ h => h) (.inl ⟨rfl, fun w' _ => by simp [go_sem]⟩) lc1 ?_
                refine wpAnyH_take (i := 6) (v := .pointer (some ⟨w2.heap.size, 1, none⟩)) rfl (by kernel_rfl) (by kernel_rfl) (by kernel_rfl) (fun _ _ _ h => h) (.inl ⟨rfl, fun w' _ => by simp [go_sem]⟩) lc1 ?_
                refine wpAnyH_take (i := 7) (v := .pointer (y.p.map fun a => ⟨a, 0, none⟩)) rfl (by kernel_rfl) (by kernel_rfl) (by kernel_rfl) (fun _ _ _ h => h) (.inl ⟨rfl, fun w' hw => by have h1 := hw.e1; simp [go_sem, h1]⟩) lc1 ?_
                refine wpAnyH_take (i := 8) (v := rvv ⟨s, y.p⟩) rfl (by kernel_rfl) (by kernel_rfl) (by kernel_rfl) (fun _ _ _ h => h) (.inl ⟨rfl, fun w' _ => by simp [go_sem, rvv]⟩) lc1 ?_
                refine wpAnyH_all (rs := [9]) (by kernel_rfl) (by simp) fun j hj => ?_
                obtain rfl : j = 9 := by simpa using hj
                refine wpOp_go rfl rfl ?_
                unfold Oper.wp
                simp [go_sem, hrun]
                refine ⟨lc7, wpAnyH_done (by kernel_rfl) ?_ _⟩
                go_wp2
                go_ret
                exact ⟨by rw [HX'.out]; rfl, HRo.out⟩
        · intro x c w5 cnt5 hlx hlf hrg5 hlt5 hg5 hs5 hen
          have hbw5 : Below r (w2.alloc (rxo y)) w5 := hbw.grown hg5 (Nat.le_of_lt hrg.lt) (fun j hj => by cases hj; exact Nat.le_refl _)
          have hr5 : r ≤ w5.heap.size := Nat.le_of_lt hrg5.lt
          have hrg6 := hrg5.alloc (rxo c)
          have hbw6 : Below r (w2.alloc (rxo y)) (w5.alloc (rxo c)) := hbw5.alloc hr5 _
          have hcl : c.now.length ≤ 1000000 := by
            have := olen_le rnl x HSr.out
            have e1 : olen rnl x K = c.now.length := by unfold olen; rw [hlx]; rfl
            rw [htot] at this
            omega
          have HR6 := Lib.hid hrg6
          have HB6 := Lib.hid hbw6
          have HLt : Hid (cnt5 < cnt) := hlt5
          unfold rvv at hen
          by_cases hxk : x = k
          · have hxk' : (x == k) = true := by simpa using hxk
            have HN : Hid (totI rnl (qf (fun z => left z && !z.sameKey (.string x)) k) K = totI rnl (qf left k) K) := by show _ = _; rw [hxk]; exact qf_same _ _ _ _
            clear hs5 hg5 hrg5 hrg6 hbw6 hbw5 hlt5 hlx hlf hrg hbw hxk
            go_wp2
            exact ⟨⟨_, cnt5, by rw [HN.out]; go_num, HR6.out, HB6.out⟩, by rw [HR6.out.left_eq, HRg.out.left_eq]; exact HLt.out⟩
          · have hxk' : (x == k) = false := by simpa using hxk
            have HN : Hid (totI rnl (qf (fun z => left z && !z.sameKey (.string x)) k) K = totI rnl (qf left k) K + c.now.length) := qf_step HSr.out hlx hlf hxk
            clear hs5 hg5 hrg5 hrg6 hbw6 hbw5 hlt5 hlx hlf hrg hbw hxk
            go_wp2
            exact ⟨⟨_, cnt5, by rw [HN.out]; go_num, HR6.out, HB6.out⟩, by rw [HR6.out.left_eq, HRg.out.left_eq]; exact HLt.out⟩
end Go.Proofs.YteiobnkaadedkaaGreatDoor
