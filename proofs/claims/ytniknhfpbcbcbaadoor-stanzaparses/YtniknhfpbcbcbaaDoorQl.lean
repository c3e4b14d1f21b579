/- The walk of the reference's ParseStanzas. -/
import Derived.Test.YtniknhfpbcbcbaaDoorQk
namespace Go.Proofs.YtniknhfpbcbcbaaDoor
open Go.RowKit Go.Shelf Go.Sort

/-- The reference's variable Fine holds what it was given. -/
structure Fin0 (w : World) : Prop where
  c0 : w.cell? ⟨0, 0, none⟩ = some (.int .i64 0)
  c1 : w.cell? ⟨0, 1, none⟩ = some (.int .i64 (-1))
theorem Fin0.on {w w' : World} (h : Fin0 w) (b : Below w.heap.size w w') : Fin0 w' :=
  ⟨by rw [b.cell (block_lt_of_cell h.c0)]; exact h.c0, by rw [b.cell (block_lt_of_cell h.c1)]; exact h.c1⟩

/-- What the reference hands back. -/
def OutR (w : World) (res : Except Nat (List (List Sm.F))) (e : Ending) (w' : World) : Prop := match res with
  | .error i => e = .returned (.tuple #[.slice none 0 0, .agg #[.int .i64 3, .int .i64 i]]) ∧ Below w.heap.size w w'
  | .ok o => ∃ S vs, e = .returned (.tuple #[S, .agg #[.int .i64 0, .int .i64 (-1)]]) ∧ w'.ownsRow w.heap.size 47 1 S vs.length vs ∧ vs.length = o.length ∧ (∀ i (hi : i < vs.length) (hj : i < o.length), w'.ownsRow w.heap.size 92 2 vs[i] o[i].length (fcl o[i])) ∧ Below w.heap.size w w'

/-- A bound of a value's length behind k lines. -/
def bd : Nat → Nat
  | 0 => 0
  | k + 1 => bd k + 1600
theorem bd_up (k : Nat) : bd (k + 1) = bd k + 1600 := rfl
theorem bd_le (k : Nat) : bd k ≤ k * 1600 := by
  induction k with
  | zero => exact Nat.zero_le _
  | succ k ih => rw [bd_up, Nat.succ_mul]; exact Nat.add_le_add_right ih _
/-- Bounds of what has been read behind k lines. -/
structure Rb (k : Nat) (out : List (List Sm.F)) (cu : List Sm.F) : Prop where
  s : ∀ f ∈ cu, f.1.length ≤ 100 ∧ f.2.length ≤ bd k
  n : cu.length ≤ 40
  o : out.length ≤ k
theorem Rb.nm {k : Nat} {out : List (List Sm.F)} {cu : List Sm.F} (h : Rb k out cu) : Nm cu := ⟨by have := h.n; omega, fun f hf => (h.s f hf).1⟩
theorem Rb.up {k : Nat} {out : List (List Sm.F)} {cu : List Sm.F} (h : Rb k out cu) : Rb (k + 1) out cu :=
  ⟨fun f hf => ⟨(h.s f hf).1, by have := (h.s f hf).2; rw [bd_up]; omega⟩, h.n, by have := h.o; omega⟩
theorem Rb.step {k : Nat} {out : List (List Sm.F)} {cu : List Sm.F} {x : List UInt8} {o : List (List Sm.F) × List Sm.F} (h : Rb k out cu) (hx : x.length ≤ 1500) (hs : step out cu x = some o) : Rb (k + 1) o.1 o.2 := by
  unfold Go.Proofs.YtniknhfpbcbcbaaDoor.step at hs
  split at hs
  · cases hs; exact h.up
  · split at hs
    · cases hs
      refine ⟨by simp, by simp, ?_⟩
      have := endO_len out cu; have := h.o; show (endO out cu).length ≤ _; omega
    · split at hs
      · cases hg : gOk cu (Lib.trimS x [32, 9]) with
        | none => rw [hg] at hs; cases hs
        | some u =>
          rw [hg] at hs; cases hs
          have hul := gOk_len hg
          have htl := trim_len x
          refine ⟨fun f hf => ?_, by show (addL cu u).length ≤ 40; rw [addL_length]; exact h.n, by have := h.o; show out.length ≤ _; omega⟩
          have hf' : f ∈ addL cu u := hf
          unfold addL at hf'
          rcases List.eq_nil_or_concat cu with rfl | ⟨p, g, rfl⟩
          · simp at hf'
          · simp at hf'
            rcases hf' with hf' | rfl
            · have := h.s f (by simp [hf']); rw [bd_up]; omega
            · have := h.s g (by simp); rw [bd_up]; simp; omega
      · cases hg : bg cu x with
        | none => rw [hg] at hs; cases hs
        | some u =>
          rw [hg] at hs; cases hs
          obtain ⟨k1, k2, k3⟩ := bg_len hg
          refine ⟨fun f hf => ?_, ?_, by have := h.o; show out.length ≤ _; omega⟩
          · rcases List.mem_append.1 hf with hf | hf
            · have := h.s f hf; rw [bd_up]; omega
            · simp at hf; subst hf; rw [bd_up]; omega
          · have := h.n; show (cu ++ [u]).length ≤ 40; simp; omega

theorem Rf.fin {B C r : Nat} {L S A : Value} {ls : List (List UInt8)} {out : List (List Sm.F)} {vs : List Value} {cu : List Sm.F} {w0 W : World} (h : Rf B C r L S A ls out vs cu w0 W) (a b : Value) :
    ((W.setCell ⟨r, 0, none⟩ a).setCell ⟨r, 1, none⟩ b).drew.cell? ⟨r, 0, none⟩ = some a ∧ ((W.setCell ⟨r, 0, none⟩ a).setCell ⟨r, 1, none⟩ b).drew.cell? ⟨r, 1, none⟩ = some b ∧
    ((W.setCell ⟨r, 0, none⟩ a).setCell ⟨r, 1, none⟩ b).drew.ownsRow B 47 1 S vs.length vs ∧ (∀ i (hi : i < vs.length) (hj : i < out.length), ((W.setCell ⟨r, 0, none⟩ a).setCell ⟨r, 1, none⟩ b).drew.ownsRow B 92 2 vs[i] out[i].length (fcl out[i])) ∧ Below B w0 ((W.setCell ⟨r, 0, none⟩ a).setCell ⟨r, 1, none⟩ b).drew := by
  have bx : ((W.setCell ⟨r, 0, none⟩ a).setCell ⟨r, 1, none⟩ b).drew.heap[r]? = some (.cells #[a, b] 59 (0, 0)) := by
    show ((W.setCell ⟨r, 0, none⟩ a).setCell ⟨r, 1, none⟩ b).heap[r]? = _
    simp [World.setCell, Array.getElem?_modify, h.bx]
  have kp : ∀ {b' e sz n : Nat} {v : Value} {xs : List Value}, e ≠ 59 → W.ownsRow b' e sz v n xs → ((W.setCell ⟨r, 0, none⟩ a).setCell ⟨r, 1, none⟩ b).drew.ownsRow b' e sz v n xs := fun he h1 =>
    ownsRow_setCell_other (ownsRow_setCell_other h1 (row_ne h1 h.bx (Ne.symm he)) _) (row_ne h1 h.bx (Ne.symm he)) _
  exact ⟨by rw [Lib.cell_of_heap bx]; rfl, by rw [Lib.cell_of_heap bx]; rfl, kp (by decide) h.hS, fun i hi hj => kp (by decide) (h.ov i hi hj).1, ((h.be.setCell h.rB _).setCell h.rB _).drew⟩

set_option maxHeartbeats 6400000 in
set_option maxRecDepth 100000 in
theorem xparse_any (l : List UInt8) (w : World) (hl : l.length ≤ 1500) (hm : MaxL w) (hf : Fin0 w) : Calls Tryd.prog 38 #[.string ⟨l.toArray⟩] w fun e w' => OutR w (run 0 [] [] (Sm.spl l)) e w' := by
  obtain ⟨ls, hls⟩ : ∃ ls, ls = Sm.spl l ++ [[]] := ⟨_, rfl⟩
  obtain ⟨res, hres⟩ : ∃ r, r = run 0 [] [] (Sm.spl l) := ⟨_, rfl⟩
  have HB : Hid (res = run 0 [] [] (ls.drop 0)) := by show _ = _; rw [hres, List.drop_zero, hls, run_nil]
  rw [← hres]
  clear hres
  have hsn := (Sm.spl_sum l).2
  have hll : ls.length = (Sm.spl l).length + 1 := by rw [hls]; simp
  have HX : Hid (∀ x ∈ ls, x.length ≤ 1500) := fun x hx => by
    rw [hls] at hx
    rcases List.mem_append.1 hx with hx | hx
    · have := Sm.spl_len l x hx; omega
    · simp at hx; subst hx; simp
  have HLA : Hid (∀ k (hk : k < ls.length), k + 1 = ls.length → ls[k] = []) := fun k hk h => by
    have h2 : ls[k]? = some [] := by
      rw [hls, List.getElem?_append_right (by omega), show k - (Sm.spl l).length = 0 from by omega]; rfl
    rw [List.getElem?_eq_getElem hk] at h2
    exact Option.some.inj h2
  obtain ⟨i0, hi, hz0, hz1, hz2⟩ := info_parts infoStr
  obtain ⟨j0, hj, hy0, hy1, hy2⟩ := info_parts infoS
  have HM := Lib.hid hm
  have HF := Lib.hid hf
  clear hm hf
  have b0 : Below w.heap.size w (w.alloc (.cells #[.int .i64 0, .int .i64 0] 59)) := (Below.refl _ _).alloc (Nat.le_refl _) _
  go_enter Tryd.func38, Tryd.ntmps38
  go_wp2_with fail
  refine (split_own l _ (HM.out.on b0) hl).mono ?_
  rintro e w1 ⟨rfl, b1, h1⟩
  have hg0 : (w.alloc (.cells #[.int .i64 0, .int .i64 0] 59)).heap.size = w.heap.size + 1 := by show (w.heap.push _).size = _; rw [Array.size_push]
  have bb1 := onn b0 b1
  have hr1 : w1.heap[w.heap.size]? = some (.cells #[.int .i64 0, .int .i64 0] 59 (0, 0)) := by rw [b1.block w.heap.size (by rw [hg0]; omega)]; exact new_block0 _ _
  rw [hg0] at h1 ⊢
  generalize hg : w.heap.size + 1 = g at h1 ⊢
  have hB : w.heap.size ≤ g := by omega
  obtain ⟨sp, hsp⟩ : ∃ sp, sp = Sm.spl l := ⟨_, rfl⟩
  rw [← hsp] at h1 hsn hll hls ⊢
  clear hsp b1 b0 hg0
  have hwg : g ≤ w1.heap.size := Nat.le_of_lt (h1.lt g rfl).2
  have HG1 := Lib.hid h1
  clear h1
  go_wp2_with (at_builtin; refine wpList_append_own _ rfl _ _ 95 rfl g 9 i0 (.string ⟨#[]⟩) 1 16 Tryd.underlying95 hi hz0 hz1 hz2 rfl (by decide) _ _ _ rfl (HG1.out.alloc _) ⟨w1.heap.size, 0, none⟩ 1 1 [.string ⟨#[]⟩] rfl rfl ?a1 ?a2 ?a3 ?a4 ?a5 ?_)
  case a1 =>
    intro j u hj
    match j, hj with
    | 0, hj => simp at hj; subst hj; simp [Addr.add]
  case a2 => intro u hu; simp at hu; subst hu; rfl
  case a3 => unfold maxLen; omega
  case a4 => omega
  case a5 => simp; omega
  intro v2 w2 hown2 hgrow2 _
  obtain ⟨gv, cv, rfl⟩ := Go.Joins.ownsRow_form hown2 (by omega)
  have R0 : Rf w.heap.size w2.heap.size w.heap.size (.slice (some ⟨gv, 0, none⟩) (sp.length + 1) cv) (.slice none 0 0) (.slice none 0 0) ls [] [] [] w w2 := by
    have bA := bb1.alloc bb1.size (.cells #[.string ⟨#[]⟩] 9)
    have hsA : w1.heap.size ≤ (w1.alloc (.cells #[.string ⟨#[]⟩] 9)).heap.size := by show _ ≤ (w1.heap.push _).size; rw [Array.size_push]; exact Nat.le_succ _
    have hlt1 : w.heap.size < w1.heap.size := (Array.getElem?_eq_some_iff.1 hr1).1
    have hbA : (w1.alloc (.cells #[.string ⟨#[]⟩] 9)).heap[w.heap.size]? = some (.cells #[.int .i64 0, .int .i64 0] 59 (0, 0)) := by
      rw [((Below.refl w1.heap.size w1).alloc (Nat.le_refl _) _).block _ hlt1]; exact hr1
    have hb2 : Below w.heap.size w w2 := bA.grown hgrow2 bA.size (fun k e => by cases e; omega)
    refine ⟨?_, Nat.le_refl _, ?_, World.ownsRow_nil _ _ _ _, World.ownsRow_nil _ _ _ _, hb2.size, Nat.le_refl _, hb2, rfl, fun i hi _ => by simp at hi⟩
    · rw [hgrow2.block w.heap.size (Nat.lt_of_lt_of_le hlt1 hsA) (fun e => by have e2 : w.heap.size = g := Option.some.inj e; omega)]; exact hbA
    · have := Go.Joins.ownsRow_le hown2 hB
      rw [hll, hls]
      simpa [strs] using this
  have HR0 := Lib.hid R0
  clear R0 hown2 hgrow2 HG1 hr1 bb1 hwg
  rw [← hll] at HR0 ⊢
  have hlb : ls.length ≤ 1502 := by omega
  clear hll hls
  obtain ⟨L, hL0⟩ : ∃ L, Value.slice (some ⟨gv, 0, none⟩) ls.length cv = L := ⟨_, rfl⟩
  have HL := Lib.hid hL0
  rw [hL0] at HR0
  clear hL0
  go_wp2_with fail
  go_loopw [4, 5, 18] (fun S A i W => ∃ (k C : Nat) (vs : List Value) (out : List (List Sm.F)) (cu : List Sm.F), i = .int .i64 k ∧ k ≤ ls.length ∧ Hid (Rf w.heap.size C w.heap.size L S A ls out vs cu w W) ∧ Hid (res = run k out cu (ls.drop k)) ∧ Hid (Rb k out cu ∧ (k = ls.length → cu = []))) (fun _ _ i _ => ls.length - (intOf i).toNat)
  case atStart => exact ⟨0, _, [], [], [], rfl, Nat.zero_le _, HR0, HB, ⟨⟨by simp, by simp, by simp⟩, fun _ => rfl⟩⟩
  case round =>
    obtain ⟨k, C, vs, out, cu, rfl, hk, HR, HK, HRB⟩ := hrel
    by_cases hlt : k < ls.length
    · have hcell : wr.cell? ⟨gv, k, none⟩ = some (.string ⟨ls[k].toArray⟩) := by
        have h1 := HR.out.hL
        rw [← HL.out] at h1
        have := h1.cellAt (g := gv) k (by simpa using hlt)
        rw [this]; simp [strs, hlt]
      have hxl := HX.out ls[k] (List.getElem_mem hlt)
      have hdr : ls.drop k = ls[k] :: ls.drop (k + 1) := List.drop_eq_getElem_cons hlt
      have HF0 : Hid (step out cu ls[k] = none → res = .error k) := fun e => by rw [HK.out, hdr]; simp [run, e]
      have HN0 : Hid (∀ o, step out cu ls[k] = some o → res = run (k + 1) o.1 o.2 (ls.drop (k + 1)) ∧ Rb (k + 1) o.1 o.2 ∧ (k + 1 = ls.length → o.2 = [])) := fun o e => ⟨by rw [HK.out, hdr]; simp [run, e], HRB.out.1.step hxl e, fun e2 => by rw [HLA.out k hlt e2] at e; cases e; rfl⟩
      generalize ls[k] = x at hcell hxl HF0 HN0
      clear hdr HK
      have bz : Below wr.heap.size wr (wr.alloc (.cells #[.int .i64 3, .int .i64 k] 59)) := (Below.refl _ _).alloc (Nat.le_refl _) _
      have RZ := HR.out.on bz
      have z0 : (wr.alloc (.cells #[.int .i64 3, .int .i64 k] 59)).cell? ⟨wr.heap.size, 0, none⟩ = some (.int .i64 3) := by simp
      have z1 : (wr.alloc (.cells #[.int .i64 3, .int .i64 k] 59)).cell? ⟨wr.heap.size, 1, none⟩ = some (.int .i64 k) := by simp
      have HZ := Lib.hid RZ
      clear RZ bz HR
      cases q1 : (x.head? == some 35) with
      | true =>
        have hst : step out cu x = some (out, cu) := by unfold step; rw [if_pos (by simpa using q1)]
        obtain ⟨hr1, hr2⟩ := HN0.out _ hst
        have cH : ∀ W, Calls Tryd.prog 62 #[.string ⟨x.toArray⟩, .string ⟨#[35]⟩] W fun e w' => e = .returned (.bool true) ∧ w' = W := fun W => by
          have := hp35 x W; rw [q1] at this; exact this
        have HR1 : Hid (res = run (k + 1) out cu (ls.drop (k + 1))) := hr1
        have HR2 : Hid (Rb (k + 1) out cu ∧ (k + 1 = ls.length → cu = [])) := hr2
        clear hr1 hr2 hst HF0 HN0 HRB
        go_wp2_with (go_at_call 62; with_reducible refine (cH _).mono ?_; rintro x w' ⟨rfl, rfl⟩)
        exact ⟨⟨k + 1, C, vs, out, cu, by go_num, hlt, HZ, HR1, HR2⟩, by simp [intOf]; omega⟩
      | false =>
        have cH : ∀ W, Calls Tryd.prog 62 #[.string ⟨x.toArray⟩, .string ⟨#[35]⟩] W fun e w' => e = .returned (.bool false) ∧ w' = W := fun W => by
          have := hp35 x W; rw [q1] at this; exact this
        have h35 : ¬ x.head? = some 35 := by simpa using q1
        obtain ⟨t, ht⟩ : ∃ t, t = Lib.trimS x [32, 9] := ⟨_, rfl⟩
        have cT : ∀ W, Calls Tryd.prog 74 #[.string ⟨x.toArray⟩] W fun e w' => e = .returned (.string ⟨t.toArray⟩) ∧ w' = W := fun W => by
          rw [ht]; exact xtrims x W (by omega)
        obtain ⟨X, cA, rfl⟩ := isSlice HZ.out.hA
        cases t with
        | nil =>
          have hst : step out cu x = some (endO out cu, []) := by unfold step; rw [if_neg h35, if_pos ht.symm]
          obtain ⟨hr1, hr2⟩ := HN0.out _ hst
          have HR1 : Hid (res = run (k + 1) (endO out cu) [] (ls.drop (k + 1))) := hr1
          have HR2 : Hid (Rb (k + 1) (endO out cu) []) := hr2.1
          clear hr1 hr2 hst HF0 HN0 h35 ht
          cases cu with
          | nil =>
            have HY := Lib.hid HZ.out.letgo
            have e0 : endO out ([] : List Sm.F) = out := by simp [endO]
            rw [e0] at HR1 HR2
            clear e0
            go_wp2_with (first | (go_at_call 62; with_reducible refine (cH _).mono ?_; rintro x w' ⟨rfl, rfl⟩) | (go_at_call 74; with_reducible refine (cT _).mono ?_; rintro x w' ⟨rfl, rfl⟩))
            exact ⟨⟨k + 1, _, vs, out, [], by go_num, hlt, HY, HR1, ⟨HR2.out, fun _ => rfl⟩⟩, by simp [intOf]; omega⟩
          | cons f0 cu0 =>
            obtain ⟨cu, hcu⟩ : ∃ c, c = f0 :: cu0 := ⟨_, rfl⟩
            rw [← hcu] at HR1 HR2 HZ HRB
            have e0 : endO out cu = out ++ [cu] := by rw [hcu]; simp [endO]
            have hcp : 0 < cu.length := by rw [hcu]; simp
            have hcn := HRB.out.1.n
            have hon := HRB.out.1.o
            have hol := HZ.out.ol
            rw [e0] at HR1 HR2
            rw [← hcu]
            clear e0 hcu
            have hBz : w.heap.size ≤ (wr.alloc (.cells #[.int .i64 3, .int .i64 k] 59)).heap.size := Nat.le_trans HZ.out.CB HZ.out.Cs
            have HZ2 := Lib.hid (HZ.out.on ((Below.refl _ _).alloc (Nat.le_refl _) (.cells #[.slice X cu.length cA] 47)))
            have HNB := Lib.hid (World.news_of_block (new_block0 (wr.alloc (.cells #[.int .i64 3, .int .i64 k] 59)) (.cells #[.slice X cu.length cA] 47)))
            have hsz : (wr.alloc (.cells #[.int .i64 3, .int .i64 k] 59)).heap.size = wr.heap.size + 1 := by show (wr.heap.push _).size = _; rw [Array.size_push]
            rw [hsz] at HNB
            clear HRB z0 z1
            go_wp2_with (first
              | (go_at_call 62; with_reducible refine (cH _).mono ?_; rintro x w' ⟨rfl, rfl⟩)
              | (go_at_call 74; with_reducible refine (cT _).mono ?_; rintro x w' ⟨rfl, rfl⟩)
              | (at_builtin; refine wpList_append_own _ rfl _ _ 57 rfl w.heap.size 47 j0 (.slice none 0 0) 1 24 Tryd.underlying57 hj hy0 hy1 hy2 rfl (by decide) _ _ _ rfl HZ2.out.hS ⟨wr.heap.size + 1, 0, none⟩ 1 1 [.slice X cu.length cA] rfl rfl HNB.out (by intro u hu; simp at hu; subst hu; rfl) (by unfold maxLen; omega) (by omega) (Nat.le_trans HZ2.out.CB HZ2.out.Cs) ?_; intro S' w3 hown hgrow _))
            have HY := Lib.hid (HZ2.out.hand (S' := S') hgrow (by simpa [hol] using hown))
            clear hown hgrow
            go_wp2_with fail
            exact ⟨⟨k + 1, _, _, out ++ [cu], [], by go_num, hlt, HY, HR1, ⟨HR2.out, fun _ => rfl⟩⟩, by simp [intOf]; omega⟩
        | cons c1 t1 =>
          cases x with
          | nil => rw [trimS_eq] at ht; cases ht
          | cons c x0 =>
            have htn : ¬ Lib.trimS (c :: x0) [32, 9] = [] := by rw [← ht]; simp
            have htl : (c1 :: t1).length ≤ 1500 := by rw [ht]; exact Nat.le_trans (trim_len _) hxl
            obtain ⟨T, hT⟩ : ∃ T, T = c1 :: t1 := ⟨_, rfl⟩
            have hTe : T.isEmpty = false := by rw [hT]; rfl
            have hT0 : 0 < (ByteArray.mk T.toArray).size := by rw [hT]; simp [ByteArray.size]
            have hTb : ((((ByteArray.mk T.toArray)[0]'hT0).toNat : Int) == 46) = (c1 == 46) := by subst hT; exact eq46 c1
            rw [← hT] at ht cT htl
            have HTT := Lib.hid hT
            clear hT
            have c0 := HZ.out.c0
            have c1' := HZ.out.c1
            have cf0 := HZ.out.fz 0
            have cf1 := HZ.out.fz 1
            cases hb : Sm.bl c with
            | true =>
              have cB : ∀ W, Calls Tryd.prog 75 #[.int .u8 c.toNat] W fun e w' => e = .returned (.bool true) ∧ w' = W := fun W => by rw [← hb]; exact xblank_any c W
              have hst : step out cu (c :: x0) = (gOk cu T).map fun u => (out, addL cu u) := by
                unfold step; rw [if_neg h35, if_neg htn, if_pos (by simpa using hb), ← ht]
              rw [hst] at HF0 HN0
              clear hst htn h35 ht hb
              cases q2 : (c1 == 46) with
              | true =>
                rw [q2] at hTb
                obtain ⟨u, hu⟩ : ∃ u, u = t1 := ⟨_, rfl⟩
                have hTu : T = 46 :: u := by rw [HTT.out, hu, show c1 = 46 from by simpa using q2]
                have hgl0 : gl T = if u.head? = some 46 then some u else none := by rw [hTu]; rfl
                have hul : u.length ≤ 1500 := by have h := htl; rw [hTu] at h; simp at h; omega
                have hTl : 1 ≤ T.length := by rw [hTu]; simp
                have hxs : (ByteArray.mk T.toArray).extract 1 T.length = ⟨u.toArray⟩ := by rw [hTu]; apply ByteArray.ext; simp
                clear hTu HTT hu
                cases q4 : u.isEmpty with
                | true =>
                  have hgl : gl T = none := by rw [hgl0]; simp [List.isEmpty_iff.1 q4]
                  have hg : gOk cu T = none := by unfold gOk; rw [hgl]
                  have HE := Lib.hid (HF0.out (by rw [hg]; rfl))
                  clear HF0 HN0 hg hgl hgl0
                  go_wp2_with (first | (go_at_call 62; with_reducible refine (cH _).mono ?_; rintro x w' ⟨rfl, rfl⟩) | (go_at_call 74; with_reducible refine (cT _).mono ?_; rintro x w' ⟨rfl, rfl⟩) | (go_at_call 75; refine (cB _).mono ?_; rintro x w' ⟨rfl, rfl⟩))
                  go_region
                  all_goals go_wp2_with fail
                  all_goals rw [HE.out]
                  all_goals
                    obtain ⟨y0, y1, y2, y3, y4⟩ := HZ.out.fin (.int .i64 3) (.int .i64 k)
                    exact bodyPost_ret (v := .tuple #[.slice none 0 0, .agg #[.int .i64 3, .int .i64 k]]) (by simp [results, Tryd.results38, go_sem, y0, y1]) rfl ⟨rfl, y4⟩
                | false =>
                  obtain ⟨c2, u2, hu2⟩ : ∃ c2 u2, u = c2 :: u2 := by
                    cases u with
                    | nil => cases q4
                    | cons a b => exact ⟨a, b, rfl⟩
                  have hu0 : 0 < (ByteArray.mk u.toArray).size := by rw [hu2]; simp [ByteArray.size]
                  have hub : ((((ByteArray.mk u.toArray)[0]'hu0).toNat : Int) == 46) = (c2 == 46) := by subst hu2; exact eq46 c2
                  have hun : ((((ByteArray.mk u.toArray)[0]'hu0).toNat : Int) != 46) = !(c2 == 46) := by rw [bne, hub]
                  have hgh : u.head? = some c2 := by rw [hu2]; rfl
                  cases q5 : (c2 == 46) with
                  | false =>
                    rw [q5] at hub hun
                    have hgl : gl T = none := by rw [hgl0, hgh, if_neg (by simpa using q5)]
                    have hg : gOk cu T = none := by unfold gOk; rw [hgl]
                    have HE := Lib.hid (HF0.out (by rw [hg]; rfl))
                    clear HF0 HN0 hg hgl hgl0 hgh hu2
                    go_wp2_with (first | (go_at_call 62; with_reducible refine (cH _).mono ?_; rintro x w' ⟨rfl, rfl⟩) | (go_at_call 74; with_reducible refine (cT _).mono ?_; rintro x w' ⟨rfl, rfl⟩) | (go_at_call 75; refine (cB _).mono ?_; rintro x w' ⟨rfl, rfl⟩))
                    go_region
                    all_goals go_wp2_with fail
                    all_goals rw [HE.out]
                    all_goals
                      obtain ⟨y0, y1, y2, y3, y4⟩ := HZ.out.fin (.int .i64 3) (.int .i64 k)
                      exact bodyPost_ret (v := .tuple #[.slice none 0 0, .agg #[.int .i64 3, .int .i64 k]]) (by simp [results, Tryd.results38, go_sem, y0, y1]) rfl ⟨rfl, y4⟩
                  | true =>
                    rw [q5] at hub hun
                    have hgl : gl T = some u := by rw [hgl0, hgh, if_pos (by simpa using q5)]
                    clear hgl0 hgh hu2
                    cases cu with
                    | nil =>
                      have hg : gOk [] T = none := by unfold gOk; rw [hgl]; rfl
                      have HE := Lib.hid (HF0.out (by rw [hg]; rfl))
                      clear HF0 HN0 hg hgl
                      go_wp2_with (first | (go_at_call 62; with_reducible refine (cH _).mono ?_; rintro x w' ⟨rfl, rfl⟩) | (go_at_call 74; with_reducible refine (cT _).mono ?_; rintro x w' ⟨rfl, rfl⟩) | (go_at_call 75; refine (cB _).mono ?_; rintro x w' ⟨rfl, rfl⟩))
                      go_region
                      all_goals go_wp2_with fail
                      all_goals rw [HE.out]
                      all_goals
                        obtain ⟨y0, y1, y2, y3, y4⟩ := HZ.out.fin (.int .i64 3) (.int .i64 k)
                        exact bodyPost_ret (v := .tuple #[.slice none 0 0, .agg #[.int .i64 3, .int .i64 k]]) (by simp [results, Tryd.results38, go_sem, y0, y1]) rfl ⟨rfl, y4⟩
                    | cons f0 cu0 =>
                      obtain ⟨cu, hcu⟩ : ∃ c, c = f0 :: cu0 := ⟨_, rfl⟩
                      have hce : cu.isEmpty = false := by rw [hcu]; rfl
                      have hcn : ((cu.length : Int) == 0) = false := by rw [beq_eq_false_iff_ne, hcu]; simp; omega
                      have hcl : cu.length ≤ 40 := by rw [hcu]; exact HRB.out.1.n
                      rw [← hcu] at HF0 HN0 HZ HRB ⊢
                      clear hcu
                      cases q3 : Sm.lok u with
                      | false =>
                        have cL : ∀ W, Calls Tryd.prog 73 #[.string ⟨u.toArray⟩] W fun e w' => e = .returned (.bool false) ∧ w' = W := fun W => by rw [← q3]; exact xline_any u W (by omega)
                        have hg : gOk cu T = none := by unfold gOk; rw [hgl]; simp [q3]
                        have HE := Lib.hid (HF0.out (by rw [hg]; rfl))
                        clear HF0 HN0 hg hgl
                        go_wp2_with (first | (go_at_call 62; with_reducible refine (cH _).mono ?_; rintro x w' ⟨rfl, rfl⟩) | (go_at_call 74; with_reducible refine (cT _).mono ?_; rintro x w' ⟨rfl, rfl⟩) | (go_at_call 75; refine (cB _).mono ?_; rintro x w' ⟨rfl, rfl⟩) | (go_at_call 73; with_reducible refine (cL _).mono ?_; rintro x w' ⟨rfl, rfl⟩))
                        go_region
                        all_goals go_wp2_with fail
                        all_goals rw [HE.out]
                        all_goals
                          obtain ⟨y0, y1, y2, y3, y4⟩ := HZ.out.fin (.int .i64 3) (.int .i64 k)
                          exact bodyPost_ret (v := .tuple #[.slice none 0 0, .agg #[.int .i64 3, .int .i64 k]]) (by simp [results, Tryd.results38, go_sem, y0, y1]) rfl ⟨rfl, y4⟩
                      | true =>
                        have cL : ∀ W, Calls Tryd.prog 73 #[.string ⟨u.toArray⟩] W fun e w' => e = .returned (.bool true) ∧ w' = W := fun W => by rw [← q3]; exact xline_any u W (by omega)
                        have hg : gOk cu T = some u := by unfold gOk; rw [hgl]; simp [q3, hce]
                        obtain ⟨hr1, hr2⟩ := HN0.out (out, addL cu u) (by rw [hg]; rfl)
                        clear HF0 HN0 hg hgl
                        rcases List.eq_nil_or_concat cu with rfl | ⟨p, f, hpf⟩
                        · cases hce
                        · rw [List.concat_eq_append] at hpf
                          subst hpf
                          have ea : addL (p ++ [f]) u = p ++ [(f.1, f.2 ++ [10] ++ u)] := by simp [addL]
                          rw [ea] at hr1 hr2
                          have HR1 : Hid (res = run (k + 1) out (p ++ [(f.1, f.2 ++ [10] ++ u)]) (ls.drop (k + 1))) := hr1
                          have HR2 : Hid (Rb (k + 1) out (p ++ [(f.1, f.2 ++ [10] ++ u)]) ∧ (k + 1 = ls.length → p ++ [(f.1, f.2 ++ [10] ++ u)] = [])) := hr2
                          clear hr1 hr2 ea
                          have hfl : f.2.length ≤ 3000000 := by
                            have h1 := (HRB.out.1.s f (by simp)).2
                            have h2 := bd_le k
                            have h3 : k * 1600 ≤ 1502 * 1600 := Nat.mul_le_mul_right _ (by omega)
                            exact Nat.le_trans h1 (Nat.le_trans h2 (Nat.le_trans h3 (by decide)))
                          obtain ⟨gA, capA, eA⟩ := Go.Joins.ownsRow_form HZ.out.hA (by simp)
                          cases eA
                          have x1 : (wr.alloc (.cells #[.int .i64 3, .int .i64 k] 59)).cell? ⟨gA, p.length * 2 + 1, none⟩ = some (.string ⟨f.2.toArray⟩) := by rw [HZ.out.hA.cellAt _ (by simp; omega)]; exact fcl_last1 p f
                          have xf : (wr.alloc (.cells #[.int .i64 3, .int .i64 k] 59)).frozen? ⟨gA, p.length * 2 + 1, none⟩ = false := HZ.out.hA.frozenAt _
                          have HY := Lib.hid (HZ.out.setLast (f.2 ++ [10] ++ u))
                          clear HRB
                          simp only [List.length_append, List.length_singleton] at hcn hcl
                          go_wp2_with (first | (go_at_call 62; with_reducible refine (cH _).mono ?_; rintro x w' ⟨rfl, rfl⟩) | (go_at_call 74; with_reducible refine (cT _).mono ?_; rintro x w' ⟨rfl, rfl⟩) | (go_at_call 75; refine (cB _).mono ?_; rintro x w' ⟨rfl, rfl⟩) | (go_at_call 73; with_reducible refine (cL _).mono ?_; rintro x w' ⟨rfl, rfl⟩))
                          have hbs : (ByteArray.mk f.2.toArray ++ (ByteArray.mk #[10] ++ ByteArray.mk u.toArray)) = ByteArray.mk (f.2 ++ [10] ++ u).toArray := by apply ByteArray.ext; simp
                          rw [hbs]
                          simp only [List.length_append, List.length_singleton] at HY
                          exact ⟨⟨k + 1, C, vs, out, _, by go_num, hlt, HY, HR1, HR2⟩, by simp [intOf]; omega⟩
              | false =>
                rw [q2] at hTb
                have hgl : gl T = some T := by rw [HTT.out]; unfold gl; rw [if_neg (by simpa using q2)]
                cases cu with
                | nil =>
                  have hg : gOk [] T = none := by unfold gOk; rw [hgl]; rfl
                  have HE := Lib.hid (HF0.out (by rw [hg]; rfl))
                  clear HF0 HN0 hg hgl
                  go_wp2_with (first | (go_at_call 62; with_reducible refine (cH _).mono ?_; rintro x w' ⟨rfl, rfl⟩) | (go_at_call 74; with_reducible refine (cT _).mono ?_; rintro x w' ⟨rfl, rfl⟩) | (go_at_call 75; refine (cB _).mono ?_; rintro x w' ⟨rfl, rfl⟩))
                  go_region
                  all_goals go_wp2_with fail
                  all_goals rw [HE.out]
                  all_goals
                    obtain ⟨y0, y1, y2, y3, y4⟩ := HZ.out.fin (.int .i64 3) (.int .i64 k)
                    exact bodyPost_ret (v := .tuple #[.slice none 0 0, .agg #[.int .i64 3, .int .i64 k]]) (by simp [results, Tryd.results38, go_sem, y0, y1]) rfl ⟨rfl, y4⟩
                | cons f0 cu0 =>
                  obtain ⟨cu, hcu⟩ : ∃ c, c = f0 :: cu0 := ⟨_, rfl⟩
                  have hce : cu.isEmpty = false := by rw [hcu]; rfl
                  have hcn : ((cu.length : Int) == 0) = false := by rw [beq_eq_false_iff_ne, hcu]; simp; omega
                  have hcl : cu.length ≤ 40 := by rw [hcu]; exact HRB.out.1.n
                  rw [← hcu] at HF0 HN0 HZ HRB ⊢
                  clear hcu
                  cases q3 : Sm.lok T with
                  | false =>
                    have cL : ∀ W, Calls Tryd.prog 73 #[.string ⟨T.toArray⟩] W fun e w' => e = .returned (.bool false) ∧ w' = W := fun W => by rw [← q3]; exact xline_any T W (by omega)
                    have hg : gOk cu T = none := by unfold gOk; rw [hgl]; simp [q3]
                    have HE := Lib.hid (HF0.out (by rw [hg]; rfl))
                    clear HF0 HN0 hg hgl
                    go_wp2_with (first | (go_at_call 62; with_reducible refine (cH _).mono ?_; rintro x w' ⟨rfl, rfl⟩) | (go_at_call 74; with_reducible refine (cT _).mono ?_; rintro x w' ⟨rfl, rfl⟩) | (go_at_call 75; refine (cB _).mono ?_; rintro x w' ⟨rfl, rfl⟩) | (go_at_call 73; with_reducible refine (cL _).mono ?_; rintro x w' ⟨rfl, rfl⟩))
                    go_region
                    all_goals go_wp2_with fail
                    all_goals rw [HE.out]
                    all_goals
                      obtain ⟨y0, y1, y2, y3, y4⟩ := HZ.out.fin (.int .i64 3) (.int .i64 k)
                      exact bodyPost_ret (v := .tuple #[.slice none 0 0, .agg #[.int .i64 3, .int .i64 k]]) (by simp [results, Tryd.results38, go_sem, y0, y1]) rfl ⟨rfl, y4⟩
                  | true =>
                    have cL : ∀ W, Calls Tryd.prog 73 #[.string ⟨T.toArray⟩] W fun e w' => e = .returned (.bool true) ∧ w' = W := fun W => by rw [← q3]; exact xline_any T W (by omega)
                    have hg : gOk cu T = some T := by unfold gOk; rw [hgl]; simp [q3, hce]
                    obtain ⟨hr1, hr2⟩ := HN0.out (out, addL cu T) (by rw [hg]; rfl)
                    clear HF0 HN0 hg hgl
                    rcases List.eq_nil_or_concat cu with rfl | ⟨p, f, hpf⟩
                    · cases hce
                    · rw [List.concat_eq_append] at hpf
                      subst hpf
                      have ea : addL (p ++ [f]) T = p ++ [(f.1, f.2 ++ [10] ++ T)] := by simp [addL]
                      rw [ea] at hr1 hr2
                      have HR1 : Hid (res = run (k + 1) out (p ++ [(f.1, f.2 ++ [10] ++ T)]) (ls.drop (k + 1))) := hr1
                      have HR2 : Hid (Rb (k + 1) out (p ++ [(f.1, f.2 ++ [10] ++ T)]) ∧ (k + 1 = ls.length → p ++ [(f.1, f.2 ++ [10] ++ T)] = [])) := hr2
                      clear hr1 hr2 ea
                      have hfl : f.2.length ≤ 3000000 := by
                        have h1 := (HRB.out.1.s f (by simp)).2
                        have h2 := bd_le k
                        have h3 : k * 1600 ≤ 1502 * 1600 := Nat.mul_le_mul_right _ (by omega)
                        exact Nat.le_trans h1 (Nat.le_trans h2 (Nat.le_trans h3 (by decide)))
                      obtain ⟨gA, capA, eA⟩ := Go.Joins.ownsRow_form HZ.out.hA (by simp)
                      cases eA
                      have x1 : (wr.alloc (.cells #[.int .i64 3, .int .i64 k] 59)).cell? ⟨gA, p.length * 2 + 1, none⟩ = some (.string ⟨f.2.toArray⟩) := by rw [HZ.out.hA.cellAt _ (by simp; omega)]; exact fcl_last1 p f
                      have xf : (wr.alloc (.cells #[.int .i64 3, .int .i64 k] 59)).frozen? ⟨gA, p.length * 2 + 1, none⟩ = false := HZ.out.hA.frozenAt _
                      have HY := Lib.hid (HZ.out.setLast (f.2 ++ [10] ++ T))
                      clear HRB
                      simp only [List.length_append, List.length_singleton] at hcn hcl
                      go_wp2_with (first | (go_at_call 62; with_reducible refine (cH _).mono ?_; rintro x w' ⟨rfl, rfl⟩) | (go_at_call 74; with_reducible refine (cT _).mono ?_; rintro x w' ⟨rfl, rfl⟩) | (go_at_call 75; refine (cB _).mono ?_; rintro x w' ⟨rfl, rfl⟩) | (go_at_call 73; with_reducible refine (cL _).mono ?_; rintro x w' ⟨rfl, rfl⟩))
                      have hbs : (ByteArray.mk f.2.toArray ++ (ByteArray.mk #[10] ++ ByteArray.mk T.toArray)) = ByteArray.mk (f.2 ++ [10] ++ T).toArray := by apply ByteArray.ext; simp
                      rw [hbs]
                      simp only [List.length_append, List.length_singleton] at HY
                      exact ⟨⟨k + 1, C, vs, out, _, by go_num, hlt, HY, HR1, HR2⟩, by simp [intOf]; omega⟩
            | false =>
              have cB : ∀ W, Calls Tryd.prog 75 #[.int .u8 c.toNat] W fun e w' => e = .returned (.bool false) ∧ w' = W := fun W => by rw [← hb]; exact xblank_any c W
              have hst : step out cu (c :: x0) = (bg cu (c :: x0)).map fun x => (out, cu ++ [x]) := by
                unfold step; rw [if_neg h35, if_neg htn, if_neg (by simp [hb])]
              rw [hst] at HF0 HN0
              clear hst htn h35 ht hb hTb
              have cI : ∀ W, Calls Tryd.prog 42 #[.string ⟨(c :: x0).toArray⟩, .string ⟨#[58]⟩] W fun e w' => e = .returned (.int .i64 (Lib.indexByte (c :: x0) 58)) ∧ w' = W := fun W => Tryd.strings_Index_one ⟨(c :: x0).toArray⟩ 58 W
              rcases idx_cases (c :: x0) 58 with hi | ⟨m, hi, hml⟩
              · rw [hi] at cI
                have hbg : bg cu (c :: x0) = none := by unfold bg; rw [hi]; rfl
                have HE := Lib.hid (HF0.out (by rw [hbg]; rfl))
                clear HF0 HN0 hbg hi
                go_wp2_with (first | (go_at_call 62; with_reducible refine (cH _).mono ?_; rintro x w' ⟨rfl, rfl⟩) | (go_at_call 74; with_reducible refine (cT _).mono ?_; rintro x w' ⟨rfl, rfl⟩) | (go_at_call 75; refine (cB _).mono ?_; rintro x w' ⟨rfl, rfl⟩) | (go_at_call 42; refine (cI _).mono ?_; rintro x w' ⟨rfl, rfl⟩))
                go_region
                all_goals go_wp2_with fail
                all_goals rw [HE.out]
                all_goals
                  obtain ⟨y0, y1, y2, y3, y4⟩ := HZ.out.fin (.int .i64 3) (.int .i64 k)
                  exact bodyPost_ret (v := .tuple #[.slice none 0 0, .agg #[.int .i64 3, .int .i64 k]]) (by simp [results, Tryd.results38, go_sem, y0, y1]) rfl ⟨rfl, y4⟩
              · rw [hi] at cI
                obtain ⟨nm, hnm⟩ : ∃ n, n = (c :: x0).take m := ⟨_, rfl⟩
                obtain ⟨v0, hv0⟩ : ∃ v, v = (c :: x0).drop (m + 1) := ⟨_, rfl⟩
                obtain ⟨vl, hvl⟩ : ∃ v, v = Lib.trimS v0 [32, 9] := ⟨_, rfl⟩
                have hm1 : m ≤ x0.length := by simp at hml; omega
                have hxl2 : x0.length + 1 ≤ 1500 := by simpa using hxl
                have hnl : nm.length ≤ 1500 := by rw [hnm]; simp; omega
                have hv0l : v0.length ≤ 1500 := by rw [hv0]; simp; omega
                have hvll : vl.length ≤ 1500 := by rw [hvl]; exact Nat.le_trans (trim_len _) hv0l
                have hbg : bg cu (c :: x0) = if (Sm.nok nm && Sm.lok vl && !(cu.length == 40) && (Sm.fnd cu nm).isNone) = true then some (nm, vl) else none := by
                  unfold bg; rw [if_neg (by rw [hi]; omega), hi]; simp only [Int.toNat_natCast]; rw [← hnm, ← hv0, ← hvl]
                have hx1 : (ByteArray.mk (c :: x0).toArray).extract 0 m = ⟨nm.toArray⟩ := by rw [hnm]; apply ByteArray.ext; simp
                have hx2 : (ByteArray.mk (c :: x0).toArray).extract (m + 1) (x0.length + 1) = ⟨v0.toArray⟩ := by rw [hv0]; apply ByteArray.ext; simp; exact List.take_of_length_le (by simp)
                have cT2 : ∀ W, Calls Tryd.prog 74 #[.string ⟨v0.toArray⟩] W fun e w' => e = .returned (.string ⟨vl.toArray⟩) ∧ w' = W := fun W => by rw [hvl]; exact xtrims v0 W (by omega)
                rw [hbg] at HF0 HN0
                clear hbg hnm hv0 hvl hi
                cases q6 : Sm.nok nm with
                | false =>
                  have cN : ∀ W, Calls Tryd.prog 71 #[.string ⟨nm.toArray⟩] W fun e w' => e = .returned (.bool false) ∧ w' = W := fun W => by rw [← q6]; exact xn_any nm W (by omega)
                  have HE := Lib.hid (HF0.out (by rw [q6]; simp))
                  clear HF0 HN0
                  go_wp2_with (first | (go_at_call 62; with_reducible refine (cH _).mono ?_; rintro x w' ⟨rfl, rfl⟩) | (go_at_call 74; with_reducible refine (cT _).mono ?_; rintro x w' ⟨rfl, rfl⟩) | (go_at_call 74; with_reducible refine (cT2 _).mono ?_; rintro x w' ⟨rfl, rfl⟩) | (go_at_call 75; refine (cB _).mono ?_; rintro x w' ⟨rfl, rfl⟩) | (go_at_call 42; refine (cI _).mono ?_; rintro x w' ⟨rfl, rfl⟩) | (go_at_call 71; with_reducible refine (cN _).mono ?_; rintro x w' ⟨rfl, rfl⟩) | (go_at_call 73; with_reducible refine (cL _).mono ?_; rintro x w' ⟨rfl, rfl⟩))
                  go_region
                  all_goals go_wp2_with fail
                  all_goals rw [HE.out]
                  all_goals
                    obtain ⟨y0, y1, y2, y3, y4⟩ := HZ.out.fin (.int .i64 3) (.int .i64 k)
                    exact bodyPost_ret (v := .tuple #[.slice none 0 0, .agg #[.int .i64 3, .int .i64 k]]) (by simp [results, Tryd.results38, go_sem, y0, y1]) rfl ⟨rfl, y4⟩
                | true =>
                  have cN : ∀ W, Calls Tryd.prog 71 #[.string ⟨nm.toArray⟩] W fun e w' => e = .returned (.bool true) ∧ w' = W := fun W => by rw [← q6]; exact xn_any nm W (by omega)
                  cases q7 : Sm.lok vl with
                  | false =>
                    have cL : ∀ W, Calls Tryd.prog 73 #[.string ⟨vl.toArray⟩] W fun e w' => e = .returned (.bool false) ∧ w' = W := fun W => by rw [← q7]; exact xline_any vl W (by omega)
                    have HE := Lib.hid (HF0.out (by rw [q7]; simp))
                    clear HF0 HN0
                    go_wp2_with (first | (go_at_call 62; with_reducible refine (cH _).mono ?_; rintro x w' ⟨rfl, rfl⟩) | (go_at_call 74; with_reducible refine (cT _).mono ?_; rintro x w' ⟨rfl, rfl⟩) | (go_at_call 74; with_reducible refine (cT2 _).mono ?_; rintro x w' ⟨rfl, rfl⟩) | (go_at_call 75; refine (cB _).mono ?_; rintro x w' ⟨rfl, rfl⟩) | (go_at_call 42; refine (cI _).mono ?_; rintro x w' ⟨rfl, rfl⟩) | (go_at_call 71; with_reducible refine (cN _).mono ?_; rintro x w' ⟨rfl, rfl⟩) | (go_at_call 73; with_reducible refine (cL _).mono ?_; rintro x w' ⟨rfl, rfl⟩))
                    go_region
                    all_goals go_wp2_with fail
                    all_goals rw [HE.out]
                    all_goals
                      obtain ⟨y0, y1, y2, y3, y4⟩ := HZ.out.fin (.int .i64 3) (.int .i64 k)
                      exact bodyPost_ret (v := .tuple #[.slice none 0 0, .agg #[.int .i64 3, .int .i64 k]]) (by simp [results, Tryd.results38, go_sem, y0, y1]) rfl ⟨rfl, y4⟩
                  | true =>
                    have cL : ∀ W, Calls Tryd.prog 73 #[.string ⟨vl.toArray⟩] W fun e w' => e = .returned (.bool true) ∧ w' = W := fun W => by rw [← q7]; exact xline_any vl W (by omega)
                    have hcn := HRB.out.1.n
                    by_cases q8 : cu.length = 40
                    · have q8b : ((cu.length : Int) == 40) = true := by rw [beq_iff_eq]; omega
                      have HE := Lib.hid (HF0.out (by rw [q8]; simp))
                      clear HF0 HN0
                      go_wp2_with (first | (go_at_call 62; with_reducible refine (cH _).mono ?_; rintro x w' ⟨rfl, rfl⟩) | (go_at_call 74; with_reducible refine (cT _).mono ?_; rintro x w' ⟨rfl, rfl⟩) | (go_at_call 74; with_reducible refine (cT2 _).mono ?_; rintro x w' ⟨rfl, rfl⟩) | (go_at_call 75; refine (cB _).mono ?_; rintro x w' ⟨rfl, rfl⟩) | (go_at_call 42; refine (cI _).mono ?_; rintro x w' ⟨rfl, rfl⟩) | (go_at_call 71; with_reducible refine (cN _).mono ?_; rintro x w' ⟨rfl, rfl⟩) | (go_at_call 73; with_reducible refine (cL _).mono ?_; rintro x w' ⟨rfl, rfl⟩))
                      go_region
                      all_goals go_wp2_with fail
                      all_goals rw [HE.out]
                      all_goals
                        obtain ⟨y0, y1, y2, y3, y4⟩ := HZ.out.fin (.int .i64 3) (.int .i64 k)
                        exact bodyPost_ret (v := .tuple #[.slice none 0 0, .agg #[.int .i64 3, .int .i64 k]]) (by simp [results, Tryd.results38, go_sem, y0, y1]) rfl ⟨rfl, y4⟩
                    · have q8b : ((cu.length : Int) == 40) = false := by rw [beq_eq_false_iff_ne]; omega
                      rw [q6, q7] at HF0 HN0
                      have q8c : (cu.length == 40) = false := by rw [beq_eq_false_iff_ne]; exact q8
                      rw [q8c] at HF0 HN0
                      clear q8c q8
                      have cG := fun W hA => xgetq_any (.slice X cu.length cA) cu nm W hA HRB.out.1.nm (by omega)
                      cases q9 : Sm.fnd cu nm with
                      | some i =>
                        obtain ⟨gx, hgx⟩ : ∃ v, Sm.gets cu nm = some v := ⟨_, gets_some q9⟩
                        rw [hgx] at cG
                        have HE := Lib.hid (HF0.out (by rw [q9]; simp))
                        have HG := Lib.hid cG
                        clear HF0 HN0 cG q9 hgx
                        go_wp2_with (first | (go_at_call 62; with_reducible refine (cH _).mono ?_; rintro x w' ⟨rfl, rfl⟩) | (go_at_call 74; with_reducible refine (cT _).mono ?_; rintro x w' ⟨rfl, rfl⟩) | (go_at_call 74; with_reducible refine (cT2 _).mono ?_; rintro x w' ⟨rfl, rfl⟩) | (go_at_call 75; refine (cB _).mono ?_; rintro x w' ⟨rfl, rfl⟩) | (go_at_call 42; refine (cI _).mono ?_; rintro x w' ⟨rfl, rfl⟩) | (go_at_call 71; with_reducible refine (cN _).mono ?_; rintro x w' ⟨rfl, rfl⟩) | (go_at_call 73; with_reducible refine (cL _).mono ?_; rintro x w' ⟨rfl, rfl⟩))
                        refine (HG.out _ (sl_owned HZ.out.hA)).mono ?_
                        rintro e w3 ⟨rfl, b3⟩
                        have y30 : w3.cell? ⟨wr.heap.size, 0, none⟩ = some (.int .i64 3) := by rw [b3.cell (block_lt_of_cell z0)]; exact z0
                        have y31 : w3.cell? ⟨wr.heap.size, 1, none⟩ = some (.int .i64 k) := by rw [b3.cell (block_lt_of_cell z1)]; exact z1
                        have HY := Lib.hid (HZ.out.on b3)
                        clear HZ z0 z1 c0 c1' cf0 cf1 HG b3
                        have c0 := HY.out.c0
                        have c1' := HY.out.c1
                        have cf0 := HY.out.fz 0
                        have cf1 := HY.out.fz 1
                        rw [show getVal (some gx) = .tuple #[.string ⟨gx.toArray⟩, .bool true] from rfl]
                        go_wp2_with fail
                        go_region
                        all_goals go_wp2_with fail
                        all_goals rw [HE.out]
                        all_goals
                          obtain ⟨y0, y1, y2, y3, y4⟩ := HY.out.fin (.int .i64 3) (.int .i64 k)
                          exact bodyPost_ret (v := .tuple #[.slice none 0 0, .agg #[.int .i64 3, .int .i64 k]]) (by simp [results, Tryd.results38, go_sem, y0, y1]) rfl ⟨rfl, y4⟩
                      | none =>
                        rw [gets_none q9] at cG
                        obtain ⟨hr1, hr2⟩ := HN0.out (out, cu ++ [(nm, vl)]) (by rw [q9]; simp)
                        have HR1 : Hid (res = run (k + 1) out (cu ++ [(nm, vl)]) (ls.drop (k + 1))) := hr1
                        have HR2 : Hid (Rb (k + 1) out (cu ++ [(nm, vl)]) ∧ (k + 1 = ls.length → cu ++ [(nm, vl)] = [])) := hr2
                        have HG := Lib.hid cG
                        obtain ⟨f0, hf0, hzf0, hzf1, hzf2⟩ := info_parts infoF
                        clear HF0 HN0 cG q9 hr1 hr2 HRB
                        go_wp2_with (first | (go_at_call 62; with_reducible refine (cH _).mono ?_; rintro x w' ⟨rfl, rfl⟩) | (go_at_call 74; with_reducible refine (cT _).mono ?_; rintro x w' ⟨rfl, rfl⟩) | (go_at_call 74; with_reducible refine (cT2 _).mono ?_; rintro x w' ⟨rfl, rfl⟩) | (go_at_call 75; refine (cB _).mono ?_; rintro x w' ⟨rfl, rfl⟩) | (go_at_call 42; refine (cI _).mono ?_; rintro x w' ⟨rfl, rfl⟩) | (go_at_call 71; with_reducible refine (cN _).mono ?_; rintro x w' ⟨rfl, rfl⟩) | (go_at_call 73; with_reducible refine (cL _).mono ?_; rintro x w' ⟨rfl, rfl⟩))
                        refine (HG.out _ (sl_owned HZ.out.hA)).mono ?_
                        rintro e w3 ⟨rfl, b3⟩
                        have HY := Lib.hid (HZ.out.on b3)
                        have HD := Lib.hid (HY.out.on (Below.refl _ _).drew)
                        clear HZ z0 z1 c0 c1' cf0 cf1 HG b3
                        rw [show getVal none = .tuple #[.string ⟨#[]⟩, .bool false] from rfl]
                        have hwm : IntKind.i64.wrap ((m : Int) + 1) = (m : Int) + 1 := by rw [IntKind.wrap_i64]; omega
                        have hw0 : (0 : Int) ≤ (m : Int) + 1 := by omega
                        have hw1 : (m : Int) + 1 ≤ (x0.length : Int) + 1 := by omega
                        have hw2 : ((m : Int) + 1).toNat = m + 1 := by omega
                        go_wp2_with fail
                        go_region_law (first
                          | (go_simp; go_at_call 74; refine (cT2 _).mono ?_; rintro e wc ⟨rfl, rfl⟩; have HRa := Lib.hid (HD.out.on ((Below.refl _ _).alloc (Nat.le_refl _) (.cells #[.string ⟨nm.toArray⟩, .string ⟨vl.toArray⟩] 92))))
                          | (refine step_append_lies _ rfl _ _ 47 rfl C 92 f0 _ 2 32 Tryd.underlying47 hf0 hzf0 hzf1 hzf2 rfl (by decide) _ _ _ rfl HRa.out.hA ⟨w3.heap.size, 0, none⟩ 1 1 [.string ⟨nm.toArray⟩, .string ⟨vl.toArray⟩] rfl rfl (World.news_of_block (new_block0 w3.drew _)) (by intro u hu; simp at hu; rcases hu with rfl | rfl <;> rfl) (by decide) (by unfold maxLen; omega) (by omega) (by have := HRa.out.Cs; simpa using this) _ rfl ?_; intro g' cp w6 hown hgrow _ _))
                        all_goals
                          have HB := Lib.hid (HRa.out.appA (A' := .slice (some ⟨g', 0, none⟩) (cu.length + 1) cp) (f := (nm, vl)) hgrow (by simpa using hown))
                          clear hown hgrow HRa HD HY
                          go_wp2_with fail
                          exact ⟨⟨k + 1, C, vs, out, _, by go_num, hlt, by simpa using HB, HR1, HR2⟩, by simp [intOf]; omega⟩
    · have hke : k = ls.length := by omega
      have hcu : cu = [] := HRB.out.2 hke
      have hrs : res = .ok out := by rw [HK.out, hke]; simp [run, hcu, endO]
      have HRS := Lib.hid hrs
      have hF := HF.out.on HR.out.be
      have f0 := hF.c0
      have f1 := hF.c1
      have c0 := HR.out.c0
      have c1 := HR.out.c1
      have cf0 := HR.out.fz 0
      have cf1 := HR.out.fz 1
      clear hF hrs hcu hke HK
      go_wp2_with fail
      go_region
      all_goals go_wp2_with fail
      all_goals rw [HRS.out]
      all_goals
        obtain ⟨y0, y1, y2, y3, y4⟩ := HR.out.fin (.int .i64 0) (.int .i64 (-1))
        exact bodyPost_ret (v := .tuple #[u4, .agg #[.int .i64 0, .int .i64 (-1)]]) (by simp [results, Tryd.results38, go_sem, y0, y1]) rfl ⟨u4, vs, rfl, y2, HR.out.ol, y3, y4⟩
end Go.Proofs.YtniknhfpbcbcbaaDoor
