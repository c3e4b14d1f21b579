/- What was written is read: the lines of fields, one by one. -/
import Derived.Test.YtniknhfpbcbcbabDoorMa
namespace Go.Proofs.YtniknhfpbcbcbabDoor
open Sm

theorem tl_app_no {a : List UInt8} {c : UInt8} (h : Sm.bl c = false) : Sm.tl (a ++ [c]) = Sm.tl a ++ [c] := by
  induction a with
  | nil => show Sm.tl [c] = [c]; exact tl_cons_no h
  | cons x a ih =>
    cases hx : Sm.bl x with
    | true => rw [List.cons_append, tl_cons_bl hx, tl_cons_bl hx, ih]
    | false => rw [List.cons_append, tl_cons_no hx, tl_cons_no hx]; rfl
theorem tl_app_bl {a : List UInt8} {c : UInt8} (h : Sm.bl c = true) : Sm.tl (a ++ [c]) = Sm.tl a ++ (if Sm.tl a = [] then [] else [c]) := by
  induction a with
  | nil => show Sm.tl [c] = [] ++ _; rw [tl_cons_bl h]; rfl
  | cons x a ih =>
    cases hx : Sm.bl x with
    | true => rw [List.cons_append, tl_cons_bl hx, tl_cons_bl hx, ih]
    | false => rw [List.cons_append, tl_cons_no hx, tl_cons_no hx]; simp
theorem trim_comm (l : List UInt8) : Sm.tl (Sm.tr l) = Sm.tr (Sm.tl l) := by
  generalize hn : l.length = n
  induction n generalizing l with
  | zero => rw [List.length_eq_zero_iff.1 hn]; rfl
  | succ n ih =>
    rcases List.eq_nil_or_concat l with rfl | ⟨p, c, rfl⟩
    · rfl
    · rw [List.concat_eq_append] at *
      have hp : p.length = n := by simpa using hn
      cases hc : Sm.bl c with
      | true =>
        rw [tr_app_bl hc, ih p hp, tl_app_bl hc]
        split
        · simp
        · rw [tr_app_bl hc]
      | false => rw [tr_app_no hc, tl_app_no hc, tr_app_no hc]
theorem trims (l : List UInt8) : Lib.trimS l [32, 9] = Sm.tr (Sm.tl l) := by rw [trimS_eq, trim_comm]

theorem lok_trim {x : List UInt8} (h : lok x = true) : tl x = x ∧ tr x = x := by
  unfold lok at h; rw [Bool.and_eq_true] at h
  exact (trim_l x).1 (by simpa using h.2)
theorem trims_lok {x : List UInt8} (h : lok x = true) : Lib.trimS x [32, 9] = x := by
  rw [trims, (lok_trim h).1, (lok_trim h).2]
theorem trims_bl {x : List UInt8} (h : lok x = true) : Lib.trimS (32 :: x) [32, 9] = x := by
  rw [trims, tl_cons_bl (by decide), (lok_trim h).1, (lok_trim h).2]
theorem tr_nil {l : List UInt8} (h : tr l = []) : ∀ c ∈ l, bl c = true := by
  unfold tr at h
  have h1 : l.reverse.dropWhile bl = [] := by simpa using h
  intro c hc
  by_cases hb : bl c = true
  · exact hb
  · exfalso
    have : ∀ q : List UInt8, c ∈ q → q.dropWhile bl ≠ [] := by
      intro q
      induction q with
      | nil => intro h; cases h
      | cons d q ih =>
        intro hm
        rw [List.dropWhile_cons]
        split
        · rcases List.mem_cons.1 hm with rfl | hm
          · contradiction
          · exact ih hm
        · simp
    exact this _ (by simpa using hc) h1
theorem trims_ne {c : UInt8} {t : List UInt8} (h : bl c = false) : ¬ Lib.trimS (c :: t) [32, 9] = [] := by
  rw [trims, tl_cons_no h]
  intro e
  have := tr_nil e c (by simp)
  rw [h] at this; cases this

theorem idx_name {n : List UInt8} (h : (58 : UInt8) ∉ n) (t : List UInt8) : Lib.indexByte (n ++ 58 :: t) 58 = n.length := by
  induction n with
  | nil => simp [Lib.indexByte]
  | cons c n ih =>
    have hc : ¬ c = 58 := fun e => h (by simp [e])
    have h2 := ih (fun e => h (by simp [e]))
    rw [List.cons_append]
    unfold Lib.indexByte
    have hk : ((n.length : Int) == -1) = false := by rw [beq_eq_false_iff_ne]; omega
    simp [hc, h2, hk]

/-- A name, its parts. -/
theorem nok_parts {n : List UInt8} (h : nok n = true) : n.all nb = true ∧ ∃ c t, n = c :: t ∧ bl c = false ∧ ¬ c = 35 := by
  unfold nok at h
  rw [Bool.and_eq_true, Bool.and_eq_true] at h
  refine ⟨h.2, ?_⟩
  cases n with
  | nil => exact absurd h.1.1 (by simp [hok])
  | cons c t =>
    refine ⟨c, t, rfl, ?_, ?_⟩
    · have h1 := List.all_eq_true.1 h.2 c (by simp)
      unfold nb at h1
      simp only [Bool.and_eq_true, decide_eq_true_eq] at h1
      unfold bl
      rw [Bool.or_eq_false_iff, beq_eq_false_iff_ne, beq_eq_false_iff_ne]
      exact ⟨fun e => by subst e; exact absurd h1.1.1 (by decide), fun e => by subst e; exact absurd h1.1.1 (by decide)⟩
    · have h1 := h.1.1
      simp [hok] at h1
      exact h1.1

/-- The first line of a field. -/
theorem step_first {out : List (List F)} {cu : List F} {n x : List UInt8} (hn : nok n = true) (hx : lok x = true) (hl : cu.length < 40) (hf : fnd cu n = none) :
    step out cu (fl0 n x) = some (out, cu ++ [(n, x)]) := by
  obtain ⟨ha, c, t, rfl, hb, hc⟩ := nok_parts hn
  unfold step
  have e : fl0 (c :: t) x = c :: (t ++ 58 :: (if x = [] then [] else 32 :: x)) := rfl
  rw [e, if_neg (by simpa using hc), if_neg (trims_ne hb), if_neg (by simp [hb]), ← e]
  have hi : Lib.indexByte (fl0 (c :: t) x) 58 = (c :: t).length := idx_name (nb_58 ha) _
  have ht : (fl0 (c :: t) x).take (c :: t).length = c :: t := by unfold fl0; rw [List.take_left]
  have hd : Lib.trimS ((fl0 (c :: t) x).drop ((c :: t).length + 1)) [32, 9] = x := by
    have : (fl0 (c :: t) x).drop ((c :: t).length + 1) = if x = [] then [] else 32 :: x := by
      unfold fl0; rw [← List.drop_drop, List.drop_left]; rfl
    rw [this]
    split
    · rename_i h0; rw [h0]; rfl
    · exact trims_bl hx
  have hg : bg cu (fl0 (c :: t) x) = some (c :: t, x) := by
    unfold bg
    rw [if_neg (by rw [hi]; omega), hi]
    simp only [Int.toNat_natCast]
    rw [ht, hd, if_pos]
    simp only [hn, hx, hf, Bool.true_and, Option.isNone_none, Bool.and_true, Bool.not_eq_true', beq_eq_false_iff_ne]
    omega
  rw [hg]
  rfl

theorem lok_dot {y : List UInt8} (h : lok y = true) (hy : ¬ y = []) : lok (46 :: y) = true := by
  have h1 := lok_trim h
  unfold lok at h ⊢
  rw [Bool.and_eq_true] at h ⊢
  refine ⟨by rw [List.all_cons, h.1]; decide, ?_⟩
  rw [tl_cons_no (by decide), beq_iff_eq]
  have h2 := h1.2
  rcases List.eq_nil_or_concat y with rfl | ⟨p, c, rfl⟩
  · exact absurd rfl hy
  · rw [List.concat_eq_append] at h2 ⊢
    cases hc : bl c with
    | true =>
      rw [tr_app_bl hc] at h2
      have := (tr_pre p).length_le
      rw [h2] at this
      simp at this
      omega
    | false => rw [← List.cons_append, tr_app_no hc]

/-- A further line. -/
theorem step_more {out : List (List F)} {cu : List F} {y : List UInt8} (hy : lok y = true) (h0 : ¬ y = []) (hc : ¬ cu = []) :
    step out cu (fl1 y) = some (out, addL cu y) := by
  have hce : cu.isEmpty = false := by cases cu <;> simp_all
  have hk : ∀ z, lok z = true → ¬ z = [] → gl z = some y → step out cu (32 :: z) = some (out, addL cu y) := fun z h1 h2 h3 => by
    unfold step
    rw [if_neg (by simp), trims_bl h1, if_neg h2, if_pos (by simp [bl])]
    have hg : gOk cu z = some y := by unfold gOk; rw [h3]; simp [hce, hy]
    rw [hg]; rfl
  unfold fl1
  split
  · rename_i h46
    exact hk _ (lok_dot hy h0) (by simp) (by unfold gl; rw [if_pos (by simp)]; simp [h46])
  · rename_i h46
    exact hk _ hy h0 (by unfold gl; rw [if_neg h46])

theorem addL_last (p : List F) (n v u : List UInt8) : addL (p ++ [(n, v)]) u = p ++ [(n, v ++ [10] ++ u)] := by simp [addL]

/-- Further lines, all of them. -/
theorem run_more (r : List (List UInt8)) : ∀ (i : Nat) (out : List (List F)) (p : List F) (n v : List UInt8) (rest : List (List UInt8)), mok r = true →
    ∃ j, run i out (p ++ [(n, v)]) (r.map fl1 ++ rest) = run j out (p ++ [(n, v ++ r.flatMap (fun y => 10 :: y))]) rest := by
  induction r with
  | nil => intro i out p n v rest _; exact ⟨i, by simp⟩
  | cons y r ih =>
    intro i out p n v rest hm
    unfold mok at hm
    rw [List.all_cons, Bool.and_eq_true, Bool.and_eq_true] at hm
    have hs : step out (p ++ [(n, v)]) (fl1 y) = some (out, addL (p ++ [(n, v)]) y) := step_more hm.1.2 (by have := hm.1.1; simpa using this) (by simp)
    rw [addL_last] at hs
    obtain ⟨j, hj⟩ := ih (i + 1) out p n (v ++ [10] ++ y) rest hm.2
    refine ⟨j, ?_⟩
    rw [List.map_cons, List.cons_append]
    show run i out (p ++ [(n, v)]) (fl1 y :: (r.map fl1 ++ rest)) = _
    simp only [run, hs]
    rw [hj]
    simp

/-- A field's lines. -/
theorem run_field (f : F) (i : Nat) (out : List (List F)) (cu : List F) (rest : List (List UInt8)) (hl : cu.length < 40) (hf : fok cu f = true) :
    ∃ j, run i out cu (fls f ++ rest) = run j out (cu ++ [f]) rest := by
  unfold fok at hf
  rw [Bool.and_eq_true, Bool.and_eq_true] at hf
  obtain ⟨⟨h1, h2⟩, h3⟩ := hf
  unfold vok at h2
  unfold fls
  cases hs : spl f.2 with
  | nil => exact absurd hs (spl_ne f.2)
  | cons x r =>
    rw [hs] at h2
    simp only [Bool.and_eq_true] at h2
    have hst : step out cu (fl0 f.1 x) = some (out, cu ++ [(f.1, x)]) := step_first h1 h2.1 hl (by simpa using h3)
    obtain ⟨j, hj⟩ := run_more r (i + 1) out cu f.1 x rest h2.2
    refine ⟨j, ?_⟩
    show run i out cu (fl0 f.1 x :: (r.map fl1 ++ rest)) = _
    simp only [run, hst]
    rw [hj, ← spl_join f.2 x r hs]

/-- Fields, one behind the other. -/
theorem run_fields (q : List F) : ∀ (i : Nat) (out : List (List F)) (p : List F) (rest : List (List UInt8)), (p ++ q).length ≤ 40 → (∀ k (hk : k < q.length), fok (p ++ q.take k) q[k] = true) →
    ∃ j, run i out p (q.flatMap fls ++ rest) = run j out (p ++ q) rest := by
  induction q with
  | nil => intro i out p rest _ _; exact ⟨i, by simp⟩
  | cons f q ih =>
    intro i out p rest hl hf
    have h0 := hf 0 (by simp)
    simp only [List.take_zero, List.append_nil, List.getElem_cons_zero] at h0
    simp only [List.length_append, List.length_cons] at hl
    obtain ⟨j, hj⟩ := run_field f i out p (q.flatMap fls ++ rest) (by omega) h0
    obtain ⟨j2, hj2⟩ := ih j out (p ++ [f]) rest (by simp; omega) (fun k hk => by
      have := hf (k + 1) (by simp; omega)
      simpa using this)
    refine ⟨j2, ?_⟩
    rw [List.flatMap_cons, List.append_assoc, hj, hj2]
    simp

/-- A stanza that may be: its fields. -/
theorem rgt_parts {l : List F} (h : rgt l = true) : ¬ l = [] ∧ l.length ≤ 40 ∧ ∀ k (hk : k < l.length), fok (l.take k) l[k] = true := by
  unfold rgt at h
  simp only [Bool.and_eq_true, decide_eq_true_eq] at h
  refine ⟨fun e => by rw [e] at h; simp at h, h.1.1.2, fun k hk => ?_⟩
  have h1 := h.1.2
  cases hf : fok (l.take k) l[k] with
  | true => rfl
  | false => rw [foks_no k hk hf] at h1; cases h1
theorem rgt_10 {l : List F} (h : rgt l = true) : ∀ x ∈ l.flatMap fls, (10 : UInt8) ∉ x := by
  intro x hx
  obtain ⟨f, hf, hx⟩ := List.mem_flatMap.1 hx
  obtain ⟨k, hk, rfl⟩ := List.getElem_of_mem hf
  have := (rgt_parts h).2.2 k hk
  unfold fok at this
  simp only [Bool.and_eq_true] at this
  exact fls_10 this.1.1 x hx
theorem run_stanza {l : List F} (h : rgt l = true) (i : Nat) (out : List (List F)) (rest : List (List UInt8)) : ∃ j, run i out [] (l.flatMap fls ++ rest) = run j out l rest := by
  obtain ⟨_, h2, h3⟩ := rgt_parts h
  have := run_fields l i out [] rest (by simpa using h2) (fun k hk => by simpa using h3 k hk)
  simpa using this

theorem step_empty (out : List (List F)) (cu : List F) : step out cu [] = some (endO out cu, []) := rfl
theorem step_blank (out : List (List F)) (cu : List F) : step out cu [32] = some (endO out cu, []) := rfl

/-- What a stanza is written as is that stanza. -/
theorem run_txt {l : List F} (h : rgt l = true) : run 0 [] [] (spl (txt l)) = .ok [l] := by
  have e : spl (txt l) = l.flatMap fls ++ [[]] := by
    have := spl_lay (l.flatMap fls) (rgt_10 h) []
    rw [List.append_nil] at this
    rw [txt_lay, this]; rfl
  obtain ⟨j, hj⟩ := run_stanza h 0 [] [[]]
  rw [e, hj]
  simp only [run, step_empty]
  have hn := (rgt_parts h).1
  simp [endO, hn]

/-- The text between two stanzas: a remark, a blank, an empty line. -/
def between : List UInt8 := [35, 32, 114, 101, 109, 97, 114, 107, 58, 32, 120, 10, 32, 10, 10]
/-- Of several, with empty lines and remarks between, each. -/
theorem run_two {a b : List F} (ha : rgt a = true) (hb : rgt b = true) : run 0 [] [] (spl ([10] ++ txt a ++ between ++ txt b ++ [10])) = .ok [a, b] := by
  have e : spl ([10] ++ txt a ++ between ++ txt b ++ [10]) = [] :: (a.flatMap fls ++ ([35, 32, 114, 101, 109, 97, 114, 107, 58, 32, 120] :: [32] :: [] :: (b.flatMap fls ++ [[], []]))) := by
    have e1 : [10] ++ txt a ++ between ++ txt b ++ [10] = 10 :: (lay (a.flatMap fls) ++ (lay [[35, 32, 114, 101, 109, 97, 114, 107, 58, 32, 120], [32], []] ++ (lay (b.flatMap fls) ++ [10]))) := by
      rw [txt_lay, txt_lay]
      simp [between, lay]
    rw [e1, spl_lf, spl_lay _ (rgt_10 ha), spl_lay _ (by decide), spl_lay _ (rgt_10 hb)]
    rfl
  rw [e]
  have s1 : step ([] : List (List F)) [] [] = some ([], []) := rfl
  simp only [run, s1]
  obtain ⟨j, hj⟩ := run_stanza ha (0 + 1) [] ([35, 32, 114, 101, 109, 97, 114, 107, 58, 32, 120] :: [32] :: [] :: (b.flatMap fls ++ [[], []]))
  rw [hj]
  have s2 : step ([] : List (List F)) a [35, 32, 114, 101, 109, 97, 114, 107, 58, 32, 120] = some ([], a) := rfl
  have na := (rgt_parts ha).1
  have nb := (rgt_parts hb).1
  have s3 : step ([] : List (List F)) a [32] = some ([a], []) := by rw [step_blank]; simp [endO, na]
  have s4 : step [a] [] [] = some ([a], []) := by rw [step_empty]; simp [endO]
  simp only [run, s2, s3, s4]
  obtain ⟨j2, hj2⟩ := run_stanza hb (j + 1 + 1 + 1) [a] [[], []]
  rw [hj2]
  have s5 : step [a] b [] = some ([a, b], []) := by rw [step_empty]; simp [endO, nb]
  have s6 : step [a, b] [] [] = some ([a, b], []) := by rw [step_empty]; simp [endO]
  simp only [run, s5, s6]
  simp [endO]
end Go.Proofs.YtniknhfpbcbcbabDoor
