/- Books: mathematics. -/
import Derived.Test.YteiobnkaadedkaaGreatDoorMa
namespace Go.Proofs.YteiobnkaadedkaaGreatDoor

/-- Lines, as they lie in a file. -/
abbrev Bk := Kv (List UInt8)
def lnt (p : List UInt8 × List UInt8) : List UInt8 := p.1 ++ 9 :: (p.2 ++ [10])
def prt (M : Bk) : List UInt8 := M.flatMap lnt
/-- Nothing in it that parts lines. -/
def Whole (s : List UInt8) : Prop := (9 : UInt8) ∉ s ∧ (10 : UInt8) ∉ s
/-- Lines that may be. -/
structure Gd (M : Bk) : Prop where
  srt : Srt M
  nm : ∀ p ∈ M, Whole p.1 ∧ 1 ≤ p.1.length ∧ p.1.length ≤ 24
  tx : ∀ p ∈ M, Whole p.2 ∧ p.2.length ≤ 300
theorem lnt_len (p : List UInt8 × List UInt8) : (lnt p).length = p.1.length + p.2.length + 2 := by
  unfold lnt; simp; omega
theorem prt_len {M : Bk} (h : Gd M) : (prt M).length ≤ 326 * M.length := by
  have : ∀ M : Bk, (∀ p ∈ M, p.1.length ≤ 24 ∧ p.2.length ≤ 300) → (prt M).length ≤ 326 * M.length := by
    intro M
    induction M with
    | nil => intro _; simp [prt]
    | cons p r ih =>
      intro h
      have h1 := ih fun q hq => h q (List.mem_cons_of_mem _ hq)
      have h2 := h p (List.mem_cons_self ..)
      have h3 := lnt_len p
      unfold prt at h1 ⊢
      rw [List.flatMap_cons, List.length_append, List.length_cons]
      omega
  exact this M fun p hp => ⟨(h.nm p hp).2.2, (h.tx p hp).2⟩
theorem Gd.nil : Gd [] := ⟨Srt.nil, fun _ h => (by cases h), fun _ h => (by cases h)⟩
theorem Gd.del {M : Bk} (h : Gd M) (k : List UInt8) : Gd (delL k M) := ⟨h.srt.del k, fun p hp => h.nm p (mem_del.1 hp).1, fun p hp => h.tx p (mem_del.1 hp).1⟩
theorem Gd.put {M : Bk} (h : Gd M) {k s : List UInt8} (hk : Whole k ∧ 1 ≤ k.length ∧ k.length ≤ 24) (hs : Whole s ∧ s.length ≤ 300) : Gd (putL k s M) :=
  ⟨h.srt.put k s, fun p hp => by
    rcases mem_ins.1 hp with rfl | hp
    · exact hk
    · exact h.nm p (mem_del.1 hp).1, fun p hp => by
    rcases mem_ins.1 hp with rfl | hp
    · exact hs
    · exact h.tx p (mem_del.1 hp).1⟩
/-- One that comes behind all. -/
theorem put_last {α : Type} {M : Kv α} {k : List UInt8} {a : α} (h : ∀ p ∈ M, bytesBefore p.1 k = true) : putL k a M = M ++ [(k, a)] := by
  have hd : delL k M = M := del_none (lk_none.2 fun p hp e => by have := h p hp; rw [e, WideAt.bytes_irrefl] at this; cases this)
  unfold putL
  rw [hd]
  clear hd
  induction M with
  | nil => rfl
  | cons y r ih =>
    have h1 := h y (List.mem_cons_self ..)
    unfold insL
    rw [if_neg, ih fun p hp => h p (List.mem_cons_of_mem _ hp)]
    · rfl
    · intro h2
      have := WideShapes.bytes_trans _ _ _ h1 h2
      rw [WideAt.bytes_irrefl] at this; cases this
theorem take_put {α : Type} {M : Kv α} (h : Srt M) {i : Nat} (hi : i < M.length) : putL M[i].1 M[i].2 (M.take i) = M.take (i + 1) := by
  rw [List.take_succ_eq_append_getElem hi]
  refine put_last fun p hp => ?_
  obtain ⟨j, hj, rfl⟩ := List.mem_iff_getElem.1 hp
  simp at hj
  have := List.pairwise_iff_getElem.1 h j i (by omega) hi (by omega)
  simpa using this
theorem prt_drop {M : Bk} {i : Nat} (hi : i < M.length) : prt (M.drop i) = lnt M[i] ++ prt (M.drop (i + 1)) := by
  unfold prt
  rw [List.drop_eq_getElem_cons hi, List.flatMap_cons]
/-- Keys out of a list. -/
theorem len_keys {α : Type} {L : Kv α} (h : Srt L) : ∀ ks : List (List UInt8), (∀ p ∈ L, p.1 ∈ ks) → L.length ≤ ks.length := by
  induction L with
  | nil => intro ks _; simp
  | cons y r ih =>
    intro ks hk
    obtain ⟨h1, h2⟩ := List.pairwise_cons.1 h
    have hy := hk y (List.mem_cons_self ..)
    have := ih h2 (ks.erase y.1) fun p hp => by
      refine (List.mem_erase_of_ne ?_).2 (hk p (List.mem_cons_of_mem _ hp))
      intro e
      have := h1 p hp
      rw [e, WideAt.bytes_irrefl] at this; cases this
    rw [List.length_erase_of_mem hy] at this
    have h3 := List.length_pos_of_mem hy
    simp; omega
/-- The sheet of a name. -/
def shn (s : List UInt8) : Nat := s.foldl (fun a c => (a * 31 + c.toNat) % 4294967296) 0
def shf (s : List UInt8) : Nat := shn s % 37
theorem shf_lt (s : List UInt8) : shf s < 37 := Nat.mod_lt _ (by omega)
/-- What is written at a name, by a page and a sheet. -/
def ovt (p n : Option (List UInt8)) : Option (List UInt8) := match n with
  | some t => if t = [] then none else some t
  | none => p
def ov (P : Bk) (N : Nat → Bk) (k : List UInt8) : Option (List UInt8) := ovt (lkL k P) (lkL k (N (shf k)))
/-- A page, its sheets, and all that they tell. -/
structure Pg (A P : Bk) (N : Nat → Bk) (n : Nat) : Prop where
  ga : Gd A
  gp : Gd P
  gn : ∀ i, i < 37 → Gd (N i)
  at_ : ∀ i, i < 37 → ∀ k t, lkL k (N i) = some t → shf k = i
  ov : ∀ k, lkL k A = ov P N k
  ne : ∀ k, lkL k P ≠ some []
  la : A.length ≤ n
  lp : P.length ≤ n
  ln : ∀ i, i < 37 → (N i).length ≤ n
def txt (k : List UInt8) (M : Bk) : List UInt8 := (lkL k M).getD []
theorem ov_ne {P : Bk} {N : Nat → Bk} (h : ∀ k, lkL k P ≠ some []) (k : List UInt8) : Go.Proofs.YteiobnkaadedkaaGreatDoor.ov P N k ≠ some [] := by
  unfold Go.Proofs.YteiobnkaadedkaaGreatDoor.ov ovt
  split
  · split
    · simp
    · rename_i h1; simpa using h1
  · exact h k
theorem Pg.nil : Pg [] [] (fun _ => []) 0 := ⟨Gd.nil, Gd.nil, fun _ _ => Gd.nil, fun _ _ k t h => (by cases h), fun k => rfl, fun k h => (by cases h), Nat.le_refl _, Nat.le_refl _, fun _ _ => Nat.le_refl _⟩
theorem Pg.mono {A P : Bk} {N : Nat → Bk} {n n' : Nat} (h : Pg A P N n) (hn : n ≤ n') : Pg A P N n' :=
  ⟨h.ga, h.gp, h.gn, h.at_, h.ov, h.ne, Nat.le_trans h.la hn, Nat.le_trans h.lp hn, fun i hi => Nat.le_trans (h.ln i hi) hn⟩
/-- What Set does. -/
def setA (k s : List UInt8) (A : Bk) : Bk := if s = [] then delL k A else putL k s A
def setN (k s : List UInt8) (P M : Bk) : Bk := if s = txt k P then delL k M else putL k s M
def upd (N : Nat → Bk) (i : Nat) (M : Bk) : Nat → Bk := fun j => if j = i then M else N j
theorem upd_same (N : Nat → Bk) (i : Nat) (M : Bk) : upd N i M i = M := if_pos rfl
theorem upd_other (N : Nat → Bk) {i j : Nat} (M : Bk) (h : j ≠ i) : upd N i M j = N j := if_neg h
theorem Pg.set {A P : Bk} {N : Nat → Bk} {n : Nat} (h : Pg A P N n) {k s : List UInt8} (hk : Whole k ∧ 1 ≤ k.length ∧ k.length ≤ 24) (hs : Whole s ∧ s.length ≤ 300) : Pg (setA k s A) P (upd N (shf k) (setN k s P (N (shf k)))) (n + 1) := by
  have hgA : Gd (setA k s A) := by unfold setA; split; exact h.ga.del k; exact h.ga.put hk hs
  have hg1 : Gd (setN k s P (N (shf k))) := by unfold setN; split; exact (h.gn _ (shf_lt k)).del k; exact (h.gn _ (shf_lt k)).put hk hs
  have hlA : ∀ x, x ≠ k → lkL x (setA k s A) = lkL x A := fun x hx => by
    unfold setA; split
    · exact lk_del_other h.ga.srt hx
    · exact lk_put_other h.ga.srt hx s
  have hl1 : ∀ x, x ≠ k → lkL x (setN k s P (N (shf k))) = lkL x (N (shf k)) := fun x hx => by
    unfold setN; split
    · exact lk_del_other (h.gn _ (shf_lt k)).srt hx
    · exact lk_put_other (h.gn _ (shf_lt k)).srt hx s
  have hA : lkL k (setA k s A) = if s = [] then none else some s := by
    unfold setA; split
    · exact lk_del_same k
    · exact lk_put_same h.ga.srt k s
  have h1 : lkL k (setN k s P (N (shf k))) = if s = txt k P then none else some s := by
    unfold setN; split
    · exact lk_del_same k
    · exact lk_put_same (h.gn _ (shf_lt k)).srt k s
  refine ⟨hgA, h.gp, fun i hi => ?_, fun i hi x t hx => ?_, fun x => ?_, h.ne, ?_, Nat.le_succ_of_le h.lp, fun i hi => ?_⟩
  · by_cases e : i = shf k
    · subst e; rw [upd_same]; exact hg1
    · rw [upd_other _ _ e]; exact h.gn i hi
  · by_cases e : i = shf k
    · subst e
      rw [upd_same] at hx
      by_cases ek : x = k
      · rw [ek]
      · rw [hl1 x ek] at hx; exact h.at_ _ hi x t hx
    · rw [upd_other _ _ e] at hx; exact h.at_ i hi x t hx
  · by_cases ek : x = k
    · subst ek
      unfold Go.Proofs.YteiobnkaadedkaaGreatDoor.ov
      rw [hA, upd_same, h1]
      have hne := h.ne x
      unfold txt ovt
      by_cases e : s = (lkL x P).getD []
      · rw [if_pos e]
        cases hp : lkL x P with
        | none => rw [hp] at e; simp at e; rw [if_pos e]
        | some t =>
          rw [hp] at e hne; simp at e hne
          subst e
          rw [if_neg hne]
      · rw [if_neg e]
    · rw [hlA x ek, h.ov x]
      unfold Go.Proofs.YteiobnkaadedkaaGreatDoor.ov
      by_cases e : shf x = shf k
      · rw [e, upd_same, hl1 x ek]
      · rw [upd_other _ _ e]
  · have := h.la
    unfold setA; split
    · have := len_del (L := A) k; omega
    · have := len_put A k s; omega
  · by_cases e : i = shf k
    · subst e
      rw [upd_same]
      have := h.ln _ hi
      unfold setN; split
      · have := len_del (L := N (shf k)) k; omega
      · have := len_put (N (shf k)) k s; omega
    · rw [upd_other _ _ e]; exact Nat.le_succ_of_le (h.ln i hi)
theorem Pg.tidy {A P : Bk} {N : Nat → Bk} {n : Nat} (h : Pg A P N n) : Pg A A (fun _ => []) n :=
  ⟨h.ga, h.ga, fun _ _ => Gd.nil, fun _ _ k t hk => (by cases hk), fun k => rfl, fun k => (by rw [h.ov]; exact ov_ne h.ne k), h.la, h.la, fun _ _ => Nat.zero_le _⟩
/-- Tidied in part: the page tells all, and some sheets are left. -/
theorem Pg.part {A P : Bk} {N : Nat → Bk} {n : Nat} (h : Pg A P N n) (q : Nat → Bool) : Pg A A (fun i => if q i then [] else N i) n :=
  ⟨h.ga, h.ga, fun i hi => (by split; exact Gd.nil; exact h.gn i hi), fun i hi k t hk => (by split at hk; cases hk; exact h.at_ i hi k t hk), fun k => by
    unfold Go.Proofs.YteiobnkaadedkaaGreatDoor.ov
    dsimp only
    split
    · rfl
    · have := h.ov k
      unfold Go.Proofs.YteiobnkaadedkaaGreatDoor.ov at this
      rw [this]
      unfold ovt
      split
      · split <;> rfl
      · rfl, fun k => (by rw [h.ov]; exact ov_ne h.ne k), h.la, h.la, fun i hi => (by split; exact Nat.zero_le _; exact h.ln i hi)⟩
theorem Pg.get {A P : Bk} {N : Nat → Bk} {n : Nat} (h : Pg A P N n) (k : List UInt8) : txt k A = match lkL k (N (shf k)) with | some t => t | none => txt k P := by
  unfold txt
  rw [h.ov]
  unfold Go.Proofs.YteiobnkaadedkaaGreatDoor.ov ovt
  cases lkL k (N (shf k)) with
  | none => rfl
  | some t => dsimp only; split <;> simp_all
end Go.Proofs.YteiobnkaadedkaaGreatDoor
