/- The mathematics of what is asked for: lists of lists. -/
import Derived.Test.YtmlmdncepgcimaaGreatDoorUf
namespace Go.Proofs.YtmlmdncepgcimaaGreatDoor

/-- What a piece of one of some reads as. -/
def RdG (g : List UInt8) (x : List Tm) : Prop := (sp 124 g).map rd = x.map some

theorem go_more (I0 : List (List Tm)) (i : Nat) (hi : I0.length = i) (rest : List (Nat × List UInt8)) : ∀ (ps : List (List UInt8)) (ts y : List Tm) (n : Nat), ps.map rd = ts.map some → n + ts.length ≤ 30 →
    goT n (I0 ++ [y]) (ps.map (fun p => (i, p)) ++ rest) = goT (n + ts.length) (I0 ++ [y ++ ts]) rest
  | [], ts, y, n, h, _ => by
    have : ts = [] := by simpa using h.symm
    subst this; simp
  | p :: ps, [], _, _, h, _ => by simp at h
  | p :: ps, t :: ts, y, n, h, hn => by
    simp only [List.map_cons, List.cons.injEq] at h
    simp only [List.length_cons] at hn
    rw [List.map_cons, List.cons_append, goT_some h.1 (by omega)]
    rw [show put (I0 ++ [y]) i t = I0 ++ [y ++ [t]] by rw [← hi]; exact put_last I0 y t]
    rw [go_more I0 i hi rest ps ts (y ++ [t]) (n + 1) h.2 (by omega)]
    simp [Nat.add_comm, Nat.add_left_comm]
theorem go_grp (L : List (List Tm)) (g : List UInt8) (x : List Tm) (rest : List (Nat × List UInt8)) (n : Nat) (h : RdG g x) (hn : n + x.length ≤ 30) : goT n L (grp L.length g ++ rest) = goT (n + x.length) (L ++ [x]) rest := by
  unfold RdG at h
  obtain ⟨p, ps, e⟩ := sp_ne 124 g
  unfold grp
  rw [e] at h ⊢
  cases x with
  | nil => simp at h
  | cons t ts =>
    simp only [List.map_cons, List.cons.injEq] at h
    simp only [List.length_cons] at hn
    rw [List.map_cons, List.cons_append, goT_some h.1 (by omega), put_new]
    rw [go_more L L.length rfl rest ps ts [t] (n + 1) h.2 (by omega)]
    simp [Nat.add_comm, Nat.add_left_comm]
theorem go_all : ∀ (gs : List (List UInt8)) (xs L : List (List Tm)) (n : Nat), gs.length = xs.length → (∀ i (h1 : i < gs.length) (h2 : i < xs.length), RdG gs[i] xs[i]) → n + xs.flatten.length ≤ 30 → goT n L (pcl L.length gs) = .ok (L ++ xs)
  | [], [], L, n, _, _, _ => by simp [pcl, goT]
  | [], _ :: _, _, _, h, _, _ => by simp at h
  | _ :: _, [], _, _, h, _, _ => by simp at h
  | g :: gs, x :: xs, L, n, hl, hr, hn => by
    simp only [List.flatten_cons, List.length_append] at hn
    unfold pcl
    rw [go_grp L g x _ n (hr 0 (by simp) (by simp)) (by omega)]
    have := go_all gs xs (L ++ [x]) (n + x.length) (by simpa using hl) (fun i h1 h2 => hr (i + 1) (by simpa using h1) (by simpa using h2)) (by omega)
    rw [List.length_append] at this
    simp only [List.length_cons, List.length_nil, Nat.zero_add] at this
    rw [this]; simp

theorem sp_bar : ∀ (ts : List Tm) (a : List UInt8) (t : Tm), (∀ c ∈ a, c ≠ 124) → rd a = some t → rd (a ++ [32]) = some t → (∀ t ∈ ts, tok t = true) → (sp 124 (a ++ (ts.map wrT).flatMap fun y => [32, 124, 32] ++ y)).map rd = some t :: ts.map some
  | [], a, t, ha, h1, _, _ => by simp [sp_one ha, h1]
  | y :: ts, a, t, ha, h1, h2, hk => by
    have hy := hk y (List.mem_cons_self ..)
    rw [show a ++ ((y :: ts).map wrT).flatMap (fun y => [32, 124, 32] ++ y) = (a ++ [32]) ++ 124 :: ((32 :: wrT y) ++ (ts.map wrT).flatMap fun y => [32, 124, 32] ++ y) by simp]
    rw [sp_app (by intro c hc; rcases List.mem_append.1 hc with hc | hc; exact ha c hc; simp at hc; subst hc; decide)]
    rw [List.map_cons, h2, sp_bar ts (32 :: wrT y) y (by intro c hc; rcases List.mem_cons.1 hc with rfl | hc; decide; exact (wr_ink hy).2.2 c hc) (by have := rd_wr hy [32] [] bl32 bl0; simpa using this) (by have := rd_wr hy [32] [32] bl32 bl32; simpa using this) (fun t ht => hk t (List.mem_cons_of_mem _ ht))]
    rfl
theorem rdG_wr (u : List UInt8) (hu : ∀ c ∈ u, bls.contains c = true) (hu2 : ∀ c ∈ u, c ≠ 124) (x : List Tm) (hne : x ≠ []) (hk : ∀ t ∈ x, tok t = true) : RdG (u ++ wrS x) x := by
  cases x with
  | nil => exact absurd rfl hne
  | cons t ts =>
    have ht := hk t (List.mem_cons_self ..)
    unfold RdG wrS
    rw [show u ++ jn [32, 124, 32] ((t :: ts).map wrT) = (u ++ wrT t) ++ (ts.map wrT).flatMap fun y => [32, 124, 32] ++ y by simp [jn]]
    exact sp_bar ts (u ++ wrT t) t (by intro c hc; rcases List.mem_append.1 hc with hc | hc; exact hu2 c hc; exact (wr_ink ht).2.2 c hc) (by have := rd_wr ht u [] hu bl0; simpa using this) (by have := rd_wr ht u [32] hu bl32; simpa using this) (fun t ht => hk t (List.mem_cons_of_mem _ ht))
theorem wrS_44 (x : List Tm) (hk : ∀ t ∈ x, tok t = true) : ∀ c ∈ wrS x, c ≠ 44 := by
  intro c hc
  unfold wrS at hc
  cases x with
  | nil => simp [jn] at hc
  | cons t ts =>
    simp only [List.map_cons, jn, List.mem_append, List.mem_flatMap] at hc
    rcases hc with hc | ⟨y, hy, hc | hc⟩
    · exact (wr_ink (hk t (List.mem_cons_self ..))).2.1 c hc
    · simp at hc; rcases hc with rfl | rfl | rfl <;> decide
    · obtain ⟨t', ht', rfl⟩ := List.mem_map.1 hy
      exact (wr_ink (hk t' (List.mem_cons_of_mem _ ht'))).2.1 c hc
theorem sp_comma : ∀ (gs : List (List UInt8)) (a : List UInt8), (∀ c ∈ a, c ≠ 44) → (∀ g ∈ gs, ∀ c ∈ g, c ≠ 44) → sp 44 (a ++ gs.flatMap fun y => [44, 32] ++ y) = a :: gs.map (fun g => 32 :: g)
  | [], a, ha, _ => by simp [sp_one ha]
  | g :: gs, a, ha, hg => by
    rw [show a ++ (g :: gs).flatMap (fun y => [44, 32] ++ y) = a ++ 44 :: ((32 :: g) ++ gs.flatMap fun y => [44, 32] ++ y) by simp]
    rw [sp_app ha, sp_comma gs (32 :: g) (by intro c hc; rcases List.mem_cons.1 hc with rfl | hc; decide; exact hg g (List.mem_cons_self ..) c hc) (fun g' hg' => hg g' (List.mem_cons_of_mem _ hg'))]
    rfl

theorem dw_keeps {c : UInt8} (hi : ink c = true) : ∀ l : List UInt8, c ∈ l → c ∈ l.dropWhile (bls.contains ·)
  | [], h => by cases h
  | d :: l, h => by
    rw [List.dropWhile_cons]
    split
    · rename_i hd
      rcases List.mem_cons.1 h with rfl | h
      · unfold ink at hi; rw [hd] at hi; cases hi
      · exact dw_keeps hi l h
    · exact h
theorem trimS_keeps {c : UInt8} {l : List UInt8} (h : c ∈ l) (hi : ink c = true) : c ∈ Lib.trimS l bls := by
  unfold Lib.trimS Lib.trimLeftS Lib.trimRightS
  refine dw_keeps hi _ ?_
  rw [List.mem_reverse]
  exact dw_keeps hi _ (by simpa using h)

/-- What may be asked for is read as it was written. -/
theorem rdA_wrA {l : List (List Tm)} (h : ask l = true) : rdA (wrA l) = .ok l := by
  unfold ask at h
  simp only [Bool.and_eq_true, List.all_eq_true, decide_eq_true_eq] at h
  obtain ⟨hne, hn, hk⟩ := h
  cases l with
  | nil => rfl
  | cons x l =>
    have kx : ∀ y ∈ x :: l, ∀ t ∈ y, tok t = true := fun y hy t ht => hk t (List.mem_flatten.2 ⟨y, hy, ht⟩)
    have hx := hne x (List.mem_cons_self ..)
    have hw : wrA (x :: l) = wrS x ++ (l.map wrS).flatMap fun y => [44, 32] ++ y := by simp [wrA, jn]
    have hsp : sp 44 (wrA (x :: l)) = wrS x :: (l.map wrS).map fun g => 32 :: g := by
      rw [hw]
      exact sp_comma _ _ (wrS_44 x (kx x (List.mem_cons_self ..))) (fun g hg => by
        obtain ⟨y, hy, rfl⟩ := List.mem_map.1 hg
        exact wrS_44 y (kx y (List.mem_cons_of_mem _ hy)))
    have htr : ¬ Lib.trimS (wrA (x :: l)) bls = [] := by
      cases x with
      | nil => exact absurd rfl hx
      | cons t ts =>
        obtain ⟨c, r, hc, hi⟩ := (wr_ink (kx (t :: ts) (List.mem_cons_self ..) t (List.mem_cons_self ..))).1.h
        intro e
        have hmem : c ∈ wrA ((t :: ts) :: l) := by rw [hw]; simp [wrS, jn, hc]
        have := trimS_keeps hmem hi
        rw [e] at this
        cases this
    unfold rdA
    rw [if_neg htr]
    unfold pcs
    rw [hsp]
    have := go_all (wrS x :: (l.map wrS).map fun g => 32 :: g) (x :: l) [] 0 (by simp) (fun i h1 h2 => by
      cases i with
      | zero => have := rdG_wr [] bl0 (by simp) x hx (kx x (List.mem_cons_self ..)); simpa using this
      | succ i =>
        have hi : i < l.length := by simpa using h2
        have hm : l[i] ∈ x :: l := List.mem_cons_of_mem _ (List.getElem_mem hi)
        have := rdG_wr [32] bl32 (by decide) l[i] (hne l[i] hm) (kx l[i] hm)
        simpa using this) (by simpa using hn)
    simpa using this

end Go.Proofs.YtmlmdncepgcimaaGreatDoor
