/- Plain mathematics of reading what was written: lines of a stanza's text. -/
import Derived.Test.YtniknhfpbcbcbabDoorQi
namespace Go.Proofs.YtniknhfpbcbcbabDoor
namespace Sm

theorem spl_no {l : List UInt8} (h : 10 ∉ l) : spl l = [l] := by
  induction l with
  | nil => rfl
  | cons c t ih =>
    have hc : ¬ c = 10 := fun e => h (by simp [e])
    unfold spl
    rw [if_neg hc, ih (fun e => h (by simp [e]))]
theorem spl_lf (t : List UInt8) : spl (10 :: t) = [] :: spl t := by rw [spl, if_pos rfl]
theorem spl_cons {c : UInt8} (hc : ¬ c = 10) {t x : List UInt8} {r : List (List UInt8)} (h : spl t = x :: r) : spl (c :: t) = (c :: x) :: r := by rw [spl, if_neg hc, h]
/-- Cut at a line feed: what stands ahead, what stands behind. -/
theorem spl_app (a b : List UInt8) : spl (a ++ 10 :: b) = spl a ++ spl b := by
  induction a with
  | nil => show spl (10 :: b) = _; rw [spl_lf]; rfl
  | cons c t ih =>
    rw [List.cons_append]
    by_cases hc : c = 10
    · subst hc
      rw [spl_lf, spl_lf, ih]; rfl
    · cases hs : spl t with
      | nil => exact absurd hs (spl_ne t)
      | cons x r =>
        rw [hs] at ih
        rw [spl_cons hc ih, spl_cons hc hs]; rfl
theorem spl_in (l : List UInt8) : ∀ x ∈ spl l, (10 : UInt8) ∉ x := by
  induction l with
  | nil => intro x hx; simp [spl] at hx; simp [hx]
  | cons c t ih =>
    intro x hx
    unfold spl at hx
    split at hx
    · rcases List.mem_cons.1 hx with rfl | hx
      · simp
      · exact ih x hx
    · rename_i hc
      split at hx
      · simp at hx; subst hx; simp; exact fun e => hc e.symm
      · rename_i y r hy
        rcases List.mem_cons.1 hx with rfl | hx
        · have := ih y (by rw [hy]; simp)
          simp only [List.mem_cons, not_or]
          exact ⟨fun e => hc e.symm, this⟩
        · exact ih x (by rw [hy]; simp [hx])
/-- The pieces, put together again. -/
theorem spl_join (l : List UInt8) : ∀ x r, spl l = x :: r → l = x ++ r.flatMap (fun y => 10 :: y) := by
  induction l with
  | nil => intro x r h; simp [spl] at h; obtain ⟨rfl, rfl⟩ := h; rfl
  | cons c t ih =>
    intro x r h
    unfold spl at h
    split at h
    · rename_i hc
      subst hc
      injection h with h1 h2
      subst h1 h2
      cases hs : spl t with
      | nil => exact absurd hs (spl_ne t)
      | cons y q => rw [List.flatMap_cons, List.nil_append, List.cons_append, ← ih y q hs]
    · cases hs : spl t with
      | nil => exact absurd hs (spl_ne t)
      | cons y q =>
        rw [hs] at h
        injection h with h1 h2
        subst h1 h2
        rw [List.cons_append, ← ih y q hs]

/-- Lines written one behind the other. -/
def lay (ls : List (List UInt8)) : List UInt8 := ls.flatMap fun x => x ++ [10]
theorem spl_lay (ls : List (List UInt8)) (h : ∀ x ∈ ls, (10 : UInt8) ∉ x) (b : List UInt8) : spl (lay ls ++ b) = ls ++ spl b := by
  induction ls with
  | nil => rfl
  | cons x r ih =>
    have e : lay (x :: r) ++ b = x ++ 10 :: (lay r ++ b) := by simp [lay]
    rw [e, spl_app, spl_no (h x (by simp)), ih (fun y hy => h y (by simp [hy]))]
    rfl
theorem lay_app (a b : List (List UInt8)) : lay (a ++ b) = lay a ++ lay b := by simp [lay]

/-- A field's lines. -/
def fl0 (n x : List UInt8) : List UInt8 := n ++ 58 :: (if x = [] then [] else 32 :: x)
def fl1 (y : List UInt8) : List UInt8 := 32 :: (if y.head? = some 46 then 46 :: y else y)
def fls (f : F) : List (List UInt8) := match spl f.2 with | [] => [] | x :: r => fl0 f.1 x :: r.map fl1
theorem ft_lay (f : F) : ft f = lay (fls f) := by
  unfold ft fls vt
  cases hs : spl f.2 with
  | nil => exact absurd hs (spl_ne f.2)
  | cons x r =>
    have e1 : lay (r.map fl1) = r.flatMap ln := by
      unfold lay
      rw [List.flatMap_map]
      congr 1
      funext y
      unfold fl1 ln
      split <;> simp
    show f.1 ++ 58 :: (l0 x ++ r.flatMap ln) = lay (fl0 f.1 x :: r.map fl1)
    rw [show lay (fl0 f.1 x :: r.map fl1) = fl0 f.1 x ++ [10] ++ lay (r.map fl1) from rfl, e1]
    unfold fl0 l0
    split <;> simp
theorem txt_lay (l : List F) : txt l = lay (l.flatMap fls) := by
  induction l with
  | nil => rfl
  | cons f r ih =>
    have e : txt (f :: r) = ft f ++ txt r := by simp [txt]
    rw [e, List.flatMap_cons, lay_app, ft_lay, ih]

theorem cok_10 {l : List UInt8} (h : l.all cok = true) : (10 : UInt8) ∉ l := fun hm => by
  have := List.all_eq_true.1 h 10 hm
  exact absurd this (by decide)
theorem lok_10 {l : List UInt8} (h : lok l = true) : (10 : UInt8) ∉ l := by
  unfold lok at h; rw [Bool.and_eq_true] at h; exact cok_10 h.1
theorem nb_10 {l : List UInt8} (h : l.all nb = true) : (10 : UInt8) ∉ l := fun hm => by
  have := List.all_eq_true.1 h 10 hm
  exact absurd this (by decide)
theorem nb_58 {l : List UInt8} (h : l.all nb = true) : (58 : UInt8) ∉ l := fun hm => by
  have := List.all_eq_true.1 h 58 hm
  exact absurd this (by decide)
theorem fls_10 {f : F} (h : nok f.1 = true) : ∀ x ∈ fls f, (10 : UInt8) ∉ x := by
  have h1 : f.1.all nb = true := by unfold nok at h; rw [Bool.and_eq_true] at h; exact h.2
  have h2 := nb_10 h1
  intro x hx
  unfold fls at hx
  cases hs : spl f.2 with
  | nil => exact absurd hs (spl_ne f.2)
  | cons y r =>
    rw [hs] at hx
    have h3 := spl_in f.2
    rw [hs] at h3
    rcases List.mem_cons.1 hx with rfl | hx
    · have := h3 y (by simp)
      unfold fl0
      split <;> simp [h2, this]
    · obtain ⟨z, hz, rfl⟩ := List.mem_map.1 hx
      have := h3 z (by simp [hz])
      unfold fl1
      split <;> simp [this]
end Sm
end Go.Proofs.YtniknhfpbcbcbabDoor
