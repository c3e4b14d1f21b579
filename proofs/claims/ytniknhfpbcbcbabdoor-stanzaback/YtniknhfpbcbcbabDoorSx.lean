/- A text cut at line feeds, as strings.Split tells it; how long texts are. -/
import Derived.Test.YtniknhfpbcbcbabDoorSm
import Derived.Lib.IndexBytes
namespace Go.Proofs.YtniknhfpbcbcbabDoor

theorem split_at (n : Nat) : ∀ l : List UInt8, l.length ≤ n → Lib.splitB ⟨#[10]⟩ 0 (Lib.countB ⟨l.toArray⟩ ⟨#[10]⟩) ⟨l.toArray⟩ = (Sm.spl l).map (fun x => ByteArray.mk x.toArray) := by
  induction n with
  | zero =>
    intro l hl
    obtain rfl : l = [] := List.length_eq_zero_iff.1 (by omega)
    have hi : Lib.indexB ⟨([] : List UInt8).toArray⟩ ⟨#[10]⟩ = -1 := rfl
    rw [Lib.splitB_miss _ _ _ _ hi]; rfl
  | succ n ih =>
    intro l hl
    have hix : Lib.indexB ⟨l.toArray⟩ ⟨#[10]⟩ = Lib.indexByte l 10 := by
      rw [← Lib.index_one]
    rcases Sm.fc_spl l with ⟨h1, h2⟩ | ⟨k, hk, h1, h2⟩
    · rw [Lib.splitB_miss _ _ _ _ (by rw [hix, h1]), h2]; rfl
    · have e1 : (ByteArray.mk l.toArray).extract (k + (ByteArray.mk #[10]).size) (ByteArray.mk l.toArray).size = ⟨(l.drop (k + 1)).toArray⟩ := by
        apply ByteArray.ext; simp [ByteArray.size]; exact List.take_of_length_le (by simp)
      have e2 : (ByteArray.mk l.toArray).extract 0 (k + 0) = ⟨(l.take k).toArray⟩ := by apply ByteArray.ext; simp
      rw [Lib.countB_hit _ _ k (by decide) (by rw [hix, h1]), Nat.add_comm 1, Lib.splitB_hit _ _ _ _ k (by rw [hix, h1]), e1, e2, ih _ (by simp; omega), h2]
      rfl
theorem split_eq (l : List UInt8) : Lib.splitB ⟨#[10]⟩ 0 (Lib.countB ⟨l.toArray⟩ ⟨#[10]⟩) ⟨l.toArray⟩ = (Sm.spl l).map (fun x => ByteArray.mk x.toArray) := split_at _ l (Nat.le_refl _)
theorem split_n (l : List UInt8) : Lib.countB ⟨l.toArray⟩ ⟨#[10]⟩ + 1 = (Sm.spl l).length := by
  rw [← Lib.splitB_all ⟨#[10]⟩ (by decide) 0 _ _ rfl, split_eq, List.length_map]

namespace Sm
theorem spl_sum (l : List UInt8) : ((spl l).map fun x => x.length + 3).sum ≤ 3 * l.length + 3 ∧ (spl l).length ≤ l.length + 1 := by
  induction l with
  | nil => simp [spl]
  | cons c t ih =>
    unfold spl
    split
    · simp; omega
    · split
      · simp; omega
      · rename_i x r hx
        rw [hx] at ih
        simp at ih ⊢; omega
theorem l0_len (x : List UInt8) : (l0 x).length ≤ x.length + 3 := by unfold l0; split <;> simp
theorem ln_len (x : List UInt8) : (ln x).length ≤ x.length + 3 := by unfold ln; split <;> simp
theorem lns_len (r : List (List UInt8)) : (r.flatMap ln).length ≤ (r.map fun x => x.length + 3).sum := by
  induction r with
  | nil => simp
  | cons x r ih => have := ln_len x; simp at ih ⊢; omega
theorem vt_len (v : List UInt8) : (vt v).length ≤ 3 * v.length + 3 := by
  have h := (spl_sum v).1
  unfold vt
  cases hs : spl v with
  | nil => simp
  | cons x r =>
    rw [hs] at h
    have h1 := l0_len x
    have h2 := lns_len r
    simp at h h2 ⊢; omega
theorem ft_len (f : F) : (ft f).length ≤ f.1.length + 3 * f.2.length + 4 := by
  have := vt_len f.2
  unfold ft; simp; omega
theorem txt_le (l : List F) (n : Nat) (h : ∀ f ∈ l, f.1.length ≤ 100 ∧ f.2.length ≤ 4000) (hn : l.length ≤ n) : (txt l).length ≤ n * 12104 := by
  induction l generalizing n with
  | nil => simp [txt]
  | cons f r ih =>
    cases n with
    | zero => simp at hn
    | succ n =>
      have h1 := h f (by simp)
      have h2 := ft_len f
      have h3 := ih n (fun g hg => h g (by simp [hg])) (by simp at hn; omega)
      unfold txt at h3 ⊢
      rw [List.flatMap_cons, List.length_append]; omega
end Sm
end Go.Proofs.YtniknhfpbcbcbabDoor
