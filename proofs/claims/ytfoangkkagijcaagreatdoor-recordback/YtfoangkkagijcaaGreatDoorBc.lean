/- Mathematics of what is read back: lines, fields. -/
import Derived.Test.YtfoangkkagijcaaGreatDoorYh
namespace Go.Proofs.YtfoangkkagijcaaGreatDoor
open Go.RowKit Go.Shelf

def joinL : List (List UInt8) → List UInt8
  | [] => []
  | s :: l => s ++ lns l
theorem lns_cons (s : List UInt8) (l : List (List UInt8)) : lns (s :: l) = 10 :: joinL (s :: l) := by simp [lns, joinL]
theorem ixb_at (c : UInt8) (r : List UInt8) : ∀ p : List UInt8, c ∉ p → Lib.indexByte (p ++ c :: r) c = (p.length : Int)
  | [], _ => by simp [Lib.indexByte]
  | x :: p, h => by
    have hx : (x == c) = false := by rw [beq_eq_false_iff_ne]; exact fun e => h (by rw [e]; exact List.mem_cons_self ..)
    have ih := ixb_at c r p fun hm => h (List.mem_cons_of_mem _ hm)
    simp only [List.cons_append, Lib.indexByte, hx]
    rw [ih]
    simp only [Bool.false_eq_true, if_false, List.length_cons]
    rw [if_neg (by first | (simp; omega) | simp)]
    omega
theorem ixb_no (c : UInt8) : ∀ p : List UInt8, c ∉ p → Lib.indexByte p c = -1
  | [], _ => rfl
  | x :: p, h => by
    have hx : (x == c) = false := by rw [beq_eq_false_iff_ne]; exact fun e => h (by rw [e]; exact List.mem_cons_self ..)
    have ih := ixb_no c p fun hm => h (List.mem_cons_of_mem _ hm)
    simp only [Lib.indexByte, hx, ih]
    rfl
theorem bx_take (l : List UInt8) (k : Nat) : (ByteArray.mk l.toArray).extract 0 k = ⟨(l.take k).toArray⟩ := by
  apply ByteArray.ext
  simp
theorem bx_drop (l : List UInt8) (k : Nat) : (ByteArray.mk l.toArray).extract k l.length = ⟨(l.drop k).toArray⟩ := by
  apply ByteArray.ext
  apply Array.toList_inj.1
  simp
  exact List.take_of_length_le (by simp)
theorem join_split : ∀ (l : List (List UInt8)) (k : Nat), l ≠ [] → (∀ s ∈ l, (10 : UInt8) ∉ s) → l.length ≤ k + 1 → Lib.splitB ⟨#[10]⟩ 0 k ⟨(joinL l).toArray⟩ = l.map fun s : List UInt8 => (ByteArray.mk s.toArray)
  | [], _, h, _, _ => absurd rfl h
  | [s], k, _, hs, _ => by
    have h1 := hs s (List.mem_singleton.2 rfl)
    rw [show joinL [s] = s by simp [joinL, lns]]
    refine (Lib.splitB_miss _ _ _ _ ?_).trans rfl
    unfold Lib.indexB
    rw [show (ByteArray.mk #[10]).data.toList = [10] from rfl, Lib.index_one]
    exact ixb_no 10 s h1
  | s :: t :: l, k, _, hs, hk => by
    obtain ⟨k', rfl⟩ : ∃ k', k = k' + 1 := ⟨k - 1, by simp at hk; omega⟩
    have h1 := hs s (List.mem_cons_self ..)
    have e1 : joinL (s :: t :: l) = s ++ 10 :: joinL (t :: l) := by rw [joinL, lns_cons]
    have ix : Lib.indexB ⟨(joinL (s :: t :: l)).toArray⟩ ⟨#[10]⟩ = (s.length : Int) := by
      unfold Lib.indexB
      rw [show (ByteArray.mk #[10]).data.toList = [10] from rfl, Lib.index_one, e1]
      exact ixb_at 10 _ s h1
    rw [Lib.splitB_hit _ _ _ _ s.length ix]
    have e2 : (ByteArray.mk (joinL (s :: t :: l)).toArray).extract (s.length + (ByteArray.mk #[(10 : UInt8)]).size) (ByteArray.mk (joinL (s :: t :: l)).toArray).size = ⟨(joinL (t :: l)).toArray⟩ := by
      rw [show (ByteArray.mk (joinL (s :: t :: l)).toArray).size = (joinL (s :: t :: l)).length from rfl, bx_drop, e1, show (ByteArray.mk #[(10 : UInt8)]).size = 1 from rfl]
      simp
    rw [e2, join_split (t :: l) k' (by simp) (fun x hx => hs x (List.mem_cons_of_mem _ hx)) (by simp at hk ⊢; omega)]
    rw [Nat.add_zero, bx_take, e1]
    simp
theorem gets_nil (s : List UInt8) : Stz.Sm.gets [] s = none := rfl
theorem gets_cons (f : Fd) (l : List Fd) (s : List UInt8) : Stz.Sm.gets (f :: l) s = if (Stz.Sm.small f.1 == Stz.Sm.small s) = true then some f.2 else Stz.Sm.gets l s := by
  unfold Stz.Sm.gets Stz.Sm.fnd
  rw [List.findIdx?_cons]
  split
  · simp
  · rw [Option.map_map]
    congr 1
theorem gets_no (r : List Fd) (s : List UInt8) (h : ∀ g ∈ r, (Stz.Sm.small g.1 == Stz.Sm.small s) = false) : Stz.Sm.gets r s = none := by
  induction r with
  | nil => rfl
  | cons g r ih =>
    rw [gets_cons, if_neg (by rw [h g (List.mem_cons_self ..)]; simp)]
    exact ih fun x hx => h x (List.mem_cons_of_mem _ hx)
theorem gets_kp : ∀ (L r : List Fd), (L.Pairwise fun f g => (Stz.Sm.small f.1 == Stz.Sm.small g.1) = false) → ∀ f ∈ L, (∀ g ∈ r, (Stz.Sm.small g.1 == Stz.Sm.small f.1) = false) → Stz.Sm.gets (L.flatMap kp ++ r) f.1 = if f.2 = [] then none else some f.2
  | [], _, _, f, hf, _ => by cases hf
  | g :: L, r, hp, f, hf, hr => by
    rw [List.pairwise_cons] at hp
    rw [List.flatMap_cons, List.append_assoc]
    rcases List.mem_cons.1 hf with rfl | hf'
    · unfold kp
      split
      · rw [List.nil_append]
        refine gets_no _ _ fun x hx => ?_
        rcases List.mem_append.1 hx with hx | hx
        · obtain ⟨y, hy, hx⟩ := List.mem_flatMap.1 hx
          have := hp.1 y hy
          split at hx
          · cases hx
          · rw [List.mem_singleton.1 hx, beq_eq_false_iff_ne]
            exact fun e => by rw [beq_eq_false_iff_ne] at this; exact this e.symm
        · exact hr x hx
      · rw [List.singleton_append, gets_cons, if_pos (by simp)]
    · have hgf := hp.1 f hf'
      have ih := gets_kp L r hp.2 f hf' hr
      unfold kp at ih ⊢
      split
      · rw [List.nil_append]; exact ih
      · rw [List.singleton_append, gets_cons, if_neg (by rw [hgf]; simp)]; exact ih
end Go.Proofs.YtfoangkkagijcaaGreatDoor
