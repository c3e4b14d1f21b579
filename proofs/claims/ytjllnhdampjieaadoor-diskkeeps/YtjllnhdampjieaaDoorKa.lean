/- The keeper's pick; what it does to a disk, as mathematics. -/
import Derived.Test.YtjllnhdampjieaaDoorMk
namespace Go.Proofs.YtjllnhdampjieaaDoor
open Go.RowKit Go.Sort Go.Maps

theorem ret_int {k : IntKind} {a b : Int} (h : a = b) : Ending.returned (.int k a) = .returned (.int k b) := by rw [h]
theorem w64 (n : Int) (h0 : -9223372036854775808 ≤ n) (h1 : n ≤ 9223372036854775807) : wrap64 n = n := by
  unfold wrap64; omega
theorem u64_pos (a : Int) : 0 ≤ IntKind.u64.wrap a := by
  have e : IntKind.u64.wrap a = a % 18446744073709551616 := by unfold IntKind.wrap; rfl
  rw [e]; omega
def pk (a n : Int) : Nat := ((IntKind.u64.wrap a).tmod n).toNat
theorem pk_lt (a n : Int) (hn : 0 < n) : (pk a n : Int) < n := by
  unfold pk
  rw [Int.tmod_eq_emod_of_nonneg (u64_pos a)]
  have h1 := Int.emod_nonneg (IntKind.u64.wrap a) (show n ≠ 0 by omega)
  have h2 := Int.emod_lt_of_pos (IntKind.u64.wrap a) hn
  omega
theorem pk_eq (a n : Int) (hn : 0 < n) : (IntKind.u64.wrap a).tmod n = (pk a n : Int) := by
  unfold pk
  rw [Int.tmod_eq_emod_of_nonneg (u64_pos a)]
  have h1 := Int.emod_nonneg (IntKind.u64.wrap a) (show n ≠ 0 by omega)
  omega
set_option maxRecDepth 100000 in
theorem pick_any (a n : Int) (hn : n = 6 ∨ n = 20 ∨ n = 25) (w : World) : Calls Tryd.prog 27 #[.int .i64 a, .int .i64 n] w fun e w' => e = .returned (.int .i64 (pk a n : Nat)) ∧ w' = w := by
  have he := pk_eq a n (by omega)
  have hk := pk_lt a n (by omega)
  have HE := Lib.hid he
  clear he
  rcases hn with rfl | rfl | rfl
  · go_enter Tryd.func27, Tryd.ntmps27
    go_wp2
    go_ret
    exact ⟨ret_int (by rw [HE.out, w64 _ (by omega) (by omega)]), rfl⟩
  · go_enter Tryd.func27, Tryd.ntmps27
    go_wp2
    go_ret
    exact ⟨ret_int (by rw [HE.out, w64 _ (by omega) (by omega)]), rfl⟩
  · go_enter Tryd.func27, Tryd.ntmps27
    go_wp2
    go_ret
    exact ⟨ret_int (by rw [HE.out, w64 _ (by omega) (by omega)]), rfl⟩

/-- A letter: what is picked, behind 'a'. -/
def ltr (a : Int) : UInt8 := UInt8.ofNat (97 + pk a 6)
theorem ltr_nat (a : Int) : (ltr a).toNat = 97 + pk a 6 := by
  have := pk_lt a 6 (by omega)
  unfold ltr
  rw [UInt8.toNat_ofNat']
  omega
/-- An act of the keeper's. -/
structure Kc where
  t : Int
  f : Int
  o : Int
  n : Int
  deriving Inhabited
def kwr (x : Kc) : List UInt8 := List.replicate (pk x.n 20) (ltr x.o)
def kst (L : Kv Ent) (e : Bool) (c : Int) (x : Kc) : Kv Ent :=
  if x.t = 0 then wL L e c false 0 [ltr x.f] (kwr x) else if x.t = 1 then sL L e c [ltr x.f] else if x.t = 2 then mL L e c [ltr x.f] [ltr x.o] else if x.t = 3 then rL L e c [ltr x.f] else L
def kal (L : Kv Ent) (e : Bool) (c : Int) (l : List Kc) : Kv Ent := l.foldl (fun L x => kst L e c x) L
/-- A text of letters, at most nineteen. -/
structure Lt (s : List UInt8) : Prop where
  len : s.length ≤ 19
  ch : ∀ x ∈ s, 97 ≤ x.toNat ∧ x.toNat < 103
/-- Files of the keeper's. -/
structure Kok (L : Kv Ent) : Prop where
  srt : Srt L
  is : ∀ k a, lkL k L = some a → (∃ x : UInt8, k = [x] ∧ 97 ≤ x.toNat ∧ x.toNat < 103) ∧ Lt a.now ∧ ∀ s, a.sf = some s → Lt s
theorem lt_nil : Lt [] := ⟨by simp, fun _ h => by simp at h⟩
theorem ltr_ok (a : Int) : 97 ≤ (ltr a).toNat ∧ (ltr a).toNat < 103 := by
  have := pk_lt a 6 (by omega)
  rw [ltr_nat]; omega
theorem lt_kwr (x : Kc) : Lt (kwr x) := by
  have := pk_lt x.n 20 (by omega)
  refine ⟨by unfold kwr; rw [List.length_replicate]; omega, fun y hy => ?_⟩
  rw [List.eq_of_mem_replicate hy]
  exact ltr_ok _
theorem Kok.nil : Kok [] := ⟨Srt.nil, fun k a h => by cases h⟩
theorem Kok.put {L : Kv Ent} (h : Kok L) {x : UInt8} (hx : 97 ≤ x.toNat ∧ x.toNat < 103) {a : Ent} (ha : Lt a.now ∧ ∀ s, a.sf = some s → Lt s) : Kok (putL [x] a L) := by
  refine ⟨h.srt.put _ _, fun k b hb => ?_⟩
  by_cases e : k = [x]
  · subst e
    rw [lk_put_same h.srt] at hb
    cases hb
    exact ⟨⟨x, rfl, hx⟩, ha⟩
  · rw [lk_put_other h.srt e] at hb
    exact h.is k b hb
theorem Kok.del {L : Kv Ent} (h : Kok L) (k : List UInt8) : Kok (delL k L) := by
  refine ⟨h.srt.del _, fun k' b hb => ?_⟩
  by_cases e : k' = k
  · subst e
    rw [lk_del_same] at hb
    cases hb
  · rw [lk_del_other h.srt e] at hb
    exact h.is k' b hb
theorem Kok.ent {L : Kv Ent} (h : Kok L) (k : List UInt8) : Lt (ent k L).now ∧ ∀ s, (ent k L).sf = some s → Lt s := by
  unfold Proofs.YtjllnhdampjieaaDoor.ent
  cases hl : lkL k L with
  | none => exact ⟨lt_nil, fun s hs => by simp [zent] at hs⟩
  | some a => exact (h.is k a hl).2
theorem Kok.st {L : Kv Ent} (h : Kok L) (e : Bool) (c : Int) (x : Kc) : Kok (kst L e c x) := by
  unfold kst
  split
  · unfold wL
    split
    · exact h.put (ltr_ok _) ⟨lt_kwr x, (h.ent _).2⟩
    · exact h
  split
  · unfold sL
    split
    · exact h.put (ltr_ok _) ⟨(h.ent _).1, fun s hs => by cases hs; exact (h.ent _).1⟩
    · exact h
  split
  · unfold mL
    split
    · exact (h.del _).put (ltr_ok _) (h.ent _)
    · exact h
  split
  · unfold rL
    split
    · exact h.del _
    · exact h
  · exact h
theorem Kok.al {e : Bool} {c : Int} : ∀ {l : List Kc} {L : Kv Ent}, Kok L → Kok (kal L e c l)
  | [], _, h => h
  | x :: l, _, h => Kok.al (l := l) (h.st e c x)
theorem kal_take (L : Kv Ent) (e : Bool) (c : Int) (l : List Kc) (i : Nat) (hi : i < l.length) : kal L e c (l.take (i + 1)) = kst (kal L e c (l.take i)) e c l[i] := by
  unfold kal
  rw [List.take_succ_eq_append_getElem hi, List.foldl_append]
  rfl
/-- Without power nothing is done. -/
theorem kst_off (L : Kv Ent) (x : Kc) : kst L true 0 x = L := by
  have hp : pwr true 0 = false := rfl
  unfold kst wL sL mL rL
  simp [hp]
theorem kal_off (L : Kv Ent) : ∀ l : List Kc, kal L true 0 l = L
  | [] => rfl
  | x :: l => by
    have := kal_off L l
    unfold kal at this ⊢
    rw [List.foldl_cons, kst_off]
    exact this
/-- Six letters: at most six files. -/
theorem Kok.keys {L : Kv Ent} (h : Kok L) : ∀ k ∈ L.map (·.1), k ∈ [[97], [98], [99], [100], [101], [(102 : UInt8)]] := fun k hk => by
  obtain ⟨p, hp, rfl⟩ := List.mem_map.1 hk
  obtain ⟨⟨x, e, h1, h2⟩, _⟩ := h.is p.1 p.2 ((lk_iff h.srt).2 hp)
  rw [e]
  have : x = UInt8.ofNat x.toNat := by simp
  rw [this]
  have h3 : x.toNat = 97 ∨ x.toNat = 98 ∨ x.toNat = 99 ∨ x.toNat = 100 ∨ x.toNat = 101 ∨ x.toNat = 102 := by omega
  rcases h3 with h3 | h3 | h3 | h3 | h3 | h3 <;> rw [h3] <;> decide
theorem before_irr (a : List UInt8) : bytesBefore a a = false := by
  induction a with
  | nil => rfl
  | cons x a ih => simp [bytesBefore, ih]
theorem Srt.nodup {L : Kv Ent} (h : Srt L) : (L.map (·.1)).Nodup := by
  unfold List.Nodup
  rw [List.pairwise_map]
  exact h.imp fun {p q} hpq e => by
    rw [e, before_irr] at hpq
    cases hpq
theorem len_sub {α : Type} [BEq α] [LawfulBEq α] : ∀ {l m : List α}, l.Nodup → (∀ x ∈ l, x ∈ m) → l.length ≤ m.length
  | [], _, _, _ => Nat.zero_le _
  | x :: l, m, hn, hs => by
    have hx := hs x (List.mem_cons_self ..)
    have h1 := len_sub (l := l) (m := m.erase x) (List.nodup_cons.1 hn).2 fun y hy => (List.mem_erase_of_ne (a := y) (b := x) (fun e => (List.nodup_cons.1 hn).1 (by rw [← e]; exact hy))).2 (hs y (List.mem_cons_of_mem _ hy))
    rw [List.length_erase_of_mem hx] at h1
    have : 0 < m.length := List.length_pos_of_mem hx
    simp only [List.length_cons]; omega
theorem Kok.len {L : Kv Ent} (h : Kok L) : L.length ≤ 6 := by
  have h1 := h.srt.nodup
  have h2 : (L.map (·.1)).length ≤ 6 := len_sub h1 h.keys
  rwa [List.length_map] at h2
theorem Kok.bn {L : Kv Ent} (h : Kok L) : Bn 19 L := ⟨fun k a ha => by
  obtain ⟨_, h1, h2⟩ := h.is k a ha
  refine ⟨h1.len, ?_⟩
  cases hs : a.sf with
  | none => simp
  | some s => exact (h2 s hs).len⟩
theorem Kok.tot {L : Kv Ent} (h : Kok L) : tot nl L ≤ 114 := by
  have h1 := bn_tot h.bn h.srt
  have h2 := h.len
  have : L.length * 19 ≤ 6 * 19 := Nat.mul_le_mul h2 (Nat.le_refl _)
  omega
end Go.Proofs.YtjllnhdampjieaaDoor
