/- The program's statuses: lists of texts, rightTask, rightList. -/
import Derived.Test.YtoojbpldhhbkbaaDoorHa
import Derived.Test.YtoojbpldhhbkbaaDoorTb
import Derived.Test.YtoojbpldhhbkbaaDoorPf
import Derived.Test.YtoojbpldhhbkbaaDoorSq
import Derived.Laws.Cover1
namespace Go.Proofs.YtoojbpldhhbkbaaDoor
open Go.RowKit Go.Shelf Go.Sort

/-- Texts in a row, a slice of them. -/
structure Sr (W : World) (b o : Nat) (l : List (List UInt8)) : Prop where
  lt : b < W.heap.size
  c : ∀ i (hi : i < l.length), W.cell? ⟨b, o + i, none⟩ = some (.string ⟨l[i].toArray⟩)
theorem Sr.on {W w' : World} {b o : Nat} {l : List (List UInt8)} (h : Sr W b o l) (k : Below W.heap.size W w') : Sr w' b o l :=
  ⟨Nat.lt_of_lt_of_le h.lt k.size, fun i hi => by rw [k.cell (p := ⟨b, _, none⟩) h.lt]; exact h.c i hi⟩
structure Ss (W : World) (v : Value) (l : List (List UInt8)) : Prop where
  is : (l = [] ∧ ∃ A c, v = .slice A 0 c) ∨ ∃ b o c, v = .slice (some ⟨b, o, none⟩) l.length c ∧ l.length ≤ c ∧ Sr W b o l
theorem Ss.on {W w' : World} {v : Value} {l : List (List UInt8)} (h : Ss W v l) (k : Below W.heap.size W w') : Ss w' v l := by
  rcases h.is with h | ⟨b, o, c, h1, h2, h3⟩
  · exact ⟨Or.inl h⟩
  · exact ⟨Or.inr ⟨b, o, c, h1, h2, h3.on k⟩⟩
theorem Ss.sl {W : World} {v : Value} {l : List (List UInt8)} (h : Ss W v l) : ∃ A c, v = .slice A l.length c := by
  rcases h.is with ⟨rfl, A, c, rfl⟩ | ⟨b, o, c, rfl, _, _⟩
  · exact ⟨A, c, rfl⟩
  · exact ⟨_, c, rfl⟩
def txs (l : List (List UInt8)) : Bool := decide (l.length ≤ 40) && l.all fun s => decide (s.length ≤ 100)
theorem all_t {α : Type} {p : α → Bool} {l : List α} (h : ∀ j (hj : j < l.length), p l[j] = true) : l.all p = true := by
  rw [List.all_eq_true]
  intro x hx
  obtain ⟨j, hj, rfl⟩ := List.getElem_of_mem hx
  exact h j hj
theorem all_f {α : Type} {p : α → Bool} {l : List α} (k : Nat) (hk : k < l.length) (h : p l[k] = false) : l.all p = false := by
  rw [Bool.eq_false_iff]
  intro h'
  rw [List.all_eq_true] at h'
  rw [h' _ (List.getElem_mem hk)] at h
  cases h
theorem ris_t : ∀ {l : List (List UInt8)}, (∀ j (hj : j + 1 < l.length), Op.bytesLess l[j] l[j + 1] = true) → ris l = true
  | [], _ => rfl
  | [_], _ => rfl
  | a :: b :: t, h => by
    unfold ris
    rw [show Op.bytesLess a b = true from h 0 (by simp), ris_t (l := b :: t) fun j hj => h (j + 1) (by simpa using hj)]
    rfl
theorem ris_f : ∀ {l : List (List UInt8)} (k : Nat) (hk : k + 1 < l.length), Op.bytesLess l[k] l[k + 1] = false → ris l = false
  | [], _, hk, _ => by simp at hk
  | [_], _, hk, _ => by simp at hk
  | a :: b :: t, 0, _, h => by unfold ris; rw [show Op.bytesLess a b = false from h]; rfl
  | a :: b :: t, k + 1, hk, h => by
    unfold ris
    rw [ris_f (l := b :: t) k (by simpa using hk) h]
    simp

theorem isst_any (n : Int) (w : World) : Calls Tryd.prog 18 #[.int .i64 n] w fun x w' => x = .returned (.bool (decide (0 ≤ n) && decide (n ≤ 7))) ∧ w' = w := by
  go_enter Tryd.func18, Tryd.ntmps18
  go_wp2
  all_goals go_ret
  all_goals exact ⟨ret_bool (by rw [Bool.eq_iff_iff]; simp; omega), rfl⟩
theorem mayh_any (n : Int) (k : Nat) (w : World) : Calls Tryd.prog 34 #[.int .i64 n, .int .i64 k] w fun x w' => x = .returned (.bool (mayT n k)) ∧ w' = w := by
  unfold mayT
  by_cases h6 : n = 6
  · subst h6
    go_enter Tryd.func34, Tryd.ntmps34
    go_wp2
    all_goals go_ret
    all_goals exact ⟨ret_bool (by simp), rfl⟩
  · by_cases h5 : n = 5
    · subst h5
      go_enter Tryd.func34, Tryd.ntmps34
      go_wp2
      all_goals go_ret
      all_goals exact ⟨ret_bool (by simp), rfl⟩
    · have e6 : (n == 6) = false := beq_eq_false_iff_ne.2 h6
      have e5 : (n == 5) = false := beq_eq_false_iff_ne.2 h5
      rw [if_neg h6, if_neg h5]
      clear h6 h5
      go_enter Tryd.func34, Tryd.ntmps34
      go_wp2
      all_goals go_ret
      all_goals exact ⟨ret_bool (by rw [Bool.eq_iff_iff, beq_iff_eq, decide_eq_true_eq]; omega), rfl⟩

theorem tk_no {l : List UInt8} (k : Nat) (hk : k < l.length) (h : tby l[k] = false) : false = tko l := by
  unfold tko; rw [← all_no k hk h]; simp
theorem tk_yes {l : List UInt8} (h1 : 1 ≤ l.length) (h2 : l.length ≤ 60) (h3 : (l == [45]) = false) (h : ∀ j (hj : j < l.length), tby l[j] = true) : true = tko l := by
  unfold tko; rw [← all_to h, h3]; simp; omega
theorem tk_short {l : List UInt8} (h : l.isEmpty = true) : false = tko l := by cases l with | nil => rfl | cons => cases h
theorem tk_long {l : List UInt8} (h : 60 < l.length) : false = tko l := by unfold tko; rw [decide_eq_false (show ¬ l.length ≤ 60 by omega)]; simp
theorem tk_dash {l : List UInt8} (h : (l == [45]) = true) : false = tko l := by unfold tko; rw [h]; simp
theorem rtask_short (l : List UInt8) (w : World) (h : l.isEmpty = true) : Calls Tryd.prog 33 #[.string ⟨l.toArray⟩] w fun e w' => e = .returned (.bool (tko l)) ∧ Below w.heap.size w w' := by
  have HR := Lib.hid (tk_short h)
  go_enter Tryd.func33, Tryd.ntmps33
  go_wp2
  go_ret
  exact ⟨ret_bool HR.out, Below.refl _ _⟩
theorem rtask_long (l : List UInt8) (w : World) (h0 : l.isEmpty = false) (h : 60 < l.length) : Calls Tryd.prog 33 #[.string ⟨l.toArray⟩] w fun e w' => e = .returned (.bool (tko l)) ∧ Below w.heap.size w w' := by
  have HR := Lib.hid (tk_long h)
  go_enter Tryd.func33, Tryd.ntmps33
  go_wp2
  go_ret
  exact ⟨ret_bool HR.out, Below.refl _ _⟩
theorem rtask_dash (l : List UInt8) (w : World) (h0 : l.isEmpty = false) (h1 : l.length ≤ 60) (h : (l == [45]) = true) : Calls Tryd.prog 33 #[.string ⟨l.toArray⟩] w fun e w' => e = .returned (.bool (tko l)) ∧ Below w.heap.size w w' := by
  have HR := Lib.hid (tk_dash h)
  go_enter Tryd.func33, Tryd.ntmps33
  go_wp2
  go_ret
  exact ⟨ret_bool HR.out, Below.refl _ _⟩
set_option maxHeartbeats 800000 in
theorem rtask_loop (l : List UInt8) (w : World) (h0 : l.isEmpty = false) (h2 : l.length ≤ 60) (h3 : (l == [45]) = false) : Calls Tryd.prog 33 #[.string ⟨l.toArray⟩] w fun e w' => e = .returned (.bool (tko l)) ∧ Below w.heap.size w w' := by
  have h1 : 1 ≤ l.length := by cases l with | nil => cases h0 | cons => simp
  obtain ⟨r, hr⟩ : ∃ r, r = tko l := ⟨_, rfl⟩
  have HY : Hid ((∀ j (hj : j < l.length), tby l[j] = true) → r = true) := fun h' => by rw [hr]; exact (tk_yes h1 h2 h3 h').symm
  have HN : Hid (∀ k (hk : k < l.length), tby l[k] = false → r = false) := fun k hk h' => by rw [hr]; exact (tk_no k hk h').symm
  rw [← hr]
  clear hr
  go_enter Tryd.func33, Tryd.ntmps33
  go_wp2
  go_loop [18] (fun i => ∃ k : Nat, k ≤ l.length ∧ i = .int .i64 k ∧ Hid (∀ j (hj : j < l.length), j < k → tby l[j] = true)) (fun i => l.length - (intOf i).toNat)
  case atStart => exact ⟨0, Nat.zero_le _, rfl, fun j _ h => absurd h (Nat.not_lt_zero _)⟩
  case round =>
    obtain ⟨k, hk, rfl, HP⟩ := hrel
    by_cases hlt : k < l.length
    · have HM : Hid (tby l[k] = true → ∀ j (hj : j < l.length), j < k + 1 → tby l[j] = true) := fun hc j hj h => by
        by_cases e : j = k
        · subst e; exact hc
        · exact HP.out j hj (by omega)
      have HN' := Lib.hid (HN.out k hlt)
      clear HN
      obtain ⟨x, hx⟩ : ∃ x, x = l[k] := ⟨_, rfl⟩
      have HX : Hid (tby x = true → tby l[k] = true) := fun h => by rw [← hx]; exact h
      have HX' : Hid (tby x = false → tby l[k] = false) := fun h => by rw [← hx]; exact h
      have hbx : ∀ (h : k < (ByteArray.mk l.toArray).size), (ByteArray.mk l.toArray)[k]'h = x := fun h => hx.symm
      clear hx
      by_cases a1 : (x.toNat : Int) < 33
      · have hr := HN'.out (HX'.out (by unfold tby; simp; omega))
        subst hr
        go_wp2
        go_ret
        exact ⟨rfl, Below.refl _ _⟩
      · by_cases a2 : 126 < (x.toNat : Int)
        · have hr := HN'.out (HX'.out (by unfold tby; simp; omega))
          subst hr
          go_wp2
          go_ret
          exact ⟨rfl, Below.refl _ _⟩
        · cases a3 : (x.toNat : Int) == 44 with
          | true =>
            have hr := HN'.out (HX'.out (by unfold tby; simp at a3 ⊢; omega))
            subst hr
            go_wp2
            go_ret
            exact ⟨rfl, Below.refl _ _⟩
          | false =>
            have hm := Lib.hid (HM.out (HX.out (by unfold tby; simp at a3 ⊢; omega)))
            go_wp2
            exact ⟨⟨k + 1, hlt, by go_num, hm.out⟩, by simp [intOf]; omega⟩
    · go_wp2
      go_ret
      exact ⟨ret_bool (HY.out (fun j hj => HP.out j hj (by omega))).symm, Below.refl _ _⟩
theorem rtask_any (l : List UInt8) (w : World) : Calls Tryd.prog 33 #[.string ⟨l.toArray⟩] w fun e w' => e = .returned (.bool (tko l)) ∧ Below w.heap.size w w' := by
  cases h0 : l.isEmpty with
  | true => exact rtask_short l w h0
  | false =>
    by_cases h1 : l.length ≤ 60
    · cases h2 : l == [45] with
      | true => exact rtask_dash l w h0 h1 h2
      | false => exact rtask_loop l w h0 h1 h2
    · exact rtask_long l w h0 (by omega)

/-- A test of a text, as a function: F tells p. -/
structure Tst (F : Nat) (p : List UInt8 → Bool) : Prop where
  out : ∀ (l : List UInt8) (w : World), Calls Tryd.prog F #[.string ⟨l.toArray⟩] w fun e w' => e = .returned (.bool (p l)) ∧ Below w.heap.size w w'
theorem lok_long {m : Nat} {p : List UInt8 → Bool} {l : List (List UInt8)} (h : m < l.length) : false = lok m p l := by unfold lok; rw [decide_eq_false (by omega)]; simp
theorem lok_all {m : Nat} {p : List UInt8 → Bool} {l : List (List UInt8)} (k : Nat) (hk : k < l.length) (h : p l[k] = false) : lok m p l = false := by unfold lok; rw [all_f k hk h]; simp
theorem lok_ris {m : Nat} {p : List UInt8 → Bool} {l : List (List UInt8)} (k : Nat) (hk : k + 1 < l.length) (h : Op.bytesLess l[k] l[k + 1] = false) : lok m p l = false := by unfold lok; rw [ris_f k hk h]; simp
theorem lok_yes {m : Nat} {p : List UInt8 → Bool} {l : List (List UInt8)} (h1 : l.length ≤ m) (h : ∀ j (hj : j < l.length), p l[j] = true) (h' : ∀ j (hj : j + 1 < l.length), Op.bytesLess l[j] l[j + 1] = true) : lok m p l = true := by
  unfold lok; rw [all_t h, ris_t h', decide_eq_true h1]; rfl
theorem rl_long (F : Nat) (m : Nat) (A : Option Addr) (n c : Nat) (w : World) (h : m < n) : Calls Tryd.prog 31 #[.slice A n c, .int .i64 m, .func (Fn.func F) #[] #[]] w fun e w' => e = .returned (.bool false) ∧ Below w.heap.size w w' := by
  have h' : (m : Int) < (n : Int) := by omega
  go_enter Tryd.func31, Tryd.ntmps31
  go_wp2
  go_ret
  exact ⟨rfl, Below.refl _ _⟩
theorem rl_nil (F : Nat) (m : Nat) (A : Option Addr) (c : Nat) (w : World) : Calls Tryd.prog 31 #[.slice A 0 c, .int .i64 m, .func (Fn.func F) #[] #[]] w fun e w' => e = .returned (.bool true) ∧ Below w.heap.size w w' := by
  have h' : (0 : Int) ≤ (m : Int) := by omega
  go_enter Tryd.func31, Tryd.ntmps31
  go_wp2
  refine wp_loop_rounds 1 ?_
  rw [rounds_succ]
  go_wp2
  go_ret
  exact ⟨rfl, Below.refl _ _⟩
set_option maxHeartbeats 1600000 in
theorem rl_row28 (m : Nat) (b o c : Nat) (l : List (List UInt8)) (w : World) (h : Sr w b o l) (hn : l.length ≤ m) (hm : m ≤ 1000) (p : List UInt8 → Bool) (hF : Tst 32 p) :
    Calls Tryd.prog 31 #[.slice (some ⟨b, o, none⟩) l.length c, .int .i64 m, .func (Fn.func 32) #[] #[]] w fun e w' => e = .returned (.bool (lok m p l)) ∧ Below w.heap.size w w' := by
  obtain ⟨r, hr⟩ : ∃ r, r = lok m p l := ⟨_, rfl⟩
  have HY : Hid ((∀ j (hj : j < l.length), p l[j] = true) → (∀ j (hj : j + 1 < l.length), Op.bytesLess l[j] l[j + 1] = true) → r = true) := fun h1 h2 => by rw [hr]; exact lok_yes hn h1 h2
  have HN : Hid (∀ k (hk : k < l.length), p l[k] = false → r = false) := fun k hk h' => by rw [hr]; exact lok_all k hk h'
  have HN2 : Hid (∀ k (hk : k + 1 < l.length), Op.bytesLess l[k] l[k + 1] = false → r = false) := fun k hk h' => by rw [hr]; exact lok_ris k hk h'
  rw [← hr]
  clear hr
  have h1 : (l.length : Int) ≤ (m : Int) := by omega
  have hm' : (m : Int) ≤ 1000 := by omega
  have HF := Lib.hid h
  clear h
  go_enter Tryd.func31, Tryd.ntmps31
  go_wp2
  rw [show decide (m < l.length) = false from decide_eq_false (by omega)]
  go_loopw [15] (fun i W => ∃ k : Nat, k ≤ l.length ∧ i = .int .i64 k ∧ Below w.heap.size w W ∧ Hid (Sr W b o l) ∧ Hid (∀ j (hj : j < l.length), j < k → p l[j] = true) ∧ Hid (∀ j (hj : j + 1 < l.length), j + 1 < k → Op.bytesLess l[j] l[j + 1] = true)) (fun i _ => l.length - (intOf i).toNat)
  case atStart => exact ⟨0, Nat.zero_le _, rfl, Below.refl _ _, HF, fun j _ h => absurd h (Nat.not_lt_zero _), fun j _ h => absurd h (Nat.not_lt_zero _)⟩
  case round =>
    obtain ⟨k, hk, rfl, hB, HS, HP, HQ⟩ := hrel
    by_cases hlt : k < l.length
    · have hc := HS.out.c k hlt
      have cT := hF.out l[k] wr
      obtain ⟨x, hx⟩ : ∃ x, x = l[k] := ⟨_, rfl⟩
      have HN' : Hid (p x = false → r = false) := fun h => HN.out k hlt (by rw [← hx]; exact h)
      have HM : Hid (p x = true → ∀ j (hj : j < l.length), j < k + 1 → p l[j] = true) := fun hq j hj h => by
        by_cases e : j = k
        · subst e; rw [← hx]; exact hq
        · exact HP.out j hj (by omega)
      have HX := Lib.hid hx
      rw [← hx] at hc cT
      clear HN hx
      cases hp : p x with
      | false =>
        have hr := HN'.out hp
        subst hr
        rw [hp] at cT
        clear hp HM HN' HX
        go_wp2_with (go_at_call 32; refine cT.mono ?_; rintro e w' ⟨rfl, b1⟩)
        go_ret
        exact ⟨rfl, bt2 hB b1⟩
      | true =>
        rw [hp] at cT
        by_cases hk0 : k = 0
        · have HK : Hid (∀ j (hj : j + 1 < l.length), j + 1 < k + 1 → Op.bytesLess l[j] l[j + 1] = true) := fun j _ h => by omega
          have hg : ¬ (0 : Int) < (k : Int) := by omega
          clear hk0
          have hm := Lib.hid (HM.out hp)
          clear hp HM HN' HX
          go_wp2_with (go_at_call 32; refine cT.mono ?_; rintro e w' ⟨rfl, b1⟩)
          exact ⟨⟨k + 1, hlt, by go_num, bt2 hB b1, HS.out.on b1, hm.out, HK.out⟩, by simp [intOf]; omega⟩
        · obtain ⟨j, rfl⟩ : ∃ j, k = j + 1 := ⟨k - 1, by omega⟩
          have hc2 := HS.out.c j (by omega)
          have hc3 : ∀ w', Below wr.heap.size wr w' → w'.cell? ⟨b, o + j, none⟩ = some (.string ⟨l[j].toArray⟩) := fun w' hb => (HS.out.on hb).c j (by omega)
          obtain ⟨y, hy⟩ : ∃ y, y = l[j] := ⟨_, rfl⟩
          have HN'' : Hid (Op.bytesLess y x = false → r = false) := fun h => HN2.out j hlt (by rw [← hy, ← HX.out]; exact h)
          have HK : Hid (Op.bytesLess y x = true → ∀ i (hi : i + 1 < l.length), i + 1 < j + 1 + 1 → Op.bytesLess l[i] l[i + 1] = true) := fun hq i hi h => by
            by_cases e : i = j
            · subst e; rw [← hy, ← HX.out]; exact hq
            · exact HQ.out i hi (by omega)
          rw [← hy] at hc2 hc3
          have hm := Lib.hid (HM.out hp)
          clear hp HM HN' HX hy HN2 hk0
          have hg : (0 : Int) < ((j + 1 : Nat) : Int) := by omega
          cases hz : Op.bytesLess y x with
          | true =>
            have hm2 := Lib.hid (HK.out hz)
            clear HK HN''
            go_wp2_with (go_at_call 32; refine cT.mono ?_; rintro e w' ⟨rfl, b1⟩; have hc4 := hc3 w' b1)
            exact ⟨⟨j + 1 + 1, hlt, by go_num, bt2 hB b1, HS.out.on b1, hm.out, hm2.out⟩, by simp [intOf]; omega⟩
          | false =>
            have hr := HN''.out hz
            subst hr
            clear HK HN''
            go_wp2_with (go_at_call 32; refine cT.mono ?_; rintro e w' ⟨rfl, b1⟩; have hc4 := hc3 w' b1)
            go_ret
            exact ⟨rfl, bt2 hB b1⟩
    · go_wp2
      go_ret
      exact ⟨ret_bool (HY.out (fun j hj => HP.out j hj (by omega)) (fun j hj => HQ.out j hj (by omega))).symm, hB⟩
set_option maxHeartbeats 1600000 in
theorem rl_row29 (m : Nat) (b o c : Nat) (l : List (List UInt8)) (w : World) (h : Sr w b o l) (hn : l.length ≤ m) (hm : m ≤ 1000) (p : List UInt8 → Bool) (hF : Tst 33 p) :
    Calls Tryd.prog 31 #[.slice (some ⟨b, o, none⟩) l.length c, .int .i64 m, .func (Fn.func 33) #[] #[]] w fun e w' => e = .returned (.bool (lok m p l)) ∧ Below w.heap.size w w' := by
  obtain ⟨r, hr⟩ : ∃ r, r = lok m p l := ⟨_, rfl⟩
  have HY : Hid ((∀ j (hj : j < l.length), p l[j] = true) → (∀ j (hj : j + 1 < l.length), Op.bytesLess l[j] l[j + 1] = true) → r = true) := fun h1 h2 => by rw [hr]; exact lok_yes hn h1 h2
  have HN : Hid (∀ k (hk : k < l.length), p l[k] = false → r = false) := fun k hk h' => by rw [hr]; exact lok_all k hk h'
  have HN2 : Hid (∀ k (hk : k + 1 < l.length), Op.bytesLess l[k] l[k + 1] = false → r = false) := fun k hk h' => by rw [hr]; exact lok_ris k hk h'
  rw [← hr]
  clear hr
  have h1 : (l.length : Int) ≤ (m : Int) := by omega
  have hm' : (m : Int) ≤ 1000 := by omega
  have HF := Lib.hid h
  clear h
  go_enter Tryd.func31, Tryd.ntmps31
  go_wp2
  rw [show decide (m < l.length) = false from decide_eq_false (by omega)]
  go_loopw [15] (fun i W => ∃ k : Nat, k ≤ l.length ∧ i = .int .i64 k ∧ Below w.heap.size w W ∧ Hid (Sr W b o l) ∧ Hid (∀ j (hj : j < l.length), j < k → p l[j] = true) ∧ Hid (∀ j (hj : j + 1 < l.length), j + 1 < k → Op.bytesLess l[j] l[j + 1] = true)) (fun i _ => l.length - (intOf i).toNat)
  case atStart => exact ⟨0, Nat.zero_le _, rfl, Below.refl _ _, HF, fun j _ h => absurd h (Nat.not_lt_zero _), fun j _ h => absurd h (Nat.not_lt_zero _)⟩
  case round =>
    obtain ⟨k, hk, rfl, hB, HS, HP, HQ⟩ := hrel
    by_cases hlt : k < l.length
    · have hc := HS.out.c k hlt
      have cT := hF.out l[k] wr
      obtain ⟨x, hx⟩ : ∃ x, x = l[k] := ⟨_, rfl⟩
      have HN' : Hid (p x = false → r = false) := fun h => HN.out k hlt (by rw [← hx]; exact h)
      have HM : Hid (p x = true → ∀ j (hj : j < l.length), j < k + 1 → p l[j] = true) := fun hq j hj h => by
        by_cases e : j = k
        · subst e; rw [← hx]; exact hq
        · exact HP.out j hj (by omega)
      have HX := Lib.hid hx
      rw [← hx] at hc cT
      clear HN hx
      cases hp : p x with
      | false =>
        have hr := HN'.out hp
        subst hr
        rw [hp] at cT
        clear hp HM HN' HX
        go_wp2_with (go_at_call 33; refine cT.mono ?_; rintro e w' ⟨rfl, b1⟩)
        go_ret
        exact ⟨rfl, bt2 hB b1⟩
      | true =>
        rw [hp] at cT
        by_cases hk0 : k = 0
        · have HK : Hid (∀ j (hj : j + 1 < l.length), j + 1 < k + 1 → Op.bytesLess l[j] l[j + 1] = true) := fun j _ h => by omega
          have hg : ¬ (0 : Int) < (k : Int) := by omega
          clear hk0
          have hm := Lib.hid (HM.out hp)
          clear hp HM HN' HX
          go_wp2_with (go_at_call 33; refine cT.mono ?_; rintro e w' ⟨rfl, b1⟩)
          exact ⟨⟨k + 1, hlt, by go_num, bt2 hB b1, HS.out.on b1, hm.out, HK.out⟩, by simp [intOf]; omega⟩
        · obtain ⟨j, rfl⟩ : ∃ j, k = j + 1 := ⟨k - 1, by omega⟩
          have hc2 := HS.out.c j (by omega)
          have hc3 : ∀ w', Below wr.heap.size wr w' → w'.cell? ⟨b, o + j, none⟩ = some (.string ⟨l[j].toArray⟩) := fun w' hb => (HS.out.on hb).c j (by omega)
          obtain ⟨y, hy⟩ : ∃ y, y = l[j] := ⟨_, rfl⟩
          have HN'' : Hid (Op.bytesLess y x = false → r = false) := fun h => HN2.out j hlt (by rw [← hy, ← HX.out]; exact h)
          have HK : Hid (Op.bytesLess y x = true → ∀ i (hi : i + 1 < l.length), i + 1 < j + 1 + 1 → Op.bytesLess l[i] l[i + 1] = true) := fun hq i hi h => by
            by_cases e : i = j
            · subst e; rw [← hy, ← HX.out]; exact hq
            · exact HQ.out i hi (by omega)
          rw [← hy] at hc2 hc3
          have hm := Lib.hid (HM.out hp)
          clear hp HM HN' HX hy HN2 hk0
          have hg : (0 : Int) < ((j + 1 : Nat) : Int) := by omega
          cases hz : Op.bytesLess y x with
          | true =>
            have hm2 := Lib.hid (HK.out hz)
            clear HK HN''
            go_wp2_with (go_at_call 33; refine cT.mono ?_; rintro e w' ⟨rfl, b1⟩; have hc4 := hc3 w' b1)
            exact ⟨⟨j + 1 + 1, hlt, by go_num, bt2 hB b1, HS.out.on b1, hm.out, hm2.out⟩, by simp [intOf]; omega⟩
          | false =>
            have hr := HN''.out hz
            subst hr
            clear HK HN''
            go_wp2_with (go_at_call 33; refine cT.mono ?_; rintro e w' ⟨rfl, b1⟩; have hc4 := hc3 w' b1)
            go_ret
            exact ⟨rfl, bt2 hB b1⟩
    · go_wp2
      go_ret
      exact ⟨ret_bool (HY.out (fun j hj => HP.out j hj (by omega)) (fun j hj => HQ.out j hj (by omega))).symm, hB⟩
theorem rl28_any (m : Nat) (hm : m ≤ 1000) (v : Value) (l : List (List UInt8)) (w : World) (h : Ss w v l) : Calls Tryd.prog 31 #[v, .int .i64 m, .func (Fn.func 32) #[] #[]] w fun e w' => e = .returned (.bool (lok m nmo l)) ∧ Below w.heap.size w w' := by
  rcases h.is with ⟨rfl, A, c, rfl⟩ | ⟨b, o, c, rfl, _, hs⟩
  · exact (rl_nil 32 m A c w).mono fun _ _ h => ⟨by rw [h.1]; simp [lok, ris], h.2⟩
  · by_cases hl : l.length ≤ m
    · exact rl_row28 m b o c l w hs hl hm nmo ⟨fun l w => name_any l w⟩
    · exact (rl_long 32 m _ _ c w (by omega)).mono fun _ _ h => ⟨by rw [h.1, lok_long (p := nmo) (show m < l.length by omega)], h.2⟩
theorem rl29_any (m : Nat) (hm : m ≤ 1000) (v : Value) (l : List (List UInt8)) (w : World) (h : Ss w v l) : Calls Tryd.prog 31 #[v, .int .i64 m, .func (Fn.func 33) #[] #[]] w fun e w' => e = .returned (.bool (lok m tko l)) ∧ Below w.heap.size w w' := by
  rcases h.is with ⟨rfl, A, c, rfl⟩ | ⟨b, o, c, rfl, _, hs⟩
  · exact (rl_nil 33 m A c w).mono fun _ _ h => ⟨by rw [h.1]; simp [lok, ris], h.2⟩
  · by_cases hl : l.length ≤ m
    · exact rl_row29 m b o c l w hs hl hm tko ⟨fun l w => rtask_any l w⟩
    · exact (rl_long 33 m _ _ c w (by omega)).mono fun _ _ h => ⟨by rw [h.1, lok_long (p := tko) (show m < l.length by omega)], h.2⟩
end Go.Proofs.YtoojbpldhhbkbaaDoor
