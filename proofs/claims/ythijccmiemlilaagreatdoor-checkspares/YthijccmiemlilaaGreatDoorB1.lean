/- Numbers in memory; IndexFunc, ContainsFunc. -/
import Derived.Test.YthijccmiemlilaaGreatDoorA9
import Derived.Deep.AppendLies
import Derived.Lib.SmallJoins
namespace Go.Proofs.YthijccmiemlilaaGreatDoor.Ord
open Go.RowKit Go.Sort

/-- Numbers in a row. -/
structure Ir (W : World) (b o : Nat) (l : List Nat) : Prop where
  lt : b < W.heap.size
  c : ∀ i (hi : i < l.length), W.cell? ⟨b, o + i, none⟩ = some (.int .i64 l[i])
theorem Ir.on {W W' : World} {b o : Nat} {l : List Nat} (h : Ir W b o l) (k : Below W.heap.size W W') : Ir W' b o l :=
  ⟨Nat.lt_of_lt_of_le h.lt k.size, fun i hi => (k.cell h.lt).trans (h.c i hi)⟩
theorem Ir.kp {W W' : World} {b o : Nat} {l : List Nat} {S : Nat → Prop} (h : Ir W b o l) (k : Kp S W W') (hs : ¬ S b) : Ir W' b o l :=
  ⟨Nat.lt_of_lt_of_le h.lt k.size, fun i hi => (World.cell?_of_block (w := W) (k.block b h.lt hs)).trans (h.c i hi)⟩
structure Is (W : World) (v : Value) (l : List Nat) : Prop where
  is : (l = [] ∧ ∃ A c, v = .slice A 0 c) ∨ ∃ b o c, v = .slice (some ⟨b, o, none⟩) l.length c ∧ l.length ≤ c ∧ Ir W b o l
theorem Is.on {W W' : World} {v : Value} {l : List Nat} (h : Is W v l) (k : Below W.heap.size W W') : Is W' v l :=
  ⟨h.is.imp id fun ⟨b, o, c, h1, h2, h3⟩ => ⟨b, o, c, h1, h2, h3.on k⟩⟩
theorem is_len {W : World} {v : Value} {l : List Nat} (h : Is W v l) : ∃ A c, v = .slice A l.length c := by
  rcases h.is with ⟨rfl, A, c, rfl⟩ | ⟨b, o, c, rfl, _⟩
  · exact ⟨A, c, rfl⟩
  · exact ⟨_, c, rfl⟩
theorem is_row {W : World} {A : Option Addr} {n c : Nat} {l : List Nat} (h : Is W (.slice A n c) l) (h0 : 0 < l.length) : ∃ b o, A = some ⟨b, o, none⟩ ∧ Ir W b o l := by
  rcases h.is with ⟨rfl, _⟩ | ⟨b, o, c', h1, _, h3⟩
  · simp at h0
  · cases h1; exact ⟨b, o, rfl, h3⟩
def fx : Option Nat → Int
  | none => -1
  | some k => k
theorem fi_yes {α : Type} {q : α → Bool} {l : List α} (k : Nat) (hk : k < l.length) (h : q l[k] = true) (h0 : ∀ j (hj : j < l.length), j < k → q l[j] = false) : l.findIdx? q = some k := by
  rw [List.findIdx?_eq_some_iff_getElem]
  exact ⟨hk, h, fun j hj => by rw [h0 j (by omega) hj]; simp⟩
theorem fi_no {α : Type} {q : α → Bool} {l : List α} (h : ∀ j (hj : j < l.length), q l[j] = false) : l.findIdx? q = none := by
  rw [List.findIdx?_eq_none_iff]
  intro x hx
  obtain ⟨j, hj, rfl⟩ := List.getElem_of_mem hx
  exact h j hj
theorem fx_any {α : Type} (q : α → Bool) (l : List α) : decide (0 ≤ fx (l.findIdx? q)) = l.any q := by
  cases h : l.findIdx? q with
  | none =>
    rw [List.findIdx?_eq_none_iff] at h
    have : l.any q = false := by rw [List.any_eq_false]; intro x hx; rw [h x hx]; simp
    rw [this]; rfl
  | some k =>
    rw [List.findIdx?_eq_some_iff_getElem] at h
    obtain ⟨hk, hq, _⟩ := h
    have : l.any q = true := by rw [List.any_eq_true]; exact ⟨_, List.getElem_mem hk, hq⟩
    rw [this]; simp [fx]
theorem reti {a b : Int} (h : a = b) : Ending.returned (.int .i64 a) = .returned (.int .i64 b) := by rw [h]
theorem retb {a b : Bool} (h : a = b) : Ending.returned (.bool a) = .returned (.bool b) := by rw [h]
set_option maxHeartbeats 1600000 in
set_option maxRecDepth 100000 in
theorem idx_row23 (p0 p1 : Value) (b o c : Nat) (l : List Nat) (q : Nat → Bool) (w : World) (h : Ir w b o l) (hn : l.length ≤ 1000000) (hq : ∀ i (hi : i < l.length) W, Below w.heap.size w W → Calls Tryz.prog 110 #[.int .i64 l[i], p0, p1] W fun e w' => e = .returned (.bool (q l[i])) ∧ Below W.heap.size W w') :
    Calls Tryz.prog 116 #[.slice (some ⟨b, o, none⟩) l.length c, .func (Fn.func 110) #[] #[p0, p1]] w fun e w' => e = .returned (.int .i64 (fx (l.findIdx? q))) ∧ Below w.heap.size w w' := by
  obtain ⟨r, hr⟩ : ∃ r, r = fx (l.findIdx? q) := ⟨_, rfl⟩
  have HR := Lib.hid hr
  rw [← hr]
  clear hr
  have HQ := Lib.hid hq
  have HF := Lib.hid h
  clear hq h
  go_enter Tryz.func116, Tryz.ntmps116
  go_wp2
  go_loopw [8] (fun i W => ∃ k : Nat, k ≤ l.length ∧ i = .int .i64 k ∧ Below w.heap.size w W ∧ Hid (∀ j (hj : j < l.length), j < k → q l[j] = false)) (fun i _ => l.length - (intOf i).toNat)
  case atStart => exact ⟨0, Nat.zero_le _, rfl, Below.refl _ _, fun j _ h => absurd h (Nat.not_lt_zero _)⟩
  case round =>
    obtain ⟨k, hk, rfl, hW, HP⟩ := hrel
    by_cases hlt : k < l.length
    · have c0 := (HF.out.on hW).c k hlt
      have cC := HQ.out k hlt wr hW
      cases hq : q l[k] with
      | true =>
        rw [hq] at cC
        have HG : Hid (r = k) := by show r = _; rw [HR.out, fi_yes k hlt hq (fun j hj h => HP.out j hj h)]; rfl
        go_wp2_with fail
        refine cC.mono ?_
        rintro e w1 ⟨rfl, b1⟩
        go_wp2_with fail
        go_ret
        exact ⟨reti HG.out.symm, bon hW b1⟩
      | false =>
        rw [hq] at cC
        have HN : Hid (∀ j (hj : j < l.length), j < k + 1 → q l[j] = false) := fun j hj h => by
          by_cases e : j = k
          · subst e; exact hq
          · exact HP.out j hj (by omega)
        go_wp2_with fail
        refine cC.mono ?_
        rintro e w1 ⟨rfl, b1⟩
        go_wp2_with fail
        exact ⟨⟨k + 1, hlt, by go_num, bon hW b1, HN⟩, by simp [intOf]; omega⟩
    · go_wp2
      go_ret
      exact ⟨reti (by rw [HR.out, fi_no (fun j hj => HP.out j hj (by omega))]; rfl), hW⟩
theorem idx_nil23 (p0 p1 : Value) (A : Option Addr) (c : Nat) (w : World) : Calls Tryz.prog 116 #[.slice A 0 c, .func (Fn.func 110) #[] #[p0, p1]] w fun e w' => e = .returned (.int .i64 (-1)) ∧ w' = w := by
  go_enter Tryz.func116, Tryz.ntmps116
  go_wp2
  refine wp_loop_rounds 1 ?_
  rw [rounds_succ]
  go_wp2
  go_ret
  exact ⟨rfl, rfl⟩
theorem idx_any23 (p0 p1 : Value) (v : Value) (l : List Nat) (q : Nat → Bool) (w : World) (h : Is w v l) (hn : l.length ≤ 1000000) (hq : ∀ i (hi : i < l.length) W, Below w.heap.size w W → Calls Tryz.prog 110 #[.int .i64 l[i], p0, p1] W fun e w' => e = .returned (.bool (q l[i])) ∧ Below W.heap.size W w') :
    Calls Tryz.prog 116 #[v, .func (Fn.func 110) #[] #[p0, p1]] w fun e w' => e = .returned (.int .i64 (fx (l.findIdx? q))) ∧ Below w.heap.size w w' := by
  rcases h.is with ⟨rfl, A, c, rfl⟩ | ⟨b, o, c, rfl, hc, hf⟩
  · exact (idx_nil23 p0 p1 A c w).mono fun x w' ⟨h1, h2⟩ => ⟨h1, by rw [h2]; exact Below.refl _ _⟩
  · exact idx_row23 p0 p1 b o c l q w hf hn hq
theorem con_any23 (p0 p1 : Value) (v : Value) (l : List Nat) (q : Nat → Bool) (w : World) (h : Is w v l) (hn : l.length ≤ 1000000) (hq : ∀ i (hi : i < l.length) W, Below w.heap.size w W → Calls Tryz.prog 110 #[.int .i64 l[i], p0, p1] W fun e w' => e = .returned (.bool (q l[i])) ∧ Below W.heap.size W w') :
    Calls Tryz.prog 109 #[v, .func (Fn.func 110) #[] #[p0, p1]] w fun e w' => e = .returned (.bool (l.any q)) ∧ Below w.heap.size w w' := by
  have cI := idx_any23 p0 p1 v l q w h hn hq
  have HE := Lib.hid (fx_any q l)
  generalize fx (l.findIdx? q) = z at cI HE
  clear hq h
  go_enter Tryz.func109, Tryz.ntmps109
  go_wp2_with fail
  refine cI.mono ?_
  rintro e w1 ⟨rfl, b1⟩
  go_wp2
  all_goals go_ret
  all_goals exact ⟨retb (by rw [← HE.out]), b1⟩
set_option maxHeartbeats 1600000 in
set_option maxRecDepth 100000 in
theorem idx_row29 (p0 p1 : Value) (b o c : Nat) (l : List Nat) (q : Nat → Bool) (w : World) (h : Ir w b o l) (hn : l.length ≤ 1000000) (hq : ∀ i (hi : i < l.length) W, Below w.heap.size w W → Calls Tryz.prog 115 #[.int .i64 l[i], p0, p1] W fun e w' => e = .returned (.bool (q l[i])) ∧ Below W.heap.size W w') :
    Calls Tryz.prog 116 #[.slice (some ⟨b, o, none⟩) l.length c, .func (Fn.func 115) #[] #[p0, p1]] w fun e w' => e = .returned (.int .i64 (fx (l.findIdx? q))) ∧ Below w.heap.size w w' := by
  obtain ⟨r, hr⟩ : ∃ r, r = fx (l.findIdx? q) := ⟨_, rfl⟩
  have HR := Lib.hid hr
  rw [← hr]
  clear hr
  have HQ := Lib.hid hq
  have HF := Lib.hid h
  clear hq h
  go_enter Tryz.func116, Tryz.ntmps116
  go_wp2
  go_loopw [8] (fun i W => ∃ k : Nat, k ≤ l.length ∧ i = .int .i64 k ∧ Below w.heap.size w W ∧ Hid (∀ j (hj : j < l.length), j < k → q l[j] = false)) (fun i _ => l.length - (intOf i).toNat)
  case atStart => exact ⟨0, Nat.zero_le _, rfl, Below.refl _ _, fun j _ h => absurd h (Nat.not_lt_zero _)⟩
  case round =>
    obtain ⟨k, hk, rfl, hW, HP⟩ := hrel
    by_cases hlt : k < l.length
    · have c0 := (HF.out.on hW).c k hlt
      have cC := HQ.out k hlt wr hW
      cases hq : q l[k] with
      | true =>
        rw [hq] at cC
        have HG : Hid (r = k) := by show r = _; rw [HR.out, fi_yes k hlt hq (fun j hj h => HP.out j hj h)]; rfl
        go_wp2_with fail
        refine cC.mono ?_
        rintro e w1 ⟨rfl, b1⟩
        go_wp2_with fail
        go_ret
        exact ⟨reti HG.out.symm, bon hW b1⟩
      | false =>
        rw [hq] at cC
        have HN : Hid (∀ j (hj : j < l.length), j < k + 1 → q l[j] = false) := fun j hj h => by
          by_cases e : j = k
          · subst e; exact hq
          · exact HP.out j hj (by omega)
        go_wp2_with fail
        refine cC.mono ?_
        rintro e w1 ⟨rfl, b1⟩
        go_wp2_with fail
        exact ⟨⟨k + 1, hlt, by go_num, bon hW b1, HN⟩, by simp [intOf]; omega⟩
    · go_wp2
      go_ret
      exact ⟨reti (by rw [HR.out, fi_no (fun j hj => HP.out j hj (by omega))]; rfl), hW⟩
theorem idx_nil29 (p0 p1 : Value) (A : Option Addr) (c : Nat) (w : World) : Calls Tryz.prog 116 #[.slice A 0 c, .func (Fn.func 115) #[] #[p0, p1]] w fun e w' => e = .returned (.int .i64 (-1)) ∧ w' = w := by
  go_enter Tryz.func116, Tryz.ntmps116
  go_wp2
  refine wp_loop_rounds 1 ?_
  rw [rounds_succ]
  go_wp2
  go_ret
  exact ⟨rfl, rfl⟩
theorem idx_any29 (p0 p1 : Value) (v : Value) (l : List Nat) (q : Nat → Bool) (w : World) (h : Is w v l) (hn : l.length ≤ 1000000) (hq : ∀ i (hi : i < l.length) W, Below w.heap.size w W → Calls Tryz.prog 115 #[.int .i64 l[i], p0, p1] W fun e w' => e = .returned (.bool (q l[i])) ∧ Below W.heap.size W w') :
    Calls Tryz.prog 116 #[v, .func (Fn.func 115) #[] #[p0, p1]] w fun e w' => e = .returned (.int .i64 (fx (l.findIdx? q))) ∧ Below w.heap.size w w' := by
  rcases h.is with ⟨rfl, A, c, rfl⟩ | ⟨b, o, c, rfl, hc, hf⟩
  · exact (idx_nil29 p0 p1 A c w).mono fun x w' ⟨h1, h2⟩ => ⟨h1, by rw [h2]; exact Below.refl _ _⟩
  · exact idx_row29 p0 p1 b o c l q w hf hn hq
theorem con_any29 (p0 p1 : Value) (v : Value) (l : List Nat) (q : Nat → Bool) (w : World) (h : Is w v l) (hn : l.length ≤ 1000000) (hq : ∀ i (hi : i < l.length) W, Below w.heap.size w W → Calls Tryz.prog 115 #[.int .i64 l[i], p0, p1] W fun e w' => e = .returned (.bool (q l[i])) ∧ Below W.heap.size W w') :
    Calls Tryz.prog 109 #[v, .func (Fn.func 115) #[] #[p0, p1]] w fun e w' => e = .returned (.bool (l.any q)) ∧ Below w.heap.size w w' := by
  have cI := idx_any29 p0 p1 v l q w h hn hq
  have HE := Lib.hid (fx_any q l)
  generalize fx (l.findIdx? q) = z at cI HE
  clear hq h
  go_enter Tryz.func109, Tryz.ntmps109
  go_wp2_with fail
  refine cI.mono ?_
  rintro e w1 ⟨rfl, b1⟩
  go_wp2
  all_goals go_ret
  all_goals exact ⟨retb (by rw [← HE.out]), b1⟩
set_option maxHeartbeats 1600000 in
set_option maxRecDepth 100000 in
theorem idx_row31 (p0 : Value) (b o c : Nat) (l : List Nat) (q : Nat → Bool) (w : World) (h : Ir w b o l) (hn : l.length ≤ 1000000) (hq : ∀ i (hi : i < l.length) W, Below w.heap.size w W → Calls Tryz.prog 117 #[.int .i64 l[i], p0] W fun e w' => e = .returned (.bool (q l[i])) ∧ Below W.heap.size W w') :
    Calls Tryz.prog 116 #[.slice (some ⟨b, o, none⟩) l.length c, .func (Fn.func 117) #[] #[p0]] w fun e w' => e = .returned (.int .i64 (fx (l.findIdx? q))) ∧ Below w.heap.size w w' := by
  obtain ⟨r, hr⟩ : ∃ r, r = fx (l.findIdx? q) := ⟨_, rfl⟩
  have HR := Lib.hid hr
  rw [← hr]
  clear hr
  have HQ := Lib.hid hq
  have HF := Lib.hid h
  clear hq h
  go_enter Tryz.func116, Tryz.ntmps116
  go_wp2
  go_loopw [8] (fun i W => ∃ k : Nat, k ≤ l.length ∧ i = .int .i64 k ∧ Below w.heap.size w W ∧ Hid (∀ j (hj : j < l.length), j < k → q l[j] = false)) (fun i _ => l.length - (intOf i).toNat)
  case atStart => exact ⟨0, Nat.zero_le _, rfl, Below.refl _ _, fun j _ h => absurd h (Nat.not_lt_zero _)⟩
  case round =>
    obtain ⟨k, hk, rfl, hW, HP⟩ := hrel
    by_cases hlt : k < l.length
    · have c0 := (HF.out.on hW).c k hlt
      have cC := HQ.out k hlt wr hW
      cases hq : q l[k] with
      | true =>
        rw [hq] at cC
        have HG : Hid (r = k) := by show r = _; rw [HR.out, fi_yes k hlt hq (fun j hj h => HP.out j hj h)]; rfl
        go_wp2_with fail
        refine cC.mono ?_
        rintro e w1 ⟨rfl, b1⟩
        go_wp2_with fail
        go_ret
        exact ⟨reti HG.out.symm, bon hW b1⟩
      | false =>
        rw [hq] at cC
        have HN : Hid (∀ j (hj : j < l.length), j < k + 1 → q l[j] = false) := fun j hj h => by
          by_cases e : j = k
          · subst e; exact hq
          · exact HP.out j hj (by omega)
        go_wp2_with fail
        refine cC.mono ?_
        rintro e w1 ⟨rfl, b1⟩
        go_wp2_with fail
        exact ⟨⟨k + 1, hlt, by go_num, bon hW b1, HN⟩, by simp [intOf]; omega⟩
    · go_wp2
      go_ret
      exact ⟨reti (by rw [HR.out, fi_no (fun j hj => HP.out j hj (by omega))]; rfl), hW⟩
theorem idx_nil31 (p0 : Value) (A : Option Addr) (c : Nat) (w : World) : Calls Tryz.prog 116 #[.slice A 0 c, .func (Fn.func 117) #[] #[p0]] w fun e w' => e = .returned (.int .i64 (-1)) ∧ w' = w := by
  go_enter Tryz.func116, Tryz.ntmps116
  go_wp2
  refine wp_loop_rounds 1 ?_
  rw [rounds_succ]
  go_wp2
  go_ret
  exact ⟨rfl, rfl⟩
theorem idx_any31 (p0 : Value) (v : Value) (l : List Nat) (q : Nat → Bool) (w : World) (h : Is w v l) (hn : l.length ≤ 1000000) (hq : ∀ i (hi : i < l.length) W, Below w.heap.size w W → Calls Tryz.prog 117 #[.int .i64 l[i], p0] W fun e w' => e = .returned (.bool (q l[i])) ∧ Below W.heap.size W w') :
    Calls Tryz.prog 116 #[v, .func (Fn.func 117) #[] #[p0]] w fun e w' => e = .returned (.int .i64 (fx (l.findIdx? q))) ∧ Below w.heap.size w w' := by
  rcases h.is with ⟨rfl, A, c, rfl⟩ | ⟨b, o, c, rfl, hc, hf⟩
  · exact (idx_nil31 p0 A c w).mono fun x w' ⟨h1, h2⟩ => ⟨h1, by rw [h2]; exact Below.refl _ _⟩
  · exact idx_row31 p0 b o c l q w hf hn hq
end Go.Proofs.YthijccmiemlilaaGreatDoor.Ord
namespace Go.Proofs.YthijccmiemlilaaGreatDoor.Ord
open Go.RowKit Go.Sort

/-- What a captured variable holds. -/
structure Bx (W : World) (b : Nat) (v : Value) : Prop where
  lt : b < W.heap.size
  c : W.cell? ⟨b, 0, none⟩ = some v
theorem Bx.on {W W' : World} {b : Nat} {v : Value} (h : Bx W b v) (k : Below W.heap.size W W') : Bx W' b v := ⟨Nat.lt_of_lt_of_le h.lt k.size, (k.cell h.lt).trans h.c⟩
theorem Bx.kp {W W' : World} {b : Nat} {v : Value} {S : Nat → Prop} (h : Bx W b v) (k : Kp S W W') (hs : ¬ S b) : Bx W' b v := ⟨Nat.lt_of_lt_of_le h.lt k.size, (World.cell?_of_block (w := W) (k.block b h.lt hs)).trans h.c⟩
abbrev pt (b : Nat) : Value := .pointer (some ⟨b, 0, none⟩)
theorem bx_new (w : World) (v : Value) (t : Nat) : Bx (w.alloc (.cells #[v] t)) w.heap.size v := ⟨by simp, by simp⟩
theorem tog_any (a b cb g n : Nat) (M : Om.T) (ha : a < n) (hb : b < n) (w : World) (h : Tb w g n M) (hc : Bx w cb (pt g)) : Calls Tryz.prog 108 #[.int .i64 a, .int .i64 b, pt cb] w fun e w' => e = .returned (.bool (M a b && M b a)) ∧ w' = w := by
  have c0 := hc.c
  have c1 := h.c a b ha hb
  have c2 := h.c b a hb ha
  have ha40 : a < 40 := Nat.lt_of_lt_of_le ha h.le
  have hb40 : b < 40 := Nat.lt_of_lt_of_le hb h.le
  generalize M a b = x at c1
  generalize M b a = y at c2
  clear h hc
  cases x <;> cases y
  all_goals (go_enter Tryz.func108, Tryz.ntmps108; go_wp2; go_ret; exact ⟨rfl, rfl⟩)
/-- The closure together. -/
abbrev tgv (cb : Nat) : Value := .func (Fn.func 108) #[] #[pt cb]
theorem c23_any (a b cb tb ab g n : Nat) (M : Om.T) (ha : a < n) (hb : b < n) (w : World) (h : Tb w g n M) (hc : Bx w cb (pt g)) (ht : Bx w tb (tgv cb)) (hx : Bx w ab (.int .i64 a)) : Calls Tryz.prog 110 #[.int .i64 b, pt tb, pt ab] w fun e w' => e = .returned (.bool (M a b && M b a)) ∧ Below w.heap.size w w' := by
  have c0 := ht.c
  have c1 := hx.c
  have cT := tog_any a b cb g n M ha hb w h hc
  generalize (M a b && M b a) = r at cT
  clear h hc ht hx
  go_enter Tryz.func110, Tryz.ntmps110
  go_wp2_with fail
  refine cT.mono ?_
  rintro e w' ⟨rfl, rfl⟩
  go_wp2
  go_ret
  exact ⟨rfl, Below.refl _ _⟩
theorem c25_any (a b cb tb ab g n : Nat) (M : Om.T) (ha : a < n) (hb : b < n) (w : World) (h : Tb w g n M) (hc : Bx w cb (pt g)) (ht : Bx w tb (tgv cb)) (hx : Bx w ab (.int .i64 a)) : Calls Tryz.prog 112 #[.int .i64 b, pt tb, pt ab] w fun e w' => e = .returned (.bool (M a b && M b a)) ∧ Below w.heap.size w w' := by
  have c0 := ht.c
  have c1 := hx.c
  have cT := tog_any a b cb g n M ha hb w h hc
  generalize (M a b && M b a) = r at cT
  clear h hc ht hx
  go_enter Tryz.func112, Tryz.ntmps112
  go_wp2_with fail
  refine cT.mono ?_
  rintro e w' ⟨rfl, rfl⟩
  go_wp2
  go_ret
  exact ⟨rfl, Below.refl _ _⟩
theorem c29_any (a b bb cb g n : Nat) (M : Om.T) (ha : a < n) (hb : b < n) (w : World) (h : Tb w g n M) (hc : Bx w cb (pt g)) (hx : Bx w bb (.int .i64 b)) : Calls Tryz.prog 115 #[.int .i64 a, pt bb, pt cb] w fun e w' => e = .returned (.bool (!decide (a = b) && M a b)) ∧ Below w.heap.size w w' := by
  have c0 : w.drew.cell? ⟨cb, 0, none⟩ = some (pt g) := hc.c
  have c1 : w.drew.cell? ⟨bb, 0, none⟩ = some (.int .i64 b) := hx.c
  have c2 := h.drew.c a b ha hb
  have ha40 : a < 40 := Nat.lt_of_lt_of_le ha h.le
  have hb40 : b < 40 := Nat.lt_of_lt_of_le hb h.le
  generalize M a b = x at c2
  clear h hc hx
  by_cases e : a = b
  · subst e
    go_enter Tryz.func115, Tryz.ntmps115
    go_wp2
    go_region
    go_wp2
    go_ret
    exact ⟨retb (by simp), (Below.refl _ _).drew⟩
  · have e' : ((a : Int) == (b : Int)) = false := by rw [beq_eq_false_iff_ne]; omega
    have e3 : ((a : Int) != (b : Int)) = true := by rw [bne_iff_ne]; omega
    rw [show (!decide (a = b) && x) = x by simp [e]]
    go_enter Tryz.func115, Tryz.ntmps115
    go_wp2
    go_region
    go_wp2
    go_ret
    exact ⟨rfl, (Below.refl _ _).drew⟩
/-- Who waits, among those that are left. -/
def wts (A : Om.T) (left : List Nat) (b : Nat) : Bool := left.any fun a => !decide (a = b) && A a b
theorem c28_any (b lb cb g n : Nat) (A : Om.T) (left : List Nat) (v : Value) (hl : ∀ a ∈ left, a < n) (hb : b < n) (hn : left.length ≤ 40) (w : World) (h : Tb w g n A) (hc : Bx w cb (pt g)) (hL : Bx w lb v) (hv : Is w v left) : Calls Tryz.prog 114 #[.int .i64 b, pt lb, pt cb] w fun e w' => e = .returned (.bool (wts A left b)) ∧ Below w.heap.size w w' := by
  have b0 := bA1 w (.cells #[.int .i64 b] 3)
  have c0 := (b0.cell hL.lt).trans hL.c
  have cC := con_any29 (pt w.heap.size) (pt cb) v left (fun a => !decide (a = b) && A a b) _ (hv.on b0) (by omega) (fun i hi W hW => c29_any left[i] b w.heap.size cb g n A (hl _ (List.getElem_mem hi)) hb W ((h.on b0).on hW) ((hc.on b0).on hW) ((bx_new w (.int .i64 b) 3).on hW))
  have e : left.any (fun a => !decide (a = b) && A a b) = wts A left b := rfl
  rw [e] at cC
  generalize wts A left b = r at cC
  obtain ⟨A0, c', rfl⟩ := is_len hv
  clear h hc hL hv e hl
  go_enter Tryz.func114, Tryz.ntmps114
  go_wp2_with fail

  refine cC.mono ?_
  rintro e w' ⟨rfl, b1⟩
  go_wp2
  go_ret
  exact ⟨rfl, bon b0 b1⟩
/-- The closure waits. -/
abbrev wtv (lb cb : Nat) : Value := .func (Fn.func 114) #[] #[pt lb, pt cb]
theorem c31_any (b lb cb wb g n : Nat) (A : Om.T) (left : List Nat) (v : Value) (hl : ∀ a ∈ left, a < n) (hb : b < n) (hn : left.length ≤ 40) (w : World) (h : Tb w g n A) (hc : Bx w cb (pt g)) (hL : Bx w lb v) (hv : Is w v left) (hw : Bx w wb (wtv lb cb)) : Calls Tryz.prog 117 #[.int .i64 b, pt wb] w fun e w' => e = .returned (.bool (!wts A left b)) ∧ Below w.heap.size w w' := by
  have c0 := hw.c
  have cC := c28_any b lb cb g n A left v hl hb hn w h hc hL hv
  generalize wts A left b = r at cC
  clear h hc hL hv hw
  go_enter Tryz.func117, Tryz.ntmps117
  go_wp2_with fail
  refine cC.mono ?_
  rintro e w' ⟨rfl, b1⟩
  go_wp2
  go_ret
  exact ⟨rfl, b1⟩
end Go.Proofs.YthijccmiemlilaaGreatDoor.Ord
namespace Go.Proofs.YthijccmiemlilaaGreatDoor.Ord
open Go.RowKit Go.Sort

theorem infoQ {t : TypeId} {z : Value} {s b : Nat} (h : (Tryz.prog.info? t).map (fun i => (i.zero, i.size, i.bytes)) = some (some z, s, b)) : ∃ i, Tryz.prog.info? t = some i ∧ i.zero = some z ∧ i.size = s ∧ i.bytes = b := by
  obtain ⟨i, hi, he⟩ := Option.map_eq_some_iff.1 h
  simp only [Prod.mk.injEq] at he
  exact ⟨i, hi, he.1, he.2.1, he.2.2⟩
theorem info3 : (Tryz.prog.info? 3).map (fun i => (i.zero, i.size, i.bytes)) = some (some (.int .i64 0), 1, 8) := by kernel_rfl
theorem nb0 (w : World) (o : Obj) : (w.alloc o).heap[w.heap.size]? = some o := by
  show (w.heap.push o)[w.heap.size]? = some o
  simp
abbrev eI (k : Nat) : Value := .int .i64 k
/-- Numbers of the call's own. -/
abbrev Iw (W : World) (B : Nat) (v : Value) (l : List Nat) : Prop := W.ownsRow B 3 1 v l.length (l.map eI)
theorem own_on {W W' : World} {B : Nat} {e : TypeId} {s n : Nat} {v : Value} {xs : List Value} (h : W.ownsRow B e s v n xs) (k : Below W.heap.size W W') : W'.ownsRow B e s v n xs := by
  refine ⟨h.1, ?_⟩
  rcases h.2 with hn | ⟨g, cap, cur, rfl, hb, hgg, rest⟩
  · exact .inl hn
  · exact .inr ⟨g, cap, cur, rfl, hb, (k.block g (Array.getElem?_eq_some_iff.1 hgg).1).trans hgg, rest⟩
theorem own_low {W : World} {B B' : Nat} {e : TypeId} {s n : Nat} {v : Value} {xs : List Value} (h : W.ownsRow B e s v n xs) (hb : B' ≤ B) : W.ownsRow B' e s v n xs :=
  ⟨h.1, h.2.imp id fun ⟨g, cap, cur, a, b, c⟩ => ⟨g, cap, cur, a, Nat.le_trans hb b, c⟩⟩
theorem iw_is {W : World} {B : Nat} {v : Value} {l : List Nat} (h : Iw W B v l) : Is W v l := by
  rcases h.2 with ⟨rfl, h0⟩ | ⟨g, cap, cur, rfl, hb, hg, hnc, hcm, hcs, htake⟩
  · exact ⟨.inl ⟨List.length_eq_zero_iff.1 h0, none, 0, rfl⟩⟩
  · refine ⟨.inr ⟨g, 0, cap, rfl, hnc, (Array.getElem?_eq_some_iff.1 hg).1, fun i hi => ?_⟩⟩
    rw [Nat.zero_add, World.ownsRow.cellAt h i (by omega)]
    simp [hi]
theorem iw_sl {W : World} {B : Nat} {v : Value} {l : List Nat} (h : Iw W B v l) : ∃ A c, v = .slice A l.length c := is_len (iw_is h)
/-- One more is appended. -/
theorem wpList_ap {W : World} {B : Nat} {S : Value} {l : List Nat} (k : Nat) (h : Iw W B S l) (hl : l.length ≤ 1000000) (hB : B ≤ W.heap.size)
    {ops : Array Oper} {rest : List Oper} {o : Oper} {a : Act} {Q : Exit → Act → World → Prop} (hg : o.guard = none) (s x : Operand) (hop : o.op = Op.call { callee := Callee.builtin Builtin.append, args := #[s, x], argTypes := #[31, 31] }) (hs : a.eval s = S) (N : Nat) (hx : a.eval x = .slice (some ⟨N, 0, none⟩) 1 1) (hN : N = W.heap.size)
    (K : ∀ g c w6, Iw w6 B (.slice (some ⟨g, 0, none⟩) (l.length + 1) c) (l ++ [k]) → (∀ B', B' ≤ B → Below B' W w6) → (W.alloc (.cells #[eI k] 3)).grownBy w6 S.ownBlock → wpList Tryz.prog ops Q rest (a.put o.dst (.slice (some ⟨g, 0, none⟩) (l.length + 1) c)) w6) :
    wpList Tryz.prog ops Q (o :: rest) a (W.alloc (.cells #[eI k] 3)) := by
  subst hN
  obtain ⟨i0, hi0, hz0, hz1, hz2⟩ := infoQ info3
  have news : ∀ j u, ([eI k])[j]? = some u → (W.alloc (.cells #[eI k] 3)).cell? ((⟨W.heap.size, 0, none⟩ : Addr).add j) = some u := World.news_of_block (nb0 W _)
  have ones : ∀ u ∈ [eI k], u.oneCell' = true := by intro u hu; simp at hu; rw [hu]; rfl
  refine wpList_append_lies _ hg s x 31 hop B 3 i0 _ 1 8 Tryz.underlying31 hi0 hz0 hz1 hz2 rfl (by decide) _ _ _ hs (h.alloc _) ⟨W.heap.size, 0, none⟩ 1 1 _ hx rfl news ones (by decide) (by unfold maxLen; omega) (by omega) (by rw [World.size_alloc]; omega) _ rfl ?_
  intro g' c' w6 hown hgr _ _
  have e : (l ++ [k]).length = l.length + 1 := by simp
  have h2 : Iw w6 B (.slice (some ⟨g', 0, none⟩) (l.length + 1) c') (l ++ [k]) := by
    unfold Iw
    rw [e, List.map_append]; exact hown
  exact K g' c' w6 h2 (fun B' hB' => ((bA1 W _).mono (Nat.le_trans hB' hB)).grown hgr (by rw [World.size_alloc]; omega) (fun j e => Nat.le_trans hB' (h.lt j e).1)) hgr
theorem filt_succ (f : Nat → Bool) (k : Nat) : (List.range (k + 1)).filter f = (List.range k).filter f ++ (if f k then [k] else []) := by
  rw [List.range_succ, List.filter_append]
  cases h : f k <;> simp [h]
theorem filt_le (f : Nat → Bool) (k : Nat) : ((List.range k).filter f).length ≤ k := by
  have := List.length_filter_le f (List.range k)
  simpa using this
set_option maxHeartbeats 1600000 in
set_option maxRecDepth 100000 in
theorem match_any (n : Nat) (p q : Value) (so : Nat → Bool) (w : World) (hn : n ≤ 40) (hq : ∀ i, i < n → ∀ W, Below w.heap.size w W → Calls Tryz.prog 112 #[eI i, p, q] W fun e w' => e = .returned (.bool (so i)) ∧ Below W.heap.size W w') :
    Calls Tryz.prog 111 #[eI n, .func (Fn.func 112) #[] #[p, q]] w fun e w' => ∃ v, e = .returned v ∧ Iw w' w.heap.size v ((List.range n).filter so) ∧ Below w.heap.size w w' := by
  have HQ := Lib.hid hq
  clear hq
  go_enter Tryz.func111, Tryz.ntmps111
  go_wp2
  go_loopw [5, 8] (fun v i W => ∃ k : Nat, k ≤ n ∧ i = .int .i64 k ∧ Below w.heap.size w W ∧ Hid (Iw W w.heap.size v ((List.range k).filter so))) (fun _ i _ => n - (intOf i).toNat)
  case atStart => exact ⟨0, Nat.zero_le _, rfl, Below.refl _ _, World.ownsRow_nil _ _ _ _⟩
  case round =>
    obtain ⟨k, hk, rfl, hW, hI⟩ := hrel
    by_cases hlt : k < n
    · have cC := HQ.out k hlt wr hW
      have HF := Lib.hid (filt_succ so k)
      have hle := filt_le so k
      obtain ⟨A, c, rfl⟩ := iw_sl hI.out
      generalize (List.range k).filter so = L at hI HF hle
      cases hs : so k with
      | true =>
        rw [hs] at cC HF
        have HF2 : Hid ((List.range (k + 1)).filter so = L ++ [k]) := HF.out
        go_wp2_with fail
        refine cC.mono ?_
        rintro e w1 ⟨rfl, b1⟩
        have hI1 := own_on hI.out b1
        have hW1 := bon hW b1
        clear hI cC
        go_wp2_with (first | (at_builtin; refine wpList_ap k hI1 (by omega) hW1.size rfl _ _ rfl rfl _ rfl rfl ?_; intro g c' w6 hI6 hB6 _) | fail)
        exact ⟨⟨k + 1, hlt, by go_num, hW1.trans (hB6 _ (Nat.le_refl _)), by show Iw _ _ _ _; rw [HF2.out]; exact hI6⟩, by simp [intOf]; omega⟩
      | false =>
        rw [hs] at cC HF
        go_wp2_with fail
        refine cC.mono ?_
        rintro e w1 ⟨rfl, b1⟩
        have hI1 := own_on hI.out b1
        have hW1 := bon hW b1
        clear hI cC
        have HI1 : Hid (Iw w1 w.heap.size (.slice A L.length c) ((List.range (k + 1)).filter so)) := by show Iw _ _ _ _; rw [HF.out]; simpa using hI1
        go_wp2_with fail
        exact ⟨⟨k + 1, hlt, by go_num, hW1, HI1⟩, by simp [intOf]; omega⟩
    · have ek : k = n := by omega
      subst ek
      go_wp2
      go_ret
      exact ⟨_, rfl, hI.out, hW⟩
end Go.Proofs.YthijccmiemlilaaGreatDoor.Ord
