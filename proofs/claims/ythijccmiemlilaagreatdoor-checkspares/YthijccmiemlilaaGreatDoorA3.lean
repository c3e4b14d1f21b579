/- Versions held against each other; terms that are short enough. -/
import Derived.Test.YthijccmiemlilaaGreatDoorDa
import Derived.Test.YthijccmiemlilaaGreatDoorA2
namespace Go.Proofs.YthijccmiemlilaaGreatDoor
open Go.RowKit Go.Sort

theorem bon {w w1 w2 : World} (h : Below w.heap.size w w1) (k : Below w1.heap.size w1 w2) : Below w.heap.size w w2 := h.trans (k.mono h.size)
theorem bdn {B : Nat} {a w : World} (h : Below B a w) (n : Nat) : Below B a (w.drewN n) := h.trans ⟨rfl, rfl, rfl, Nat.le_refl _, fun _ _ => rfl⟩
theorem b1c (w : World) (A : Obj) : Below w.heap.size w (w.alloc A) := (Below.refl _ _).alloc (Nat.le_refl _) _
theorem b2c (w : World) (A B : Obj) : Below w.heap.size w ((w.alloc A).alloc B) := bon (b1c w A) (b1c _ B)
theorem b4c (w : World) (A B C D : Obj) : Below w.heap.size w ((((w.alloc A).alloc B).alloc C).alloc D) := bon (bon (b2c w A B) (b1c _ C)) (b1c _ D)

/-- A version as a value. -/
abbrev vv (e : Int) (u r : List UInt8) : Value := .agg #[.int .i64 e, .string ⟨u.toArray⟩, .string ⟨r.toArray⟩]
/-- A term as a value. -/
abbrev tv (t : Tm) : Value := .agg #[.string ⟨t.n.toArray⟩, .int .i64 t.o, .int .i64 t.e, .string ⟨t.u.toArray⟩, .string ⟨t.r.toArray⟩]
theorem retb {a b : Bool} (h : a = b) : Ending.returned (.bool a) = .returned (.bool b) := by rw [h]

theorem is_b (e1 : Int) (u1 r1 : List UInt8) (op : Int) (e2 : Int) (u2 r2 : List UInt8) (w : World) (h1 : u1.length ≤ 200) (h2 : r1.length ≤ 200) (h3 : u2.length ≤ 200) (h4 : r2.length ≤ 200) :
    Calls Tryz.prog 89 #[vv e1 u1 r1, .int .i64 op, vv e2 u2 r2] w fun x w' => x = .returned (.bool (Vm.iv (Vm.cv e1 u1 r1 e2 u2 r2) op)) ∧ Below w.heap.size w w' := by
  by_cases hop : 1 ≤ op ∧ op ≤ 5
  · refine (is_any e1 u1 r1 op e2 u2 r2 w h1 h2 h3 h4 hop).mono ?_
    rintro x w' ⟨rfl, _, _, _, _, n, rfl⟩
    exact ⟨rfl, bdn (b4c _ _ _ _ _) n⟩
  · refine (is_none e1 u1 r1 op e2 u2 r2 w (by omega)).mono ?_
    rintro x w' ⟨rfl, _, _, rfl⟩
    refine ⟨retb ?_, b2c _ _ _⟩
    have k1 : (op == 1) = false := by rw [beq_eq_false_iff_ne]; omega
    have k2 : (op == 2) = false := by rw [beq_eq_false_iff_ne]; omega
    have k3 : (op == 3) = false := by rw [beq_eq_false_iff_ne]; omega
    have k4 : (op == 4) = false := by rw [beq_eq_false_iff_ne]; omega
    have k5 : (op == 5) = false := by rw [beq_eq_false_iff_ne]; omega
    simp [Vm.iv, k1, k2, k3, k4, k5]
theorem ris_b (e1 : Int) (u1 r1 : List UInt8) (op : Int) (e2 : Int) (u2 r2 : List UInt8) (w : World) (h1 : u1.length ≤ 200) (h2 : r1.length ≤ 200) (h3 : u2.length ≤ 200) (h4 : r2.length ≤ 200) :
    Calls Tryz.prog 94 #[vv e1 u1 r1, .int .i64 op, vv e2 u2 r2] w fun x w' => x = .returned (.bool (Vm.iv (Vm.cv e1 u1 r1 e2 u2 r2) op)) ∧ Below w.heap.size w w' := by
  refine (ris_any e1 u1 r1 op e2 u2 r2 w h1 h2 h3 h4).mono ?_
  rintro x w' ⟨rfl, _, _, _, _, n, rfl⟩
  exact ⟨rfl, bdn (b4c _ _ _ _ _) n⟩
theorem short_b (e : Int) (u r : List UInt8) (w : World) : Calls Tryz.prog 24 #[vv e u r] w fun x w' => x = .returned (.bool (decide (u.length ≤ 100) && decide (r.length ≤ 100))) ∧ Below w.heap.size w w' := by
  refine (short_any e u r w).mono ?_
  rintro x w' ⟨rfl, rfl⟩
  exact ⟨rfl, b1c _ _⟩

/-- A term short enough; terms; lists of terms. -/
def t1 (t : Tm) : Bool := decide (t.n.length ≤ 60) && (decide (t.u.length ≤ 100) && decide (t.r.length ≤ 100))
def fla (l : List Tm) : Bool := decide (l.length ≤ 40) && l.all t1
def tla (l : List (List Tm)) : Bool := decide (l.length ≤ 40) && l.all fla

theorem flat_long (A : Option Addr) (n c : Nat) (w : World) (h : 40 < n) : Calls Tryz.prog 27 #[.slice A n c] w fun e w' => e = .returned (.bool false) ∧ w' = w := by
  go_enter Tryz.func27, Tryz.ntmps27
  go_wp2
  go_ret
  exact ⟨rfl, rfl⟩
theorem flat_nil (A : Option Addr) (c : Nat) (w : World) : Calls Tryz.prog 27 #[.slice A 0 c] w fun e w' => e = .returned (.bool true) ∧ w' = w := by
  go_enter Tryz.func27, Tryz.ntmps27
  go_wp2
  refine wp_loop_rounds 1 ?_
  rw [rounds_succ]
  go_wp2
  go_ret
  exact ⟨rfl, rfl⟩

set_option maxHeartbeats 1600000 in
set_option maxRecDepth 100000 in
theorem flat_row (b o c : Nat) (l : List Tm) (w : World) (h : Tl w b o l) (hn : l.length ≤ 40) : Calls Tryz.prog 27 #[.slice (some ⟨b, o, none⟩) l.length c] w fun e w' => e = .returned (.bool (l.all t1)) ∧ Below w.heap.size w w' := by
  obtain ⟨r, hr⟩ : ∃ r, r = l.all t1 := ⟨_, rfl⟩
  have HR := Lib.hid hr
  rw [← hr]
  clear hr
  have HF := Lib.hid h
  clear h
  go_enter Tryz.func27, Tryz.ntmps27
  go_wp2
  go_loopw [3] (fun i W => ∃ k : Nat, k ≤ l.length ∧ i = .int .i64 k ∧ Below w.heap.size w W ∧ Hid (∀ j (hj : j < l.length), j < k → t1 l[j] = true)) (fun i _ => l.length - (intOf i).toNat)
  case atStart => exact ⟨0, Nat.zero_le _, rfl, Below.refl _ _, fun j _ h => absurd h (Nat.not_lt_zero _)⟩
  case round =>
    obtain ⟨k, hk, rfl, hW, HP⟩ := hrel
    by_cases hlt : k < l.length
    · have hT := HF.out.on hW
      have c0 := hT.c0 k hlt
      have c2 := hT.c2 k hlt
      have c3 := hT.c3 k hlt
      have c4 := hT.c4 k hlt
      have HN : Hid (t1 l[k] = false → r = false) := fun e => by
        rw [HR.out, List.all_eq_false]
        exact ⟨l[k], List.getElem_mem hlt, by simp [e]⟩
      have HM : Hid (t1 l[k] = true → ∀ j (hj : j < l.length), j < k + 1 → t1 l[j] = true) := fun e j hj h => by
        by_cases e2 : j = k
        · subst e2; exact e
        · exact HP.out j hj (by omega)
      have cS := fun W => short_b l[k].e l[k].u l[k].r W
      clear hT
      by_cases h1 : l[k].n.length ≤ 60
      · cases hs : (decide (l[k].u.length ≤ 100) && decide (l[k].r.length ≤ 100)) with
        | true =>
          have HG := Lib.hid (HM.out (by unfold t1; rw [hs]; simp [h1]))
          rw [hs] at cS
          clear HN HM hs
          go_wp2_with (go_at_call 24; refine (cS _).mono ?_; rintro x w1 ⟨rfl, bw1⟩)
          exact ⟨⟨k + 1, hlt, by go_num, bon hW bw1, HG⟩, by simp [intOf]; omega⟩
        | false =>
          have HG := Lib.hid (HN.out (by unfold t1; rw [hs]; simp))
          rw [hs] at cS
          clear HN HM hs
          go_wp2_with (go_at_call 24; refine (cS _).mono ?_; rintro x w1 ⟨rfl, bw1⟩)
          go_ret
          exact ⟨retb HG.out.symm, bon hW bw1⟩
      · have HG := Lib.hid (HN.out (by unfold t1; simp [h1]))
        clear HN HM
        go_wp2_with (go_at_call 24; refine (cS _).mono ?_; rintro x w1 ⟨rfl, bw1⟩)
        go_ret
        exact ⟨retb HG.out.symm, hW⟩
    · have hall : l.all t1 = true := by
        rw [List.all_eq_true]
        intro f hf
        obtain ⟨j, hj, rfl⟩ := List.getElem_of_mem hf
        exact HP.out j hj (by omega)
      have HG := Lib.hid (HR.out.trans hall)
      go_wp2
      go_ret
      exact ⟨retb HG.out.symm, hW⟩
theorem flat_any (v : Value) (l : List Tm) (w : World) (h : Ts w v l) : Calls Tryz.prog 27 #[v] w fun e w' => e = .returned (.bool (fla l)) ∧ Below w.heap.size w w' := by
  rcases h.is with ⟨rfl, A, c, rfl⟩ | ⟨b, o, c, rfl, hc, hf⟩
  · exact (flat_nil A c w).mono fun x w' ⟨h1, h2⟩ => ⟨h1, by rw [h2]; exact Below.refl _ _⟩
  · by_cases hn : l.length ≤ 40
    · rw [show fla l = l.all t1 from by simp [fla, hn]]
      exact flat_row b o c l w hf hn
    · rw [show fla l = false from by simp [fla, hn]]
      exact (flat_long _ _ c w (by omega)).mono fun x w' ⟨h1, h2⟩ => ⟨h1, by rw [h2]; exact Below.refl _ _⟩
end Go.Proofs.YthijccmiemlilaaGreatDoor
namespace Go.Proofs.YthijccmiemlilaaGreatDoor
open Go.RowKit Go.Sort

theorem terms_long (A : Option Addr) (n c : Nat) (w : World) (h : 40 < n) : Calls Tryz.prog 26 #[.slice A n c] w fun e w' => e = .returned (.bool false) ∧ w' = w := by
  go_enter Tryz.func26, Tryz.ntmps26
  go_wp2
  go_ret
  exact ⟨rfl, rfl⟩
theorem terms_nil (A : Option Addr) (c : Nat) (w : World) : Calls Tryz.prog 26 #[.slice A 0 c] w fun e w' => e = .returned (.bool true) ∧ w' = w := by
  go_enter Tryz.func26, Tryz.ntmps26
  go_wp2
  refine wp_loop_rounds 1 ?_
  rw [rounds_succ]
  go_wp2
  go_ret
  exact ⟨rfl, rfl⟩
set_option maxHeartbeats 1600000 in
set_option maxRecDepth 100000 in
theorem terms_row (b o c : Nat) (l : List (List Tm)) (w : World) (h : Al w b o l) (hn : l.length ≤ 40) : Calls Tryz.prog 26 #[.slice (some ⟨b, o, none⟩) l.length c] w fun e w' => e = .returned (.bool (l.all fla)) ∧ Below w.heap.size w w' := by
  obtain ⟨r, hr⟩ : ∃ r, r = l.all fla := ⟨_, rfl⟩
  have HR := Lib.hid hr
  rw [← hr]
  clear hr
  have HF := Lib.hid h
  clear h
  go_enter Tryz.func26, Tryz.ntmps26
  go_wp2
  go_loopw [3] (fun i W => ∃ k : Nat, k ≤ l.length ∧ i = .int .i64 k ∧ Below w.heap.size w W ∧ Hid (∀ j (hj : j < l.length), j < k → fla l[j] = true)) (fun i _ => l.length - (intOf i).toNat)
  case atStart => exact ⟨0, Nat.zero_le _, rfl, Below.refl _ _, fun j _ h => absurd h (Nat.not_lt_zero _)⟩
  case round =>
    obtain ⟨k, hk, rfl, hW, HP⟩ := hrel
    by_cases hlt : k < l.length
    · obtain ⟨v, c0, hv⟩ := (HF.out.on hW).c k hlt
      have HN : Hid (fla l[k] = false → r = false) := fun e => by
        rw [HR.out, List.all_eq_false]
        exact ⟨l[k], List.getElem_mem hlt, by simp [e]⟩
      have HM : Hid (fla l[k] = true → ∀ j (hj : j < l.length), j < k + 1 → fla l[j] = true) := fun e j hj h => by
        by_cases e2 : j = k
        · subst e2; exact e
        · exact HP.out j hj (by omega)
      have cS := flat_any v l[k] wr hv
      clear hv
      cases hs : fla l[k] with
      | true =>
        have HG := Lib.hid (HM.out hs)
        rw [hs] at cS
        clear HN HM hs
        go_wp2_with (go_at_call 27; refine cS.mono ?_; rintro x w1 ⟨rfl, bw1⟩)
        exact ⟨⟨k + 1, hlt, by go_num, bon hW bw1, HG⟩, by simp [intOf]; omega⟩
      | false =>
        have HG := Lib.hid (HN.out hs)
        rw [hs] at cS
        clear HN HM hs
        go_wp2_with (go_at_call 27; refine cS.mono ?_; rintro x w1 ⟨rfl, bw1⟩)
        go_ret
        exact ⟨retb HG.out.symm, bon hW bw1⟩
    · have hall : l.all fla = true := by
        rw [List.all_eq_true]
        intro f hf
        obtain ⟨j, hj, rfl⟩ := List.getElem_of_mem hf
        exact HP.out j hj (by omega)
      have HG := Lib.hid (HR.out.trans hall)
      go_wp2
      go_ret
      exact ⟨retb HG.out.symm, hW⟩
theorem terms_any (v : Value) (l : List (List Tm)) (w : World) (h : As w v l) : Calls Tryz.prog 26 #[v] w fun e w' => e = .returned (.bool (tla l)) ∧ Below w.heap.size w w' := by
  rcases h.is with ⟨rfl, A, c, rfl⟩ | ⟨b, o, c, rfl, hc, hf⟩
  · exact (terms_nil A c w).mono fun x w' ⟨h1, h2⟩ => ⟨h1, by rw [h2]; exact Below.refl _ _⟩
  · by_cases hn : l.length ≤ 40
    · rw [show tla l = l.all fla from by simp [tla, hn]]
      exact terms_row b o c l w hf hn
    · rw [show tla l = false from by simp [tla, hn]]
      exact (terms_long _ _ c w (by omega)).mono fun x w' ⟨h1, h2⟩ => ⟨h1, by rw [h2]; exact Below.refl _ _⟩

/-- A term short enough to be held against others. -/
structure Sh (t : Tm) : Prop where
  u : t.u.length ≤ 100
  r : t.r.length ≤ 100
theorem sh_of {t : Tm} (h : t1 t = true) : Sh t := by
  unfold t1 at h; simp only [Bool.and_eq_true, decide_eq_true_eq] at h; exact ⟨h.2.1, h.2.2⟩
/-- Is what is provided as it is asked? -/
def pv (p t : Tm) : Bool := t.o == 0 || (p.o == 3 && Vm.iv (Vm.cv p.e p.u p.r t.e t.u t.r) t.o)

set_option maxHeartbeats 1600000 in
set_option maxRecDepth 100000 in
theorem provided_any (p t : Tm) (w : World) (hp : Sh p) (ht : Sh t) : Calls Tryz.prog 91 #[tv p, tv t] w fun e w' => e = .returned (.bool (pv p t)) ∧ Below w.heap.size w w' := by
  have cI := fun W => is_b p.e p.u p.r t.o t.e t.u t.r W (by have := hp.u; omega) (by have := hp.r; omega) (by have := ht.u; omega) (by have := ht.r; omega)
  obtain ⟨q, hq⟩ : ∃ q, q = Vm.iv (Vm.cv p.e p.u p.r t.e t.u t.r) t.o := ⟨_, rfl⟩
  rw [← hq] at cI
  have b2 := b2c w (.cells #[.string ⟨p.n.toArray⟩, .int .i64 p.o, .int .i64 p.e, .string ⟨p.u.toArray⟩, .string ⟨p.r.toArray⟩] 112) (.cells #[.string ⟨t.n.toArray⟩, .int .i64 t.o, .int .i64 t.e, .string ⟨t.u.toArray⟩, .string ⟨t.r.toArray⟩] 112)
  unfold pv
  rw [← hq]
  clear hq hp ht
  cases q1 : (t.o == 0) with
  | true =>
    go_enter Tryz.func91, Tryz.ntmps91
    go_wp2_with fail
    go_ret
    exact ⟨rfl, b2⟩
  | false =>
    cases q2 : (p.o == 3) with
    | false =>
      go_enter Tryz.func91, Tryz.ntmps91
      go_wp2_with fail
      go_ret
      exact ⟨rfl, b2⟩
    | true =>
      go_enter Tryz.func91, Tryz.ntmps91
      go_wp2_with fail
      refine (cI _).mono ?_
      rintro e w1 ⟨rfl, b1⟩
      go_wp2_with fail
      go_ret
      exact ⟨retb (by simp), bon b2 b1⟩

/-- A term in a block of its own. -/
structure Tc (W : World) (a : Nat) (t : Tm) : Prop where
  c0 : W.cell? ⟨a, 0, none⟩ = some (.string ⟨t.n.toArray⟩)
  c1 : W.cell? ⟨a, 1, none⟩ = some (.int .i64 t.o)
  c2 : W.cell? ⟨a, 2, none⟩ = some (.int .i64 t.e)
  c3 : W.cell? ⟨a, 3, none⟩ = some (.string ⟨t.u.toArray⟩)
  c4 : W.cell? ⟨a, 4, none⟩ = some (.string ⟨t.r.toArray⟩)
theorem Tc.on {W w' : World} {a : Nat} {t : Tm} (h : Tc W a t) (k : Below W.heap.size W w') : Tc w' a t :=
  ⟨by rw [k.cell (block_lt_of_cell h.c0)]; exact h.c0, by rw [k.cell (block_lt_of_cell h.c1)]; exact h.c1, by rw [k.cell (block_lt_of_cell h.c2)]; exact h.c2, by rw [k.cell (block_lt_of_cell h.c3)]; exact h.c3, by rw [k.cell (block_lt_of_cell h.c4)]; exact h.c4⟩
theorem tc_new (w : World) (t : Tm) : Tc (w.alloc (.cells #[.string ⟨t.n.toArray⟩, .int .i64 t.o, .int .i64 t.e, .string ⟨t.u.toArray⟩, .string ⟨t.r.toArray⟩] 112)) w.heap.size t :=
  ⟨by simp, by simp, by simp, by simp, by simp⟩

/-- Is it one of the name, and as it is asked? -/
def nv (t p : Tm) : Bool := p.n == t.n && pv p t

set_option maxHeartbeats 1600000 in
set_option maxRecDepth 100000 in
theorem clo67 (p t : Tm) (a : Nat) (w : World) (hT : Tc w a t) (hp : Sh p) (ht : Sh t) : Calls Tryz.prog 90 #[tv p, .pointer (some ⟨a, 0, none⟩)] w fun e w' => e = .returned (.bool (nv t p)) ∧ Below w.heap.size w w' := by
  have cI := fun W => provided_any p t W hp ht
  obtain ⟨q, hq⟩ : ∃ q, q = pv p t := ⟨_, rfl⟩
  have b2 := b1c w (.cells #[.string ⟨p.n.toArray⟩, .int .i64 p.o, .int .i64 p.e, .string ⟨p.u.toArray⟩, .string ⟨p.r.toArray⟩] 112)
  have hT2 := hT.on b2
  have d0 := hT2.c0
  have d1 := hT2.c1
  have d2 := hT2.c2
  have d3 := hT2.c3
  have d4 := hT2.c4
  unfold nv
  rw [← hq] at cI ⊢
  clear hq hp ht hT hT2
  cases q1 : (p.n == t.n) with
  | false =>
    go_enter Tryz.func90, Tryz.ntmps90
    go_wp2_with fail
    go_ret
    exact ⟨rfl, b2⟩
  | true =>
    go_enter Tryz.func90, Tryz.ntmps90
    go_wp2_with fail
    refine (cI _).mono ?_
    rintro e w1 ⟨rfl, b1⟩
    go_wp2_with fail
    go_ret
    exact ⟨retb (by simp), bon b2 b1⟩
end Go.Proofs.YthijccmiemlilaaGreatDoor
namespace Go.Proofs.YthijccmiemlilaaGreatDoor
open Go.RowKit Go.Sort

/-- A place, or -1. -/
def fx : Option Nat → Int
  | none => -1
  | some i => i
theorem fi_yes {α : Type} {q : α → Bool} {l : List α} (k : Nat) (hk : k < l.length) (h : q l[k] = true) (h2 : ∀ j (hj : j < l.length), j < k → q l[j] = false) : l.findIdx? q = some k := by
  rw [List.findIdx?_eq_some_iff_getElem]
  exact ⟨hk, h, fun j hj => by simp [h2 j (by omega) hj]⟩
theorem fi_no {α : Type} {q : α → Bool} {l : List α} (h : ∀ j (hj : j < l.length), q l[j] = false) : l.findIdx? q = none := by
  rw [List.findIdx?_eq_none_iff]
  intro x hx
  obtain ⟨j, hj, rfl⟩ := List.getElem_of_mem hx
  exact h j hj
theorem fx_any {α : Type} (q : α → Bool) (l : List α) : decide (0 ≤ fx (l.findIdx? q)) = l.any q := by
  cases h : l.findIdx? q with
  | none =>
    have : l.any q = false := by
      rw [List.any_eq_false]
      rw [List.findIdx?_eq_none_iff] at h
      intro x hx; simp [h x hx]
    rw [this]; rfl
  | some i =>
    obtain ⟨hi, hq, _⟩ := List.findIdx?_eq_some_iff_getElem.1 h
    have : l.any q = true := List.any_eq_true.2 ⟨l[i], List.getElem_mem hi, hq⟩
    rw [this]; simp [fx]
theorem reti {a b : Int} (h : a = b) : Ending.returned (.int .i64 a) = .returned (.int .i64 b) := by rw [h]

set_option maxHeartbeats 1600000 in
set_option maxRecDepth 100000 in
theorem idx67_row (b o c a : Nat) (l : List Tm) (q : Tm → Bool) (w : World) (h : Tl w b o l) (hn : l.length ≤ 1000000) (hq : ∀ i (hi : i < l.length) W, Below w.heap.size w W → Calls Tryz.prog 90 #[tv l[i], .pointer (some ⟨a, 0, none⟩)] W fun e w' => e = .returned (.bool (q l[i])) ∧ Below W.heap.size W w') :
    Calls Tryz.prog 92 #[.slice (some ⟨b, o, none⟩) l.length c, .func (Fn.func 90) #[] #[.pointer (some ⟨a, 0, none⟩)]] w fun e w' => e = .returned (.int .i64 (fx (l.findIdx? q))) ∧ Below w.heap.size w w' := by
  obtain ⟨r, hr⟩ : ∃ r, r = fx (l.findIdx? q) := ⟨_, rfl⟩
  have HR := Lib.hid hr
  rw [← hr]
  clear hr
  have HQ := Lib.hid hq
  have HF := Lib.hid h
  clear hq h
  go_enter Tryz.func92, Tryz.ntmps92
  go_wp2
  go_loopw [8] (fun i W => ∃ k : Nat, k ≤ l.length ∧ i = .int .i64 k ∧ Below w.heap.size w W ∧ Hid (∀ j (hj : j < l.length), j < k → q l[j] = false)) (fun i _ => l.length - (intOf i).toNat)
  case atStart => exact ⟨0, Nat.zero_le _, rfl, Below.refl _ _, fun j _ h => absurd h (Nat.not_lt_zero _)⟩
  case round =>
    obtain ⟨k, hk, rfl, hW, HP⟩ := hrel
    by_cases hlt : k < l.length
    · have hT := HF.out.on hW
      have c0 := hT.c0 k hlt
      have c1 := hT.c1 k hlt
      have c2 := hT.c2 k hlt
      have c3 := hT.c3 k hlt
      have c4 := hT.c4 k hlt
      have cC := HQ.out k hlt wr hW
      clear hT
      cases hq : q l[k] with
      | true =>
        rw [hq] at cC
        have HG : Hid (r = k) := by show r = _; rw [HR.out, fi_yes k hlt hq (fun j hj h => HP.out j hj h)]; rfl
        go_wp2_with fail
        refine cC.mono ?_
        rintro e w1 ⟨rfl, b1⟩
        go_wp2_with fail
        go_ret
        exact ⟨reti HG.out.symm, bon hW b1⟩
      | false =>
        rw [hq] at cC
        have HN : Hid (∀ j (hj : j < l.length), j < k + 1 → q l[j] = false) := fun j hj h => by
          by_cases e : j = k
          · subst e; exact hq
          · exact HP.out j hj (by omega)
        go_wp2_with fail
        refine cC.mono ?_
        rintro e w1 ⟨rfl, b1⟩
        go_wp2_with fail
        exact ⟨⟨k + 1, hlt, by go_num, bon hW b1, HN⟩, by simp [intOf]; omega⟩
    · go_wp2
      go_ret
      exact ⟨reti (by rw [HR.out, fi_no (fun j hj => HP.out j hj (by omega))]; rfl), hW⟩
theorem idx67_nil (A : Option Addr) (c a : Nat) (w : World) : Calls Tryz.prog 92 #[.slice A 0 c, .func (Fn.func 90) #[] #[.pointer (some ⟨a, 0, none⟩)]] w fun e w' => e = .returned (.int .i64 (-1)) ∧ w' = w := by
  go_enter Tryz.func92, Tryz.ntmps92
  go_wp2
  refine wp_loop_rounds 1 ?_
  rw [rounds_succ]
  go_wp2
  go_ret
  exact ⟨rfl, rfl⟩
theorem idx67_any (v : Value) (a : Nat) (l : List Tm) (q : Tm → Bool) (w : World) (h : Ts w v l) (hn : l.length ≤ 1000000) (hq : ∀ i (hi : i < l.length) W, Below w.heap.size w W → Calls Tryz.prog 90 #[tv l[i], .pointer (some ⟨a, 0, none⟩)] W fun e w' => e = .returned (.bool (q l[i])) ∧ Below W.heap.size W w') :
    Calls Tryz.prog 92 #[v, .func (Fn.func 90) #[] #[.pointer (some ⟨a, 0, none⟩)]] w fun e w' => e = .returned (.int .i64 (fx (l.findIdx? q))) ∧ Below w.heap.size w w' := by
  rcases h.is with ⟨rfl, A, c, rfl⟩ | ⟨b, o, c, rfl, hc, hf⟩
  · exact (idx67_nil A c a w).mono fun x w' ⟨h1, h2⟩ => ⟨h1, by rw [h2]; exact Below.refl _ _⟩
  · exact idx67_row b o c a l q w hf hn hq
theorem con67_any (v : Value) (a : Nat) (l : List Tm) (q : Tm → Bool) (w : World) (h : Ts w v l) (hn : l.length ≤ 1000000) (hq : ∀ i (hi : i < l.length) W, Below w.heap.size w W → Calls Tryz.prog 90 #[tv l[i], .pointer (some ⟨a, 0, none⟩)] W fun e w' => e = .returned (.bool (q l[i])) ∧ Below W.heap.size W w') :
    Calls Tryz.prog 67 #[v, .func (Fn.func 90) #[] #[.pointer (some ⟨a, 0, none⟩)]] w fun e w' => e = .returned (.bool (l.any q)) ∧ Below w.heap.size w w' := by
  have cI := idx67_any v a l q w h hn hq
  have HE := Lib.hid (fx_any q l)
  generalize fx (l.findIdx? q) = z at cI HE
  clear hq h
  go_enter Tryz.func67, Tryz.ntmps67
  go_wp2_with fail
  refine cI.mono ?_
  rintro e w1 ⟨rfl, b1⟩
  go_wp2
  all_goals go_ret
  all_goals exact ⟨retb (by rw [← HE.out]), b1⟩

set_option maxHeartbeats 1600000 in
set_option maxRecDepth 100000 in
theorem idx62_row (b o c a : Nat) (l : List Tm) (q : Tm → Bool) (w : World) (h : Tl w b o l) (hn : l.length ≤ 1000000) (hq : ∀ i (hi : i < l.length) W, Below w.heap.size w W → Calls Tryz.prog 63 #[tv l[i], .pointer (some ⟨a, 0, none⟩)] W fun e w' => e = .returned (.bool (q l[i])) ∧ Below W.heap.size W w') :
    Calls Tryz.prog 92 #[.slice (some ⟨b, o, none⟩) l.length c, .func (Fn.func 63) #[] #[.pointer (some ⟨a, 0, none⟩)]] w fun e w' => e = .returned (.int .i64 (fx (l.findIdx? q))) ∧ Below w.heap.size w w' := by
  obtain ⟨r, hr⟩ : ∃ r, r = fx (l.findIdx? q) := ⟨_, rfl⟩
  have HR := Lib.hid hr
  rw [← hr]
  clear hr
  have HQ := Lib.hid hq
  have HF := Lib.hid h
  clear hq h
  go_enter Tryz.func92, Tryz.ntmps92
  go_wp2
  go_loopw [8] (fun i W => ∃ k : Nat, k ≤ l.length ∧ i = .int .i64 k ∧ Below w.heap.size w W ∧ Hid (∀ j (hj : j < l.length), j < k → q l[j] = false)) (fun i _ => l.length - (intOf i).toNat)
  case atStart => exact ⟨0, Nat.zero_le _, rfl, Below.refl _ _, fun j _ h => absurd h (Nat.not_lt_zero _)⟩
  case round =>
    obtain ⟨k, hk, rfl, hW, HP⟩ := hrel
    by_cases hlt : k < l.length
    · have hT := HF.out.on hW
      have c0 := hT.c0 k hlt
      have c1 := hT.c1 k hlt
      have c2 := hT.c2 k hlt
      have c3 := hT.c3 k hlt
      have c4 := hT.c4 k hlt
      have cC := HQ.out k hlt wr hW
      clear hT
      cases hq : q l[k] with
      | true =>
        rw [hq] at cC
        have HG : Hid (r = k) := by show r = _; rw [HR.out, fi_yes k hlt hq (fun j hj h => HP.out j hj h)]; rfl
        go_wp2_with fail
        refine cC.mono ?_
        rintro e w1 ⟨rfl, b1⟩
        go_wp2_with fail
        go_ret
        exact ⟨reti HG.out.symm, bon hW b1⟩
      | false =>
        rw [hq] at cC
        have HN : Hid (∀ j (hj : j < l.length), j < k + 1 → q l[j] = false) := fun j hj h => by
          by_cases e : j = k
          · subst e; exact hq
          · exact HP.out j hj (by omega)
        go_wp2_with fail
        refine cC.mono ?_
        rintro e w1 ⟨rfl, b1⟩
        go_wp2_with fail
        exact ⟨⟨k + 1, hlt, by go_num, bon hW b1, HN⟩, by simp [intOf]; omega⟩
    · go_wp2
      go_ret
      exact ⟨reti (by rw [HR.out, fi_no (fun j hj => HP.out j hj (by omega))]; rfl), hW⟩
theorem idx62_nil (A : Option Addr) (c a : Nat) (w : World) : Calls Tryz.prog 92 #[.slice A 0 c, .func (Fn.func 63) #[] #[.pointer (some ⟨a, 0, none⟩)]] w fun e w' => e = .returned (.int .i64 (-1)) ∧ w' = w := by
  go_enter Tryz.func92, Tryz.ntmps92
  go_wp2
  refine wp_loop_rounds 1 ?_
  rw [rounds_succ]
  go_wp2
  go_ret
  exact ⟨rfl, rfl⟩
theorem idx62_any (v : Value) (a : Nat) (l : List Tm) (q : Tm → Bool) (w : World) (h : Ts w v l) (hn : l.length ≤ 1000000) (hq : ∀ i (hi : i < l.length) W, Below w.heap.size w W → Calls Tryz.prog 63 #[tv l[i], .pointer (some ⟨a, 0, none⟩)] W fun e w' => e = .returned (.bool (q l[i])) ∧ Below W.heap.size W w') :
    Calls Tryz.prog 92 #[v, .func (Fn.func 63) #[] #[.pointer (some ⟨a, 0, none⟩)]] w fun e w' => e = .returned (.int .i64 (fx (l.findIdx? q))) ∧ Below w.heap.size w w' := by
  rcases h.is with ⟨rfl, A, c, rfl⟩ | ⟨b, o, c, rfl, hc, hf⟩
  · exact (idx62_nil A c a w).mono fun x w' ⟨h1, h2⟩ => ⟨h1, by rw [h2]; exact Below.refl _ _⟩
  · exact idx62_row b o c a l q w hf hn hq
theorem con62_any (v : Value) (a : Nat) (l : List Tm) (q : Tm → Bool) (w : World) (h : Ts w v l) (hn : l.length ≤ 1000000) (hq : ∀ i (hi : i < l.length) W, Below w.heap.size w W → Calls Tryz.prog 63 #[tv l[i], .pointer (some ⟨a, 0, none⟩)] W fun e w' => e = .returned (.bool (q l[i])) ∧ Below W.heap.size W w') :
    Calls Tryz.prog 67 #[v, .func (Fn.func 63) #[] #[.pointer (some ⟨a, 0, none⟩)]] w fun e w' => e = .returned (.bool (l.any q)) ∧ Below w.heap.size w w' := by
  have cI := idx62_any v a l q w h hn hq
  have HE := Lib.hid (fx_any q l)
  generalize fx (l.findIdx? q) = z at cI HE
  clear hq h
  go_enter Tryz.func67, Tryz.ntmps67
  go_wp2_with fail
  refine cI.mono ?_
  rintro e w1 ⟨rfl, b1⟩
  go_wp2
  all_goals go_ret
  all_goals exact ⟨retb (by rw [← HE.out]), b1⟩
end Go.Proofs.YthijccmiemlilaaGreatDoor
namespace Go.Proofs.YthijccmiemlilaaGreatDoor
open Go.RowKit Go.Sort

/-- Does a package of that name and version, that provides these, meet the term? -/
def mt (n : List UInt8) (e : Int) (u r : List UInt8) (P : List Tm) (t : Tm) : Bool := (n == t.n && Vm.iv (Vm.cv e u r t.e t.u t.r) t.o) || P.any (nv t)
/-- An offer as a value. -/
abbrev ofv (n : List UInt8) (e : Int) (u r : List UInt8) (v : Value) : Value := .agg #[.string ⟨n.toArray⟩, .int .i64 e, .string ⟨u.toArray⟩, .string ⟨r.toArray⟩, v]

set_option maxHeartbeats 1600000 in
set_option maxRecDepth 100000 in
theorem meets_any (n : List UInt8) (e : Int) (u r : List UInt8) (v : Value) (P : List Tm) (t : Tm) (w : World) (hv : Ts w v P) (hP : ∀ p ∈ P, Sh p) (hn : P.length ≤ 40) (ht : Sh t) (hu : u.length ≤ 100) (hr : r.length ≤ 100) :
    Calls Tryz.prog 66 #[ofv n e u r v, tv t] w fun x w' => x = .returned (.bool (mt n e u r P t)) ∧ Below w.heap.size w w' := by
  have cI := fun W => is_b e u r t.o t.e t.u t.r W (by omega) (by omega) (by have := ht.u; omega) (by have := ht.r; omega)
  obtain ⟨q, hq⟩ : ∃ q, q = Vm.iv (Vm.cv e u r t.e t.u t.r) t.o := ⟨_, rfl⟩
  have b1 := b1c w (.cells #[.string ⟨n.toArray⟩, .int .i64 e, .string ⟨u.toArray⟩, .string ⟨r.toArray⟩, v] 65)
  have b2 := b2c w (.cells #[.string ⟨n.toArray⟩, .int .i64 e, .string ⟨u.toArray⟩, .string ⟨r.toArray⟩, v] 65) (.cells #[.string ⟨t.n.toArray⟩, .int .i64 t.o, .int .i64 t.e, .string ⟨t.u.toArray⟩, .string ⟨t.r.toArray⟩] 112)
  have hT := tc_new (w.alloc (.cells #[.string ⟨n.toArray⟩, .int .i64 e, .string ⟨u.toArray⟩, .string ⟨r.toArray⟩, v] 65)) t
  have hsz : (w.alloc (.cells #[.string ⟨n.toArray⟩, .int .i64 e, .string ⟨u.toArray⟩, .string ⟨r.toArray⟩, v] 65)).heap.size = w.heap.size + 1 := by show (w.heap.push _).size = _; rw [Array.size_push]
  rw [hsz] at hT
  have cC : ∀ W, Below w.heap.size w W → Tc W (w.heap.size + 1) t → Calls Tryz.prog 67 #[v, .func (Fn.func 90) #[] #[.pointer (some ⟨w.heap.size + 1, 0, none⟩)]] W fun e w' => e = .returned (.bool (P.any (nv t))) ∧ Below W.heap.size W w' := fun W hW hc =>
    con67_any v (w.heap.size + 1) P (nv t) W (hv.on hW) (by omega) (fun i hi W' hW' => clo67 P[i] t _ W' (hc.on hW') (hP _ (List.getElem_mem hi)) ht)
  unfold mt
  generalize P.any (nv t) = z at cC ⊢
  rw [← hq] at cI ⊢
  have HC := Lib.hid cC
  have HT := Lib.hid hT
  clear hq cC hT hv hP hn ht hu hr b1
  cases q1 : (n == t.n) with
  | false =>
    go_enter Tryz.func66, Tryz.ntmps66
    go_wp2_with fail
    refine (HC.out _ b2 HT.out).mono ?_
    rintro x w1 ⟨rfl, bw⟩
    go_wp2_with fail
    go_ret
    exact ⟨retb (by simp), bon b2 bw⟩
  | true =>
    cases q with
    | true =>
      go_enter Tryz.func66, Tryz.ntmps66
      go_wp2_with fail
      refine (cI _).mono ?_
      rintro x w1 ⟨rfl, bw⟩
      go_wp2_with fail
      go_ret
      exact ⟨retb (by simp), bon b2 bw⟩
    | false =>
      go_enter Tryz.func66, Tryz.ntmps66
      go_wp2_with fail
      refine (cI _).mono ?_
      rintro x w1 ⟨rfl, bw⟩
      have hb := bon b2 bw
      have HT1 := Lib.hid (HT.out.on bw)
      have k4 : w1.cell? ⟨w.heap.size, 4, none⟩ = some v := by rw [bw.cell (by simp; omega)]; simp
      clear HT
      go_wp2_with fail
      refine (HC.out _ hb HT1.out).mono ?_
      rintro x w2 ⟨rfl, bw2⟩
      go_wp2_with fail
      go_ret
      exact ⟨retb (by simp), bon hb bw2⟩
end Go.Proofs.YthijccmiemlilaaGreatDoor
