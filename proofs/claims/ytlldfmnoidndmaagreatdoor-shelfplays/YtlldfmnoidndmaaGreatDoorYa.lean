/- Packages in memory; the walks of the law's texts and says. -/
import Derived.Test.YtlldfmnoidndmaaGreatDoorDx
namespace Go.Proofs.YtlldfmnoidndmaaGreatDoor
open Go.RowKit Go.Sort

/-- An offer: its name, its version, what it provides. -/
structure Ofr where
  n : List UInt8
  e : Int
  u : List UInt8
  r : List UInt8
  P : List Tm
  deriving Inhabited
abbrev pkv (n : List UInt8) (e : Int) (u r : List UInt8) (vD vA vG vB vR vP vS vL vF : Value) : Value := .agg #[.string ⟨n.toArray⟩, .int .i64 e, .string ⟨u.toArray⟩, .string ⟨r.toArray⟩, vD, vA, vG, vB, vR, vP, vS, vL, vF]
abbrev pko (n : List UInt8) (e : Int) (u r : List UInt8) (vD vA vG vB vR vP vS vL vF : Value) : Obj := .cells #[.string ⟨n.toArray⟩, .int .i64 e, .string ⟨u.toArray⟩, .string ⟨r.toArray⟩, vD, vA, vG, vB, vR, vP, vS, vL, vF] 43
/-- Texts in a row, a slice of them. -/
structure Sr (W : World) (b o : Nat) (l : List (List UInt8)) : Prop where
  lt : b < W.heap.size
  c : ∀ i (hi : i < l.length), W.cell? ⟨b, o + i, none⟩ = some (.string ⟨l[i].toArray⟩)
structure Ss (W : World) (v : Value) (l : List (List UInt8)) : Prop where
  is : (l = [] ∧ ∃ A c, v = .slice A 0 c) ∨ ∃ b o c, v = .slice (some ⟨b, o, none⟩) l.length c ∧ l.length ≤ c ∧ Sr W b o l
theorem Ss.on {W w' : World} {v : Value} {l : List (List UInt8)} (h : Ss W v l) (k : Below W.heap.size W w') : Ss w' v l := by
  rcases h.is with h | ⟨b, o, c, h1, h2, h3⟩
  · exact ⟨Or.inl h⟩
  · exact ⟨Or.inr ⟨b, o, c, h1, h2, ⟨Nat.lt_of_lt_of_le h3.lt k.size, fun i hi => by rw [k.cell (p := ⟨b, _, none⟩) h3.lt]; exact h3.c i hi⟩⟩⟩
/-- Files in a row, a slice of them. -/
structure Fr (W : World) (b o : Nat) (l : List (List UInt8 × List UInt8)) : Prop where
  lt : b < W.heap.size
  c0 : ∀ i (hi : i < l.length), W.cell? ⟨b, o + i * 2, none⟩ = some (.string ⟨l[i].1.toArray⟩)
  c1 : ∀ i (hi : i < l.length), W.cell? ⟨b, o + i * 2 + 1, none⟩ = some (.string ⟨l[i].2.toArray⟩)
structure Fs (W : World) (v : Value) (l : List (List UInt8 × List UInt8)) : Prop where
  is : (l = [] ∧ ∃ A c, v = .slice A 0 c) ∨ ∃ b o c, v = .slice (some ⟨b, o, none⟩) l.length c ∧ l.length ≤ c ∧ Fr W b o l
theorem Fr.on {W w' : World} {b o : Nat} {l : List (List UInt8 × List UInt8)} (h : Fr W b o l) (k : Below W.heap.size W w') : Fr w' b o l :=
  ⟨Nat.lt_of_lt_of_le h.lt k.size, fun i hi => by rw [k.cell (p := ⟨b, _, none⟩) h.lt]; exact h.c0 i hi, fun i hi => by rw [k.cell (p := ⟨b, _, none⟩) h.lt]; exact h.c1 i hi⟩
theorem Fs.on {W w' : World} {v : Value} {l : List (List UInt8 × List UInt8)} (h : Fs W v l) (k : Below W.heap.size W w') : Fs w' v l := by
  rcases h.is with h | ⟨b, o, c, h1, h2, h3⟩
  · exact ⟨Or.inl h⟩
  · exact ⟨Or.inr ⟨b, o, c, h1, h2, h3.on k⟩⟩

/-- A package: what it offers, and the rest. -/
structure Pck where
  o : Ofr
  D : List (List Tm)
  A : List (List Tm)
  G : List Tm
  B : List Tm
  R : List Tm
  S : List (List UInt8)
  L : List (List UInt8)
  F : List (List UInt8 × List UInt8)
  deriving Inhabited
/-- What its slices hold. -/
structure Pz (W : World) (p : Pck) (vD vA vG vB vR vP vS vL vF : Value) : Prop where
  D : As W vD p.D
  A : As W vA p.A
  G : Ts W vG p.G
  B : Ts W vB p.B
  R : Ts W vR p.R
  P : Ts W vP p.o.P
  S : Ss W vS p.S
  L : Ss W vL p.L
  F : Fs W vF p.F
theorem Pz.on {W w' : World} {p : Pck} {vD vA vG vB vR vP vS vL vF : Value} (h : Pz W p vD vA vG vB vR vP vS vL vF) (k : Below W.heap.size W w') : Pz w' p vD vA vG vB vR vP vS vL vF :=
  ⟨h.D.on k, h.A.on k, h.G.on k, h.B.on k, h.R.on k, h.P.on k, h.S.on k, h.L.on k, h.F.on k⟩
/-- Its cells. -/
structure Pc (W : World) (b o : Nat) (p : Pck) (vD vA vG vB vR vP vS vL vF : Value) : Prop where
  c0 : W.cell? ⟨b, o, none⟩ = some (.string ⟨p.o.n.toArray⟩)
  c1 : W.cell? ⟨b, o + 1, none⟩ = some (.int .i64 p.o.e)
  c2 : W.cell? ⟨b, o + 2, none⟩ = some (.string ⟨p.o.u.toArray⟩)
  c3 : W.cell? ⟨b, o + 3, none⟩ = some (.string ⟨p.o.r.toArray⟩)
  c4 : W.cell? ⟨b, o + 4, none⟩ = some (vD)
  c5 : W.cell? ⟨b, o + 5, none⟩ = some (vA)
  c6 : W.cell? ⟨b, o + 6, none⟩ = some (vG)
  c7 : W.cell? ⟨b, o + 7, none⟩ = some (vB)
  c8 : W.cell? ⟨b, o + 8, none⟩ = some (vR)
  c9 : W.cell? ⟨b, o + 9, none⟩ = some (vP)
  c10 : W.cell? ⟨b, o + 10, none⟩ = some (vS)
  c11 : W.cell? ⟨b, o + 11, none⟩ = some (vL)
  c12 : W.cell? ⟨b, o + 12, none⟩ = some (vF)
theorem Pc.on {W w' : World} {b o : Nat} {p : Pck} {vD vA vG vB vR vP vS vL vF : Value} (h : Pc W b o p vD vA vG vB vR vP vS vL vF) (k : Below W.heap.size W w') : Pc w' b o p vD vA vG vB vR vP vS vL vF :=
  ⟨by rw [k.cell (block_lt_of_cell h.c0)]; exact h.c0, by rw [k.cell (block_lt_of_cell h.c1)]; exact h.c1, by rw [k.cell (block_lt_of_cell h.c2)]; exact h.c2, by rw [k.cell (block_lt_of_cell h.c3)]; exact h.c3, by rw [k.cell (block_lt_of_cell h.c4)]; exact h.c4, by rw [k.cell (block_lt_of_cell h.c5)]; exact h.c5, by rw [k.cell (block_lt_of_cell h.c6)]; exact h.c6, by rw [k.cell (block_lt_of_cell h.c7)]; exact h.c7, by rw [k.cell (block_lt_of_cell h.c8)]; exact h.c8, by rw [k.cell (block_lt_of_cell h.c9)]; exact h.c9, by rw [k.cell (block_lt_of_cell h.c10)]; exact h.c10, by rw [k.cell (block_lt_of_cell h.c11)]; exact h.c11, by rw [k.cell (block_lt_of_cell h.c12)]; exact h.c12⟩
/-- Its cells in a block of its own. -/
structure Pb (W : World) (b : Nat) (p : Pck) (vD vA vG vB vR vP vS vL vF : Value) : Prop where
  c0 : W.cell? ⟨b, 0, none⟩ = some (.string ⟨p.o.n.toArray⟩)
  c1 : W.cell? ⟨b, 1, none⟩ = some (.int .i64 p.o.e)
  c2 : W.cell? ⟨b, 2, none⟩ = some (.string ⟨p.o.u.toArray⟩)
  c3 : W.cell? ⟨b, 3, none⟩ = some (.string ⟨p.o.r.toArray⟩)
  c4 : W.cell? ⟨b, 4, none⟩ = some (vD)
  c5 : W.cell? ⟨b, 5, none⟩ = some (vA)
  c6 : W.cell? ⟨b, 6, none⟩ = some (vG)
  c7 : W.cell? ⟨b, 7, none⟩ = some (vB)
  c8 : W.cell? ⟨b, 8, none⟩ = some (vR)
  c9 : W.cell? ⟨b, 9, none⟩ = some (vP)
  c10 : W.cell? ⟨b, 10, none⟩ = some (vS)
  c11 : W.cell? ⟨b, 11, none⟩ = some (vL)
  c12 : W.cell? ⟨b, 12, none⟩ = some (vF)
theorem Pb.on {W w' : World} {b : Nat} {p : Pck} {vD vA vG vB vR vP vS vL vF : Value} (h : Pb W b p vD vA vG vB vR vP vS vL vF) (k : Below W.heap.size W w') : Pb w' b p vD vA vG vB vR vP vS vL vF :=
  ⟨by rw [k.cell (block_lt_of_cell h.c0)]; exact h.c0, by rw [k.cell (block_lt_of_cell h.c1)]; exact h.c1, by rw [k.cell (block_lt_of_cell h.c2)]; exact h.c2, by rw [k.cell (block_lt_of_cell h.c3)]; exact h.c3, by rw [k.cell (block_lt_of_cell h.c4)]; exact h.c4, by rw [k.cell (block_lt_of_cell h.c5)]; exact h.c5, by rw [k.cell (block_lt_of_cell h.c6)]; exact h.c6, by rw [k.cell (block_lt_of_cell h.c7)]; exact h.c7, by rw [k.cell (block_lt_of_cell h.c8)]; exact h.c8, by rw [k.cell (block_lt_of_cell h.c9)]; exact h.c9, by rw [k.cell (block_lt_of_cell h.c10)]; exact h.c10, by rw [k.cell (block_lt_of_cell h.c11)]; exact h.c11, by rw [k.cell (block_lt_of_cell h.c12)]; exact h.c12⟩
theorem pb_new (w : World) (p : Pck) (vD vA vG vB vR vP vS vL vF : Value) : Pb (w.alloc (pko p.o.n p.o.e p.o.u p.o.r vD vA vG vB vR vP vS vL vF)) w.heap.size p vD vA vG vB vR vP vS vL vF :=
  ⟨by simp, by simp, by simp, by simp, by simp, by simp, by simp, by simp, by simp, by simp, by simp, by simp, by simp⟩
/-- Texts that are short enough. -/
def txs (l : List (List UInt8)) : Bool := decide (l.length ≤ 40) && l.all fun s => decide (s.length ≤ 100)
def fls (l : List (List UInt8 × List UInt8)) : Bool := decide (l.length ≤ 30) && l.all fun f => decide (f.1.length ≤ 100) && decide (f.2.length ≤ 500)
/-- A package that is short enough. -/
structure Sok (p : Pck) : Prop where
  n : p.o.n.length ≤ 60
  u : p.o.u.length ≤ 100
  r : p.o.r.length ≤ 100
  D : tla p.D = true
  A : tla p.A = true
  G : fla p.G = true
  B : fla p.B = true
  R : fla p.R = true
  P : fla p.o.P = true
  S : txs p.S = true
  L : txs p.L = true
  F : fls p.F = true
/-- It tells yes or no; where yes, the package is short enough. -/
def Sy (p : Pck) (e : Ending) : Prop := ∃ y, e = .returned (.bool y) ∧ (y = true → Sok p)
theorem all_t {α : Type} {f : α → Bool} {l : List α} (h : ∀ j (hj : j < l.length), f l[j] = true) : l.all f = true := by
  rw [List.all_eq_true]; intro x hx; obtain ⟨j, hj, rfl⟩ := List.getElem_of_mem hx; exact h j hj
theorem all_f {α : Type} {f : α → Bool} {l : List α} (j : Nat) (hj : j < l.length) (h : f l[j] = false) : l.all f = false := by
  rw [List.all_eq_false]; exact ⟨l[j], List.getElem_mem hj, by rw [h]; simp⟩
theorem texts_long (A : Option Addr) (n c : Nat) (w : World) (h : 40 < n) : Calls Tryz.prog 38 #[.slice A n c] w fun e w' => e = .returned (.bool false) ∧ w' = w := by
  go_enter Tryz.func38, Tryz.ntmps38
  go_wp2
  go_ret
  exact ⟨rfl, rfl⟩
theorem texts_nil (A : Option Addr) (c : Nat) (w : World) : Calls Tryz.prog 38 #[.slice A 0 c] w fun e w' => e = .returned (.bool true) ∧ w' = w := by
  go_enter Tryz.func38, Tryz.ntmps38
  go_wp2
  refine wp_loop_rounds 1 ?_
  rw [rounds_succ]
  go_wp2
  go_ret
  exact ⟨rfl, rfl⟩
set_option maxHeartbeats 1600000 in
theorem texts_row (b o c : Nat) (l : List (List UInt8)) (w : World) (h : Sr w b o l) (hn : l.length ≤ 40) : Calls Tryz.prog 38 #[.slice (some ⟨b, o, none⟩) l.length c] w fun e w' => e = .returned (.bool (l.all fun s => decide (s.length ≤ 100))) ∧ w' = w := by
  obtain ⟨r, hr⟩ : ∃ r, r = (l.all fun s => decide (s.length ≤ 100)) := ⟨_, rfl⟩
  rw [← hr]
  have HR := Lib.hid hr
  have HF := Lib.hid h
  clear h hr
  go_enter Tryz.func38, Tryz.ntmps38
  go_wp2
  go_loop [3] (fun i => ∃ k : Nat, k ≤ l.length ∧ i = .int .i64 k ∧ Hid (∀ j (hj : j < l.length), j < k → decide (l[j].length ≤ 100) = true)) (fun i => l.length - (intOf i).toNat)
  case atStart => exact ⟨0, Nat.zero_le _, rfl, fun j _ h => absurd h (Nat.not_lt_zero _)⟩
  case round =>
    obtain ⟨k, hk, rfl, HP⟩ := hrel
    by_cases hlt : k < l.length
    · have c0 := HF.out.c k hlt
      by_cases h1 : l[k].length ≤ 100
      · have HG : Hid (∀ j (hj : j < l.length), j < k + 1 → decide (l[j].length ≤ 100) = true) := fun j hj h => by
          by_cases e : j = k
          · subst e; exact decide_eq_true h1
          · exact HP.out j hj (by omega)
        go_wp2
        exact ⟨⟨k + 1, hlt, by go_num, HG⟩, by simp [intOf]; omega⟩
      · have hr : r = false := by rw [HR.out]; exact all_f k hlt (decide_eq_false h1)
        subst hr
        go_wp2
        go_ret
        exact ⟨rfl, rfl⟩
    · have hr : r = true := by rw [HR.out]; exact all_t (fun j hj => HP.out j hj (by omega))
      subst hr
      go_wp2
      go_ret
      exact ⟨rfl, rfl⟩
theorem texts_any (v : Value) (l : List (List UInt8)) (w : World) (h : Ss w v l) : Calls Tryz.prog 38 #[v] w fun e w' => e = .returned (.bool (txs l)) ∧ Below w.heap.size w w' := by
  have up : ∀ {y : Bool} {e : Ending} {w' : World}, (e = .returned (.bool y) ∧ w' = w) → txs l = y → e = .returned (.bool (txs l)) ∧ Below w.heap.size w w' := fun ⟨h1, h2⟩ hy => ⟨by rw [h1, hy], by rw [h2]; exact Below.refl _ _⟩
  rcases h.is with ⟨rfl, A, c, rfl⟩ | ⟨b, o, c, rfl, _, hf⟩
  · exact (texts_nil A c w).mono fun _ _ h => up h rfl
  · by_cases hn : l.length ≤ 40
    · exact (texts_row b o c l w hf hn).mono fun _ _ h => up h (by unfold txs; rw [decide_eq_true hn]; rfl)
    · exact (texts_long _ _ c w (by omega)).mono fun _ _ h => up h (by unfold txs; rw [decide_eq_false hn]; rfl)

theorem ur {u r : List UInt8} (h : (decide (u.length ≤ 100) && decide (r.length ≤ 100)) = true) : u.length ≤ 100 ∧ r.length ≤ 100 := by
  simpa using h

set_option maxHeartbeats 6400000 in
set_option maxRecDepth 100000 in
theorem says_any (p : Pck) (vD vA vG vB vR vP vS vL vF : Value) (w : World) (hz : Pz w p vD vA vG vB vR vP vS vL vF) : Calls Tryz.prog 9 #[pkv p.o.n p.o.e p.o.u p.o.r vD vA vG vB vR vP vS vL vF] w fun x w' => Sy p x ∧ Below w.heap.size w w' := by
  have b0 := b1c w (pko p.o.n p.o.e p.o.u p.o.r vD vA vG vB vR vP vS vL vF)
  have B0 := Lib.hid (pb_new w p vD vA vG vB vR vP vS vL vF)
  have Z0 := Lib.hid (hz.on b0)
  clear hz
  by_cases h60 : p.o.n.length ≤ 60
  · have cS := fun W => short_b p.o.e p.o.u p.o.r W
    obtain ⟨y0, hy0⟩ : ∃ y, y = (decide (p.o.u.length ≤ 100) && decide (p.o.r.length ≤ 100)) := ⟨_, rfl⟩
    rw [← hy0] at cS
    have H0 := Lib.hid hy0
    clear hy0
    go_enter Tryz.func9, Tryz.ntmps9
    go_wp2_with fail
    refine (cS _).mono ?_
    rintro x w1 ⟨rfl, bw1⟩
    clear cS
    cases y0 with
    | false =>
      go_wp2_with fail
      go_ret
      exact ⟨⟨false, rfl, fun h => by cases h⟩, bon b0 bw1⟩
    | true =>
      have c1 := bon b0 bw1
      have B1 := Lib.hid (B0.out.on bw1)
      have Z1 := Lib.hid (Z0.out.on bw1)
      clear B0 Z0 bw1
      have k4 := B1.out.c4
      have cT := Lib.hid (terms_any vD p.D w1 Z1.out.D)
      obtain ⟨y1, hy1⟩ : ∃ y, y = tla p.D := ⟨_, rfl⟩
      rw [← hy1] at cT
      have H1 := Lib.hid hy1
      clear hy1
      go_wp2_with fail
      refine cT.out.mono ?_
      rintro x w2 ⟨rfl, bw⟩
      clear cT k4
      cases y1 with
      | false =>
        go_wp2_with fail
        go_ret
        exact ⟨⟨false, rfl, fun h => by cases h⟩, bon c1 bw⟩
      | true =>
        have c2 := bon c1 bw
        have B2 := Lib.hid (B1.out.on bw)
        have Z2 := Lib.hid (Z1.out.on bw)
        clear B1 Z1 bw c1
        have k5 := B2.out.c5
        have cT := Lib.hid (terms_any vA p.A w2 Z2.out.A)
        obtain ⟨y2, hy2⟩ : ∃ y, y = tla p.A := ⟨_, rfl⟩
        rw [← hy2] at cT
        have H2 := Lib.hid hy2
        clear hy2
        go_wp2_with fail
        refine cT.out.mono ?_
        rintro x w3 ⟨rfl, bw⟩
        clear cT k5
        cases y2 with
        | false =>
          go_wp2_with fail
          go_ret
          exact ⟨⟨false, rfl, fun h => by cases h⟩, bon c2 bw⟩
        | true =>
          have c3 := bon c2 bw
          have B3 := Lib.hid (B2.out.on bw)
          have Z3 := Lib.hid (Z2.out.on bw)
          clear B2 Z2 bw c2
          have k6 := B3.out.c6
          have cT := Lib.hid (flat_any vG p.G w3 Z3.out.G)
          obtain ⟨y3, hy3⟩ : ∃ y, y = fla p.G := ⟨_, rfl⟩
          rw [← hy3] at cT
          have H3 := Lib.hid hy3
          clear hy3
          go_wp2_with fail
          refine cT.out.mono ?_
          rintro x w4 ⟨rfl, bw⟩
          clear cT k6
          cases y3 with
          | false =>
            go_wp2_with fail
            go_ret
            exact ⟨⟨false, rfl, fun h => by cases h⟩, bon c3 bw⟩
          | true =>
            have c4 := bon c3 bw
            have B4 := Lib.hid (B3.out.on bw)
            have Z4 := Lib.hid (Z3.out.on bw)
            clear B3 Z3 bw c3
            have k7 := B4.out.c7
            have cT := Lib.hid (flat_any vB p.B w4 Z4.out.B)
            obtain ⟨y4, hy4⟩ : ∃ y, y = fla p.B := ⟨_, rfl⟩
            rw [← hy4] at cT
            have H4 := Lib.hid hy4
            clear hy4
            go_wp2_with fail
            refine cT.out.mono ?_
            rintro x w5 ⟨rfl, bw⟩
            clear cT k7
            cases y4 with
            | false =>
              go_wp2_with fail
              go_ret
              exact ⟨⟨false, rfl, fun h => by cases h⟩, bon c4 bw⟩
            | true =>
              have c5 := bon c4 bw
              have B5 := Lib.hid (B4.out.on bw)
              have Z5 := Lib.hid (Z4.out.on bw)
              clear B4 Z4 bw c4
              have k8 := B5.out.c8
              have cT := Lib.hid (flat_any vR p.R w5 Z5.out.R)
              obtain ⟨y5, hy5⟩ : ∃ y, y = fla p.R := ⟨_, rfl⟩
              rw [← hy5] at cT
              have H5 := Lib.hid hy5
              clear hy5
              go_wp2_with fail
              refine cT.out.mono ?_
              rintro x w6 ⟨rfl, bw⟩
              clear cT k8
              cases y5 with
              | false =>
                go_wp2_with fail
                go_ret
                exact ⟨⟨false, rfl, fun h => by cases h⟩, bon c5 bw⟩
              | true =>
                have c6 := bon c5 bw
                have B6 := Lib.hid (B5.out.on bw)
                have Z6 := Lib.hid (Z5.out.on bw)
                clear B5 Z5 bw c5
                have k9 := B6.out.c9
                have cT := Lib.hid (flat_any vP p.o.P w6 Z6.out.P)
                obtain ⟨y6, hy6⟩ : ∃ y, y = fla p.o.P := ⟨_, rfl⟩
                rw [← hy6] at cT
                have HP := Lib.hid hy6
                clear hy6
                go_wp2_with fail
                refine cT.out.mono ?_
                rintro x w7 ⟨rfl, bw⟩
                clear cT k9
                cases y6 with
                | false =>
                  go_wp2_with fail
                  go_ret
                  exact ⟨⟨false, rfl, fun h => by cases h⟩, bon c6 bw⟩
                | true =>
                  have c7 := bon c6 bw
                  have B7 := Lib.hid (B6.out.on bw)
                  have Z7 := Lib.hid (Z6.out.on bw)
                  clear B6 Z6 bw c6
                  have k10 := B7.out.c10
                  have cT := Lib.hid (texts_any vS p.S w7 Z7.out.S)
                  obtain ⟨y7, hy7⟩ : ∃ y, y = txs p.S := ⟨_, rfl⟩
                  rw [← hy7] at cT
                  have H7 := Lib.hid hy7
                  clear hy7
                  go_wp2_with fail
                  refine cT.out.mono ?_
                  rintro x w8 ⟨rfl, bw⟩
                  clear cT k10
                  cases y7 with
                  | false =>
                    go_wp2_with fail
                    go_ret
                    exact ⟨⟨false, rfl, fun h => by cases h⟩, bon c7 bw⟩
                  | true =>
                    have c8 := bon c7 bw
                    have B8 := Lib.hid (B7.out.on bw)
                    have Z8 := Lib.hid (Z7.out.on bw)
                    clear B7 Z7 bw c7
                    have k11 := B8.out.c11
                    have cT := Lib.hid (texts_any vL p.L w8 Z8.out.L)
                    obtain ⟨y8, hy8⟩ : ∃ y, y = txs p.L := ⟨_, rfl⟩
                    rw [← hy8] at cT
                    have H8 := Lib.hid hy8
                    clear hy8
                    go_wp2_with fail
                    refine cT.out.mono ?_
                    rintro x w9 ⟨rfl, bw⟩
                    clear cT k11
                    cases y8 with
                    | false =>
                      go_wp2_with fail
                      go_ret
                      exact ⟨⟨false, rfl, fun h => by cases h⟩, bon c8 bw⟩
                    | true =>
                      have c9 := bon c8 bw
                      have B9 := Lib.hid (B8.out.on bw)
                      have Z9 := Lib.hid (Z8.out.on bw)
                      clear B8 Z8 bw c8
                      have k12 := B9.out.c12
                      have hOh : fls p.F = true → Sok p := fun hF => ⟨h60, (ur H0.out.symm).1, (ur H0.out.symm).2, H1.out.symm, H2.out.symm, H3.out.symm, H4.out.symm, H5.out.symm, HP.out.symm, H7.out.symm, H8.out.symm, hF⟩
                      have HOh := Lib.hid hOh
                      clear hOh H0 H1 H2 H3 H4 H5 H7 H8 HP
                      rcases Z9.out.F.is with ⟨h0, A, c, rfl⟩ | ⟨b, o, c, rfl, _, hf⟩
                      · have HOk := Lib.hid (HOh.out (by rw [h0]; rfl))
                        clear Z9 B9 HOh h0
                        go_wp2_with fail
                        refine wp_loop_rounds 1 ?_
                        rw [rounds_succ]
                        go_wp2_with fail
                        go_ret
                        exact ⟨⟨true, rfl, fun _ => HOk.out⟩, c9⟩
                      · have HF := Lib.hid hf
                        clear hf Z9 B9
                        by_cases h30 : p.F.length ≤ 30
                        · go_wp2_with fail
                          go_loop [3] (fun i => ∃ k : Nat, k ≤ p.F.length ∧ i = .int .i64 k ∧ Hid (∀ j (hj : j < p.F.length), j < k → (decide (p.F[j].1.length ≤ 100) && decide (p.F[j].2.length ≤ 500)) = true)) (fun i => p.F.length - (intOf i).toNat)
                          case atStart => exact ⟨0, Nat.zero_le _, rfl, fun j _ h => absurd h (Nat.not_lt_zero _)⟩
                          case round =>
                            obtain ⟨k, hk, rfl, HJ⟩ := hrel
                            by_cases hlt : k < p.F.length
                            · have f0 := HF.out.c0 k hlt
                              have f1 := HF.out.c1 k hlt
                              by_cases h1 : p.F[k].1.length ≤ 100
                              · by_cases h2 : p.F[k].2.length ≤ 500
                                · have HG : Hid (∀ j (hj : j < p.F.length), j < k + 1 → (decide (p.F[j].1.length ≤ 100) && decide (p.F[j].2.length ≤ 500)) = true) := fun j hj h => by
                                    by_cases e : j = k
                                    · subst e; rw [decide_eq_true h1, decide_eq_true h2]; rfl
                                    · exact HJ.out j hj (by omega)
                                  go_wp2
                                  exact ⟨⟨k + 1, hlt, by go_num, HG⟩, by simp [intOf]; omega⟩
                                · go_wp2
                                  go_ret
                                  exact ⟨⟨false, rfl, fun h => by cases h⟩, c9⟩
                              · go_wp2
                                go_ret
                                exact ⟨⟨false, rfl, fun h => by cases h⟩, c9⟩
                            · have HOk := Lib.hid (HOh.out (by unfold fls; rw [decide_eq_true h30, all_t (fun j hj => HJ.out j hj (by omega))]; rfl))
                              go_wp2
                              go_ret
                              exact ⟨⟨true, rfl, fun _ => HOk.out⟩, c9⟩
                        · go_wp2_with fail
                          go_ret
                          exact ⟨⟨false, rfl, fun h => by cases h⟩, c9⟩
  · go_enter Tryz.func9, Tryz.ntmps9
    go_wp2_with fail
    go_ret
    exact ⟨⟨false, rfl, fun h => by cases h⟩, b0⟩
end Go.Proofs.YtlldfmnoidndmaaGreatDoor
