/- Edges in memory; the table of edges. -/
import Derived.Test.YtnebkdildnngeaaDoorOb
namespace Go.Proofs.YtnebkdildnngeaaDoor
open Go.RowKit Go.Sort

abbrev E := Int × Int
/-- Edges in a row. -/
structure Er (W : World) (b o : Nat) (l : List E) : Prop where
  lt : b < W.heap.size
  c0 : ∀ i (hi : i < l.length), W.cell? ⟨b, o + i * 2, none⟩ = some (.int .i64 l[i].1)
  c1 : ∀ i (hi : i < l.length), W.cell? ⟨b, o + i * 2 + 1, none⟩ = some (.int .i64 l[i].2)
theorem Er.on {W W' : World} {b o : Nat} {l : List E} (h : Er W b o l) (k : Below W.heap.size W W') : Er W' b o l :=
  ⟨Nat.lt_of_lt_of_le h.lt k.size, fun i hi => (k.cell h.lt).trans (h.c0 i hi), fun i hi => (k.cell h.lt).trans (h.c1 i hi)⟩
structure Es (W : World) (v : Value) (l : List E) : Prop where
  is : (l = [] ∧ ∃ A c, v = .slice A 0 c) ∨ ∃ b o c, v = .slice (some ⟨b, o, none⟩) l.length c ∧ l.length ≤ c ∧ Er W b o l
theorem Es.on {W W' : World} {v : Value} {l : List E} (h : Es W v l) (k : Below W.heap.size W W') : Es W' v l :=
  ⟨h.is.imp id fun ⟨b, o, c, h1, h2, h3⟩ => ⟨b, o, c, h1, h2, h3.on k⟩⟩
theorem es_len {W : World} {v : Value} {l : List E} (h : Es W v l) : ∃ A c, v = .slice A l.length c := by
  rcases h.is with ⟨rfl, A, c, rfl⟩ | ⟨b, o, c, rfl, _⟩
  · exact ⟨A, c, rfl⟩
  · exact ⟨_, c, rfl⟩
theorem es_row {W : World} {A : Option Addr} {n c : Nat} {l : List E} (h : Es W (.slice A n c) l) (h0 : 0 < l.length) : ∃ b o, A = some ⟨b, o, none⟩ ∧ Er W b o l := by
  rcases h.is with ⟨rfl, _⟩ | ⟨b, o, c', h1, _, h3⟩
  · simp at h0
  · cases h1; exact ⟨b, o, rfl, h3⟩
/-- Lists of edges in a row. -/
structure El (W : World) (lb : Nat) (Ls : List (List E)) : Prop where
  lt : lb < W.heap.size
  c : ∀ i (hi : i < Ls.length), ∃ A c, W.cell? ⟨lb, i, none⟩ = some (.slice A Ls[i].length c) ∧ Es W (.slice A Ls[i].length c) Ls[i]
theorem El.on {W W' : World} {lb : Nat} {Ls : List (List E)} (h : El W lb Ls) (k : Below W.heap.size W W') : El W' lb Ls :=
  ⟨Nat.lt_of_lt_of_le h.lt k.size, fun i hi => by obtain ⟨A, c, h1, h2⟩ := h.c i hi; exact ⟨A, c, (k.cell h.lt).trans h1, h2.on k⟩⟩
/-- All numbers of edges are below n. -/
def Rn (n : Nat) (l : List E) : Prop := ∀ e ∈ l, 0 ≤ e.1 ∧ e.1 < n ∧ 0 ≤ e.2 ∧ e.2 < n
/-- The table of edges. -/
def et (l : List E) : Om.T := fun a b => decide (((a : Int), (b : Int)) ∈ l)
theorem et_nil : et [] = fun _ _ => false := by funext a b; simp [et]
theorem et_snoc (l : List E) (x y : Nat) : et (l ++ [((x : Int), (y : Int))]) = fun a b => if a = x ∧ b = y then true else et l a b := by
  funext a b
  unfold et
  by_cases h : a = x ∧ b = y
  · obtain ⟨rfl, rfl⟩ := h; simp
  · rw [if_neg h]
    congr 1
    rw [List.mem_append]
    apply propext
    constructor
    · rintro (h1 | h1)
      · exact h1
      · simp at h1; exact absurd (by omega) h
    · exact .inl
theorem nat_of {z : Int} {n : Nat} (h0 : 0 ≤ z) (h1 : z < n) : ∃ k : Nat, z = k ∧ k < n := ⟨z.toNat, by omega, by omega⟩
theorem zc75 : Tryd.zeroCells75 = Array.replicate 1600 (.bool false) := by kernel_rfl
theorem tb_new (w : World) : Tb (w.alloc (.cells Tryd.zeroCells75 75)) w.heap.size 40 (et []) := by
  refine ⟨by simp, Nat.le_refl _, fun a b ha hb => ?_, fun j => by simp⟩
  rw [zc75, et_nil]
  have : a * 40 + b < 1600 := by omega
  have e : (w.alloc (.cells (Array.replicate 1600 (.bool false)) 75)).heap[w.heap.size]? = some (.cells (Array.replicate 1600 (.bool false)) 75) := by show (w.heap.push _)[w.heap.size]? = _; simp
  unfold World.cell?
  rw [e]
  simp [this]
theorem bA1 (w : World) (A : Obj) : Below w.heap.size w (w.alloc A) := (Below.refl _ _).alloc (Nat.le_refl _) _
theorem take_flat (Ls : List (List E)) (i : Nat) (hi : i < Ls.length) : (Ls.take (i + 1)).flatten = (Ls.take i).flatten ++ Ls[i] := by
  rw [List.take_succ_eq_append_getElem hi, List.flatten_append]; simp
theorem take_one (l : List E) (j : Nat) (hj : j < l.length) : l.take (j + 1) = l.take j ++ [l[j]] := List.take_succ_eq_append_getElem hj
set_option maxHeartbeats 1600000 in
set_option maxRecDepth 100000 in
theorem edges_any (lb c0 : Nat) (Ls : List (List E)) (w : World) (h : El w lb Ls) (hr : ∀ l ∈ Ls, Rn 40 l) (hn : ∀ l ∈ Ls, l.length ≤ 1000000) (hm : Ls.length ≤ 10) :
    Calls Tryd.prog 16 #[.slice (some ⟨lb, 0, none⟩) Ls.length c0] w fun e w' => ∃ g, e = .returned (.pointer (some ⟨g, 0, none⟩)) ∧ w.heap.size ≤ g ∧ Tb w' g 40 (et Ls.flatten) ∧ Below w.heap.size w w' := by
  have HT0 := Lib.hid (tb_new w)
  have HB0 := Lib.hid (bA1 w (.cells Tryd.zeroCells75 75))
  have HL := Lib.hid h
  have HR := Lib.hid hr
  have HN := Lib.hid hn
  clear h hr hn
  go_enter Tryd.func16, Tryd.ntmps16
  go_wp2
  go_loopw [10] (fun i W => ∃ k : Nat, k ≤ Ls.length ∧ i = .int .i64 k ∧ Below w.heap.size w W ∧ Tb W w.heap.size 40 (et (Ls.take k).flatten)) (fun i _ => Ls.length - (intOf i).toNat)
  case atStart => exact ⟨0, Nat.zero_le _, rfl, HB0.out, by simpa using HT0.out⟩
  case round =>
    obtain ⟨k, hk, rfl, hW, hT⟩ := hrel
    by_cases hlt : k < Ls.length
    · obtain ⟨A, c, hc', hE⟩ := HL.out.c k hlt
      have hc := (hW.cell HL.out.lt).trans hc'
      have hR := HR.out Ls[k] (List.getElem_mem hlt)
      have hN := HN.out Ls[k] (List.getElem_mem hlt)
      have HF := Lib.hid (take_flat Ls k hlt)
      have HW := Lib.hid hW
      have HT := Lib.hid hT
      have HE := Lib.hid hE
      have HRk := Lib.hid hR
      generalize Ls[k] = l at hc HE HRk hN HF
      generalize (Ls.take k).flatten = D at HT HF
      clear hW hT hE hR hc'
      go_wp2
      go_loopw [16] (fun i W => ∃ j : Nat, j ≤ l.length ∧ i = .int .i64 j ∧ Below w.heap.size w W ∧ Tb W w.heap.size 40 (et (D ++ l.take j))) (fun i _ => l.length - (intOf i).toNat)
      case atStart => exact ⟨0, Nat.zero_le _, rfl, HW.out, by simpa using HT.out⟩
      case round =>
        obtain ⟨j, hj, rfl, hW, hT⟩ := hrel
        by_cases hltj : j < l.length
        · obtain ⟨b, o, rfl, hEr⟩ := es_row (HE.out.on hW) (by omega)
          have c0 := hEr.c0 j hltj
          have c1 := hEr.c1 j hltj
          have hx := HRk.out l[j] (List.getElem_mem hltj)
          have HTk := Lib.hid (take_one l j hltj)
          generalize l[j] = e at c0 c1 hx HTk
          obtain ⟨e1, e2⟩ := e
          obtain ⟨x, rfl, hx1⟩ := nat_of hx.1 hx.2.1
          obtain ⟨y, rfl, hy1⟩ := nat_of hx.2.2.1 hx.2.2.2
          dsimp only at c0 c1
          have hb := bA1 wr (.cells #[.int .i64 x, .int .i64 y] 51)
          have hT1 := hT.on hb
          have d0 := hT1.drew.c x y hx1 hy1
          have f0 := hT1.f (x * 40 + y)
          have HT1 := Lib.hid (hT1.set hx1 hy1 true).drew
          rw [← et_snoc, List.append_assoc, ← HTk.out] at HT1
          have HW1 := Lib.hid (((bon hW hb).setCell (p := ⟨w.heap.size, x * 40 + y, none⟩) (Nat.le_refl _) (.bool true)).drew)
          clear hT hT1 hb hEr hx HTk hW
          go_wp2
          go_region
          go_wp2
          exact ⟨⟨j + 1, hltj, by go_num, HW1.out, HT1.out⟩, by simp [intOf]; omega⟩
        · have ej : j = l.length := by omega
          subst ej
          rw [List.take_of_length_le (Nat.le_refl _), ← HF.out] at hT
          go_wp2
          exact ⟨⟨k + 1, hlt, by go_num, hW, hT⟩, by simp [intOf]; omega⟩
    · have ek : k = Ls.length := by omega
      subst ek
      rw [List.take_of_length_le (Nat.le_refl _)] at hT
      have HW := Lib.hid hW
      have HT := Lib.hid hT
      clear hW hT
      go_wp2
      go_ret
      exact ⟨_, rfl, Nat.le_refl _, HT.out, HW.out⟩
end Go.Proofs.YtnebkdildnngeaaDoor
