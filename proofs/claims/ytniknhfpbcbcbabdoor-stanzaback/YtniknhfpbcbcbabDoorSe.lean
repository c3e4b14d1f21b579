/- The walks of find, and of fields in a row. -/
import Derived.Test.YtniknhfpbcbcbabDoorSd
import Derived.Lib.QuietBelow
namespace Go.Proofs.YtniknhfpbcbcbabDoor
open Go.RowKit Go.Shelf Go.Sort

abbrev fv (f : Sm.F) : Value := .agg #[.string ⟨f.1.toArray⟩, .string ⟨f.2.toArray⟩]

/-- Fields that lie in a row. -/
structure Fl (W : World) (b o : Nat) (l : List Sm.F) : Prop where
  lt : b < W.heap.size
  c0 : ∀ i (hi : i < l.length), W.cell? ⟨b, o + i * 2, none⟩ = some (.string ⟨l[i].1.toArray⟩)
  c1 : ∀ i (hi : i < l.length), W.cell? ⟨b, o + i * 2 + 1, none⟩ = some (.string ⟨l[i].2.toArray⟩)
theorem Fl.on {W w' : World} {b o : Nat} {l : List Sm.F} (h : Fl W b o l) (k : Below W.heap.size W w') : Fl w' b o l :=
  ⟨Nat.lt_of_lt_of_le h.lt k.size, fun i hi => by rw [k.cell h.lt]; exact h.c0 i hi, fun i hi => by rw [k.cell h.lt]; exact h.c1 i hi⟩
theorem Fl.take {W : World} {b o : Nat} {l : List Sm.F} (h : Fl W b o l) (k : Nat) : Fl W b o (l.take k) :=
  ⟨h.lt, fun i hi => by rw [h.c0 i (by simp at hi; omega)]; simp, fun i hi => by rw [h.c1 i (by simp at hi; omega)]; simp⟩
/-- Fields short enough. -/
structure Sz (l : List Sm.F) : Prop where
  n : l.length ≤ 60
  s : ∀ f ∈ l, f.1.length ≤ 100 ∧ f.2.length ≤ 4000

theorem rg {w W w' : World} (h : Below w.heap.size w W) (h' : ∃ p : Regrown, w' = grow (redrawn W p.d) p.os) : Below w.heap.size w w' := by
  obtain ⟨p, rfl⟩ := h'
  exact h.trans ((below_regrown W p.d p.os).mono h.size)

set_option maxHeartbeats 1600000 in
set_option maxRecDepth 100000 in
theorem clos_any (f : Sm.F) (s : List UInt8) (p : Nat) (w : World) (hp : w.cell? ⟨p, 0, none⟩ = some (.string ⟨s.toArray⟩)) (hl : f.1.length ≤ 1000000) :
    Calls Tryd.prog 83 #[fv f, .pointer (some ⟨p, 0, none⟩)] w fun e w' => e = .returned (.bool (Sm.small f.1 == s)) ∧ Below w.heap.size w w' := by
  obtain ⟨⟨x, y⟩, hf⟩ : ∃ g, g = f := ⟨_, rfl⟩
  subst hf
  have hA : Below w.heap.size w (w.alloc (.cells #[.string ⟨x.toArray⟩, .string ⟨y.toArray⟩] 37)) := (Below.refl _ _).alloc (Nat.le_refl _) _
  go_enter Tryd.func83, Tryd.ntmps83
  go_wp2_with fail
  have b0 : (w.alloc (.cells #[.string ⟨x.toArray⟩, .string ⟨y.toArray⟩] 37)).cell? ⟨w.heap.size, 0, none⟩ = some (.string ⟨x.toArray⟩) := by simp
  have b1 : (w.alloc (.cells #[.string ⟨x.toArray⟩, .string ⟨y.toArray⟩] 37)).cell? ⟨p, 0, none⟩ = some (.string ⟨s.toArray⟩) := by rw [hA.cell (block_lt_of_cell hp)]; exact hp
  generalize (w.alloc (.cells #[.string ⟨x.toArray⟩, .string ⟨y.toArray⟩] 37)) = wr at hA b0 b1 ⊢
  have k0 := cell_regrown b0
  have k1 := cell_regrown b1
  obtain ⟨t, ht⟩ : ∃ t, t = Sm.small x := ⟨_, rfl⟩
  have d1 : ∀ d os, Calls Tryd.prog 81 #[.string ⟨x.toArray⟩] (grow (redrawn wr d) os) fun x w'' => x = .returned (.string ⟨t.toArray⟩) ∧ ∃ p : Regrown, w'' = grow (redrawn wr p.d) p.os := fun d os => Calls.regrown_of (by rw [ht]; exact small_any x _ hl)
  have HT := Lib.hid ht
  clear ht
  refine wp_region_quiet_below (by kernel_rfl) (by kernel_rfl) ?_
  repeat (any_goals (first | go_big_quiet_step ((with_reducible exact d1 _ _)) | quiet_step ((with_reducible exact d1 _ _))))
  refine wpQuiet_nil ?_
  intro wq hwq
  have hq := rg hA hwq
  go_wp2
  go_ret
  exact ⟨ret_bool (by rw [HT.out]), hq⟩

def ix : Option Nat → Int
  | none => -1
  | some i => i
theorem ret_int {a b : Int} (h : a = b) : Ending.returned (.int .i64 a) = .returned (.int .i64 b) := by rw [h]
theorem fi_none {l : List Sm.F} {q : Sm.F → Bool} (h : ∀ j (hj : j < l.length), q l[j] = false) : l.findIdx? q = none := by
  rw [List.findIdx?_eq_none_iff]
  intro x hx
  obtain ⟨j, hj, rfl⟩ := List.getElem_of_mem hx
  exact h j hj
theorem fi_some {l : List Sm.F} {q : Sm.F → Bool} (k : Nat) (hk : k < l.length) (h1 : q l[k] = true) (h : ∀ j (hj : j < l.length), j < k → q l[j] = false) : l.findIdx? q = some k := by
  rw [List.findIdx?_eq_some_iff_getElem]
  exact ⟨hk, h1, fun j hj => by rw [h j (by omega) hj]; simp⟩

set_option maxHeartbeats 1600000 in
set_option maxRecDepth 100000 in
theorem idxf_any (b o c : Nat) (l : List Sm.F) (s : List UInt8) (p : Nat) (w : World) (h : Fl w b o l) (hz : Sz l) (hp : w.cell? ⟨p, 0, none⟩ = some (.string ⟨s.toArray⟩)) :
    Calls Tryd.prog 82 #[.slice (some ⟨b, o, none⟩) l.length c, .func (Fn.func 83) #[] #[.pointer (some ⟨p, 0, none⟩)]] w fun e w' => e = .returned (.int .i64 (ix (l.findIdx? fun f => Sm.small f.1 == s))) ∧ Below w.heap.size w w' := by
  obtain ⟨r, hr⟩ : ∃ r, r = ix (l.findIdx? fun f => Sm.small f.1 == s) := ⟨_, rfl⟩
  have HR := Lib.hid hr
  rw [← hr]
  clear hr
  have hn := hz.n
  have HZ := Lib.hid hz
  clear hz
  go_enter Tryd.func82, Tryd.ntmps82
  go_wp2
  go_loopw [8] (fun i W => ∃ k : Nat, k ≤ l.length ∧ i = .int .i64 k ∧ Below w.heap.size w W ∧ Hid (∀ j (hj : j < l.length), j < k → (Sm.small l[j].1 == s) = false)) (fun i _ => l.length - (intOf i).toNat)
  case atStart => exact ⟨0, Nat.zero_le _, rfl, Below.refl _ _, fun j _ h => absurd h (Nat.not_lt_zero _)⟩
  case round =>
    obtain ⟨k, hk, rfl, hW, HP⟩ := hrel
    by_cases hlt : k < l.length
    · have hF := h.on hW
      have c0 := hF.c0 k hlt
      have c1 := hF.c1 k hlt
      have hpk := hp
      rw [← hW.cell (block_lt_of_cell hp)] at hpk
      have hfs := HZ.out.s l[k] (List.getElem_mem hlt)
      have cC := clos_any l[k] s p wr hpk (by omega)
      cases hq : (Sm.small l[k].1 == s) with
      | true =>
        rw [hq] at cC
        have HF : Hid (r = k) := by show r = _; rw [HR.out, fi_some k hlt hq (fun j hj h => HP.out j hj h)]; rfl
        go_wp2_with fail
        refine cC.mono ?_
        rintro e w1 ⟨rfl, b1⟩
        go_wp2_with fail
        go_ret
        exact ⟨ret_int HF.out.symm, onn hW b1⟩
      | false =>
        rw [hq] at cC
        have HN : Hid (∀ j (hj : j < l.length), j < k + 1 → (Sm.small l[j].1 == s) = false) := fun j hj h => by
          by_cases e : j = k
          · subst e; exact hq
          · exact HP.out j hj (by omega)
        go_wp2_with fail
        refine cC.mono ?_
        rintro e w1 ⟨rfl, b1⟩
        go_wp2_with fail
        exact ⟨⟨k + 1, hlt, by go_num, onn hW b1, HN⟩, by simp [intOf]; omega⟩
    · go_wp2
      go_ret
      exact ⟨ret_int (by rw [HR.out, fi_none (fun j hj => HP.out j hj (by omega))]; rfl), hW⟩

theorem idxf_nil (A : Option Addr) (c : Nat) (p : Nat) (w : World) :
    Calls Tryd.prog 82 #[.slice A 0 c, .func (Fn.func 83) #[] #[.pointer (some ⟨p, 0, none⟩)]] w fun e w' => e = .returned (.int .i64 (-1)) ∧ w' = w := by
  go_enter Tryd.func82, Tryd.ntmps82
  go_wp2
  refine wp_loop_rounds 1 ?_
  rw [rounds_succ]
  go_wp2
  go_ret
  exact ⟨rfl, rfl⟩

/-- A list of fields as it is handed in: in a row, or none. -/
structure Sl (W : World) (v : Value) (l : List Sm.F) : Prop where
  is : (l = [] ∧ ∃ A c, v = .slice A 0 c) ∨ ∃ b o c, v = .slice (some ⟨b, o, none⟩) l.length c ∧ l.length ≤ c ∧ Fl W b o l
theorem Sl.on {W w' : World} {v : Value} {l : List Sm.F} (h : Sl W v l) (k : Below W.heap.size W w') : Sl w' v l := by
  rcases h.is with ⟨h1, h2⟩ | ⟨b, o, c, h1, h2, h3⟩
  · exact ⟨Or.inl ⟨h1, h2⟩⟩
  · exact ⟨Or.inr ⟨b, o, c, h1, h2, h3.on k⟩⟩

theorem idxf_sl (v : Value) (l : List Sm.F) (s : List UInt8) (p : Nat) (w : World) (h : Sl w v l) (hz : Sz l) (hp : w.cell? ⟨p, 0, none⟩ = some (.string ⟨s.toArray⟩)) :
    Calls Tryd.prog 82 #[v, .func (Fn.func 83) #[] #[.pointer (some ⟨p, 0, none⟩)]] w fun e w' => e = .returned (.int .i64 (ix (l.findIdx? fun f => Sm.small f.1 == s))) ∧ Below w.heap.size w w' := by
  rcases h.is with ⟨rfl, A, c, rfl⟩ | ⟨b, o, c, rfl, _, hf⟩
  · exact (idxf_nil A c p w).mono fun _ _ ⟨he, hw⟩ => ⟨he, by rw [hw]; exact Below.refl _ _⟩
  · exact idxf_any b o c l s p w hf hz hp

set_option maxHeartbeats 1600000 in
set_option maxRecDepth 100000 in
theorem find_any (v : Value) (l : List Sm.F) (n : List UInt8) (w : World) (h : Sl w v l) (hz : Sz l) (hn : n.length ≤ 1000000) :
    Calls Tryd.prog 39 #[v, .string ⟨n.toArray⟩] w fun e w' => e = .returned (.int .i64 (ix (Sm.fnd l n))) ∧ Below w.heap.size w w' := by
  have HZ := Lib.hid hz
  have HS := Lib.hid h
  clear hz h
  go_enter Tryd.func39, Tryd.ntmps39
  go_wp2_with fail
  refine (small_any n _ hn).mono ?_
  rintro e w1 ⟨rfl, b1⟩
  have b2 : Below w1.heap.size w1 (w1.alloc (.cells #[.string ⟨(Sm.small n).toArray⟩] 9)) := (Below.refl _ _).alloc (Nat.le_refl _) _
  have hc : (w1.alloc (.cells #[.string ⟨(Sm.small n).toArray⟩] 9)).cell? ⟨w1.heap.size, 0, none⟩ = some (.string ⟨(Sm.small n).toArray⟩) := by simp
  go_wp2_with fail
  refine (idxf_sl v l (Sm.small n) w1.heap.size _ (HS.out.on (onn b1 b2)) HZ.out hc).mono ?_
  rintro e w3 ⟨rfl, b3⟩
  go_wp2
  go_ret
  exact ⟨rfl, onn (onn b1 b2) b3⟩

end Go.Proofs.YtniknhfpbcbcbabDoor
