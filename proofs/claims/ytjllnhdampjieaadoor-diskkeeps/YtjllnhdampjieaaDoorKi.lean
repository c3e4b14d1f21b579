/- A range over a map of texts, beside the disk. -/
import Derived.Test.YtjllnhdampjieaaDoorKh
import Derived.Maps.RangeWalk
namespace Go.Proofs.YtjllnhdampjieaaDoor
open Go.RowKit Go.Sort Go.Maps Go.Shelf

theorem str_key {key : Value} {kl : Lit} (h : keyOf Tryd.prog 9 key = some kl) : ∃ s : List UInt8, key = .string ⟨s.toArray⟩ ∧ kl = .string s := by
  cases key <;> simp [keyOf, Tryd.underlying9, mapKey] at h
  rename_i s
  obtain ⟨_, rfl⟩ := h
  exact ⟨s.data.toList, by simp, rfl⟩
section
variable {w : World} {ops : Array Oper} {rest : List Oper} {o : Oper} {a : Act} {Q : Exit → Act → World → Prop}
theorem next_texts (w : World) (hg : o.guard = none) (it : Operand) (hop : o.op = Op.next it false) (mn r n : Nat) (O : Kv (List UInt8)) (left : Lit → Bool) (cnt : Nat) (hit : a.eval it = .pointer (some ⟨r, 0, none⟩)) (h : w.ranges Tryd.prog 9 Rv mn r n (toD sv O) left cnt)
    (hDone : (∀ kl, left kl = false) → wpList Tryd.prog ops Q rest (a.put o.dst (.tuple #[.bool false])) w)
    (hMore : ∀ (k s : List UInt8) (w' : World) (cnt' : Nat), left (.string k) = true → lkL k O = some s → w'.ranges Tryd.prog 9 Rv mn r n (toD sv O) (fun z => left z && !z.sameKey (.string k)) cnt' → cnt' < cnt → w.grownBy w' (some r) → w'.heap.size = w.heap.size →
      (Instr.entry (.pointer (some ⟨r, 0, none⟩))).run Tryd.prog w' = .ok (.tuple #[.string ⟨k.toArray⟩, .string ⟨s.toArray⟩]) w' → wpList Tryd.prog ops Q rest (a.put o.dst (.tuple #[.bool true, .string ⟨k.toArray⟩, .string ⟨s.toArray⟩])) w') :
    wpList Tryd.prog ops Q (o :: rest) a w := by
  refine wpList_next_ranges w hg it hop 9 law9 Rv (fun s : List UInt8 => .string ⟨s.toArray⟩) (fun v : Value => v) (fun key kl hk => ?_) (fun v _ _ => ⟨v, rfl⟩) mn r n (toD sv O) left cnt hit h (fun _ hl => hDone hl) ?_
  · obtain ⟨s, h1, _⟩ := str_key hk
    exact ⟨s, h1⟩
  · intro x c kl y w' cnt' hkey hlk hv hat hrg hlt hgr hsz hen
    obtain ⟨s, h1, h2⟩ := str_key hkey
    have e1 : x = s := by simpa using h1
    subst e1
    subst h2
    cases hv
    cases hl : lkL x O with
    | none =>
      have h3 := hat (.map [])
      rw [toD_at, hl] at h3
      cases h3
    | some t =>
      have h3 := hat (.map [])
      rw [toD_at, hl] at h3
      simp at h3
      subst h3
      exact hMore x t w' cnt' hlk hl hrg hlt hgr hsz hen
end
theorem rg_kp {w w' : World} {mn r n cnt : Nat} {D : DataW Value} {left : Lit → Bool} (h : w.ranges Tryd.prog 9 Rv mn r n D left cnt) (hb : w'.heap[mn]? = w.heap[mn]?) (hr : w'.heap[r]? = w.heap[r]?) : w'.ranges Tryd.prog 9 Rv mn r n D left cnt := by
  obtain ⟨es, clock, since, seen, c0, h1, h2, h3, h4, h5, h6⟩ := h
  exact ⟨es, clock, since, seen, c0, hb.trans h1, h2, h3, h4, hr.trans h5, h6⟩
/-- A map of texts that is gone through, beside the disk. -/
structure Rr (w0 W : World) (b : Nat) (mb : Option Nat) (mn r : Nat) (O : Kv (List UInt8)) (left : Lit → Bool) (cnt : Nat) : Prop where
  rg : W.ranges Tryd.prog 9 Rv mn r O.length (toD sv O) left cnt
  srt : Srt O
  ne : mn ≠ b
  nm : mb ≠ some mn
  ge : w0.heap.size ≤ mn
  rb : r ≠ b
  rm : mb ≠ some r
  rge : w0.heap.size ≤ r
section
variable {w0 W W' : World} {b : Nat} {mb mb' : Option Nat} {mn mo r : Nat} {O O' : Kv (List UInt8)} {left : Lit → Bool} {cnt : Nat} {L : Kv Ent} {e : Bool} {c : Int}
theorem Rr.next (h : Rr w0 W b mb mn r O left cnt) (hm : ∀ m, mb' = some m → mb = some m ∨ W.heap.size ≤ m) (hk : Kp (DX b mb) W W') : Rr w0 W' b mb' mn r O left cnt := by
  have l1 := h.rg.owns.lt
  have l2 := h.rg.lt
  refine ⟨rg_kp h.rg (hk.block _ l1 ?_) (hk.block _ l2 ?_), h.srt, h.ne, fun e1 => ?_, h.ge, h.rb, fun e1 => ?_, h.rge⟩
  · rintro (hx | hx)
    · exact h.ne hx
    · exact h.nm hx
  · rintro (hx | hx)
    · exact h.rb hx
    · exact h.rm hx
  · rcases hm mn e1 with h1 | h1
    · exact h.nm h1
    · omega
  · rcases hm r e1 with h1 | h1
    · exact h.rm h1
    · omega
theorem Rr.up (h : Rr w0 W b mb mn r O left cnt) (hb : Below W.heap.size W W') : Rr w0 W' b mb mn r O left cnt :=
  ⟨rg_kp h.rg (hb.block _ h.rg.owns.lt) (hb.block _ h.rg.lt), h.srt, h.ne, h.nm, h.ge, h.rb, h.rm, h.rge⟩
theorem Rr.mp (h : Rr w0 W b mb mn r O left cnt) : MP w0 W b mb mn O := ⟨h.rg.owns, h.srt, h.ne, h.nm, h.ge⟩
theorem Rr.step (h : Rr w0 W b mb mn r O left cnt) {left' : Lit → Bool} {cnt' : Nat} (hr : W'.ranges Tryd.prog 9 Rv mn r O.length (toD sv O) left' cnt') : Rr w0 W' b mb mn r O left' cnt' := ⟨hr, h.srt, h.ne, h.nm, h.ge, h.rb, h.rm, h.rge⟩
theorem MP.start (h : MP w0 W b mb mn O) (hd : KD w0 W b mb L e c) (hr : W'.ranges Tryd.prog 9 Rv mn W.heap.size O.length (toD sv O) (Maps.has (toD sv O)) (Maps.size (toD sv O))) : Rr w0 W' b mb mn W.heap.size O (Maps.has (toD sv O)) (Maps.size (toD sv O)) :=
  ⟨hr, h.srt, h.ne, h.nm, h.ge, fun e1 => by have := (Array.getElem?_eq_some_iff.1 hd.pd.blk).1; omega, fun e1 => by have := (hd.pd.map _ e1).lt; omega, hd.bl.size⟩
theorem gr_kp (h : W.grownBy W' (some r)) : Kp (fun k => k = r) W W' := Kp.grown h fun k hk => by cases hk; rfl
theorem gr_below (h : W.grownBy W' none) : Below W.heap.size W W' := (Kp.grown (X := fun _ => False) h (fun k hk => by cases hk)).below (Nat.le_refl _) fun _ _ x => x
end
end Go.Proofs.YtjllnhdampjieaaDoor
