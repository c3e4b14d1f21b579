/- A shelf: what comes of a package's one file. -/
import Derived.Test.YtlldfmnoidndmaaGreatDoorSz
import Derived.Test.YtlldfmnoidndmaaGreatDoorCh
import Derived.Test.YtlldfmnoidndmaaGreatDoorYq
import Derived.OrdersHeld
namespace Go.Proofs.YtlldfmnoidndmaaGreatDoor.Dsk
open Go.RowKit Go.Sort Go.Maps

theorem wpOp_want {P : Program} {ops : Array Oper} {Q : Exit → Act → World → Prop} {i : Nat} {o : Oper} {K : Act → World → Prop} {a : Act} {w : World} (hi : ops[i]? = some o) (hg : Region.wanted o (yielded ops a.tmps) = true) (h : o.wp P a w K Q) : wpOp P ops Q i K a w := by
  unfold wpOp
  simp only [hi]
  rw [if_pos hg]
  exact .inl h
theorem wpOp_wantf {P : Program} {ops : Array Oper} {Q : Exit → Act → World → Prop} {i k d : Nat} {o : Oper} {K : Act → World → Prop} {a : Act} {w : World} (hi : ops[i]? = some o) (hg : o.guard = some (k, false)) (hk : ops[k]?.bind (·.dst) = some d) (hv : a.tmps[d]? = some (.bool false)) (h : o.wp P a w K Q) : wpOp P ops Q i K a w := by
  refine wpOp_want hi ?_ h
  unfold Region.wanted yielded
  rw [hg]
  simp [hk, hv]
theorem take_d {P : Program} {md : Region.Mode} {ops : Array Oper} {Q : Exit → Act → World → Prop} {S : World → Prop} {i : Nat} {oi : Oper} {v : Value} {fuel : Nat} {listed : Array Bool} {a : Act} {w : World} (d : Option Nat) (hi : ops[i]? = some oi) (hd : oi.dst = d)
    (hs : Region.noSelect ops = true) (hf : Region.free md ops listed i = true) (hr : (Region.ready md ops listed).contains i = true)
    (hQ : ∀ c a w, Q (.panic c) (a.put d v) w → Q (.panic c) a w) (hy : YieldsIf P ops S oi v a) (hS : S w)
    (h : wpAnyH P md ops Q S fuel (listed.setIfInBounds i true) (a.put d v) w) : wpAnyH P md ops Q S (fuel + 1) listed a w := by
  subst hd
  exact wpAnyH_take hi hs hf hr hQ hy hS h
theorem fold_take {α β : Type} (f : β → α → β) (b : β) (l : List α) (k : Nat) (hk : k < l.length) : (l.take (k + 1)).foldl f b = f ((l.take k).foldl f b) l[k] := by
  rw [List.take_succ_eq_append_getElem hk, List.foldl_append]
  rfl
/-- Answers. -/
structure An (W : World) (v : Value) (l : List Bool) : Prop where
  is : (l = [] ∧ ∃ A c, v = .slice A 0 c) ∨ ∃ b o c, v = .slice (some ⟨b, o, none⟩) l.length c ∧ l.length ≤ c ∧ b < W.heap.size ∧ ∀ i (hi : i < l.length), W.cell? ⟨b, o + i, none⟩ = some (.bool l[i])
theorem An.on {W W2 : World} {v : Value} {l : List Bool} (h : An W v l) (hb : Below W.heap.size W W2) : An W2 v l := by
  rcases h.is with h | ⟨b, o, c, h1, h2, h3, h4⟩
  · exact ⟨.inl h⟩
  · exact ⟨.inr ⟨b, o, c, h1, h2, Nat.lt_of_lt_of_le h3 hb.size, fun i hi => (hb.cell (p := ⟨b, o + i, none⟩) h3).trans (h4 i hi)⟩⟩
set_option maxRecDepth 100000 in
theorem next_any (b5 : Nat) (va : Value) (l : List Bool) (W0 W : World) (h : An W0 va l) (h0 : Below W0.heap.size W0 W) (hc : W.heap[b5]? = some (.cells #[va] 44 (0, 0))) : Calls Tryz.prog 93 #[.pointer (some ⟨b5, 0, none⟩)] W fun x W2 => x = .returned (.bool (l.headD false)) ∧ ∃ v, (W2 = W ∧ v = va ∨ W2 = W.setCell ⟨b5, 0, none⟩ v) ∧ An W0 v l.tail := by
  have c0 : W.cell? ⟨b5, 0, none⟩ = some va := by simp [World.cell?, hc]
  have hlt : b5 < W.heap.size := (Array.getElem?_eq_some_iff.1 hc).1
  have hfz : W.frozen? ⟨b5, 0, none⟩ = false := by simp [World.frozen?, hc]
  have HA := Lib.hid h
  rcases h.is with ⟨rfl, A, c, rfl⟩ | ⟨b, o, c, rfl, h2, hb, h4⟩
  · clear h hc h0
    go_enter Tryz.func93, Tryz.ntmps93
    go_wp2
    go_ret
    exact ⟨rfl, _, .inl ⟨rfl, rfl⟩, HA.out⟩
  · cases l with
    | nil =>
      clear h hc h0
      go_enter Tryz.func93, Tryz.ntmps93
      go_wp2
      go_ret
      exact ⟨rfl, _, .inl ⟨rfl, rfl⟩, HA.out⟩
    | cons y t =>
      have k0 := (h0.cell (p := ⟨b, o + 0, none⟩) hb).trans (h4 0 (by simp))
      simp only [Nat.add_zero, List.getElem_cons_zero] at k0
      have hbW : b < W.heap.size := Nat.lt_of_lt_of_le hb h0.size
      have HH4 := Lib.hid h4
      simp only [List.length_cons] at *
      have HF : Hid (∀ v, (v = .slice (some ⟨b, o + 1, none⟩) t.length (c - 1) ∨ (t.length = 0 ∧ ∃ A c, v = .slice A 0 c)) → An W0 v t) := fun v hv => by
        rcases hv with rfl | ⟨h0, A, c', rfl⟩
        · refine ⟨.inr ⟨b, o + 1, c - 1, rfl, by omega, hb, fun i hi => ?_⟩⟩
          have := HH4.out (i + 1) (by omega)
          simp only [List.getElem_cons_succ] at this
          rw [show o + 1 + i = o + (i + 1) by omega]
          exact this
        · exact ⟨.inl ⟨List.length_eq_zero_iff.1 h0, A, c', rfl⟩⟩
      clear h hc HA HH4 h4 h0
      by_cases hcc : c = 1
      · subst hcc
        have ht0 : t.length = 0 := by omega
        have HT0 := Lib.hid ht0
        rw [ht0]
        clear h2 ht0
        go_enter Tryz.func93, Tryz.ntmps93
        go_wp2
        go_ret
        exact ⟨rfl, _, .inr rfl, HF.out _ (.inr ⟨HT0.out, _, _, by rw [HT0.out]⟩)⟩
      · go_enter Tryz.func93, Tryz.ntmps93
        go_wp2
        go_ret
        exact ⟨rfl, _, .inr rfl, HF.out _ (.inl (by simp))⟩
/-- A text, as bytes. -/
def ba (l : List UInt8) : ByteArray := ⟨l.toArray⟩
/-- What is done with a file. -/
def chl (L : Kv Ent) (p t : List UInt8) : Int := Cho.cho (((lkL ([99, 47] ++ p) L).map Ent.now).map ba) (((lkL ([100, 47] ++ p) L).map Ent.now).map ba) (some (ba t))
theorem tp_ba {B : Nat} {W : World} {v : Value} {o : Option (List UInt8)} (h : Tp B W v o) : Cho.Tp W v (o.map ba) := by
  rcases h.is with ⟨rfl, rfl⟩ | ⟨t, g, rfl, rfl, _, _, h5⟩
  · exact ⟨.inl ⟨rfl, rfl⟩⟩
  · exact ⟨.inr ⟨⟨g, 0, none⟩, ba t, rfl, rfl, h5⟩⟩
theorem contains_any {W : World} {vS : Value} {l : List (List UInt8)} {p : List UInt8} (h : Ss W vS l) (hl : l.length ≤ 1000000) : Calls Tryz.prog 94 #[vS, .string ⟨p.toArray⟩] W fun x W2 => x = .returned (.bool (l.contains p)) ∧ W2 = W := by
  rcases h.is with ⟨rfl, A, c, rfl⟩ | ⟨b, o, c, rfl, _, h3⟩
  · exact Tryz.slices_Contains_string_empty A c _ W
  · have := Tryz.slices_Contains_string b o l.length c (l.map fun x => ByteArray.mk x.toArray) ⟨p.toArray⟩ W (by simp) (by omega) (fun j hj => by
      have hj' : j < l.length := by simpa using hj
      have := h3.c j hj'
      simpa [hj'] using this)
    refine this.mono ?_
    rintro x W2 ⟨rfl, rfl⟩
    refine ⟨?_, rfl⟩
    have e := con_eq l l.length p
    rw [e, List.take_length]
theorem info4 : (Tryz.prog.info? 4).map (fun i => (i.zero, i.size, i.bytes)) = some (some (.bool false), 1, 1) := by kernel_rfl
end Go.Proofs.YtlldfmnoidndmaaGreatDoor.Dsk
