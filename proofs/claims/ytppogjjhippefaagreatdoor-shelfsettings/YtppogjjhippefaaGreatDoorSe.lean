/- A shelf: what comes of a package's one file. -/
import Derived.Test.YtppogjjhippefaaGreatDoorSd
import Derived.Test.YtppogjjhippefaaGreatDoorCh
import Derived.Test.YtppogjjhippefaaGreatDoorYc
import Derived.OrdersHeld
namespace Go.Proofs.YtppogjjhippefaaGreatDoor.Dsk
open Go.RowKit Go.Sort Go.Maps

theorem wpOp_want {P : Program} {ops : Array Oper} {Q : Exit → Act → World → Prop} {i : Nat} {o : Oper} {K : Act → World → Prop} {a : Act} {w : World} (hi : ops[i]? = some o) (hg : Region.wanted o (yielded ops a.tmps) = true) (h : o.wp P a w K Q) : wpOp P ops Q i K a w := by
  unfold wpOp
  simp only [hi]
  rw [if_pos hg]
  exact .inl h
theorem wpOp_wantf {P : Program} {ops : Array Oper} {Q : Exit → Act → World → Prop} {i k d : Nat} {o : Oper} {K : Act → World → Prop} {a : Act} {w : World} (hi : ops[i]? = some o) (hg : o.guard = some (k, false)) (hk : ops[k]?.bind (·.dst) = some d) (hv : a.tmps[d]? = some (.bool false)) (h : o.wp P a w K Q) : wpOp P ops Q i K a w := by
  refine wpOp_want hi ?_ h
  unfold Region.wanted yielded
  rw [hg]
  simp [hk, hv]
theorem take_d {P : Program} {md : Region.Mode} {ops : Array Oper} {Q : Exit → Act → World → Prop} {S : World → Prop} {i : Nat} {oi : Oper} {v : Value} {fuel : Nat} {listed : Array Bool} {a : Act} {w : World} (d : Option Nat) (hi : ops[i]? = some oi) (hd : oi.dst = d)
    (hs : Region.noSelect ops = true) (hf : Region.free md ops listed i = true) (hr : (Region.ready md ops listed).contains i = true)
    (hQ : ∀ c a w, Q (.panic c) (a.put d v) w → Q (.panic c) a w) (hy : YieldsIf P ops S oi v a) (hS : S w)
    (h : wpAnyH P md ops Q S fuel (listed.setIfInBounds i true) (a.put d v) w) : wpAnyH P md ops Q S (fuel + 1) listed a w := by
  subst hd
  exact wpAnyH_take hi hs hf hr hQ hy hS h
/-- Answers, of at most one. -/
structure An (W : World) (v : Value) (o : Option Bool) : Prop where
  is : (o = none ∧ v = .slice none 0 0) ∨ ∃ b y, o = some y ∧ v = .slice (some ⟨b, 0, none⟩) 1 1 ∧ b < W.heap.size ∧ W.cell? ⟨b, 0, none⟩ = some (.bool y)
theorem An.on {W W2 : World} {v : Value} {o : Option Bool} (h : An W v o) (hb : Below W.heap.size W W2) : An W2 v o := by
  rcases h.is with h | ⟨b, y, h1, h2, h3, h4⟩
  · exact ⟨.inl h⟩
  · exact ⟨.inr ⟨b, y, h1, h2, Nat.lt_of_lt_of_le h3 hb.size, (hb.cell (p := ⟨b, 0, none⟩) h3).trans h4⟩⟩
set_option maxRecDepth 100000 in
theorem next_any (b5 : Nat) (va : Value) (o : Option Bool) (W : World) (h : An W va o) (hc : W.heap[b5]? = some (.cells #[va] 44 (0, 0))) : Calls Tryz.prog 93 #[.pointer (some ⟨b5, 0, none⟩)] W fun x W2 => x = .returned (.bool (o.getD false)) ∧ (W2 = W ∨ ∃ v, W2 = W.setCell ⟨b5, 0, none⟩ v) := by
  have c0 : W.cell? ⟨b5, 0, none⟩ = some va := by simp [World.cell?, hc]
  have hlt : b5 < W.heap.size := (Array.getElem?_eq_some_iff.1 hc).1
  have hfz : W.frozen? ⟨b5, 0, none⟩ = false := by simp [World.frozen?, hc]
  rcases h.is with ⟨rfl, rfl⟩ | ⟨b, y, rfl, rfl, hb, h4⟩
  · clear h hc
    go_enter Tryz.func93, Tryz.ntmps93
    go_wp2
    go_ret
    exact ⟨rfl, .inl rfl⟩
  · clear h hc
    go_enter Tryz.func93, Tryz.ntmps93
    go_wp2
    go_ret
    exact ⟨rfl, .inr ⟨_, rfl⟩⟩
/-- A text, as bytes. -/
def ba (l : List UInt8) : ByteArray := ⟨l.toArray⟩
/-- What is done with a file. -/
def chl (L : Kv Ent) (p t : List UInt8) : Int := Cho.cho (((lkL ([99, 47] ++ p) L).map Ent.now).map ba) (((lkL ([100, 47] ++ p) L).map Ent.now).map ba) (some (ba t))
def cmy (st : Bool) (L : Kv Ent) (p t : List UInt8) (o : Option Bool) : Bool := if st = true then (decide (chl L p t = 0) || (decide (chl L p t = 2) && o.getD false)) else true
theorem tp_ba {B : Nat} {W : World} {v : Value} {o : Option (List UInt8)} (h : Tp B W v o) : Cho.Tp W v (o.map ba) := by
  rcases h.is with ⟨rfl, rfl⟩ | ⟨t, g, rfl, rfl, _, _, h5⟩
  · exact ⟨.inl ⟨rfl, rfl⟩⟩
  · exact ⟨.inr ⟨⟨g, 0, none⟩, ba t, rfl, rfl, h5⟩⟩
def stS (st : Bool) (p : List UInt8) : List (List UInt8) := if st = true then [p] else []
theorem contains_st {W : World} {vS : Value} {st : Bool} {p : List UInt8} (h : Ss W vS (stS st p)) : Calls Tryz.prog 94 #[vS, .string ⟨p.toArray⟩] W fun x W2 => x = .returned (.bool st) ∧ W2 = W := by
  cases st with
  | false =>
    rcases h.is with ⟨_, A, c, rfl⟩ | ⟨b, o, c, rfl, _, _⟩
    · exact Tryz.slices_Contains_string_empty A c _ W
    · exact Tryz.slices_Contains_string_empty _ c _ W
  | true =>
    rcases h.is with ⟨h1, _⟩ | ⟨b, o, c, rfl, _, h3⟩
    · cases h1
    · have hc := h3.c 0 (by simp [stS])
      have := Tryz.slices_Contains_string b o 1 c [⟨p.toArray⟩] ⟨p.toArray⟩ W (by simp) (by simp) (fun j hj => by
        obtain rfl : j = 0 := by simpa using hj
        simpa [stS] using hc)
      refine this.mono ?_
      rintro x W2 ⟨rfl, rfl⟩
      refine ⟨?_, rfl⟩
      have e := con_eq [p] 1 p
      simp at e
      simp [e]
theorem info4 : (Tryz.prog.info? 4).map (fun i => (i.zero, i.size, i.bytes)) = some (some (.bool false), 1, 1) := by kernel_rfl
end Go.Proofs.YtppogjjhippefaaGreatDoor.Dsk
