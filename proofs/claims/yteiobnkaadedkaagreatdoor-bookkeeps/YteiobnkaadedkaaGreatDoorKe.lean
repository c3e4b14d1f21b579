/- The keeper's book and its disk: what each call does. -/
import Derived.Test.YteiobnkaadedkaaGreatDoorKd
import Derived.Test.YteiobnkaadedkaaGreatDoorKa
namespace Go.Proofs.YteiobnkaadedkaaGreatDoor
open Go.RowKit Go.Sort Go.Maps

/-- All that is written, as one text. -/
def lnA (A : Bk) : List UInt8 := A.flatMap fun p => p.1 ++ [61] ++ p.2 ++ [59]
/-- What lies between has not turned. -/
def Zn (lo hi : Nat) (w w' : World) : Prop := ∀ k, lo ≤ k → k < hi → w'.heap[k]? = w.heap[k]?
theorem Zn.trans {lo hi : Nat} {a b c : World} (h : Zn lo hi a b) (h' : Zn lo hi b c) : Zn lo hi a c := fun k h1 h2 => (h' k h1 h2).trans (h k h1 h2)
theorem Zn.below {lo hi : Nat} {a b : World} (h : Below a.heap.size a b) (hs : hi ≤ a.heap.size) : Zn lo hi a b := fun k _ h2 => h.block k (by omega)
/-- A book. -/
structure Bo (b n : Nat) (A : Bk) (dn : Bool) (W : World) : Prop where
  is : ∃ d pm ns P N, BK W b d pm ns dn P N ∧ Pg A P N n
theorem Bo.up {b n : Nat} {A : Bk} {dn : Bool} {W W2 : World} (h : Bo b n A dn W) (hb : Below W.heap.size W W2) : Bo b n A dn W2 := by
  obtain ⟨d, pm, ns, P, N, h1, h2⟩ := h
  exact ⟨d, pm, ns, P, N, h1.up hb, h2⟩
/-- A book that lies between. -/
structure Bz (b n : Nat) (A : Bk) (lo hi : Nat) (W : World) : Prop where
  is : ∃ d pm ns P N, BK W b d pm ns false P N ∧ Pg A P N n ∧ ∀ k, BX b pm ns k → lo ≤ k ∧ k < hi
theorem Bz.on {b n : Nat} {A : Bk} {lo hi : Nat} {W W2 : World} (h : Bz b n A lo hi W) (hz : Zn lo hi W W2) : Bz b n A lo hi W2 := by
  obtain ⟨d, pm, ns, P, N, h1, h2, h3⟩ := h
  exact ⟨d, pm, ns, P, N, h1.on fun k _ hx => hz k (h3 k hx).1 (h3 k hx).2, h2, h3⟩
theorem Bz.bo {b n : Nat} {A : Bk} {lo hi : Nat} {W : World} (h : Bz b n A lo hi W) : Bo b n A false W := by
  obtain ⟨d, pm, ns, P, N, h1, h2, _⟩ := h
  exact ⟨d, pm, ns, P, N, h1, h2⟩
/-- A book, its disk, and where they lie. -/
structure KX (w : World) (b d n : Nat) (A : Bk) (dn e : Bool) (c : Int) (lo hi : Nat) (pm : Nat) (ns : Nat → Nat) (P : Bk) (N : Nat → Bk) (mb : Option Nat) (L : Kv Ent) (W : World) : Prop where
  bl : Below w.heap.size w W
  bj : BJ W b d pm ns dn P N mb L e c
  pg : Pg A P N n
  sf : SF L P N
  hc : c ≤ 9223372036854775807
  hx : ∀ k, (BX b pm ns k ∨ DX d mb k) → w.heap.size ≤ k
  hz : ∀ k, (BX b pm ns k ∨ DX d mb k) → k < lo ∨ hi ≤ k
  hs : hi ≤ W.heap.size
structure KJ (w : World) (b d n : Nat) (A : Bk) (dn e : Bool) (lo hi : Nat) (W : World) : Prop where
  is : ∃ c pm ns P N mb L, KX w b d n A dn e c lo hi pm ns P N mb L W
section
variable {w W W2 V : World} {b d n lo hi : Nat} {A : Bk} {dn e : Bool} {c : Int} {pm : Nat} {ns : Nat → Nat} {P : Bk} {N : Nat → Bk} {mb : Option Nat} {L : Kv Ent}
theorem KX.up (h : KX w b d n A dn e c lo hi pm ns P N mb L W) (hb : Below W.heap.size W W2) : KX w b d n A dn e c lo hi pm ns P N mb L W2 :=
  ⟨h.bl.trans (hb.mono h.bl.size), h.bj.up hb, h.pg, h.sf, h.hc, h.hx, h.hz, Nat.le_trans h.hs hb.size⟩
theorem KJ.up (h : KJ w b d n A dn e lo hi W) (hb : Below W.heap.size W W2) : KJ w b d n A dn e lo hi W2 := by
  obtain ⟨c, pm, ns, P, N, mb, L, hX⟩ := h
  exact ⟨c, pm, ns, P, N, mb, L, hX.up hb⟩
theorem KJ.mono {n' : Nat} (h : KJ w b d n A dn e lo hi W) (hn : n ≤ n') : KJ w b d n' A dn e lo hi W := by
  obtain ⟨c, pm, ns, P, N, mb, L, hX⟩ := h
  exact ⟨c, pm, ns, P, N, mb, L, hX.bl, hX.bj, hX.pg.mono hn, hX.sf, hX.hc, hX.hx, hX.hz, hX.hs⟩
theorem KJ.bl (h : KJ w b d n A dn e lo hi W) : Below w.heap.size w W := by
  obtain ⟨c, pm, ns, P, N, mb, L, hX⟩ := h
  exact hX.bl
theorem KJ.hs (h : KJ w b d n A dn e lo hi W) : hi ≤ W.heap.size := by
  obtain ⟨c, pm, ns, P, N, mb, L, hX⟩ := h
  exact hX.hs
theorem KJ.bo (h : KJ w b d n A dn e lo hi W) : Bo b n A dn W := by
  obtain ⟨c, pm, ns, P, N, mb, L, hX⟩ := h
  exact ⟨d, pm, ns, P, N, hX.bj.bk, hX.pg⟩
theorem KJ.ga (h : KJ w b d n A dn e lo hi W) : Gd A ∧ A.length ≤ n ∧ ∀ k, lkL k A ≠ some [] := by
  obtain ⟨c, pm, ns, P, N, mb, L, hX⟩ := h
  exact ⟨hX.pg.ga, hX.pg.la, fun k => by rw [hX.pg.ov]; exact ov_ne hX.pg.ne k⟩
theorem KX.lt (h : KX w b d n A dn e c lo hi pm ns P N mb L W) : ∀ k, (BX b pm ns k ∨ DX d mb k) → k < W.heap.size := fun k hk => by
  rcases hk with hk | rfl | hk
  · exact bx_lt h.bj.bk k hk
  · exact (Array.getElem?_eq_some_iff.1 h.bj.pd.blk).1
  · exact (h.bj.pd.map k hk).lt
/-- Where they lie, told anew. -/
theorem KJ.zone (h : KJ w b d n A dn e lo hi W) (hb : Below W.heap.size W V) : KJ w b d n A dn e W.heap.size V.heap.size V := by
  obtain ⟨c, pm, ns, P, N, mb, L, hX⟩ := h
  have hU := hX.up hb
  exact ⟨c, pm, ns, P, N, mb, L, hU.bl, hU.bj, hU.pg, hU.sf, hU.hc, hU.hx, fun k hk => .inl (hX.lt k hk), Nat.le_refl _⟩
theorem KJ.free (h : KJ w b d n A dn e lo hi W) : KJ w b d n A dn e 0 0 W := by
  obtain ⟨c, pm, ns, P, N, mb, L, hX⟩ := h
  exact ⟨c, pm, ns, P, N, mb, L, hX.bl, hX.bj, hX.pg, hX.sf, hX.hc, hX.hx, fun k hk => .inr (Nat.zero_le _), Nat.zero_le _⟩
theorem KJ.bz (h : KJ w b d n A false e lo hi W) : Bz b n A w.heap.size W.heap.size W := by
  obtain ⟨c, pm, ns, P, N, mb, L, hX⟩ := h
  exact ⟨d, pm, ns, P, N, hX.bj.bk, hX.pg, fun k hk => ⟨hX.hx k (.inl hk), hX.lt k (.inl hk)⟩⟩
theorem KX.gp (h : KX w b d n A dn e c lo hi pm ns P N mb L W) (hn : n ≤ 60) : Gp P N := ⟨h.pg.gp, h.pg.gn, by have := h.pg.lp; omega, fun i hi => by have := h.pg.ln i hi; omega⟩
/-- The book has done something. -/
theorem KX.sx {n' : Nat} {A' P' : Bk} {N' : Nat → Bk} {L' : Kv Ent} {dn' : Bool} {c' : Int} (h : KX w b d n A dn e c lo hi pm ns P N mb L W) (hS : Sx W b d pm ns dn' P' N' mb L' e c' W2) (hp : Pg A' P' N' n') (hf : SF L' P' N') (hc : c' ≤ 9223372036854775807) :
    Zn lo hi W W2 ∧ KJ w b d n' A' dn' e lo hi W2 := by
  obtain ⟨⟨pm', ns', mb', h1, h2, h3⟩, h4⟩ := hS
  have hnew : ∀ k, (BX b pm' ns' k ∨ DX d mb' k) → (BX b pm ns k ∨ DX d mb k) ∨ W.heap.size ≤ k := fun k hk => by
    rcases hk with hk | hk | hk
    · rcases h3 k hk with h5 | h5
      · exact .inl (.inl h5)
      · exact .inr h5
    · exact .inl (.inr (.inl hk))
    · rcases h2 k hk with h5 | h5
      · exact .inl (.inr (.inr h5))
      · exact .inr h5
  have hs := h.hs
  have hbs := h.bl.size
  refine ⟨fun k k1 k2 => h4.block k (by omega) fun hx => ?_, c', pm', ns', P', N', mb', L', h.bl.trans (h4.below h.bl.size fun k hk hx => ?_), h1, hp, hf, hc, fun k hk => ?_, fun k hk => ?_, Nat.le_trans hs h4.size⟩
  · have := h.hz k hx; omega
  · have := h.hx k hx; omega
  · rcases hnew k hk with h5 | h5
    · exact h.hx k h5
    · omega
  · rcases hnew k hk with h5 | h5
    · exact h.hz k h5
    · omega
/-- The disk has done something. -/
theorem KX.po {L' : Kv Ent} {e' : Bool} {c' : Int} (h : KX w b d n A dn e c lo hi pm ns P N mb L W) (hp : Po d mb L' e' c' false 0 W W2) (hf : SF L' P N) (hc : c' ≤ 9223372036854775807) : Zn lo hi W W2 ∧ KJ w b d n A dn e' lo hi W2 := by
  obtain ⟨mb', h1, h2, h3⟩ := h.bj.po hp
  have hs := h.hs
  have hbs := h.bl.size
  have hbd : ∀ k, BD b d mb k → (BX b pm ns k ∨ DX d mb k) := bd_bx
  have hnew : ∀ k, (BX b pm ns k ∨ DX d mb' k) → (BX b pm ns k ∨ DX d mb k) ∨ W.heap.size ≤ k := fun k hk => by
    rcases hk with hk | hk | hk
    · exact .inl (.inl hk)
    · exact .inl (.inr (.inl hk))
    · rcases h2 k hk with h5 | h5
      · exact .inl (.inr (.inr h5))
      · exact .inr h5
  refine ⟨fun k k1 k2 => h3.block k (by omega) fun hx => ?_, c', pm, ns, P, N, mb', L', h.bl.trans (h3.below h.bl.size fun k hk hx => ?_), h1, h.pg, hf, hc, fun k hk => ?_, fun k hk => ?_, Nat.le_trans hs h3.size⟩
  · have := h.hz k (hbd k hx); omega
  · have := h.hx k (hbd k hx); omega
  · rcases hnew k hk with h5 | h5
    · exact h.hx k h5
    · omega
  · rcases hnew k hk with h5 | h5
    · exact h.hz k h5
    · omega
theorem ch3_le (hc : c ≤ 9223372036854775807) : ch3 e c ≤ 9223372036854775807 := by
  unfold ch3 chg
  repeat' split
  all_goals omega
theorem pw3_false (c : Int) : pw3 false c = true := rfl
/-- What Set does, at any power. -/
structure Sr (w : World) (b d n : Nat) (A A' : Bk) (e : Bool) (lo hi : Nat) (W : World) (x : Ending) (W2 : World) : Prop where
  zn : Zn lo hi W W2
  is : (x = .returned .nilIface ∧ KJ w b d (n + 1) A' false e lo hi W2) ∨ (e = true ∧ x = .returned (.iface 33 (.int .i64 14)) ∧ KJ w b d (n + 1) A true e lo hi W2)
theorem kj_set (h : KJ w b d n A false e lo hi W) (hn : n < 59) {k s : List UInt8} (hr : rgt k s = true) :
    Calls Tryz.prog 9 #[.pointer (some ⟨b, 0, none⟩), .string ⟨k.toArray⟩, .string ⟨s.toArray⟩] W fun x W2 => Sr w b d n A (setA k s A) e lo hi W x W2 := by
  obtain ⟨c, pm, ns, P, N, mb, L, hX⟩ := h
  obtain ⟨hk1, hs1⟩ := (rgt_iff k s).1 hr
  have hP := hX.pg.set hk1 hs1
  have hi' := shf_lt k
  have hsm := hX.sf.small hX.bj.pd.srt
  have hM : Gd (setN k s P (N (shf k))) := by have := hP.gn _ hi'; rwa [upd_same] at this
  have hMl : (setN k s P (N (shf k))).length ≤ n + 1 := by have := hP.ln _ hi'; rwa [upd_same] at this
  have hpl := prt_len hM
  refine (set_any b d pm ns P N mb L e c k s W hX.bj hr (hX.gp (by omega)) hM (by omega) hX.hc (by omega) (by omega)).mono ?_
  rintro x W2 ⟨rfl, hS⟩
  cases hp : pw3 e c with
  | true =>
    rw [hp, kL_yes hp] at hS
    obtain ⟨h1, h2⟩ := hX.sx hS hP (hX.sf.sheet hX.bj.pd.srt hi' (by omega)) (ch3_le hX.hc)
    refine ⟨h1, .inl ⟨?_, h2⟩⟩
    unfold kcd
    rw [if_pos hp]; rfl
  | false =>
    rw [hp] at hS
    obtain ⟨h1, h2⟩ := hX.sx hS (hX.pg.mono (Nat.le_succ n)) (hX.sf.kl hX.bj.pd.srt (by omega) hp) (ch3_le hX.hc)
    refine ⟨h1, .inr ⟨?_, ?_, h2⟩⟩
    · cases e with
      | true => rfl
      | false => cases hp
    · unfold kcd
      rw [if_neg (by rw [hp]; simp)]; rfl
theorem kj_arg (h : KJ w b d n A false e lo hi W) {k s : List UInt8} (hk : k.length ≤ 1000) (hs : s.length ≤ 1000) (hr : rgt k s = false) :
    Calls Tryz.prog 9 #[.pointer (some ⟨b, 0, none⟩), .string ⟨k.toArray⟩, .string ⟨s.toArray⟩] W fun x W2 => x = .returned (.iface 33 (.int .i64 1)) ∧ Below W.heap.size W W2 := by
  obtain ⟨c, pm, ns, P, N, mb, L, hX⟩ := h
  exact set_arg b d pm ns P N k s W hX.bj.bk hk hs hr
theorem kj_tidy (h : KJ w b d n A false e lo hi W) (hn : n < 60) :
    Calls Tryz.prog 12 #[.pointer (some ⟨b, 0, none⟩)] W fun x W2 => Zn lo hi W W2 ∧ ((x = .returned .nilIface ∧ KJ w b d n A false e lo hi W2) ∨ (x = .returned (.iface 33 (.int .i64 14)) ∧ KJ w b d n A true e lo hi W2)) := by
  obtain ⟨c, pm, ns, P, N, mb, L, hX⟩ := h
  have hsm := hX.sf.small hX.bj.pd.srt
  have hpl := prt_len hX.pg.ga
  have hla := hX.pg.la
  cases hp : pw3 e c with
  | false =>
    refine (tidy_no b d pm ns A P N mb L e c W hX.bj (hX.gp (by omega)) hX.pg.ga (by omega) hX.pg.ov hX.pg.at_ hX.hc (by omega) (by omega) hp).mono ?_
    rintro x W2 ⟨rfl, hS⟩
    obtain ⟨h1, h2⟩ := hX.sx hS hX.pg (hX.sf.kl hX.bj.pd.srt (by omega) hp) (ch3_le hX.hc)
    exact ⟨h1, .inr ⟨rfl, h2⟩⟩
  | true =>
    have hf3 := hX.sf.page hX.bj.pd.srt (A := A) (by omega)
    have hs3 := k3_srt hX.bj.pd.srt pgF (prt A)
    have hsm3 := hf3.small hs3
    refine (tidy_full b d pm ns A P N mb L e c W hX.bj (hX.gp (by omega)) hX.pg.ga (by omega) hX.pg.ov hX.pg.at_ hX.hc (by omega) (by omega) (by omega) hp).mono ?_
    rintro x W2 ⟨j, hj, rfl, _, hS, hrd⟩
    have hf4 := hf3.td hs3 (ch3_le hX.hc) j hj hrd
    have hP4 : Pg A A (tN N j) n := by
      have := hX.pg.part (fun i => decide (i < j))
      exact (by simpa using this : Pg A A (fun i => if i < j then [] else N i) n)
    obtain ⟨h1, h2⟩ := hX.sx hS hP4 hf4 (td_all hs3 e (ch3_le hX.hc) j).2.2.2
    refine ⟨h1, ?_⟩
    by_cases e37 : j = 37
    · subst e37
      exact .inl ⟨rfl, h2⟩
    · have hlt : j < 37 := by omega
      rw [decide_eq_true hlt] at h2
      exact .inr ⟨by rw [if_neg e37]; rfl, h2⟩
theorem kj_cut (h : KJ w b d n A dn e lo hi W) {z : Int} (hz : z ≤ 9223372036854775807) :
    Calls Tryz.prog 20 #[.pointer (some ⟨d, 0, none⟩), .int .i64 z] W fun x W2 => x = .returned (.tuple #[]) ∧ Zn lo hi W W2 ∧ ∃ e', KJ w b d n A dn e' lo hi W2 := by
  obtain ⟨c, pm, ns, P, N, mb, L, hX⟩ := h
  refine (cut_any d mb L e c false 0 z W hX.bj.pd).mono ?_
  rintro x W2 ⟨rfl, h1, h2⟩
  obtain ⟨h3, h4⟩ := hX.po (Po.same h1 (kp_dx h2)) hX.sf hz
  exact ⟨rfl, h3, _, h4⟩
theorem kj_start (h : KJ w b d n A dn e lo hi W) {z : Int} (hz : z ≤ 9223372036854775807) :
    Calls Tryz.prog 23 #[.pointer (some ⟨d, 0, none⟩), .int .i64 z] W fun x W2 => x = .returned (.tuple #[]) ∧ Zn lo hi W W2 ∧ KJ w b d n A dn false lo hi W2 := by
  obtain ⟨c, pm, ns, P, N, mb, L, hX⟩ := h
  have hsm := hX.sf.small hX.bj.pd.srt
  refine (start_big 19560 (by omega) d mb L e c false 0 z W hX.bj.pd hX.sf.bn (by omega) (hX.sf.names hX.bj.pd.srt) hz).mono ?_
  rintro x W2 ⟨rfl, h1⟩
  obtain ⟨h3, h4⟩ := hX.po h1 (hX.sf.start hX.bj.pd.srt z) (by omega)
  exact ⟨rfl, h3, h4⟩
theorem kj_open (h : KJ w b d n A dn e lo hi W) (hn : n ≤ 60) :
    Calls Tryz.prog 5 #[.pointer (some ⟨d, 0, none⟩)] W fun x W2 => ∃ b', x = .returned (.tuple #[.pointer (some ⟨b', 0, none⟩), .nilIface]) ∧ Below W.heap.size W W2 ∧ KJ w b' d n A false e lo hi W2 := by
  obtain ⟨c, pm, ns, P, N, mb, L, hX⟩ := h
  refine (open_any d mb L e c false 0 P N W hX.bj.pd (hX.gp hn) hX.sf.fl).mono ?_
  rintro x W2 ⟨b', rfl, hB⟩
  obtain ⟨pm', ns', hbk, hnew⟩ := hB.is
  have hpd := hX.bj.pd.up hB.bl
  have hbs := hX.bl.size
  have hs := hX.hs
  refine ⟨b', rfl, hB.bl, c, pm', ns', P, N, mb, L, hX.bl.trans (hB.bl.mono hX.bl.size), ⟨hbk, hpd, fun k hk hx => ?_⟩, hX.pg, hX.sf, hX.hc, fun k hk => ?_, fun k hk => ?_, Nat.le_trans hs hB.bl.size⟩
  · have := hnew k hk; have := hX.lt k (.inr hx); omega
  · rcases hk with hk | hk
    · have := hnew k hk; omega
    · exact hX.hx k (.inr hk)
  · rcases hk with hk | hk
    · have := hnew k hk; omega
    · exact hX.hz k (.inr hk)
/-- A book on a new disk. -/
theorem kj_new (W : World) : Calls Tryz.prog 5 #[.pointer (some ⟨W.heap.size, 0, none⟩)] (W.alloc (dko none 0 false 0 false 0)) fun x W2 => ∃ b, x = .returned (.tuple #[.pointer (some ⟨b, 0, none⟩), .nilIface]) ∧ KJ W b W.heap.size 0 [] false false 0 0 W2 := by
  refine (open_zero W).mono ?_
  rintro x W2 ⟨b, rfl, hB⟩
  obtain ⟨⟨pm, ns, hbk, hnew⟩, hbl⟩ := hB
  have hs := hbl.size
  rw [World.size_alloc] at hs
  refine ⟨b, rfl, 0, pm, ns, [], fun _ => [], none, [], ?_, ⟨hbk, (pd_zero W).up hbl, fun k hk hx => ?_⟩, Pg.nil, SF.nil, by omega, fun k hk => ?_, fun k _ => .inr (Nat.zero_le _), Nat.zero_le _⟩
  · exact ((Below.refl _ W).alloc (Nat.le_refl _) _).trans (hbl.mono (by simp))
  · have := hnew k hk
    rw [World.size_alloc] at this
    rcases hx with hx | hx
    · omega
    · cases hx
  · rcases hk with hk | hk | hk
    · have := hnew k hk; rw [World.size_alloc] at this; omega
    · omega
    · cases hk
end
section
variable {b n : Nat} {A : Bk} {dn : Bool} {W : World}
theorem lnz_A {A P : Bk} {N : Nat → Bk} {n : Nat} (h : Pg A P N n) : lnz P N (A.map (·.1)) = lnA A := by
  unfold lnz lnA
  rw [List.flatMap_map]
  rw [List.flatMap_def, List.flatMap_def]
  congr 1
  refine List.map_congr_left fun p hp => ?_
  have h1 : txt p.1 A = gtx P N p.1 := h.get p.1
  have h2 : txt p.1 A = p.2 := by
    unfold txt
    rw [(lk_iff h.ga.srt).2 hp]; rfl
  rw [← h1, h2]
theorem bo_lines (h : Bo b n A dn W) (hn : n ≤ 60) : Calls Tryz.prog 19 #[.pointer (some ⟨b, 0, none⟩)] W fun x w' => x = .returned (.string ⟨(lnA A).toArray⟩) ∧ Below W.heap.size W w' := by
  obtain ⟨d, pm, ns, P, N, h1, h2⟩ := h
  have hla := h2.la
  rw [← lnz_A h2]
  refine klines_any b d pm ns dn A P N W h1 ⟨h2.gp, h2.gn, by have := h2.lp; omega, fun i hi => by have := h2.ln i hi; omega⟩ h2.ga.srt (by omega) h2.ov h2.at_ fun x hx => ?_
  obtain ⟨p, hp, rfl⟩ := List.mem_map.1 hx
  have h3 := (h2.ga.nm p hp).2.2
  have h4 := (h2.ga.tx p hp).2
  have h5 : txt p.1 A = gtx P N p.1 := h2.get p.1
  have h6 : txt p.1 A = p.2 := by
    unfold txt
    rw [(lk_iff h2.ga.srt).2 hp]; rfl
  rw [← h5, h6]
  omega
theorem bo_names (h : Bo b n A dn W) (hn : n ≤ 60) : Calls Tryz.prog 16 #[.pointer (some ⟨b, 0, none⟩)] W fun x w' => ∃ v, x = .returned v ∧ Txo w' v (A.map (·.1)) ∧ Below W.heap.size W w' := by
  obtain ⟨d, pm, ns, P, N, h1, h2⟩ := h
  have hla := h2.la
  exact bnames_any b d pm ns dn A P N W h1 ⟨h2.gp, h2.gn, by have := h2.lp; omega, fun i hi => by have := h2.ln i hi; omega⟩ h2.ga.srt (by omega) h2.ov h2.at_
theorem bo_get (h : Bo b n A dn W) {k : List UInt8} (hk : k.length ≤ 1000) : Calls Tryz.prog 14 #[.pointer (some ⟨b, 0, none⟩), .string ⟨k.toArray⟩] W fun x w' => x = .returned (.string ⟨(txt k A).toArray⟩) ∧ Below W.heap.size W w' := by
  obtain ⟨d, pm, ns, P, N, h1, h2⟩ := h
  rw [show txt k A = gtx P N k from h2.get k]
  exact get_any b d pm ns dn P N k W h1 hk
theorem bo_down (h : Bo b n A dn W) : Calls Tryz.prog 13 #[.pointer (some ⟨b, 0, none⟩)] W fun x w' => x = .returned (.bool dn) ∧ w' = W := by
  obtain ⟨d, pm, ns, P, N, h1, h2⟩ := h
  exact down_any b (some d) (some pm) (fun i => some (ns i)) dn W h1.blk
theorem bo_fell (h : Bo b n A true W) (k s : List UInt8) : Calls Tryz.prog 9 #[.pointer (some ⟨b, 0, none⟩), .string ⟨k.toArray⟩, .string ⟨s.toArray⟩] W fun x w' => x = .returned (.iface 33 (.int .i64 6)) ∧ w' = W := by
  obtain ⟨d, pm, ns, P, N, h1, h2⟩ := h
  exact set_down b d pm ns P N k s W h1
end
end Go.Proofs.YteiobnkaadedkaaGreatDoor
