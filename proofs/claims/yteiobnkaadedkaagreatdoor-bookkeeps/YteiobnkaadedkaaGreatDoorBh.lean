/- A book: Open, Get walked. -/
import Derived.Test.YteiobnkaadedkaaGreatDoorBg
namespace Go.Proofs.YteiobnkaadedkaaGreatDoor
open Go.RowKit Go.Sort Go.Maps

/-- A book, in memory. -/
structure BK (w : World) (b d pm : Nat) (ns : Nat → Nat) (dn : Bool) (P : Bk) (N : Nat → Bk) : Prop where
  blk : w.heap[b]? = some (bko (some d) (some pm) (fun i => some (ns i)) dn)
  lp : Lm w pm P
  ln : ∀ i, i < 37 → Lm w (ns i) (N i)
  ne : ∀ i j, i < 37 → j < 37 → i ≠ j → ns i ≠ ns j
  np : ∀ i, i < 37 → ns i ≠ pm
/-- Its blocks. -/
def BX (b pm : Nat) (ns : Nat → Nat) (k : Nat) : Prop := k = b ∨ k = pm ∨ ∃ i, i < 37 ∧ k = ns i
theorem lm_on {w w' : World} {m : Nat} {M : Bk} (h : Lm w m M) (hk : w'.heap[m]? = w.heap[m]?) : Lm w' m M := by
  obtain ⟨es, cl, h1, h2⟩ := h
  exact ⟨es, cl, hk.trans h1, h2⟩
theorem BK.on {w w' : World} {b d pm : Nat} {ns : Nat → Nat} {dn : Bool} {P : Bk} {N : Nat → Bk} (h : BK w b d pm ns dn P N) (hk : ∀ k, k < w.heap.size → BX b pm ns k → w'.heap[k]? = w.heap[k]?) : BK w' b d pm ns dn P N :=
  ⟨(hk b (Array.getElem?_eq_some_iff.1 h.blk).1 (.inl rfl)).trans h.blk, lm_on h.lp (hk pm h.lp.lt (.inr (.inl rfl))), fun i hi => lm_on (h.ln i hi) (hk _ (h.ln i hi).lt (.inr (.inr ⟨i, hi, rfl⟩))), h.ne, h.np⟩
theorem BK.up {w w' : World} {b d pm : Nat} {ns : Nat → Nat} {dn : Bool} {P : Bk} {N : Nat → Bk} (h : BK w b d pm ns dn P N) (hk : Below w.heap.size w w') : BK w' b d pm ns dn P N := h.on fun k hk' _ => hk.block k hk'
/-- A page and sheets, short. -/
structure Gp (P : Bk) (N : Nat → Bk) : Prop where
  gp : Gd P
  gn : ∀ i, i < 37 → Gd (N i)
  lp : P.length ≤ 1000
  ln : ∀ i, i < 37 → (N i).length ≤ 1000
/-- What lies on the disk is a book. -/
structure Fl (L : Kv Ent) (P : Bk) (N : Nat → Bk) : Prop where
  pg : (ent pgF L).now = prt P
  sh : ∀ i, i < 37 → (ent (shF i) L).now = prt (N i)
/-- What stands when Open has read k sheets. -/
structure OI (w : World) (b d pm : Nat) (P : Bk) (N : Nat → Bk) (k : Nat) (W : World) : Prop where
  bl : Below w.heap.size w W
  lp : Lm W pm P
  hp : w.heap.size ≤ pm
  hb : w.heap.size ≤ b
  is : ∃ ns : Nat → Nat, W.heap[b]? = some (bko (some d) (some pm) (fun j => if j < k then some (ns j) else none) false) ∧ (∀ j, j < k → Lm W (ns j) (N j)) ∧ (∀ j, j < k → w.heap.size ≤ ns j ∧ ns j ≠ pm) ∧ ∀ i j, i < k → j < k → i ≠ j → ns i ≠ ns j
theorem bko_congr {d p : Option Nat} {ns ns' : Nat → Option Nat} {dn : Bool} (h : ∀ i, i < 37 → ns i = ns' i) : bko d p ns dn = bko d p ns' dn := by
  have : ncs ns = ncs ns' := by
    unfold ncs
    exact List.map_congr_left fun i hi => by rw [h i (by simpa using hi)]
  unfold bko bkc
  rw [this]
/-- A book that is new. -/
structure BN (w : World) (b d : Nat) (P : Bk) (N : Nat → Bk) (w' : World) : Prop where
  is : ∃ pm ns, BK w' b d pm ns false P N ∧ ∀ k, BX b pm ns k → w.heap.size ≤ k
  bl : Below w.heap.size w w'
theorem lm_ne_b {W : World} {b m : Nat} {M : Bk} {d p : Option Nat} {ns : Nat → Option Nat} {dn : Bool} (h : Lm W m M) (hb : W.heap[b]? = some (bko d p ns dn)) : m ≠ b := fun e => by
  obtain ⟨es, cl, h1, _⟩ := h
  rw [e, hb] at h1; cases h1
def updM (ns : Nat → Nat) (k m : Nat) : Nat → Nat := fun j => if j = k then m else ns j
theorem updM_same (ns : Nat → Nat) (k m : Nat) : updM ns k m k = m := if_pos rfl
theorem updM_other (ns : Nat → Nat) {k j : Nat} (m : Nat) (h : j ≠ k) : updM ns k m j = ns j := if_neg h
theorem OI.step {w : World} {b d pm : Nat} {P : Bk} {N : Nat → Bk} {k : Nat} {W W' : World} (h : OI w b d pm P N k W) (hk : k < 37) {m : Nat} (hb : Below W.heap.size W W') (hm : Lm W' m (N k)) (hmn : W.heap.size ≤ m) : OI w b d pm P N (k + 1) (W'.setCell ⟨b, 2 + k, none⟩ (.map (some m))) := by
  obtain ⟨ns, h1, h2, h3, h4⟩ := h.is
  have h1' := (hb.block b (Array.getElem?_eq_some_iff.1 h1).1).trans h1
  have keep : ∀ {j : Nat} {M : Bk}, Lm W' j M → Lm (W'.setCell ⟨b, 2 + k, none⟩ (.map (some m))) j M := fun {j M} hl => lm_on hl (Below.heap_setCell _ _ _ _ (lm_ne_b hl h1'))
  have hlt : ∀ {j : Nat} {M : Bk}, Lm W j M → Lm W' j M := fun {j M} hl => lm_on hl (hb.block j hl.lt)
  have hpm := h.hp
  refine ⟨(h.bl.trans (hb.mono h.bl.size)).setCell (p := ⟨b, 2 + k, none⟩) h.hb _, keep (hlt h.lp), h.hp, h.hb, updM ns k m, ?_, fun j hj => ?_, fun j hj => ?_, fun i j hi hj hne => ?_⟩
  · rw [set_n h1' hk]
    congr 2
    funext j
    show (if j = k then some m else if j < k then some (ns j) else none) = if j < k + 1 then some (updM ns k m j) else none
    by_cases e : j = k
    · subst e; rw [if_pos rfl, if_pos (by omega), updM_same]
    · rw [if_neg e, updM_other ns m e]
      by_cases e2 : j < k
      · rw [if_pos e2, if_pos (by omega)]
      · rw [if_neg e2, if_neg (by omega)]
  · by_cases e : j = k
    · subst e; rw [updM_same]; exact keep hm
    · rw [updM_other ns m e]; exact keep (hlt (h2 j (by omega)))
  · by_cases e : j = k
    · subst e
      rw [updM_same]
      have := h.lp.lt
      have := h.bl.size
      exact ⟨by omega, by omega⟩
    · rw [updM_other ns m e]; exact h3 j (by omega)
  · by_cases e : i = k
    · subst e
      rw [updM_same, updM_other ns m (fun e => hne e.symm)]
      have := (h2 j (by omega)).lt
      omega
    · rw [updM_other ns m e]
      by_cases e2 : j = k
      · subst e2
        rw [updM_same]
        have := (h2 i (by omega)).lt
        omega
      · rw [updM_other ns m e2]; exact h4 i j (by omega) (by omega) hne
set_option maxRecDepth 100000 in
theorem open_nil (w : World) : Calls Tryz.prog 5 #[.pointer none] w fun x w' => x = .returned (.tuple #[.pointer none, .iface 33 (.int .i64 7)]) ∧ w' = w := by
  go_enter Tryz.func5, Tryz.ntmps5
  go_wp2
  go_ret2
  exact ⟨rfl, rfl⟩
set_option maxRecDepth 100000 in
set_option maxHeartbeats 2000000 in
theorem open_any (d : Nat) (mb : Option Nat) (L : Kv Ent) (e : Bool) (c : Int) (bd : Bool) (r : Int) (P : Bk) (N : Nat → Bk) (w : World) (h : PD w d mb L e c bd r) (hG : Gp P N) (hF : Fl L P N) :
    Calls Tryz.prog 5 #[.pointer (some ⟨d, 0, none⟩)] w fun x w' => ∃ b, x = .returned (.tuple #[.pointer (some ⟨b, 0, none⟩), .nilIface]) ∧ BN w b d P N w' := by
  have cL := load_any d mb L e c bd r pgF P w h (by decide) hG.gp hG.lp hF.pg
  have H := Lib.hid h
  have HG := Lib.hid hG
  have HF := Lib.hid hF
  clear h hG hF
  go_enter Tryz.func5, Tryz.ntmps5
  go_wp2_with fail
  refine cL.mono ?_
  rintro x w1 ⟨pm, rfl, hpm, hlp, b1⟩
  clear cL
  go_wp2_with fail
  have hO : OI w w1.heap.size d pm P N 0 (w1.alloc (bko (some d) (some pm) (fun _ => none) false)) := ⟨b1.alloc b1.size _, hlp.alloc _, hpm, b1.size, fun _ => 0, nb0 _ _, fun j hj => absurd hj (Nat.not_lt_zero _), fun j hj => absurd hj (Nat.not_lt_zero _), fun i j hi => absurd hi (Nat.not_lt_zero _)⟩
  have HO := Lib.hid hO
  obtain ⟨b, hb⟩ : ∃ b, b = w1.heap.size := ⟨_, rfl⟩
  rw [← hb] at HO
  rw [← hb]
  have HW : Hid (w1.alloc (bko (some d) (some pm) (fun _ => none) false) = w1.alloc (bko (some d) (some pm) (fun _ => none) false)) := rfl
  clear hb hO hlp b1 hpm
  go_loopw [14] (fun iv W => ∃ k : Nat, k ≤ 37 ∧ iv = .int .i64 k ∧ OI w b d pm P N k W) (fun iv _ => 37 - (intOf iv).toNat)
  case atStart => exact ⟨0, Nat.zero_le _, rfl, HO.out⟩
  case round =>
    obtain ⟨k, hk, rfl, hI⟩ := hrel
    by_cases hlt : k < 37
    · have hb := (by obtain ⟨ns, h1, _⟩ := hI.is; exact ⟨ns, h1⟩ : ∃ ns : Nat → Nat, wr.heap[b]? = some (bko (some d) (some pm) (fun j => if j < k then some (ns j) else none) false))
      obtain ⟨ns0, hb⟩ := hb
      have cF := file_any k hlt wr.drew
      have bdr := (Below.refl wr.heap.size wr).drew
      have cD := load_any d mb L e c bd r (shF k) (N k) wr.drew ((H.out.up hI.bl).up bdr) (by have := shF_len hlt; omega) (HG.out.gn k hlt) (HG.out.ln k hlt) (HF.out.sh k hlt)
      have HI := Lib.hid hI
      have hlb := (Array.getElem?_eq_some_iff.1 hb).1
      clear hI
      go_wp2_with fail
      refine wp_region_held (S := fun W => b < W.heap.size) (by kernel_rfl) ?_
      refine wpAnyH_take (i := 0) (v := .pointer (some ⟨b, 0, none⟩)) rfl (by kernel_rfl) (by kernel_rfl) (by kernel_rfl) (fun _ _ _ h => h) (.inl ⟨rfl, fun w' _ => by simp [go_sem]⟩) hlb ?_
      refine wpAnyH_take (i := 1) (v := .int .i64 k) rfl (by kernel_rfl) (by kernel_rfl) (by kernel_rfl) (fun _ _ _ h => h) (.inl ⟨rfl, fun w' _ => by simp [go_sem]⟩) hlb ?_
      refine wpAnyH_take (i := 2) (v := .pointer (some ⟨d, 0, none⟩)) rfl (by kernel_rfl) (by kernel_rfl) (by kernel_rfl) (fun _ _ _ h => h) (.inl ⟨rfl, fun w' _ => by simp [go_sem]⟩) hlb ?_
      refine wpAnyH_take (i := 3) (v := .int .i64 k) rfl (by kernel_rfl) (by kernel_rfl) (by kernel_rfl) (fun _ _ _ h => h) (.inl ⟨rfl, fun w' _ => by simp [go_sem]⟩) hlb ?_
      refine wpAnyH_take (i := 6) (v := .pointer (some ⟨b, 0, none⟩)) rfl (by kernel_rfl) (by kernel_rfl) (by kernel_rfl) (fun _ _ _ h => h) (.inl ⟨rfl, fun w' _ => by simp [go_sem]⟩) hlb ?_
      refine wpAnyH_take (i := 7) (v := .pointer (some ⟨b, 2, none⟩)) rfl (by kernel_rfl) (by kernel_rfl) (by kernel_rfl) (fun _ _ _ h => h) (.inl ⟨rfl, fun w' _ => by simp [go_sem]⟩) hlb ?_
      refine wpAnyH_all (rs := [4]) (by kernel_rfl) (by simp) fun j hj => ?_
      obtain rfl : j = 4 := by simpa using hj
      refine wpOp_go rfl rfl ?_
      unfold Oper.wp
      simp [go_sem]
      refine cF.mono ?_
      rintro z w2 ⟨rfl, rfl⟩
      refine ⟨hlb, ?_⟩
      refine wpAnyH_all (rs := [5]) (by kernel_rfl) (by simp) fun j hj => ?_
      obtain rfl : j = 5 := by simpa using hj
      refine wpOp_go rfl rfl ?_
      unfold Oper.wp
      simp [go_sem]
      refine cD.mono ?_
      rintro z w3 ⟨m, rfl, hm, hlm, b3⟩
      have hb3 : Below wr.heap.size wr w3 := bdr.trans b3
      have hI4 := HI.out.step hlt hb3 hlm hm
      have hl3 : b < w3.heap.size := Nat.lt_of_lt_of_le hlb hb3.size
      have hbk3 := (hb3.block b hlb).trans hb
      have c3 := (bc_of hbk3).cn k hlt
      have f3 := (bc_of hbk3).f (2 + k)
      have HI4 := Lib.hid hI4
      clear cF cD b3 hI4 hb3 hlm hm hb hbk3 bdr HI
      refine ⟨hl3, ?_⟩
      refine wpAnyH_take (i := 8) (v := .pointer (some ⟨b, 2 + k, none⟩)) rfl (by kernel_rfl) (by kernel_rfl) (by kernel_rfl) (fun _ _ _ h => h) (.inl ⟨rfl, fun w' _ => by simp [go_sem]; intro h; omega⟩) hl3 ?_
      refine wpAnyH_all (rs := [9]) (by kernel_rfl) (by simp) fun j hj => ?_
      obtain rfl : j = 9 := by simpa using hj
      refine wpOp_go rfl rfl ?_
      unfold Oper.wp
      simp [go_sem, c3, f3]
      refine ⟨by simpa using hl3, wpAnyH_done (by kernel_rfl) ?_ _⟩
      clear c3 f3 hl3
      go_wp2_with fail
      exact ⟨⟨k + 1, hlt, by go_num, HI4.out⟩, by simp [intOf]; omega⟩
    · obtain rfl : k = 37 := by omega
      obtain ⟨ns, h1, h2, h3, h4⟩ := hI.is
      have hB : BK wr b d pm ns false P N := by
        refine ⟨?_, hI.lp, h2, h4, fun i hi => (h3 i hi).2⟩
        rw [h1]
        exact congrArg some (bko_congr fun i hi => if_pos hi)
      have HB : Hid (BN w b d P N wr) := ⟨⟨pm, ns, hB, fun k hk => by
        rcases hk with rfl | rfl | ⟨i, hi, rfl⟩
        · exact hI.hb
        · exact hI.hp
        · exact (h3 i hi).1⟩, hI.bl⟩
      clear hI hB h1 h2 h3 h4
      go_wp2
      go_ret2
      exact ⟨b, rfl, HB.out⟩
end Go.Proofs.YteiobnkaadedkaaGreatDoor
