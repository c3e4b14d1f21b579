/- record.Read, where fields say a package that may be. -/
import Derived.Test.YtmlmdncepgcimaaGreatDoorXb
import Derived.Test.YtmlmdncepgcimaaGreatDoorYm
namespace Go.Proofs.YtmlmdncepgcimaaGreatDoor
open Go.RowKit Go.Shelf

def opv (s : List UInt8) : Option (List UInt8) := if s = [] then none else some s
/-- What fields say. -/
structure Gt (l : List Fd) (p : Pck) : Prop where
  n : Stz.Sm.gets l [80, 97, 99, 107, 97, 103, 101] = some p.o.n
  v : Stz.Sm.gets l [86, 101, 114, 115, 105, 111, 110] = some (Vm.pt p.o.e p.o.u p.o.r)
  D : Stz.Sm.gets l [68, 101, 112, 101, 110, 100, 115] = opv (wrA p.D)
  A : Stz.Sm.gets l [80, 114, 101, 45, 68, 101, 112, 101, 110, 100, 115] = opv (wrA p.A)
  G : Stz.Sm.gets l [67, 111, 110, 102, 108, 105, 99, 116, 115] = opv (wrA (sing p.G))
  B : Stz.Sm.gets l [66, 114, 101, 97, 107, 115] = opv (wrA (sing p.B))
  R : Stz.Sm.gets l [82, 101, 112, 108, 97, 99, 101, 115] = opv (wrA (sing p.R))
  P : Stz.Sm.gets l [80, 114, 111, 118, 105, 100, 101, 115] = opv (wrA (sing p.o.P))
  S : Stz.Sm.gets l [67, 111, 110, 102, 102, 105, 108, 101, 115] = opv (lns p.S)
  L : Stz.Sm.gets l [84, 114, 105, 103, 103, 101, 114, 115] = opv (lns p.L)
theorem gets_le {l : List Fd} {n s : List UInt8} (hz : Stz.Sz l) (h : Stz.Sm.gets l n = some s) : s.length ≤ 4000 := by
  unfold Stz.Sm.gets at h
  obtain ⟨i, hi, rfl⟩ := Option.map_eq_some_iff.1 h
  have hlt := Stz.fnd_lt hi
  rw [show l.getD i ([], []) = l[i] from by simp [List.getD, hlt]]
  exact (hz.s _ (List.getElem_mem hlt)).2
section
variable {rb : Nat} {A : Option Addr} {c : Nat} {l : List Fd} {n : List UInt8} {w : World}
theorem rd_D (D : List (List Tm)) (hk : ask D = true) (hR : Rd w rb (.slice A l.length c)) (hl : Stz.Sl w (.slice A l.length c) l) (hz : Stz.Sz l) (hn : n.length ≤ 1000) (hg : Stz.Sm.gets l n = opv (wrA D)) (hG : Sg w) (hT : Tab w) :
    Calls Tryz.prog 78 #[.pointer (some ⟨rb, 0, none⟩), .string ⟨n.toArray⟩, .func (.func 79) #[] #[]] w fun e w' => ∃ v, e = .returned v ∧ As w' v D ∧ Below w.heap.size w w' := by
  have hr := rdA_wrA hk
  unfold opv at hg
  by_cases h0 : wrA D = []
  · rw [if_pos h0] at hg
    rw [h0] at hr
    have hD : D = [] := by
      have e : rdA [] = .ok [] := rfl
      rw [e] at hr
      cases hr; rfl
    subst hD
    exact (read78_none rb A c l n w hR hl hz hn hg).mono fun e w' ⟨h1, h2⟩ => ⟨_, h1, ⟨.inl ⟨rfl, _, _, rfl⟩⟩, h2⟩
  · rw [if_neg h0] at hg
    have hs := gets_le hz hg
    refine read78_some (fun W v => As W v D) (fun W W' v h k => h.on k) rb A c l n _ w hR hl hz hn hg fun W hW => ?_
    have h1 := rterms_any (wrA D) W (by omega) (hG.on hW) (tab_on hT hW)
    rw [hr] at h1
    exact h1.mono fun e W' ⟨⟨v, h2, h3⟩, h4⟩ => ⟨v, h2, h3, h4⟩
theorem rd_G (G : List Tm) (hk : ask (sing G) = true) (hR : Rd w rb (.slice A l.length c)) (hl : Stz.Sl w (.slice A l.length c) l) (hz : Stz.Sz l) (hn : n.length ≤ 1000) (hg : Stz.Sm.gets l n = opv (wrA (sing G))) (hG : Sg w) (hT : Tab w) (hn30 : G.length ≤ 30) :
    Calls Tryz.prog 80 #[.pointer (some ⟨rb, 0, none⟩), .string ⟨n.toArray⟩, .func (.func 81) #[] #[]] w fun e w' => ∃ v, e = .returned v ∧ Ts w' v G ∧ Below w.heap.size w w' := by
  have hr := rdA_wrA hk
  unfold opv at hg
  by_cases h0 : wrA (sing G) = []
  · rw [if_pos h0] at hg
    rw [h0] at hr
    have hD : G = [] := by
      have e : rdA [] = .ok [] := rfl
      rw [e] at hr
      simp only [Except.ok.injEq] at hr
      simpa [sing] using hr.symm
    subst hD
    exact (read80_none rb A c l n w hR hl hz hn hg).mono fun e w' ⟨h1, h2⟩ => ⟨_, h1, ⟨.inl ⟨rfl, _, _, rfl⟩⟩, h2⟩
  · rw [if_neg h0] at hg
    have hs := gets_le hz hg
    refine read80_some (fun W v => Ts W v G) (fun W W' v h k => h.on k) rb A c l n _ w hR hl hz hn hg fun W hW => ?_
    exact list_good (wrA (sing G)) G W (by omega) hr (hG.on hW) (tab_on hT hW) hn30
theorem rd_S (S : List (List UInt8)) (h20 : S.length ≤ 20) (hno : ∀ s ∈ S, (10 : UInt8) ∉ s) (hR : Rd w rb (.slice A l.length c)) (hl : Stz.Sl w (.slice A l.length c) l) (hz : Stz.Sz l) (hn : n.length ≤ 1000) (hg : Stz.Sm.gets l n = opv (lns S)) (hM : MaxN w) :
    Calls Tryz.prog 82 #[.pointer (some ⟨rb, 0, none⟩), .string ⟨n.toArray⟩, .func (.func 83) #[] #[]] w fun e w' => ∃ v, e = .returned v ∧ Ss w' v S ∧ Below w.heap.size w w' := by
  unfold opv at hg
  by_cases h0 : lns S = []
  · rw [if_pos h0] at hg
    have hD : S = [] := by
      cases S with
      | nil => rfl
      | cons s S => rw [lns_cons] at h0; cases h0
    subst hD
    exact (read82_none rb A c l n w hR hl hz hn hg).mono fun e w' ⟨h1, h2⟩ => ⟨_, h1, ⟨.inl ⟨rfl, _, _, rfl⟩⟩, h2⟩
  · rw [if_neg h0] at hg
    have hs := gets_le hz hg
    refine read82_some (fun W v => Ss W v S) (fun W W' v h k => h.on k) rb A c l n _ w hR hl hz hn hg fun W hW => ?_
    exact ppaths_good S W (fun e => h0 (by rw [e]; rfl)) h20 hno (by omega) (hM.on hW)
theorem rd_V (ve : Int) (vu vr : List UInt8) (hk : Vm.rt ve vu vr = true) (hR : Rd w rb (.slice A l.length c)) (hl : Stz.Sl w (.slice A l.length c) l) (hz : Stz.Sz l) (hn : n.length ≤ 1000) (hg : Stz.Sm.gets l n = some (Vm.pt ve vu vr)) (hT : Tab w) :
    Calls Tryz.prog 76 #[.pointer (some ⟨rb, 0, none⟩), .string ⟨n.toArray⟩, .func (.func 77) #[] #[]] w fun e w' => e = .returned (.agg #[.int .i64 ve, .string ⟨vu.toArray⟩, .string ⟨vr.toArray⟩]) ∧ Below w.heap.size w w' := by
  refine read76_some ve vu vr rb A c l n _ w hR hl hz hn hg fun W hW => ?_
  have h1 := parse_any (Vm.pt ve vu vr) W (tab_on hT hW)
  rw [Vm.pv_pt hk] at h1
  exact h1
end
theorem ask_30 {G : List Tm} (h : ask (sing G) = true) : G.length ≤ 30 := by
  unfold ask at h
  simp only [Bool.and_eq_true, decide_eq_true_eq] at h
  have h2 := h.2.1
  rwa [sing_flat] at h2
theorem pths_20 {S : List (List UInt8)} (h : pths S = true) : S.length ≤ 20 ∧ ∀ s ∈ S, (10 : UInt8) ∉ s := by
  unfold pths at h
  simp only [Bool.and_eq_true, decide_eq_true_eq, List.all_eq_true, List.mem_range] at h
  refine ⟨h.1, fun s hs hm => ?_⟩
  obtain ⟨i, hi, rfl⟩ := List.mem_iff_getElem.1 hs
  have h1 := h.2 i hi
  rw [pki_at hi] at h1
  simp only [Bool.and_eq_true] at h1
  have h2 := h1.1
  unfold pth at h2
  simp only [Bool.and_eq_true, List.all_eq_true] at h2
  have h3 := h2.2.2.1 10 hm
  revert h3
  decide
theorem ts_len {W : World} {v : Value} {L : List Tm} (h : Ts W v L) : ∃ A c, v = .slice A L.length c := by
  rcases h.is with ⟨rfl, A, c, rfl⟩ | ⟨b, o, c, rfl, _⟩
  · exact ⟨A, c, rfl⟩
  · exact ⟨_, c, rfl⟩
theorem ss_len {W : World} {v : Value} {L : List (List UInt8)} (h : Ss W v L) : ∃ A c, v = .slice A L.length c := by
  rcases h.is with ⟨rfl, A, c, rfl⟩ | ⟨b, o, c, rfl, _⟩
  · exact ⟨A, c, rfl⟩
  · exact ⟨_, c, rfl⟩
abbrev zpk : Obj := .cells #[.string ⟨#[]⟩, .int .i64 0, .string ⟨#[]⟩, .string ⟨#[]⟩, .slice none 0 0, .slice none 0 0, .slice none 0 0, .slice none 0 0, .slice none 0 0, .slice none 0 0, .slice none 0 0, .slice none 0 0, .slice none 0 0] 29 (0, 0)
/-- What lies in an empty package. -/
def zok : Value → Prop
  | .string s => s = ⟨#[]⟩
  | .slice _ n _ => n = 0
  | _ => True
theorem zp_ok {W : World} {bz i : Nat} {v : Value} (h : W.heap[bz]? = some zpk) (hc : W.cell? ⟨bz, i, none⟩ = some v) : zok v := by
  unfold World.cell? at hc
  simp only [h] at hc
  match i with
  | 0 => simp at hc; subst hc; rfl
  | 1 => simp at hc; subst hc; trivial
  | 2 => simp at hc; subst hc; rfl
  | 3 => simp at hc; subst hc; rfl
  | 4 => simp at hc; subst hc; rfl
  | 5 => simp at hc; subst hc; rfl
  | 6 => simp at hc; subst hc; rfl
  | 7 => simp at hc; subst hc; rfl
  | 8 => simp at hc; subst hc; rfl
  | 9 => simp at hc; subst hc; rfl
  | 10 => simp at hc; subst hc; rfl
  | 11 => simp at hc; subst hc; rfl
  | 12 => simp at hc; subst hc; rfl
  | i + 13 => simp at hc
/-- Nothing but one block has changed. -/
structure Far (W W' : World) (bz : Nat) : Prop where
  sz : W.heap.size ≤ W'.heap.size
  z : W.heap[bz]? = some zpk
  bl : ∀ k, k < W.heap.size → k ≠ bz → W'.heap[k]? = W.heap[k]?
theorem Far.cell {W W' : World} {bz : Nat} (h : Far W W' bz) {b o : Nat} {v : Value} (hc : W.cell? ⟨b, o, none⟩ = some v) (hb : b ≠ bz) : W'.cell? ⟨b, o, none⟩ = some v :=
  (World.cell?_of_block (w := W) (a := ⟨b, o, none⟩) (h.bl b (block_lt_of_cell hc) hb)).trans hc
theorem Far.set {W W' : World} {bz : Nat} (h : Far W W' bz) (i : Nat) (u : Value) : Far W (W'.setCell ⟨bz, i, none⟩ u) bz :=
  ⟨by simpa using h.sz, h.z, fun k hk hne => (heap_setCell_other W' ⟨bz, i, none⟩ k u hne).trans (h.bl k hk hne)⟩
theorem str_ne {n : List UInt8} (h : n ≠ []) : ¬ zok (.string ⟨n.toArray⟩) := fun e => by
  unfold zok at e
  exact h (by simpa using e)
theorem Ts.far {W W' : World} {bz : Nat} {v : Value} {L : List Tm} (h : Ts W v L) (k : Far W W' bz) (hn : ∀ t ∈ L, t.n ≠ []) : Ts W' v L := by
  rcases h.is with h | ⟨b, o, c, h1, h2, h3⟩
  · exact ⟨.inl h⟩
  · by_cases h0 : L.length = 0
    · exact ⟨.inl ⟨List.length_eq_zero_iff.1 h0, _, _, by rw [h1, h0]⟩⟩
    · have hb : b ≠ bz := fun e => by
        subst e
        exact str_ne (hn _ (List.getElem_mem (by omega))) (zp_ok k.z (h3.c0 0 (by omega)))
      exact ⟨.inr ⟨b, o, c, h1, h2, ⟨Nat.lt_of_lt_of_le h3.lt k.sz, fun i hi => k.cell (h3.c0 i hi) hb, fun i hi => k.cell (h3.c1 i hi) hb, fun i hi => k.cell (h3.c2 i hi) hb, fun i hi => k.cell (h3.c3 i hi) hb, fun i hi => k.cell (h3.c4 i hi) hb⟩⟩⟩
theorem Ss.far {W W' : World} {bz : Nat} {v : Value} {L : List (List UInt8)} (h : Ss W v L) (k : Far W W' bz) (hn : ∀ t ∈ L, t ≠ []) : Ss W' v L := by
  rcases h.is with h | ⟨b, o, c, h1, h2, h3⟩
  · exact ⟨.inl h⟩
  · by_cases h0 : L.length = 0
    · exact ⟨.inl ⟨List.length_eq_zero_iff.1 h0, _, _, by rw [h1, h0]⟩⟩
    · have hb : b ≠ bz := fun e => by
        subst e
        exact str_ne (hn _ (List.getElem_mem (by omega))) (zp_ok k.z (h3.c 0 (by omega)))
      exact ⟨.inr ⟨b, o, c, h1, h2, ⟨Nat.lt_of_lt_of_le h3.lt k.sz, fun i hi => k.cell (h3.c i hi) hb⟩⟩⟩
theorem As.far {W W' : World} {bz : Nat} {v : Value} {L : List (List Tm)} (h : As W v L) (k : Far W W' bz) (hx : ∀ x ∈ L, x ≠ []) (hn : ∀ x ∈ L, ∀ t ∈ x, t.n ≠ []) : As W' v L := by
  rcases h.is with h | ⟨b, o, c, h1, h2, h3⟩
  · exact ⟨.inl h⟩
  · by_cases h0 : L.length = 0
    · exact ⟨.inl ⟨List.length_eq_zero_iff.1 h0, _, _, by rw [h1, h0]⟩⟩
    · have hb : b ≠ bz := fun e => by
        subst e
        obtain ⟨u, hu, ht⟩ := h3.c 0 (by omega)
        obtain ⟨A, c', rfl⟩ := ts_len ht
        have h4 := zp_ok k.z hu
        exact hx _ (List.getElem_mem (by omega)) (List.length_eq_zero_iff.1 h4)
      exact ⟨.inr ⟨b, o, c, h1, h2, ⟨Nat.lt_of_lt_of_le h3.lt k.sz, fun i hi => by
        obtain ⟨u, hu, ht⟩ := h3.c i hi
        exact ⟨u, k.cell hu hb, ht.far k (hn _ (List.getElem_mem hi))⟩⟩⟩⟩
theorem tok_nn {t : Tm} (h : tok t = true) : t.n ≠ [] := by
  unfold tok at h
  rw [Bool.and_eq_true] at h
  exact (nmo_all h.1).2
theorem ask_n {L : List (List Tm)} (h : ask L = true) : (∀ x ∈ L, x ≠ []) ∧ ∀ x ∈ L, ∀ t ∈ x, t.n ≠ [] := by
  unfold ask at h
  simp only [Bool.and_eq_true, List.all_eq_true, decide_eq_true_eq] at h
  exact ⟨h.1, fun x hx t ht => tok_nn (h.2.2 t (List.mem_flatten.2 ⟨x, hx, ht⟩))⟩
theorem pths_n {S : List (List UInt8)} (h : pths S = true) : ∀ s ∈ S, s ≠ [] := by
  unfold pths at h
  simp only [Bool.and_eq_true, List.all_eq_true, List.mem_range] at h
  intro s hs e
  obtain ⟨i, hi, rfl⟩ := List.mem_iff_getElem.1 hs
  have h1 := h.2 i hi
  rw [pki_at hi] at h1
  simp only [Bool.and_eq_true] at h1
  have h2 := h1.1
  rw [e] at h2
  revert h2
  decide
theorem Pz.far {W W' : World} {bz : Nat} {p : Pck} {vD vA vG vB vR vP vS vL vF : Value} (h : Pz W p vD vA vG vB vR vP vS vL vF) (k : Far W W' bz) (hk : Rk p) (hF : p.F = []) : Pz W' p vD vA vG vB vR vP vS vL vF := by
  have sg : ∀ {G : List Tm}, ask (sing G) = true → ∀ t ∈ G, t.n ≠ [] := fun {G} hG t ht => (ask_n hG).2 [t] (by unfold sing; exact List.mem_map.2 ⟨t, ht, rfl⟩) t (List.mem_singleton.2 rfl)
  refine ⟨h.D.far k (ask_n hk.D).1 (ask_n hk.D).2, h.A.far k (ask_n hk.A).1 (ask_n hk.A).2, h.G.far k (sg hk.G), h.B.far k (sg hk.B), h.R.far k (sg hk.R), h.P.far k (sg hk.P), h.S.far k (pths_n hk.S), h.L.far k (pths_n hk.L), ?_⟩
  rcases h.F.is with h1 | ⟨b, o, c, h1, _⟩
  · exact ⟨.inl h1⟩
  · exact ⟨.inl ⟨hF, _, _, by rw [h1, hF]; rfl⟩⟩
structure Zp (W : World) (b : Nat) : Prop where
  blk : W.heap[b]? = some zpk
theorem Zp.c {W : World} {b : Nat} (h : Zp W b) : b < W.heap.size ∧ W.cell? ⟨b, 0, none⟩ = some (.string ⟨#[]⟩) ∧ W.cell? ⟨b, 1, none⟩ = some (.int .i64 0) ∧ W.cell? ⟨b, 2, none⟩ = some (.string ⟨#[]⟩) ∧ W.cell? ⟨b, 3, none⟩ = some (.string ⟨#[]⟩) ∧ W.cell? ⟨b, 4, none⟩ = some (.slice none 0 0) ∧ W.cell? ⟨b, 5, none⟩ = some (.slice none 0 0) ∧ W.cell? ⟨b, 6, none⟩ = some (.slice none 0 0) ∧ W.cell? ⟨b, 7, none⟩ = some (.slice none 0 0) ∧ W.cell? ⟨b, 8, none⟩ = some (.slice none 0 0) ∧ W.cell? ⟨b, 9, none⟩ = some (.slice none 0 0) ∧ W.cell? ⟨b, 10, none⟩ = some (.slice none 0 0) ∧ W.cell? ⟨b, 11, none⟩ = some (.slice none 0 0) ∧ W.cell? ⟨b, 12, none⟩ = some (.slice none 0 0) ∧ W.frozen? ⟨b, 0, none⟩ = false ∧ W.frozen? ⟨b, 1, none⟩ = false ∧ W.frozen? ⟨b, 2, none⟩ = false ∧ W.frozen? ⟨b, 3, none⟩ = false ∧ W.frozen? ⟨b, 4, none⟩ = false ∧ W.frozen? ⟨b, 5, none⟩ = false ∧ W.frozen? ⟨b, 6, none⟩ = false ∧ W.frozen? ⟨b, 7, none⟩ = false ∧ W.frozen? ⟨b, 8, none⟩ = false ∧ W.frozen? ⟨b, 9, none⟩ = false ∧ W.frozen? ⟨b, 10, none⟩ = false ∧ W.frozen? ⟨b, 11, none⟩ = false ∧ W.frozen? ⟨b, 12, none⟩ = false :=
  ⟨(Array.getElem?_eq_some_iff.1 h.blk).1, by simp [World.cell?, h.blk], by simp [World.cell?, h.blk], by simp [World.cell?, h.blk], by simp [World.cell?, h.blk], by simp [World.cell?, h.blk], by simp [World.cell?, h.blk], by simp [World.cell?, h.blk], by simp [World.cell?, h.blk], by simp [World.cell?, h.blk], by simp [World.cell?, h.blk], by simp [World.cell?, h.blk], by simp [World.cell?, h.blk], by simp [World.cell?, h.blk], by simp [World.frozen?, h.blk], by simp [World.frozen?, h.blk], by simp [World.frozen?, h.blk], by simp [World.frozen?, h.blk], by simp [World.frozen?, h.blk], by simp [World.frozen?, h.blk], by simp [World.frozen?, h.blk], by simp [World.frozen?, h.blk], by simp [World.frozen?, h.blk], by simp [World.frozen?, h.blk], by simp [World.frozen?, h.blk], by simp [World.frozen?, h.blk], by simp [World.frozen?, h.blk]⟩
/-- Where a reading stands. -/
structure St9 (w W : World) (rb : Nat) (vf : Value) (l : List Fd) : Prop where
  rd : Rd W rb vf
  sl : Stz.Sl W vf l
  sg : Sg W
  tab : Tab W
  mx : MaxN W
  bl : Below w.heap.size w W
theorem St9.on {w W W' : World} {rb : Nat} {vf : Value} {l : List Fd} (h : St9 w W rb vf l) (k : Below W.heap.size W W') : St9 w W' rb vf l :=
  ⟨h.rd.on k, h.sl.on k, h.sg.on k, tab_on h.tab k, h.mx.on k, h.bl.trans (k.mono h.bl.size)⟩
set_option maxHeartbeats 6400000 in
set_option maxRecDepth 100000 in
theorem read_good (p : Pck) (A : Option Addr) (c : Nat) (l : List Fd) (w : World) (hl : Stz.Sl w (.slice A l.length c) l) (hz : Stz.Sz l) (hg : Gt l p) (hk : rok p = true) (hF : p.F = []) (hp : Pg p) (hG : Sg w) (hT : Tab w) (hM : MaxN w) :
    Calls Tryz.prog 20 #[.slice A l.length c] w fun e w' => ∃ vD vA vG vB vR vP vS vL, e = .returned (.tuple #[pkv p.o.n p.o.e p.o.u p.o.r vD vA vG vB vR vP vS vL (.slice none 0 0), .nilIface]) ∧ Pz w' p vD vA vG vB vR vP vS vL (.slice none 0 0) ∧ Below w.heap.size w w' := by
  have hb0 : Below w.heap.size w (w.alloc zpk) := (Below.refl _ _).alloc (Nat.le_refl _) _
  have hl0 := hl.on hb0
  have g1 := Stz.get_any _ l [80, 97, 99, 107, 97, 103, 101] _ hl0 hz (by simp)
  rw [hg.n] at g1
  have g2 := fun W (hW : Stz.Sl W (.slice A l.length c) l) => Stz.get_any _ l [86, 101, 114, 115, 105, 111, 110] W hW hz (by simp)
  rw [hg.v] at g2
  have HL := Lib.hid hl0
  have HB0 := Lib.hid hb0
  have HZ0 := Lib.hid (World.alloc_heap_new w zpk)
  clear hl hl0 hb0
  obtain ⟨W0, hW0⟩ : ∃ W0, W0 = w.alloc zpk := ⟨_, rfl⟩
  go_enter Tryz.func20, Tryz.ntmps20
  go_wp2_with fail
  refine g1.mono ?_
  rintro x W1 ⟨rfl, hb1⟩
  rw [show Stz.getVal (some p.o.n) = .tuple #[.string ⟨p.o.n.toArray⟩, .bool true] from rfl]
  have G2 := g2 W1 (HL.out.on hb1)
  clear g1 g2
  go_wp2_with fail
  refine G2.mono ?_
  rintro x W2 ⟨rfl, hb2⟩
  rw [show Stz.getVal (some (Vm.pt p.o.e p.o.u p.o.r)) = .tuple #[.string ⟨(Vm.pt p.o.e p.o.u p.o.r).toArray⟩, .bool true] from rfl]
  clear G2
  have hb02 := hb1.trans (hb2.mono hb1.size)
  have HL2 := Lib.hid (HL.out.on hb02)
  have HB2 := Lib.hid (HB0.out.trans (hb02.mono HB0.out.size))
  have HZ2 := Lib.hid ((hb02.block w.heap.size (by simp)).trans HZ0.out)
  have hwl : w.heap.size < W2.heap.size := by have := hb02.size; simp at this; omega
  clear hb1 hb2 hb02 HL HB0 HZ0
  obtain ⟨pt, hpt⟩ : ∃ pt, pt = Vm.pt p.o.e p.o.u p.o.r := ⟨_, rfl⟩
  rw [← hpt]
  clear hpt
  have hb3 : Below W2.heap.size W2 (W2.alloc (rdo (.slice A l.length c))) := (Below.refl _ _).alloc (Nat.le_refl _) _
  have s3 : St9 w (W2.alloc (rdo (.slice A l.length c))) W2.heap.size (.slice A l.length c) l := ⟨⟨World.alloc_heap_new _ _⟩, HL2.out.on hb3, (hG.on HB2.out).on hb3, tab_on (tab_on hT HB2.out) hb3, (hM.on HB2.out).on hb3, HB2.out.trans (hb3.mono HB2.out.size)⟩
  have HK := Lib.hid (rk_of hk)
  have HGt := Lib.hid hg
  have HP := Lib.hid hp
  have HZ := Lib.hid hz
  have HZ3 := Lib.hid ((hb3.block w.heap.size hwl).trans HZ2.out)
  have cV := rd_V p.o.e p.o.u p.o.r HK.out.v s3.rd s3.sl HZ.out (n := [86, 101, 114, 115, 105, 111, 110]) (by simp) HGt.out.v s3.tab
  have hrb : w.heap.size < W2.heap.size := hwl
  have hrk := hk
  clear hG hT hM hk hg hp hz hb3 HL2 HZ2 HB2 hwl
  have S3 := Lib.hid s3
  clear s3
  obtain ⟨rb, hrbe⟩ : ∃ rb, rb = W2.heap.size := ⟨_, rfl⟩
  go_wp2_with fail
  refine cV.mono ?_
  rintro x W4 ⟨rfl, hb4⟩
  have s4 := S3.out.on hb4
  have HZ4 := Lib.hid ((hb4.block w.heap.size (by simp; omega)).trans HZ3.out)
  have hw4 : w.heap.size < W4.heap.size := by have := hb4.size; simp at this; omega
  rw [← hrbe] at s4 ⊢
  have S4 := Lib.hid s4
  have hrlt : w.heap.size ≠ rb := by omega
  clear cV hb4 s4 S3 HZ3 hrbe
  have c5 := rd_D p.D HK.out.D S4.out.rd S4.out.sl HZ.out (by simp) HGt.out.D S4.out.sg S4.out.tab
  go_wp2_with fail
  with_reducible refine c5.mono ?_
  rintro x W5 ⟨vD, rfl, hD, hb5⟩
  obtain ⟨AD, cD, rfl⟩ := as_len hD
  have S5 := Lib.hid (S4.out.on hb5)
  have HZ5 := Lib.hid ((hb5.block w.heap.size hw4).trans HZ4.out)
  have hw5 : w.heap.size < W5.heap.size := by have := hb5.size; omega
  have HD5 := Lib.hid hD
  clear c5 hD hb5 S4 HZ4 hw4 
  have c6 := rd_D p.A HK.out.A S5.out.rd S5.out.sl HZ.out (by simp) HGt.out.A S5.out.sg S5.out.tab
  go_wp2_with fail
  with_reducible refine c6.mono ?_
  rintro x W6 ⟨vA, rfl, hA, hb6⟩
  obtain ⟨AA, cA, rfl⟩ := as_len hA
  have S6 := Lib.hid (S5.out.on hb6)
  have HZ6 := Lib.hid ((hb6.block w.heap.size hw5).trans HZ5.out)
  have hw6 : w.heap.size < W6.heap.size := by have := hb6.size; omega
  have HD6 := Lib.hid (HD5.out.on hb6)
  have HA6 := Lib.hid hA
  clear c6 hA hb6 S5 HZ5 hw5 HD5
  have c7 := rd_G p.G HK.out.G S6.out.rd S6.out.sl HZ.out (by simp) HGt.out.G S6.out.sg S6.out.tab (ask_30 HK.out.G)
  go_wp2_with fail
  with_reducible refine c7.mono ?_
  rintro x W7 ⟨vG, rfl, hG, hb7⟩
  obtain ⟨AG, cG, rfl⟩ := ts_len hG
  have S7 := Lib.hid (S6.out.on hb7)
  have HZ7 := Lib.hid ((hb7.block w.heap.size hw6).trans HZ6.out)
  have hw7 : w.heap.size < W7.heap.size := by have := hb7.size; omega
  have HD7 := Lib.hid (HD6.out.on hb7)
  have HA7 := Lib.hid (HA6.out.on hb7)
  have HG7 := Lib.hid hG
  clear c7 hG hb7 S6 HZ6 hw6 HD6 HA6
  have c8 := rd_G p.B HK.out.B S7.out.rd S7.out.sl HZ.out (by simp) HGt.out.B S7.out.sg S7.out.tab (ask_30 HK.out.B)
  go_wp2_with fail
  with_reducible refine c8.mono ?_
  rintro x W8 ⟨vB, rfl, hB, hb8⟩
  obtain ⟨AB, cB, rfl⟩ := ts_len hB
  have S8 := Lib.hid (S7.out.on hb8)
  have HZ8 := Lib.hid ((hb8.block w.heap.size hw7).trans HZ7.out)
  have hw8 : w.heap.size < W8.heap.size := by have := hb8.size; omega
  have HD8 := Lib.hid (HD7.out.on hb8)
  have HA8 := Lib.hid (HA7.out.on hb8)
  have HG8 := Lib.hid (HG7.out.on hb8)
  have HB8 := Lib.hid hB
  clear c8 hB hb8 S7 HZ7 hw7 HD7 HA7 HG7
  have c9 := rd_G p.R HK.out.R S8.out.rd S8.out.sl HZ.out (by simp) HGt.out.R S8.out.sg S8.out.tab (ask_30 HK.out.R)
  go_wp2_with fail
  with_reducible refine c9.mono ?_
  rintro x W9 ⟨vR, rfl, hR, hb9⟩
  obtain ⟨AR, cR, rfl⟩ := ts_len hR
  have S9 := Lib.hid (S8.out.on hb9)
  have HZ9 := Lib.hid ((hb9.block w.heap.size hw8).trans HZ8.out)
  have hw9 : w.heap.size < W9.heap.size := by have := hb9.size; omega
  have HD9 := Lib.hid (HD8.out.on hb9)
  have HA9 := Lib.hid (HA8.out.on hb9)
  have HG9 := Lib.hid (HG8.out.on hb9)
  have HB9 := Lib.hid (HB8.out.on hb9)
  have HR9 := Lib.hid hR
  clear c9 hR hb9 S8 HZ8 hw8 HD8 HA8 HG8 HB8
  have c10 := rd_G p.o.P HK.out.P S9.out.rd S9.out.sl HZ.out (by simp) HGt.out.P S9.out.sg S9.out.tab (ask_30 HK.out.P)
  go_wp2_with fail
  with_reducible refine c10.mono ?_
  rintro x W10 ⟨vP, rfl, hP, hb10⟩
  obtain ⟨AP, cP, rfl⟩ := ts_len hP
  have S10 := Lib.hid (S9.out.on hb10)
  have HZ10 := Lib.hid ((hb10.block w.heap.size hw9).trans HZ9.out)
  have hw10 : w.heap.size < W10.heap.size := by have := hb10.size; omega
  have HD10 := Lib.hid (HD9.out.on hb10)
  have HA10 := Lib.hid (HA9.out.on hb10)
  have HG10 := Lib.hid (HG9.out.on hb10)
  have HB10 := Lib.hid (HB9.out.on hb10)
  have HR10 := Lib.hid (HR9.out.on hb10)
  have HP10 := Lib.hid hP
  clear c10 hP hb10 S9 HZ9 hw9 HD9 HA9 HG9 HB9 HR9
  have c11 := rd_S p.S (pths_20 HK.out.S).1 (pths_20 HK.out.S).2 S10.out.rd S10.out.sl HZ.out (by simp) HGt.out.S S10.out.mx
  go_wp2_with fail
  with_reducible refine c11.mono ?_
  rintro x W11 ⟨vS, rfl, hS, hb11⟩
  obtain ⟨AS, cS, rfl⟩ := ss_len hS
  have S11 := Lib.hid (S10.out.on hb11)
  have HZ11 := Lib.hid ((hb11.block w.heap.size hw10).trans HZ10.out)
  have hw11 : w.heap.size < W11.heap.size := by have := hb11.size; omega
  have HD11 := Lib.hid (HD10.out.on hb11)
  have HA11 := Lib.hid (HA10.out.on hb11)
  have HG11 := Lib.hid (HG10.out.on hb11)
  have HB11 := Lib.hid (HB10.out.on hb11)
  have HR11 := Lib.hid (HR10.out.on hb11)
  have HP11 := Lib.hid (HP10.out.on hb11)
  have HS11 := Lib.hid hS
  clear c11 hS hb11 S10 HZ10 hw10 HD10 HA10 HG10 HB10 HR10 HP10
  have c12 := rd_S p.L (pths_20 HK.out.L).1 (pths_20 HK.out.L).2 S11.out.rd S11.out.sl HZ.out (by simp) HGt.out.L S11.out.mx
  go_wp2_with fail
  with_reducible refine c12.mono ?_
  rintro x W12 ⟨vL, rfl, hL, hb12⟩
  obtain ⟨AL, cL, rfl⟩ := ss_len hL
  have S12 := Lib.hid (S11.out.on hb12)
  have HZ12 := Lib.hid ((hb12.block w.heap.size hw11).trans HZ11.out)
  have hw12 : w.heap.size < W12.heap.size := by have := hb12.size; omega
  have HD12 := Lib.hid (HD11.out.on hb12)
  have HA12 := Lib.hid (HA11.out.on hb12)
  have HG12 := Lib.hid (HG11.out.on hb12)
  have HB12 := Lib.hid (HB11.out.on hb12)
  have HR12 := Lib.hid (HR11.out.on hb12)
  have HP12 := Lib.hid (HP11.out.on hb12)
  have HS12 := Lib.hid (HS11.out.on hb12)
  have HL12 := Lib.hid hL
  clear c12 hL hb12 S11 HZ11 hw11 HD11 HA11 HG11 HB11 HR11 HP11 HS11
  obtain ⟨k0, k1, k2, k3⟩ := S12.out.rd.c
  have hpz : Pz W12 p (.slice AD p.D.length cD) (.slice AA p.A.length cA) (.slice AG p.G.length cG) (.slice AB p.B.length cB) (.slice AR p.R.length cR) (.slice AP p.o.P.length cP) (.slice AS p.S.length cS) (.slice AL p.L.length cL) (.slice none 0 0) := ⟨HD12.out, HA12.out, HG12.out, HB12.out, HR12.out, HP12.out, HS12.out, HL12.out, ⟨.inl ⟨hF, _, _, rfl⟩⟩⟩
  have HPZ := Lib.hid hpz
  clear hpz HD12 HA12 HG12 HB12 HR12 HP12 HS12 HL12
  have hb13 : Below W12.heap.size W12 (W12.alloc (pko p.o.n p.o.e p.o.u p.o.r (.slice AD p.D.length cD) (.slice AA p.A.length cA) (.slice AG p.G.length cG) (.slice AB p.B.length cB) (.slice AR p.R.length cR) (.slice AP p.o.P.length cP) (.slice AS p.S.length cS) (.slice AL p.L.length cL) (.slice none 0 0))) := b1c _ _
  have cRt := recright_any p _ _ _ _ _ _ _ _ _ _ (HPZ.out.on hb13) HP.out (tab_on S12.out.tab hb13) (S12.out.mx.on hb13)
  rw [hrk] at cRt
  have B0 := pb_new W12 p (.slice AD p.D.length cD) (.slice AA p.A.length cA) (.slice AG p.G.length cG) (.slice AB p.B.length cB) (.slice AR p.R.length cR) (.slice AP p.o.P.length cP) (.slice AS p.S.length cS) (.slice AL p.L.length cL) (.slice none 0 0)
  have HB0 := Lib.hid B0
  have H13 := Lib.hid hb13
  clear B0 hb13
  go_wp2_with fail
  with_reducible refine cRt.mono ?_
  rintro x W14 ⟨rfl, hb14⟩
  have B4 := HB0.out.on hb14
  obtain ⟨e0, e1, e2, e3, e4, e5, e6, e7, e8, e9, e10, e11, e12⟩ := B4
  have hz14 : Zp W14 w.heap.size := ⟨(hb14.block w.heap.size (by simp; omega)).trans ((H13.out.block w.heap.size hw12).trans HZ12.out)⟩
  obtain ⟨z0, a0, a1, a2, a3, a4, a5, a6, a7, a8, a9, a10, a11, a12, f0, f1, f2, f3, f4, f5, f6, f7, f8, f9, f10, f11, f12⟩ := hz14.c
  have hb1214 := H13.out.trans (hb14.mono H13.out.size)
  have HPZ4 := Lib.hid (HPZ.out.on hb1214)
  have HBL := Lib.hid (S12.out.bl.trans (hb1214.mono S12.out.bl.size))
  have HZZ := Lib.hid hz14
  have nn1 : W12.heap.size ≠ w.heap.size := by omega
  have nn2 : w.heap.size ≠ W12.heap.size := by omega
  clear cRt hb14 hz14 hb1214 HPZ HB0 H13 k0 k1 k2 k3 S12 HZ12
  go_wp2_with fail
  have q0 : Far W14 W14 w.heap.size := ⟨Nat.le_refl _, HZZ.out.blk, fun _ _ _ => rfl⟩
  have q1 := q0.set 0 (.string ⟨p.o.n.toArray⟩)
  have q2 := q1.set 1 (.int .i64 p.o.e)
  have q3 := q2.set 2 (.string ⟨p.o.u.toArray⟩)
  have q4 := q3.set 3 (.string ⟨p.o.r.toArray⟩)
  have q5 := q4.set 4 (.slice AD p.D.length cD)
  have q6 := q5.set 5 (.slice AA p.A.length cA)
  have q7 := q6.set 6 (.slice AG p.G.length cG)
  have q8 := q7.set 7 (.slice AB p.B.length cB)
  have q9 := q8.set 8 (.slice AR p.R.length cR)
  have q10 := q9.set 9 (.slice AP p.o.P.length cP)
  have q11 := q10.set 10 (.slice AS p.S.length cS)
  have q12 := q11.set 11 (.slice AL p.L.length cL)
  have q13 := q12.set 12 (.slice none 0 0)
  have d0 := HBL.out
  have d1 := d0.setCell (p := ⟨w.heap.size, 0, none⟩) (Nat.le_refl _) (.string ⟨p.o.n.toArray⟩)
  have d2 := d1.setCell (p := ⟨w.heap.size, 1, none⟩) (Nat.le_refl _) (.int .i64 p.o.e)
  have d3 := d2.setCell (p := ⟨w.heap.size, 2, none⟩) (Nat.le_refl _) (.string ⟨p.o.u.toArray⟩)
  have d4 := d3.setCell (p := ⟨w.heap.size, 3, none⟩) (Nat.le_refl _) (.string ⟨p.o.r.toArray⟩)
  have d5 := d4.setCell (p := ⟨w.heap.size, 4, none⟩) (Nat.le_refl _) (.slice AD p.D.length cD)
  have d6 := d5.setCell (p := ⟨w.heap.size, 5, none⟩) (Nat.le_refl _) (.slice AA p.A.length cA)
  have d7 := d6.setCell (p := ⟨w.heap.size, 6, none⟩) (Nat.le_refl _) (.slice AG p.G.length cG)
  have d8 := d7.setCell (p := ⟨w.heap.size, 7, none⟩) (Nat.le_refl _) (.slice AB p.B.length cB)
  have d9 := d8.setCell (p := ⟨w.heap.size, 8, none⟩) (Nat.le_refl _) (.slice AR p.R.length cR)
  have d10 := d9.setCell (p := ⟨w.heap.size, 9, none⟩) (Nat.le_refl _) (.slice AP p.o.P.length cP)
  have d11 := d10.setCell (p := ⟨w.heap.size, 10, none⟩) (Nat.le_refl _) (.slice AS p.S.length cS)
  have d12 := d11.setCell (p := ⟨w.heap.size, 11, none⟩) (Nat.le_refl _) (.slice AL p.L.length cL)
  have d13 := d12.setCell (p := ⟨w.heap.size, 12, none⟩) (Nat.le_refl _) (.slice none 0 0)
  have HQ := Lib.hid (And.intro (HPZ4.out.far q13 HK.out hF) d13)
  clear q0 q1 q2 q3 q4 q5 q6 q7 q8 q9 q10 q11 q12 q13 d0 d1 d2 d3 d4 d5 d6 d7 d8 d9 d10 d11 d12 d13
  exact bodyPost_ret (v := .tuple #[pkv p.o.n p.o.e p.o.u p.o.r (.slice AD p.D.length cD) (.slice AA p.A.length cA) (.slice AG p.G.length cG) (.slice AB p.B.length cB) (.slice AR p.R.length cR) (.slice AP p.o.P.length cP) (.slice AS p.S.length cS) (.slice AL p.L.length cL) (.slice none 0 0), .nilIface]) (by simp [results, Tryz.results20, go_sem, *]) rfl ⟨_, _, _, _, _, _, _, _, rfl, HQ.out.1, HQ.out.2⟩
end Go.Proofs.YtmlmdncepgcimaaGreatDoor
