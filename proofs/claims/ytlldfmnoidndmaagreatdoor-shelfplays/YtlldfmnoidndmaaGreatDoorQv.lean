/- A shelf as mathematics: what Put and Drop leave, path by path. -/
import Derived.Test.YtlldfmnoidndmaaGreatDoorQd
import Derived.Test.YtlldfmnoidndmaaGreatDoorQh
namespace Go.Proofs.YtlldfmnoidndmaaGreatDoor.Dsk
open Go.RowKit Go.Sort Go.Maps

abbrev cK (p : List UInt8) : List UInt8 := [99, 47] ++ p
abbrev dK (p : List UInt8) : List UInt8 := [100, 47] ++ p
abbrev oK (p : List UInt8) : List UInt8 := [111, 47] ++ p
abbrev En (t : List UInt8) : Ent := ⟨t, some t⟩
theorem oK_inj {p q : List UInt8} : oK p = oK q ↔ p = q := by simp [oK]
theorem dK_inj {p q : List UInt8} : dK p = dK q ↔ p = q := by simp [dK]
theorem cK_inj {p q : List UInt8} : cK p = cK q ↔ p = q := by simp [cK]
theorem c_d (p q : List UInt8) : cK p ≠ dK q := by simp [cK, dK]
theorem c_o (p q : List UInt8) : cK p ≠ oK q := by simp [cK, oK]
theorem d_o (p q : List UInt8) : dK p ≠ oK q := by simp [dK, oK]
theorem fr_c (p : List UInt8) : cK p ≠ frN := by simp [frN, cK]
theorem fr_d (p : List UInt8) : dK p ≠ frN := by simp [frN, dK]
theorem fr_o (p : List UInt8) : oK p ≠ frN := by simp [frN, oK]
/-- All is safe, and nothing is on its way. -/
structure Sd (L : Kv Ent) : Prop where
  s : Srt L
  st : ∀ k e, lkL k L = some e → e = En e.now
  fr : lkL frN L = none
theorem Sd.kp {L : Kv Ent} (h : Sd L) (f t : List UInt8) (hf : f ≠ frN) : Sd (kpL L f t) := by
  refine ⟨kpL_srt h.s f t, fun k e hl => ?_, ?_⟩
  · rw [kpL_lk h.s] at hl
    split at hl
    · cases hl; rfl
    · split at hl
      · cases hl
      · exact h.st k e hl
  · rw [kpL_lk h.s, if_neg (fun e => hf e.symm), if_pos rfl]
theorem Sd.lk {L : Kv Ent} (h : Sd L) (f t k : List UInt8) : lkL k (kpL L f t) = if k = f then some (En t) else lkL k L := by
  rw [kpL_lk h.s]
  by_cases e : k = f
  · rw [if_pos e, if_pos e]
  · rw [if_neg e, if_neg e]
    by_cases e2 : k = frN
    · rw [if_pos e2, e2, h.fr]
    · rw [if_neg e2]
theorem Sd.del {L : Kv Ent} (h : Sd L) (k0 : List UInt8) : Sd (delL k0 L) := by
  refine ⟨h.s.del k0, fun k e hl => ?_, ?_⟩
  · by_cases hk : k = k0
    · rw [hk, lk_del_same] at hl; cases hl
    · rw [lk_del_other h.s hk] at hl
      exact h.st k e hl
  · by_cases hk : frN = k0
    · rw [← hk, lk_del_same]
    · rw [lk_del_other h.s hk, h.fr]
theorem del_lk {L : Kv Ent} (h : Srt L) (k0 k : List UInt8) : lkL k (delL k0 L) = if k = k0 then none else lkL k L := by
  by_cases hk : k = k0
  · rw [hk, lk_del_same, if_pos rfl]
  · rw [lk_del_other h hk, if_neg hk]
abbrev FB := (List UInt8 × List UInt8) × Bool
theorem Sd.lay {L : Kv Ent} (h : Sd L) (n : List UInt8) (hn : n ≠ []) (SS : List (List UInt8)) (x : FB) : Sd (layF n SS L x) ∧ ∀ k, lkL k (layF n SS L x) = if k = oK x.1.1 then some (En n) else if k = dK x.1.1 then (if x.2 = true then some (En x.1.2) else lkL k L) else if k = cK x.1.1 then (if SS.contains x.1.1 = true then some (En x.1.2) else none) else lkL k L := by
  obtain ⟨⟨p, t⟩, c⟩ := x
  unfold layF
  dsimp only
  have h1 : Sd (ly1 L n p) ∧ ∀ k, lkL k (ly1 L n p) = if k = oK p then some (En n) else lkL k L := by
    unfold ly1
    split
    · rename_i he
      refine ⟨h, fun k => ?_⟩
      split
      · rename_i hk
        subst hk
        cases hl : lkL (oK p) L with
        | none =>
          exfalso
          have : (ent (oK p) L).now = [] := by unfold ent; rw [hl]; rfl
          exact hn (he.symm.trans this)
        | some e =>
          have h2 := h.st _ _ hl
          have h3 : e.now = n := by rw [← he]; exact (congrArg Ent.now (ent_lk hl)).symm
          rw [h2, h3]
      · rfl
    · exact ⟨h.kp _ _ (fr_o p), h.lk _ _⟩
  obtain ⟨s1, l1⟩ := h1
  have h2 : Sd (ly2 (ly1 L n p) p t c) ∧ ∀ k, lkL k (ly2 (ly1 L n p) p t c) = if k = dK p then (if c = true then some (En t) else lkL k L) else lkL k (ly1 L n p) := by
    unfold ly2
    split
    · rename_i hc
      refine ⟨s1.kp _ _ (fr_d p), fun k => ?_⟩
      rw [s1.lk]
    · rename_i hc
      refine ⟨s1, fun k => ?_⟩
      split
      · rename_i hk
        rw [l1, if_neg (by rw [hk]; exact d_o p p)]
      · rfl
  obtain ⟨s2, l2⟩ := h2
  generalize ly2 (ly1 L n p) p t c = L2 at s2 l2 ⊢
  have h3 : Sd (ly3 L2 p t (SS.contains p)) ∧ ∀ k, lkL k (ly3 L2 p t (SS.contains p)) = if k = cK p then (if SS.contains p = true then some (En t) else none) else lkL k L2 := by
    unfold ly3
    split
    · rename_i hc
      exact ⟨s2.kp _ _ (fr_c p), fun k => s2.lk _ _ _⟩
    · rename_i hc
      exact ⟨s2.del _, fun k => del_lk s2.s _ _⟩
  refine ⟨h3.1, fun k => ?_⟩
  rw [h3.2, l2, l1]
  by_cases e1 : k = oK p
  · rw [if_pos e1, if_pos e1, if_neg (by rw [e1]; exact fun e => c_o p p e.symm), if_neg (by rw [e1]; exact fun e => d_o p p e.symm)]
  · rw [if_neg e1, if_neg e1]
    by_cases e2 : k = dK p
    · rw [if_pos e2, if_pos e2, if_neg (by rw [e2]; exact fun e => c_d p p e.symm)]
    · rw [if_neg e2, if_neg e2]
/-- What all that is laid leaves. -/
theorem Sd.lays {n : List UInt8} (hn : n ≠ []) (SS : List (List UInt8)) : ∀ (R : List FB) {L : Kv Ent}, Sd L → (R.map (·.1.1)).Nodup → Sd (R.foldl (layF n SS) L) ∧
    (∀ q, lkL (oK q) (R.foldl (layF n SS) L) = if q ∈ R.map (·.1.1) then some (En n) else lkL (oK q) L) ∧
    (∀ x ∈ R, lkL (dK x.1.1) (R.foldl (layF n SS) L) = if x.2 = true then some (En x.1.2) else lkL (dK x.1.1) L) ∧
    (∀ x ∈ R, lkL (cK x.1.1) (R.foldl (layF n SS) L) = if SS.contains x.1.1 = true then some (En x.1.2) else none) ∧
    (∀ k, (∀ q ∈ R.map (·.1.1), k ≠ oK q ∧ k ≠ dK q ∧ k ≠ cK q) → lkL k (R.foldl (layF n SS) L) = lkL k L)
  | [], L, h, _ => ⟨h, fun q => by simp, fun x hx => (by cases hx), fun x hx => (by cases hx), fun k _ => rfl⟩
  | x :: R, L, h, hnd => by
    obtain ⟨s1, l1⟩ := h.lay n hn SS x
    rw [List.map_cons, List.nodup_cons] at hnd
    obtain ⟨s2, o2, d2, c2, k2⟩ := Sd.lays hn SS R s1 hnd.2
    rw [List.foldl_cons]
    have out : ∀ k, (k = dK x.1.1 ∨ k = cK x.1.1) → ∀ q ∈ R.map (·.1.1), k ≠ oK q ∧ k ≠ dK q ∧ k ≠ cK q := fun k hk q hq => by
      have hne : x.1.1 ≠ q := fun e => hnd.1 (e ▸ hq)
      rcases hk with rfl | rfl
      · exact ⟨d_o _ _, fun e => hne (dK_inj.1 e), fun e => c_d _ _ e.symm⟩
      · exact ⟨c_o _ _, c_d _ _, fun e => hne (cK_inj.1 e)⟩
    refine ⟨s2, fun q => ?_, fun y hy => ?_, fun y hy => ?_, fun k hk => ?_⟩
    · rw [o2, l1, List.map_cons]
      by_cases e : q ∈ R.map (·.1.1)
      · rw [if_pos e, if_pos (List.mem_cons_of_mem _ e)]
      · rw [if_neg e]
        by_cases e2 : q = x.1.1
        · rw [if_pos (by rw [e2]), if_pos (by rw [e2]; exact List.mem_cons_self)]
        · rw [if_neg (fun h => e2 (oK_inj.1 h)), if_neg (fun h => d_o _ _ h.symm), if_neg (fun h => c_o _ _ h.symm), if_neg]
          intro h
          rcases List.mem_cons.1 h with h | h
          · exact e2 h
          · exact e h
    · rcases List.mem_cons.1 hy with rfl | hy
      · rw [k2 _ (out _ (.inl rfl)), l1, if_neg (d_o _ _), if_pos rfl]
      · have hne : y.1.1 ≠ x.1.1 := fun e => hnd.1 (e ▸ List.mem_map.2 ⟨y, hy, rfl⟩)
        have e1 : lkL (dK y.1.1) (layF n SS L x) = lkL (dK y.1.1) L := by
          rw [l1, if_neg (d_o _ _), if_neg (fun h => hne (dK_inj.1 h)), if_neg (fun h => c_d _ _ h.symm)]
        rw [d2 y hy, e1]
    · rcases List.mem_cons.1 hy with rfl | hy
      · rw [k2 _ (out _ (.inr rfl)), l1, if_neg (c_o _ _), if_neg (c_d _ _), if_pos rfl]
      · exact c2 y hy
    · have h1 := hk x.1.1 (by simp)
      rw [k2 k (fun q hq => hk q (by rw [List.map_cons]; exact List.mem_cons_of_mem _ hq)), l1, if_neg h1.1, if_neg h1.2.1, if_neg h1.2.2]
/-- A path is forgotten. -/
theorem Sd.frg {L : Kv Ent} (h : Sd L) (p : List UInt8) : Sd (frgt L p) ∧ ∀ k, lkL k (frgt L p) = if k = oK p ∨ k = dK p ∨ k = cK p then none else lkL k L := by
  unfold frgt
  have s1 := h.del (cK p)
  have s2 := s1.del (dK p)
  refine ⟨s2.del _, fun k => ?_⟩
  rw [del_lk s2.s, del_lk s1.s, del_lk h.s]
  by_cases e1 : k = oK p
  · rw [if_pos e1, if_pos (.inl e1)]
  · rw [if_neg e1]
    by_cases e2 : k = dK p
    · rw [if_pos e2, if_pos (.inr (.inl e2))]
    · rw [if_neg e2]
      by_cases e3 : k = cK p
      · rw [if_pos e3, if_pos (.inr (.inr e3))]
      · rw [if_neg e3, if_neg]
        rintro (h | h | h)
        · exact e1 h
        · exact e2 h
        · exact e3 h
/-- A path is forgotten, if so. -/
def gst (cd : Option Ent → List UInt8 → Bool) (L : Kv Ent) (p : List UInt8) : Kv Ent := if cd (lkL (cK p) L) p = true then frgt L p else L
theorem cst_g (F : List (List UInt8 × List UInt8)) : cst F = gst (fun e p => !e.isSome && !(F.any fun f => decide (f.1 = p))) := by
  funext L p
  unfold cst gst
  show (if (lkL (cK p) L).isSome = true then L else if (F.any fun f => decide (f.1 = p)) = true then L else frgt L p) = if (!(lkL (cK p) L).isSome && !(F.any fun f => decide (f.1 = p))) = true then frgt L p else L
  generalize (lkL (cK p) L).isSome = a
  generalize (F.any fun f => decide (f.1 = p)) = b
  cases a <;> cases b <;> rfl
theorem dst_g (all : Bool) : dst all = gst (fun e _ => all || !e.isSome) := by
  funext L p
  unfold dst gst
  show (if all = true then frgt L p else if (lkL (cK p) L).isSome = true then L else frgt L p) = if (all || !(lkL (cK p) L).isSome) = true then frgt L p else L
  generalize (lkL (cK p) L).isSome = a
  cases a <;> cases all <;> rfl
theorem Sd.gsts (cd : Option Ent → List UInt8 → Bool) : ∀ (ps : List (List UInt8)) {L : Kv Ent}, Sd L → ps.Nodup → Sd (ps.foldl (gst cd) L) ∧
    (∀ q, (q ∈ ps ∧ cd (lkL (cK q) L) q = true) → lkL (oK q) (ps.foldl (gst cd) L) = none ∧ lkL (dK q) (ps.foldl (gst cd) L) = none ∧ lkL (cK q) (ps.foldl (gst cd) L) = none) ∧
    (∀ k, (∀ q ∈ ps, cd (lkL (cK q) L) q = true → k ≠ oK q ∧ k ≠ dK q ∧ k ≠ cK q) → lkL k (ps.foldl (gst cd) L) = lkL k L)
  | [], L, h, _ => ⟨h, fun q hq => (by cases hq.1), fun k _ => rfl⟩
  | p :: ps, L, h, hnd => by
    rw [List.nodup_cons] at hnd
    rw [List.foldl_cons]
    by_cases hc : cd (lkL (cK p) L) p = true
    · have hg : gst cd L p = frgt L p := by unfold gst; rw [if_pos hc]
      rw [hg]
      obtain ⟨s1, l1⟩ := h.frg p
      obtain ⟨s2, n2, k2⟩ := Sd.gsts cd ps s1 hnd.2
      have cc : ∀ q ∈ ps, lkL (cK q) (frgt L p) = lkL (cK q) L := fun q hq => by
        have hne : q ≠ p := fun e => hnd.1 (e ▸ hq)
        rw [l1, if_neg]
        rintro (e | e | e)
        · exact c_o _ _ e
        · exact c_d _ _ e
        · exact hne (cK_inj.1 e)
      refine ⟨s2, fun q hq => ?_, fun k hk => ?_⟩
      · rcases List.mem_cons.1 hq.1 with rfl | hm
        · have o : ∀ k, (k = oK q ∨ k = dK q ∨ k = cK q) → lkL k (ps.foldl (gst cd) (frgt L q)) = none := fun k hk => by
            rw [k2 k (fun r hr _ => ?_), l1, if_pos hk]
            have hne : q ≠ r := fun e => hnd.1 (e ▸ hr)
            rcases hk with rfl | rfl | rfl
            · exact ⟨fun e => hne (oK_inj.1 e), fun e => d_o _ _ e.symm, fun e => c_o _ _ e.symm⟩
            · exact ⟨d_o _ _, fun e => hne (dK_inj.1 e), fun e => c_d _ _ e.symm⟩
            · exact ⟨c_o _ _, c_d _ _, fun e => hne (cK_inj.1 e)⟩
          exact ⟨o _ (.inl rfl), o _ (.inr (.inl rfl)), o _ (.inr (.inr rfl))⟩
        · exact n2 q ⟨hm, by rw [cc q hm]; exact hq.2⟩
      · have h1 := hk p List.mem_cons_self hc
        rw [k2 k (fun q hq hcq => hk q (List.mem_cons_of_mem _ hq) (by rw [← cc q hq]; exact hcq)), l1, if_neg]
        rintro (e | e | e)
        · exact h1.1 e
        · exact h1.2.1 e
        · exact h1.2.2 e
    · have hg : gst cd L p = L := by unfold gst; rw [if_neg hc]
      rw [hg]
      obtain ⟨s2, n2, k2⟩ := Sd.gsts cd ps h hnd.2
      refine ⟨s2, fun q hq => ?_, fun k hk => k2 k fun q hq hcq => hk q (List.mem_cons_of_mem _ hq) hcq⟩
      rcases List.mem_cons.1 hq.1 with rfl | hm
      · exact absurd hq.2 hc
      · exact n2 q ⟨hm, hq.2⟩
end Go.Proofs.YtlldfmnoidndmaaGreatDoor.Dsk
namespace Go.Proofs.YtlldfmnoidndmaaGreatDoor.Dsk
open Go.RowKit Go.Sort Go.Maps

/-- What always holds. -/
structure Iv (L : Kv Ent) : Prop where
  sd : Sd L
  ky : ∀ k e, lkL k L = some e → e.now.length ≤ 500 ∧ ∃ p n, (k = oK p ∨ k = dK p ∨ k = cK p) ∧ p.length ≤ 60 ∧ lkL (oK p) L = some (En n) ∧ n ≠ [] ∧ n.length ≤ 60
  ap : ∀ p n q m, p ∈ pts L n → q ∈ pts L m → n ≠ m → Lib.hasPrefix q (p ++ [47]) = false
theorem iv_nil : Iv [] := ⟨⟨Srt.nil, fun k e h => (by cases h), rfl⟩, fun k e h => (by cases h), fun p n q m h => (by cases h)⟩
theorem Iv.gd {L : Kv Ent} (h : Iv L) : Gd L := ⟨h.sd.s, fun k e hl hi => by
  obtain ⟨h1, p, n, h2, h3, _⟩ := h.ky k e hl
  refine ⟨?_, by omega⟩
  rcases h2 with rfl | rfl | rfl <;> simp [oK, dK, cK] <;> omega⟩
theorem Iv.dl {L : Kv Ent} (h : Iv L) (p : List UInt8) : (ent ([100, 47] ++ p) L).now.length ≤ 1000 := by
  cases hl : lkL ([100, 47] ++ p) L with
  | none => unfold ent; rw [hl]; exact Nat.zero_le _
  | some e =>
    have := (h.ky _ _ hl).1
    rw [ent_lk hl]
    omega
theorem Iv.tot {L : Kv Ent} (h : Iv L) : tot nl L ≤ L.length * 500 := tot_le nl 500 fun p hp => (h.ky p.1 p.2 ((lk_iff h.sd.s).2 hp)).1
theorem sd_pts {L : Kv Ent} (h : Sd L) {n p : List UInt8} : p ∈ pts L n ↔ lkL (oK p) L = some (En n) := by
  rw [mem_pts h.s]
  constructor
  · rintro ⟨e, h1, h2⟩
    have := h.st _ _ h1
    rw [h2] at this
    rw [← this]
    exact h1
  · intro h1
    exact ⟨_, h1, rfl⟩
theorem mem_pts_of {L : Kv Ent} {q m : List UInt8} (hS : Srt L) (h : lkL (oK q) L = some (En m)) : q ∈ pts L m := (mem_pts hS).2 ⟨_, h, rfl⟩
/-- The files of a package, and what comes of them. -/
structure Fc (F : List (List UInt8 × List UInt8)) (cm : List Bool) : Prop where
  nd : (F.map (·.1)).Nodup
  ln : cm.length = F.length
theorem zip_paths {F : List (List UInt8 × List UInt8)} {cm : List Bool} (h : cm.length = F.length) : ((F.zip cm).map (·.1.1)) = F.map (·.1) := by
  have : (F.zip cm).map (·.1) = F := by
    rw [List.map_fst_zip]
    omega
  have e : (F.zip cm).map (fun x => x.1.1) = ((F.zip cm).map (·.1)).map (·.1) := by rw [List.map_map]; rfl
  rw [e, this]
/-- What Put leaves, path by path. -/
structure Pl (L : Kv Ent) (n : List UInt8) (SS : List (List UInt8)) (F : List (List UInt8 × List UInt8)) (cm : List Bool) (L2 : Kv Ent) : Prop where
  sd : Sd L2
  fo : ∀ f ∈ F, lkL (oK f.1) L2 = some (En n)
  fd : ∀ x ∈ F.zip cm, lkL (dK x.1.1) L2 = if x.2 = true then some (En x.1.2) else lkL (dK x.1.1) L
  fc : ∀ f ∈ F, lkL (cK f.1) L2 = if SS.contains f.1 = true then some (En f.2) else none
  go : ∀ q, ¬ q ∈ F.map (·.1) → lkL (oK q) L = some (En n) → lkL (cK q) L = none → lkL (oK q) L2 = none ∧ lkL (dK q) L2 = none ∧ lkL (cK q) L2 = none
  st : ∀ k, (∀ q ∈ F.map (·.1), k ≠ oK q ∧ k ≠ dK q ∧ k ≠ cK q) → (∀ q, ¬ q ∈ F.map (·.1) → lkL (oK q) L = some (En n) → lkL (cK q) L = none → k ≠ oK q ∧ k ≠ dK q ∧ k ≠ cK q) → lkL k L2 = lkL k L
theorem put_pl {L : Kv Ent} (h : Sd L) {n : List UInt8} (hn : n ≠ []) (SS : List (List UInt8)) {F : List (List UInt8 × List UInt8)} {cm : List Bool} (hF : Fc F cm) : Pl L n SS F cm (ptG L n SS F cm) := by
  have hzp := zip_paths hF.ln
  have hrp : ((F.zip cm).reverse.map (·.1.1)) = (F.map (·.1)).reverse := by rw [List.map_reverse, hzp]
  obtain ⟨s1, o1, d1, c1, k1⟩ := Sd.lays hn SS (F.zip cm).reverse h (by rw [hrp]; exact List.pairwise_reverse.2 (hF.nd.imp fun h e => h e.symm))
  rw [hrp] at o1 k1
  simp only [List.mem_reverse] at o1 d1 c1 k1
  unfold ptG clL
  generalize (F.zip cm).reverse.foldl (layF n SS) L = L1 at s1 o1 d1 c1 k1 ⊢
  have hany : ∀ q, (F.any fun f => decide (f.1 = q)) = decide (q ∈ F.map (·.1)) := fun q => by
    rw [Bool.eq_iff_iff]
    simp
  rw [cst_g]
  obtain ⟨s2, n2, k2⟩ := Sd.gsts (fun e p => !e.isSome && !(F.any fun f => decide (f.1 = p))) (pts L1 n) s1 (pts_nodup s1.s n)
  generalize (pts L1 n).foldl (gst fun e p => !e.isSome && !(F.any fun f => decide (f.1 = p))) L1 = L2 at s2 n2 k2 ⊢
  have fz : ∀ f ∈ F, ∃ x ∈ F.zip cm, x.1 = f := fun f hf => by
    obtain ⟨i, hi, rfl⟩ := List.getElem_of_mem hf
    have hi2 : i < (F.zip cm).length := by rw [List.length_zip]; have := hF.ln; omega
    exact ⟨(F.zip cm)[i], List.getElem_mem hi2, by simp⟩
  have keepF : ∀ q, q ∈ F.map (·.1) → ∀ k, (k = oK q ∨ k = dK q ∨ k = cK q) → lkL k L2 = lkL k L1 := fun q hq k hk => by
    refine k2 k fun r hr hc => ?_
    have hrF : ¬ r ∈ F.map (·.1) := by
      rw [hany] at hc
      simp only [Bool.and_eq_true, Bool.not_eq_true', decide_eq_false_iff_not] at hc
      exact hc.2
    have hne : q ≠ r := fun e => hrF (e ▸ hq)
    rcases hk with rfl | rfl | rfl
    · exact ⟨fun e => hne (oK_inj.1 e), fun e => d_o _ _ e.symm, fun e => c_o _ _ e.symm⟩
    · exact ⟨d_o _ _, fun e => hne (dK_inj.1 e), fun e => c_d _ _ e.symm⟩
    · exact ⟨c_o _ _, c_d _ _, fun e => hne (cK_inj.1 e)⟩
  have outF : ∀ q, ¬ q ∈ F.map (·.1) → ∀ k, (k = oK q ∨ k = dK q ∨ k = cK q) → lkL k L1 = lkL k L := fun q hq k hk => k1 k fun r hr => by
    have hne : q ≠ r := fun e => hq (e ▸ hr)
    rcases hk with rfl | rfl | rfl
    · exact ⟨fun e => hne (oK_inj.1 e), fun e => d_o _ _ e.symm, fun e => c_o _ _ e.symm⟩
    · exact ⟨d_o _ _, fun e => hne (dK_inj.1 e), fun e => c_d _ _ e.symm⟩
    · exact ⟨c_o _ _, c_d _ _, fun e => hne (cK_inj.1 e)⟩
  refine ⟨s2, fun f hf => ?_, fun x hx => ?_, fun f hf => ?_, fun q hq h1 h2 => ?_, fun k hk1 hk2 => ?_⟩
  · have hm : f.1 ∈ F.map (·.1) := List.mem_map.2 ⟨f, hf, rfl⟩
    rw [keepF f.1 hm _ (.inl rfl), o1, if_pos hm]
  · have hm : x.1.1 ∈ F.map (·.1) := by rw [← hzp]; exact List.mem_map.2 ⟨x, hx, rfl⟩
    rw [keepF x.1.1 hm _ (.inr (.inl rfl)), d1 x hx]
  · have hm : f.1 ∈ F.map (·.1) := List.mem_map.2 ⟨f, hf, rfl⟩
    obtain ⟨x, hx, rfl⟩ := fz f hf
    rw [keepF x.1.1 hm _ (.inr (.inr rfl)), c1 x hx]
  · refine n2 q ⟨(sd_pts s1).2 (by rw [outF q hq _ (.inl rfl)]; exact h1), ?_⟩
    rw [outF q hq _ (.inr (.inr rfl)), h2, hany]
    simp only [Option.isSome_none, Bool.not_false, Bool.true_and, Bool.not_eq_true', decide_eq_false_iff_not]
    exact hq
  · rw [k2 k (fun q hq hc => ?_), k1 k hk1]
    rw [hany] at hc
    simp only [Bool.and_eq_true, Bool.not_eq_true', decide_eq_false_iff_not] at hc
    have h3 := (sd_pts s1).1 hq
    rw [outF q hc.2 _ (.inl rfl)] at h3
    have h4 := hc.1
    rw [outF q hc.2 _ (.inr (.inr rfl))] at h4
    refine hk2 q hc.2 h3 ?_
    cases hl : lkL (cK q) L with
    | none => rfl
    | some e => rw [hl] at h4; cases h4
/-- Nobody else's path stands in the way. -/
def Fre (L : Kv Ent) (n : List UInt8) (F : List (List UInt8 × List UInt8)) (tk : List UInt8 → Bool) : Prop := ∀ f ∈ F, ∀ m q, m ≠ n → q ∈ pts L m → bsd q f.1 (tk m) = false
theorem clr_free {L : Kv Ent} (hS : Srt L) {n : List UInt8} {tk : List UInt8 → Bool} {F : List (List UInt8 × List UInt8)} (h : Clr L n tk F (-1) []) : Fre L n F tk := by
  generalize hi : (-1 : Int) = i at h
  generalize hm : ([] : List UInt8) = m0 at h
  cases h with
  | no hno =>
    intro f hf m q hmn hq
    have hm : m ∈ owx L n := List.mem_filter.2 ⟨(ows_mem hS).2 (fun e => by rw [e] at hq; cases hq), by simpa using hmn⟩
    have := hno f hf m hm
    unfold hit at this
    rw [List.any_eq_false] at this
    simpa using this q hq
  | yes i hi' j hj h1 h2 h3 => omega
theorem free_clr {L : Kv Ent} (_hS : Srt L) {n : List UInt8} {tk : List UInt8 → Bool} {F : List (List UInt8 × List UInt8)} (h : Fre L n F tk) {i : Nat} {m : List UInt8} (hc : Clr L n tk F i m) : False := by
  generalize hi : (i : Int) = i' at hc
  cases hc with
  | no hno => omega
  | yes i hi' j hj h1 h2 h3 =>
    unfold hit at h3
    rw [List.any_eq_true] at h3
    obtain ⟨q, hq, hb⟩ := h3
    have hm := List.mem_filter.1 (List.getElem_mem hj)
    have := h _ (List.getElem_mem hi') (owx L n)[j] q (by simpa using hm.2) hq
    rw [this] at hb
    cases hb
section
variable {L L2 : Kv Ent} {n : List UInt8} {SS : List (List UInt8)} {F : List (List UInt8 × List UInt8)} {cm : List Bool}
/-- A path is a file's, goes, or stays. -/
theorem Pl.path (h : Pl L n SS F cm L2) (q : List UInt8) (hq : ¬ q ∈ F.map (·.1)) : (lkL (oK q) L2 = none ∧ lkL (dK q) L2 = none ∧ lkL (cK q) L2 = none ∧ lkL (oK q) L = some (En n) ∧ lkL (cK q) L = none) ∨ (lkL (oK q) L2 = lkL (oK q) L ∧ lkL (dK q) L2 = lkL (dK q) L ∧ lkL (cK q) L2 = lkL (cK q) L) := by
  by_cases h1 : lkL (oK q) L = some (En n) ∧ lkL (cK q) L = none
  · obtain ⟨a, b, c⟩ := h.go q hq h1.1 h1.2
    exact .inl ⟨a, b, c, h1⟩
  · have st : ∀ k, (k = oK q ∨ k = dK q ∨ k = cK q) → lkL k L2 = lkL k L := fun k hk => by
      refine h.st k (fun r hr => ?_) (fun r hr a b => ?_)
      all_goals
        have hne : q ≠ r := by
          intro e
          subst e
          first | exact hq hr | exact h1 ⟨a, b⟩
        rcases hk with rfl | rfl | rfl
        · exact ⟨fun e => hne (oK_inj.1 e), fun e => d_o _ _ e.symm, fun e => c_o _ _ e.symm⟩
        · exact ⟨d_o _ _, fun e => hne (dK_inj.1 e), fun e => c_d _ _ e.symm⟩
        · exact ⟨c_o _ _, c_d _ _, fun e => hne (cK_inj.1 e)⟩
    exact .inr ⟨st _ (.inl rfl), st _ (.inr (.inl rfl)), st _ (.inr (.inr rfl))⟩
theorem Pl.other (h : Pl L n SS F cm L2) (k : List UInt8) (hk : ∀ q, k ≠ oK q ∧ k ≠ dK q ∧ k ≠ cK q) : lkL k L2 = lkL k L := h.st k (fun q _ => hk q) (fun q _ _ _ => hk q)
theorem Pl.pts (hS : Srt L) (h : Pl L n SS F cm L2) {m q : List UInt8} (hq : q ∈ pts L2 m) : (m = n ∧ q ∈ F.map (·.1)) ∨ (¬ q ∈ F.map (·.1) ∧ q ∈ pts L m) := by
  have h1 := (sd_pts h.sd).1 hq
  by_cases hF : q ∈ F.map (·.1)
  · obtain ⟨f, hf, rfl⟩ := List.mem_map.1 hF
    rw [h.fo f hf] at h1
    have e : En n = En m := by simpa using h1
    exact .inl ⟨(congrArg Ent.now e).symm, hF⟩
  · refine .inr ⟨hF, ?_⟩
    rcases h.path q hF with ⟨a, _⟩ | ⟨a, _⟩
    · rw [a] at h1; cases h1
    · rw [a] at h1
      exact mem_pts_of hS h1
theorem Pl.free (hS : Srt L) (h : Pl L n SS F cm L2) {tk : List UInt8 → Bool} (hf : Fre L n F tk) : Fre L2 n F tk := fun f hF m q hmn hq => by
  rcases Pl.pts hS h hq with ⟨e, _⟩ | ⟨_, h1⟩
  · exact absurd e hmn
  · exact hf f hF m q hmn h1
theorem bsd_no {q f : List UInt8} {t : Bool} (h : bsd q f t = false) (hne : q ≠ f) : Lib.hasPrefix q (f ++ [47]) = false ∧ Lib.hasPrefix f (q ++ [47]) = false := by
  unfold bsd at h
  rw [if_neg hne] at h
  simpa using h
/-- What always holds, holds behind Put. -/
theorem Pl.iv (h : Pl L n SS F cm L2) (hI : Iv L) {tk : List UInt8 → Bool} (hf : Fre L n F tk) (hn : n ≠ []) (hnl : n.length ≤ 60) (hF : ∀ f ∈ F, f.1.length ≤ 60 ∧ f.2.length ≤ 500) (hz : ∀ f ∈ F, ∃ x ∈ F.zip cm, x.1 = f) : Iv L2 := by
  refine ⟨h.sd, fun k e hl => ?_, fun p n1 q m1 hp hq hne => ?_⟩
  · by_cases hk : ∀ q, k ≠ oK q ∧ k ≠ dK q ∧ k ≠ cK q
    · rw [h.other k hk] at hl
      obtain ⟨_, p, _, h2, _⟩ := hI.ky k e hl
      have := hk p
      rcases h2 with h2 | h2 | h2
      · exact absurd h2 this.1
      · exact absurd h2 this.2.1
      · exact absurd h2 this.2.2
    · obtain ⟨q, hq⟩ : ∃ q, k = oK q ∨ k = dK q ∨ k = cK q := by
        refine Classical.byContradiction fun hno => hk fun q => ?_
        exact ⟨fun e => hno ⟨q, .inl e⟩, fun e => hno ⟨q, .inr (.inl e)⟩, fun e => hno ⟨q, .inr (.inr e)⟩⟩
      by_cases hqF : q ∈ F.map (·.1)
      · obtain ⟨f, hff, rfl⟩ := List.mem_map.1 hqF
        have hfl := hF f hff
        refine ⟨?_, f.1, n, hq, hfl.1, h.fo f hff, hn, hnl⟩
        rcases hq with rfl | rfl | rfl
        · rw [h.fo f hff] at hl
          cases hl
          show n.length ≤ 500
          omega
        · obtain ⟨x, hx, rfl⟩ := hz f hff
          rw [h.fd x hx] at hl
          split at hl
          · cases hl; exact hfl.2
          · exact (hI.ky _ _ hl).1
        · rw [h.fc f hff] at hl
          split at hl
          · cases hl; exact hfl.2
          · cases hl
      · rcases h.path q hqF with ⟨a, b, c, _⟩ | ⟨a, b, c⟩
        · rcases hq with rfl | rfl | rfl
          · rw [a] at hl; cases hl
          · rw [b] at hl; cases hl
          · rw [c] at hl; cases hl
        · have hl0 : lkL k L = some e := by
            rcases hq with rfl | rfl | rfl
            · rw [← a]; exact hl
            · rw [← b]; exact hl
            · rw [← c]; exact hl
          obtain ⟨h1, p, n', h2, h3, h4, h5, h6⟩ := hI.ky k e hl0
          have hpq : p = q := by
            rcases hq with rfl | rfl | rfl
            · rcases h2 with h2 | h2 | h2
              · exact (oK_inj.1 h2).symm
              · exact absurd h2.symm (d_o _ _)
              · exact absurd h2.symm (c_o _ _)
            · rcases h2 with h2 | h2 | h2
              · exact absurd h2 (d_o _ _)
              · exact (dK_inj.1 h2).symm
              · exact absurd h2.symm (c_d _ _)
            · rcases h2 with h2 | h2 | h2
              · exact absurd h2 (c_o _ _)
              · exact absurd h2 (c_d _ _)
              · exact (cK_inj.1 h2).symm
          subst hpq
          exact ⟨h1, p, n', hq, h3, by rw [a]; exact h4, h5, h6⟩
  · rcases Pl.pts hI.sd.s h hp with ⟨rfl, hpF⟩ | ⟨hpF, hpL⟩
    · rcases Pl.pts hI.sd.s h hq with ⟨rfl, _⟩ | ⟨hqF, hqL⟩
      · exact absurd rfl hne
      · obtain ⟨f, hff, rfl⟩ := List.mem_map.1 hpF
        exact (bsd_no (hf f hff m1 q (fun e => hne e.symm) hqL) (fun e => hqF (e ▸ hpF))).1
    · rcases Pl.pts hI.sd.s h hq with ⟨rfl, hqF⟩ | ⟨hqF, hqL⟩
      · obtain ⟨f, hff, rfl⟩ := List.mem_map.1 hqF
        exact (bsd_no (hf f hff n1 p hne hpL) (fun e => hpF (e ▸ hqF))).2
      · exact hI.ap p n1 q m1 hpL hqL hne
end
end Go.Proofs.YtlldfmnoidndmaaGreatDoor.Dsk
namespace Go.Proofs.YtlldfmnoidndmaaGreatDoor.Dsk
open Go.RowKit Go.Sort Go.Maps

/-- What comes, where nobody answers. -/
def cmg (L : Kv Ent) (SS : List (List UInt8)) (f : List UInt8 × List UInt8) : Bool := if SS.contains f.1 = true then decide (chl L f.1 f.2 = 0) else true
theorem cms_nil (L : Kv Ent) (SS : List (List UInt8)) (out : List Bool) (f : List UInt8 × List UInt8) : cms L SS (out, []) f = (out ++ [cmg L SS f], []) := by
  unfold cms cmg
  dsimp only
  split
  · split
    · rename_i h; rw [h]; rfl
    · rename_i h
      split
      · rw [show decide (chl L f.1 f.2 = 0) = false from decide_eq_false h]; rfl
      · rw [show decide (chl L f.1 f.2 = 0) = false from decide_eq_false h]
  · rfl
theorem cmf_nil (L : Kv Ent) (SS : List (List UInt8)) : ∀ (F : List (List UInt8 × List UInt8)) (out : List Bool), F.foldl (cms L SS) (out, []) = (out ++ F.map (cmg L SS), [])
  | [], out => by simp
  | f :: F, out => by rw [List.foldl_cons, cms_nil, cmf_nil L SS F]; simp
theorem cml_nil (L : Kv Ent) (SS : List (List UInt8)) (F : List (List UInt8 × List UInt8)) : cml L SS F [] = F.map (cmg L SS) := by
  unfold cml
  rw [cmf_nil]
  simp
theorem zip_map {α β : Type} (g : α → β) : ∀ F : List α, F.zip (F.map g) = F.map fun f => (f, g f)
  | [] => rfl
  | f :: F => by rw [List.map_cons, List.zip_cons_cons, zip_map g F, List.map_cons]
theorem zip_mem {L : Kv Ent} {SS : List (List UInt8)} {F : List (List UInt8 × List UInt8)} {f : List UInt8 × List UInt8} (h : f ∈ F) : (f, cmg L SS f) ∈ F.zip (F.map (cmg L SS)) := by
  rw [zip_map]
  exact List.mem_map.2 ⟨f, h, rfl⟩
theorem sm_same (x : ByteArray) : Cho.sm (some x) (some x) = true := by
  unfold Cho.sm
  simp
theorem cho_same (x : ByteArray) (y : Option ByteArray) : Cho.cho (some x) y (some x) = 1 := by
  unfold Cho.cho
  rw [if_neg (by simp), if_neg (by simp)]
  split
  · rfl
  · rw [if_neg (by simp), if_pos (sm_same x)]
section
variable {L L2 : Kv Ent} {n : List UInt8} {SS : List (List UInt8)} {F : List (List UInt8 × List UInt8)}
theorem key_form (k : List UInt8) : (∀ q, k ≠ oK q ∧ k ≠ dK q ∧ k ≠ cK q) ∨ ∃ q, k = oK q ∨ k = dK q ∨ k = cK q := by
  by_cases h : ∃ q, k = oK q ∨ k = dK q ∨ k = cK q
  · exact .inr h
  · exact .inl fun q => ⟨fun e => h ⟨q, .inl e⟩, fun e => h ⟨q, .inr (.inl e)⟩, fun e => h ⟨q, .inr (.inr e)⟩⟩
/-- Put again, all is as it was. -/
theorem put_again (h : Pl L n SS F (F.map (cmg L SS)) L2) (hn : n ≠ []) (hnd : (F.map (·.1)).Nodup) : putG L2 n SS F [] = L2 := by
  unfold putG
  rw [cml_nil]
  have h3 := put_pl h.sd hn SS (F := F) (cm := F.map (cmg L2 SS)) ⟨hnd, by simp⟩
  generalize ptG L2 n SS F (F.map (cmg L2 SS)) = L3 at h3 ⊢
  refine ext_lk h3.sd.s h.sd.s fun k => ?_
  rcases key_form k with hk | ⟨q, hq⟩
  · exact h3.other k hk
  · by_cases hF : q ∈ F.map (·.1)
    · obtain ⟨f, hf, rfl⟩ := List.mem_map.1 hF
      rcases hq with rfl | rfl | rfl
      · rw [h3.fo f hf, h.fo f hf]
      · have hx := h3.fd _ (zip_mem (L := L2) (SS := SS) hf)
        dsimp only at hx
        rw [hx]
        split
        · rename_i hc
          by_cases hs : SS.contains f.1 = true
          · exfalso
            unfold cmg at hc
            rw [if_pos hs] at hc
            have hc0 := of_decide_eq_true hc
            unfold chl at hc0
            have hcc := h.fc f hf
            rw [if_pos hs] at hcc
            rw [show lkL ([99, 47] ++ f.1) L2 = some (En f.2) from hcc] at hc0
            have : Cho.cho (some (ba f.2)) (((lkL ([100, 47] ++ f.1) L2).map Ent.now).map ba) (some (ba f.2)) = 0 := hc0
            rw [cho_same] at this
            cases this
          · have hx1 := h.fd _ (zip_mem (L := L) (SS := SS) hf)
            dsimp only at hx1
            rw [hx1, if_pos]
            unfold cmg
            rw [if_neg hs]
        · rfl
      · rw [h3.fc f hf, h.fc f hf]
    · rcases h3.path q hF with ⟨_, _, _, a, b⟩ | ⟨a, b, c⟩
      · exfalso
        rcases h.path q hF with ⟨a2, _⟩ | ⟨a2, _, c2⟩
        · rw [a2] at a; cases a
        · have := (h.go q hF (by rw [← a2]; exact a) (by rw [← c2]; exact b)).1
          rw [this] at a; cases a
      · rcases hq with rfl | rfl | rfl
        · exact a
        · exact b
        · exact c
/-- What Drop leaves. -/
structure Dp (L : Kv Ent) (n : List UInt8) (all : Bool) (L2 : Kv Ent) : Prop where
  sd : Sd L2
  go : ∀ q, lkL (oK q) L = some (En n) → (all = true ∨ lkL (cK q) L = none) → lkL (oK q) L2 = none ∧ lkL (dK q) L2 = none ∧ lkL (cK q) L2 = none
  st : ∀ k, (∀ q, lkL (oK q) L = some (En n) → (all = true ∨ lkL (cK q) L = none) → k ≠ oK q ∧ k ≠ dK q ∧ k ≠ cK q) → lkL k L2 = lkL k L
  ln : L2.length ≤ L.length
theorem drop_dp (h : Sd L) (n : List UInt8) (all : Bool) : Dp L n all (drL L n all) := by
  unfold drL
  have hl := (dsts_all h.s all (pts L n)).2.2
  rw [dst_g] at hl ⊢
  obtain ⟨s2, n2, k2⟩ := Sd.gsts (fun e _ => all || !e.isSome) (pts L n) h (pts_nodup h.s n)
  have cond : ∀ q, ((all || !(lkL (cK q) L).isSome) = true) ↔ (all = true ∨ lkL (cK q) L = none) := fun q => by
    cases hl : lkL (cK q) L <;> simp
  exact ⟨s2, fun q h1 h2 => n2 q ⟨(sd_pts h).2 h1, (cond q).2 h2⟩, fun k hk => k2 k fun q hq hc => hk q ((sd_pts h).1 hq) ((cond q).1 hc), hl⟩
theorem Dp.path {all : Bool} (h : Dp L n all L2) (q : List UInt8) : (lkL (oK q) L2 = none ∧ lkL (dK q) L2 = none ∧ lkL (cK q) L2 = none ∧ lkL (oK q) L = some (En n)) ∨ (lkL (oK q) L2 = lkL (oK q) L ∧ lkL (dK q) L2 = lkL (dK q) L ∧ lkL (cK q) L2 = lkL (cK q) L) := by
  by_cases h1 : lkL (oK q) L = some (En n) ∧ (all = true ∨ lkL (cK q) L = none)
  · obtain ⟨a, b, c⟩ := h.go q h1.1 h1.2
    exact .inl ⟨a, b, c, h1.1⟩
  · have st : ∀ k, (k = oK q ∨ k = dK q ∨ k = cK q) → lkL k L2 = lkL k L := fun k hk => by
      refine h.st k (fun r a b => ?_)
      have hne : q ≠ r := by
        intro e
        subst e
        exact h1 ⟨a, b⟩
      rcases hk with rfl | rfl | rfl
      · exact ⟨fun e => hne (oK_inj.1 e), fun e => d_o _ _ e.symm, fun e => c_o _ _ e.symm⟩
      · exact ⟨d_o _ _, fun e => hne (dK_inj.1 e), fun e => c_d _ _ e.symm⟩
      · exact ⟨c_o _ _, c_d _ _, fun e => hne (cK_inj.1 e)⟩
    exact .inr ⟨st _ (.inl rfl), st _ (.inr (.inl rfl)), st _ (.inr (.inr rfl))⟩
theorem Dp.pts {all : Bool} (hS : Srt L) (h : Dp L n all L2) {m q : List UInt8} (hq : q ∈ pts L2 m) : q ∈ pts L m := by
  have h1 := (sd_pts h.sd).1 hq
  rcases h.path q with ⟨a, _⟩ | ⟨a, _⟩
  · rw [a] at h1; cases h1
  · rw [a] at h1
    exact mem_pts_of hS h1
theorem Dp.key {all : Bool} (h : Dp L n all L2) {k : List UInt8} {e : Ent} (hl : lkL k L2 = some e) : lkL k L = some e := by
  rcases key_form k with hk | ⟨q, hq⟩
  · rw [← h.st k (fun q _ _ => hk q)]; exact hl
  · rcases h.path q with ⟨a, b, c, _⟩ | ⟨a, b, c⟩
    · rcases hq with rfl | rfl | rfl
      · rw [a] at hl; cases hl
      · rw [b] at hl; cases hl
      · rw [c] at hl; cases hl
    · rcases hq with rfl | rfl | rfl
      · rw [← a]; exact hl
      · rw [← b]; exact hl
      · rw [← c]; exact hl
theorem Dp.iv {all : Bool} (h : Dp L n all L2) (hI : Iv L) : Iv L2 := by
  refine ⟨h.sd, fun k e hl => ?_, fun p n1 q m1 hp hq hne => hI.ap p n1 q m1 (Dp.pts hI.sd.s h hp) (Dp.pts hI.sd.s h hq) hne⟩
  obtain ⟨h1, p, n', h2, h3, h4, h5⟩ := hI.ky k e (h.key hl)
  refine ⟨h1, p, n', h2, h3, ?_, h5⟩
  rcases h.path p with ⟨a, b, c, _⟩ | ⟨a, _⟩
  · exfalso
    rcases h2 with rfl | rfl | rfl
    · rw [a] at hl; cases hl
    · rw [b] at hl; cases hl
    · rw [c] at hl; cases hl
  · rw [a]; exact h4
/-- Those that are dropped have nothing any more. -/
def Gone (L : Kv Ent) (ns : List (List UInt8)) : Prop := ∀ n ∈ ns, pts L n = []
theorem Dp.gone (h : Dp L n true L2) (hS : Srt L) {ns : List (List UInt8)} (hg : Gone L ns) : Gone L2 (ns ++ [n]) := fun m hm => by
  cases hp : Dsk.pts L2 m with
  | nil => rfl
  | cons q t =>
    exfalso
    have hq : q ∈ Dsk.pts L2 m := by rw [hp]; exact List.mem_cons_self
    have hqL := Dp.pts hS h hq
    rcases List.mem_append.1 hm with hm | hm
    · rw [hg m hm] at hqL; cases hqL
    · have : m = n := by simpa using hm
      subst this
      obtain ⟨e, a, b⟩ := (mem_pts hS).1 hqL
      have h1 := (sd_pts h.sd).1 hq
      rcases h.path q with ⟨a2, _⟩ | ⟨a2, _⟩
      · rw [a2] at h1; cases h1
      · have h2 : lkL (oK q) L = some (En m) := by rw [← a2]; exact h1
        have := (h.go q h2 (.inl rfl)).1
        rw [this] at h1; cases h1
theorem all_gone (hI : Iv L) {ns : List (List UInt8)} (hg : Gone L ns) (ho : ∀ n, Dsk.pts L n ≠ [] → n ∈ ns) : L = [] := by
  refine ext_lk hI.sd.s Srt.nil fun k => ?_
  cases hl : lkL k L with
  | none => rfl
  | some e =>
    exfalso
    obtain ⟨_, p, n', _, _, h4, _⟩ := hI.ky k e hl
    have hp := mem_pts_of hI.sd.s h4
    have hne : Dsk.pts L n' ≠ [] := fun e => by rw [e] at hp; cases hp
    exact hne (hg n' (ho n' hne))
end
end Go.Proofs.YtlldfmnoidndmaaGreatDoor.Dsk
