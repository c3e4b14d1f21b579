/- The mathematics of a status: what may be, how it is written, which one a text is. -/
import Derived.Test.YtoojbpldhhbkbaaDoorVq
import Derived.Test.YtoojbpldhhbkbaaDoorTa
import Derived.Lib.Split
import Derived.Lib.SplitLaws
import Derived.Lib.IndexBytes
import Derived.Lib.Join
import Derived.Lib.AtoiAll
namespace Go.Proofs.YtoojbpldhhbkbaaDoor
open Go.RowKit

/-- A text cut at a byte, so often at most. -/
def spk (c : UInt8) : Nat → List UInt8 → List (List UInt8)
  | 0, s => [s]
  | k + 1, s => match Vm.fc c s with
    | none => [s]
    | some (a, b) => a :: spk c k b
theorem splitK_spk (c : UInt8) : ∀ k s, Lib.splitK [c] 0 k s = spk c k s
  | 0, _ => rfl
  | k + 1, s => by
    unfold Lib.splitK spk
    rw [Lib.index_one]
    rcases Vm.fc_idx c s with ⟨h1, h2⟩ | ⟨j, hj, h1, h2⟩
    · rw [h1, h2]; rfl
    · rw [h1, h2, if_neg (by simp)]
      simp only [Int.toNat_natCast, Nat.add_zero, List.length_singleton]
      rw [splitK_spk c k]
theorem ba_back {L : List ByteArray} {M : List (List UInt8)} (h : L.map (·.data.toList) = M) : L = M.map fun l => (⟨l.toArray⟩ : ByteArray) := by
  rw [← h, List.map_map]
  symm
  rw [List.map_congr_left (g := id) fun x _ => by cases x; simp]
  simp
theorem splitB_spk (c : UInt8) (k : Nat) (s : List UInt8) : Lib.splitB ⟨#[c]⟩ 0 k ⟨s.toArray⟩ = (spk c k s).map fun l => (⟨l.toArray⟩ : ByteArray) :=
  ba_back (by rw [Lib.splitB_data]; exact splitK_spk c k s)
/-- Texts with a byte between. -/
def jn (c : UInt8) : List (List UInt8) → List UInt8
  | [] => []
  | [a] => a
  | a :: b :: t => a ++ c :: jn c (b :: t)
theorem jn_cons (c : UInt8) (a : List UInt8) {t : List (List UInt8)} (h : t ≠ []) : jn c (a :: t) = a ++ c :: jn c t := by
  cases t with
  | nil => exact absurd rfl h
  | cons b t => rfl
theorem spk_jn (c : UInt8) : ∀ (ps : List (List UInt8)) (k : Nat), ps ≠ [] → (∀ p ∈ ps, ∀ x ∈ p, x ≠ c) → ps.length ≤ k + 1 → spk c k (jn c ps) = ps
  | [], _, h, _, _ => absurd rfl h
  | [a], k, _, h, _ => by
    cases k with
    | zero => rfl
    | succ k => unfold spk jn; rw [Vm.fc_none c a (h a (by simp))]
  | a :: b :: t, k, _, h, hk => by
    cases k with
    | zero => simp at hk
    | succ k =>
      unfold spk jn
      rw [Vm.fc_app c a _ (h a (by simp))]
      simp only
      rw [spk_jn c (b :: t) k (by simp) (fun p hp => h p (List.mem_cons_of_mem _ hp)) (by simp at hk ⊢; omega)]
theorem count_jn (c : UInt8) : ∀ (ps : List (List UInt8)), ps ≠ [] → (∀ p ∈ ps, ∀ x ∈ p, x ≠ c) → (jn c ps).count c + 1 = ps.length
  | [], h, _ => absurd rfl h
  | [a], _, h => by
    have : a.count c = 0 := List.count_eq_zero.2 fun hm => h a (by simp) c hm rfl
    simp [jn, this]
  | a :: b :: t, _, h => by
    have e : a.count c = 0 := List.count_eq_zero.2 fun hm => h a (by simp) c hm rfl
    have := count_jn c (b :: t) (by simp) fun p hp => h p (List.mem_cons_of_mem _ hp)
    unfold jn
    rw [List.count_append, e, List.count_cons_self]
    simp at this ⊢
    omega
theorem spk_len (c : UInt8) : ∀ k s, (spk c k s).length ≤ k + 1
  | 0, _ => by simp [spk]
  | k + 1, s => by
    unfold spk
    split
    · simp
    · simpa using spk_len c k _
theorem spk_pos (c : UInt8) (k : Nat) (s : List UInt8) : 0 < (spk c k s).length := by
  cases k with
  | zero => simp [spk]
  | succ k => unfold spk; split <;> simp
/-- What is cut off is no longer than the text. -/
theorem fc_small {c : UInt8} {y u r : List UInt8} (h : Vm.fc c y = some (u, r)) : u.length ≤ y.length ∧ r.length ≤ y.length := by
  rcases Vm.fc_idx c y with ⟨_, h2⟩ | ⟨j, hj, _, h2⟩
  · rw [h2] at h; cases h
  · rw [h2] at h
    injection h with h
    injection h with h3 h4
    subst h3 h4
    simp
    omega
theorem spk_small (c : UInt8) : ∀ k s, ∀ p ∈ spk c k s, p.length ≤ s.length
  | 0, s, p, h => by simp [spk] at h; rw [h]; exact Nat.le_refl _
  | k + 1, s, p, h => by
    unfold spk at h
    split at h
    · simp at h; rw [h]; exact Nat.le_refl _
    · rename_i a b e
      obtain ⟨h1, h2⟩ := fc_small e
      rcases List.mem_cons.1 h with rfl | h
      · exact h1
      · exact Nat.le_trans (spk_small c k b p h) h2

/-- A status. -/
structure Sta where
  n : Int
  e : Int
  u : List UInt8
  r : List UInt8
  held : Bool
  W : List (List UInt8)
  T : List (List UInt8)
  deriving Inhabited
/-- A task. -/
def tby (c : UInt8) : Bool := decide (33 ≤ c.toNat) && decide (c.toNat ≤ 126) && !decide (c.toNat = 44)
def tko (s : List UInt8) : Bool := decide (1 ≤ s.length) && decide (s.length ≤ 60) && !(s == [45]) && s.all tby
/-- Texts that rise. -/
def ris : List (List UInt8) → Bool
  | a :: b :: t => Op.bytesLess a b && ris (b :: t)
  | _ => true
/-- A list of texts that may be. -/
def lok (most : Nat) (p : List UInt8 → Bool) (l : List (List UInt8)) : Bool := decide (l.length ≤ most) && l.all p && ris l
def mayT (n : Int) (k : Nat) : Bool := if n = 6 then decide (0 < k) else if n = 5 then true else decide (k = 0)
/-- Whether a status may be. -/
def sok (x : Sta) : Bool :=
  if x.n = 0 then decide (x.e = 0) && decide (x.u = []) && decide (x.r = []) && !x.held && decide (x.W.length = 0) && decide (x.T.length = 0)
  else decide (0 ≤ x.n) && decide (x.n ≤ 7) && Vm.rt x.e x.u x.r && lok 4 nmo x.W && lok 2 tko x.T && (decide (0 < x.W.length) == decide (x.n = 5)) && mayT x.n x.T.length
def vtx (x : Sta) : List UInt8 := if x.n = 0 then [45] else Vm.pt x.e x.u x.r
def htx (b : Bool) : List UInt8 := if b then [104, 101, 108, 100] else [102, 114, 101, 101]
def ltx (l : List (List UInt8)) : List UInt8 := if l = [] then [45] else jn 44 l
def wds (x : Sta) : List (List UInt8) := [Lib.itoa x.n, vtx x, htx x.held, ltx x.W, ltx x.T]
/-- What a status is written as. -/
def stx (x : Sta) : List UInt8 := jn 32 (wds x)
/-- A text is a status. -/
structure IsS (s : List UInt8) (x : Sta) : Prop where
  ok : sok x = true
  tx : stx x = s

/-- A number of one digit. -/
theorem itoa_one {n : Int} (h0 : 0 ≤ n) (h7 : n ≤ 7) : Lib.itoa n = [UInt8.ofNat (48 + n.toNat)] := by
  obtain ⟨k, rfl⟩ : ∃ k : Nat, n = k := ⟨n.toNat, by omega⟩
  rw [show Lib.itoa (k : Int) = Lib.decDigits k by simp [Lib.itoa], Vm.dd_unfold, if_pos (by omega)]
  rfl
theorem nmo_no {s : List UInt8} (h : nmo s = true) : (∀ x ∈ s, x ≠ 32 ∧ x ≠ 44) ∧ 2 ≤ s.length := by
  unfold nmo at h
  simp only [Bool.and_eq_true, List.all_eq_true, decide_eq_true_eq] at h
  refine ⟨fun x hx => ?_, h.1.1.1⟩
  have := h.2 x hx
  constructor <;> · rintro rfl; revert this; decide
theorem tko_no {s : List UInt8} (h : tko s = true) : (∀ x ∈ s, x ≠ 32 ∧ x ≠ 44) ∧ 1 ≤ s.length ∧ s ≠ [45] := by
  unfold tko at h
  simp only [Bool.and_eq_true, List.all_eq_true, decide_eq_true_eq, Bool.not_eq_true', beq_eq_false_iff_ne] at h
  refine ⟨fun x hx => ?_, h.1.1.1, h.1.2⟩
  have := h.2 x hx
  constructor <;> · rintro rfl; revert this; decide
theorem jn_mem (c : UInt8) : ∀ (ps : List (List UInt8)) (x : UInt8), x ∈ jn c ps → x = c ∨ ∃ p ∈ ps, x ∈ p
  | [], x, h => by simp [jn] at h
  | [a], x, h => Or.inr ⟨a, by simp, h⟩
  | a :: b :: t, x, h => by
    unfold jn at h
    rcases List.mem_append.1 h with h | h
    · exact Or.inr ⟨a, by simp, h⟩
    · rcases List.mem_cons.1 h with h | h
      · exact Or.inl h
      · rcases jn_mem c (b :: t) x h with h | ⟨p, hp, hx⟩
        · exact Or.inl h
        · exact Or.inr ⟨p, List.mem_cons_of_mem _ hp, hx⟩
theorem jn_len (c : UInt8) (a : List UInt8) (t : List (List UInt8)) : a.length ≤ (jn c (a :: t)).length ∧ (t ≠ [] → a.length + 1 ≤ (jn c (a :: t)).length) := by
  cases t with
  | nil => exact ⟨Nat.le_refl _, fun h => absurd rfl h⟩
  | cons b t => unfold jn; simp
theorem lok_parts {m : Nat} {p : List UInt8 → Bool} {l : List (List UInt8)} (h : lok m p l = true) : l.length ≤ m ∧ (∀ s ∈ l, p s = true) ∧ ris l = true := by
  unfold lok at h
  simp only [Bool.and_eq_true, List.all_eq_true, decide_eq_true_eq] at h
  exact ⟨h.1.1, h.1.2, h.2⟩
/-- A list, written, read. -/
theorem ltx_back {l : List (List UInt8)} (hs : ∀ s ∈ l, (∀ x ∈ s, x ≠ 32 ∧ x ≠ 44) ∧ 1 ≤ s.length) (h1 : ∀ a, l = [a] → a ≠ [45]) :
    (∀ x ∈ ltx l, x ≠ 32) ∧ ((ltx l = [45] → l = []) ∧ (ltx l ≠ [45] → (∀ k, l.length ≤ k + 1 → spk 44 k (ltx l) = l) ∧ (ltx l).count 44 + 1 = l.length)) := by
  unfold ltx
  by_cases h : l = []
  · rw [if_pos h]
    exact ⟨by decide, fun _ => h, fun hn => absurd rfl hn⟩
  · rw [if_neg h]
    have h44 : ∀ p ∈ l, ∀ x ∈ p, x ≠ 44 := fun p hp x hx => ((hs p hp).1 x hx).2
    refine ⟨fun x hx => ?_, fun e => ?_, fun _ => ⟨fun k hk => spk_jn 44 l k h h44 hk, count_jn 44 l h h44⟩⟩
    · rcases jn_mem 44 l x hx with rfl | ⟨p, hp, hx⟩
      · decide
      · exact ((hs p hp).1 x hx).1
    · exfalso
      match l, h with
      | [a], _ => exact h1 a rfl e
      | a :: b :: t, _ =>
        unfold jn at e
        have := congrArg List.length e
        have ha := (hs a (by simp)).2
        simp at this
        omega
theorem pt_no {e : Int} {u r : List UInt8} (h : Vm.rt e u r = true) : (∀ x ∈ Vm.pt e u r, x ≠ 32) ∧ Vm.pt e u r ≠ [45] := by
  obtain ⟨h0, h1, _, _, _, hu, hr⟩ := Vm.rt_parts h
  have hh : Vm.hd u = true := by unfold Vm.rt at h; simp only [Bool.and_eq_true] at h; exact h.1.1.2
  have u32 : ∀ x ∈ u, x ≠ 32 := Vm.ok_ne (c := 32) (by unfold Vm.us; split <;> split <;> decide) hu
  have r32 : ∀ x ∈ r, x ≠ 32 := Vm.ok_ne (c := 32) (by decide) hr
  have i32 : ∀ x ∈ Lib.itoa e, Vm.dg x = true := by
    obtain ⟨k, rfl⟩ : ∃ k : Nat, e = k := ⟨e.toNat, by omega⟩
    intro x hx
    rw [show Lib.itoa (k : Int) = Lib.decDigits k by simp [Lib.itoa]] at hx
    exact (Vm.dd_all k).1 x hx
  refine ⟨fun x hx => ?_, fun e1 => ?_⟩
  · unfold Vm.pt Vm.pe Vm.pr at hx
    rcases List.mem_append.1 hx with hx | hx
    · rcases List.mem_append.1 hx with hx | hx
      · split at hx
        · simp at hx
        · rcases List.mem_append.1 hx with hx | hx
          · rintro rfl; exact absurd (i32 _ hx) (by decide)
          · simp at hx; subst hx; decide
      · exact u32 x hx
    · split at hx
      · simp at hx
      · rcases List.mem_cons.1 hx with rfl | hx
        · decide
        · exact r32 x hx
  · have hm : ∃ c ∈ Vm.pt e u r, Vm.dg c = true := by
      cases u with
      | nil => simp [Vm.hd] at hh
      | cons c t => exact ⟨c, by unfold Vm.pt; simp, hh⟩
    rw [e1] at hm
    obtain ⟨c, hc, hd⟩ := hm
    simp at hc
    subst hc
    exact absurd hd (by decide)
/-- What is written is cut into its words. -/
structure Wok (x : Sta) : Prop where
  n0 : 0 ≤ x.n
  n7 : x.n ≤ 7
  no : ∀ p ∈ wds x, ∀ c ∈ p, c ≠ 32
  v0 : vtx x = [45] → x.e = 0 ∧ x.u = [] ∧ x.r = []
  v1 : vtx x ≠ [45] → Vm.pv (vtx x) = some (x.e, x.u, x.r) ∧ x.n ≠ 0
  W0 : ltx x.W = [45] → x.W = []
  W1 : ltx x.W ≠ [45] → (∀ k, x.W.length ≤ k + 1 → spk 44 k (ltx x.W) = x.W) ∧ (ltx x.W).count 44 + 1 = x.W.length
  T0 : ltx x.T = [45] → x.T = []
  T1 : ltx x.T ≠ [45] → (∀ k, x.T.length ≤ k + 1 → spk 44 k (ltx x.T) = x.T) ∧ (ltx x.T).count 44 + 1 = x.T.length
  WL : x.W.length ≤ 4
  TL : x.T.length ≤ 2
theorem wok_of {x : Sta} (h : sok x = true) : Wok x := by
  have hh : ∀ c ∈ htx x.held, c ≠ 32 := by cases x.held <;> decide
  unfold sok at h
  by_cases h0 : x.n = 0
  · rw [if_pos h0] at h
    simp only [Bool.and_eq_true, decide_eq_true_eq] at h
    obtain ⟨⟨⟨⟨⟨e0, u0⟩, r0⟩, _⟩, W0⟩, T0⟩ := h
    have W0 : x.W = [] := List.length_eq_zero_iff.1 W0
    have T0 : x.T = [] := List.length_eq_zero_iff.1 T0
    have hv : vtx x = [45] := by unfold vtx; rw [if_pos h0]
    have hW : ltx x.W = [45] := by rw [W0]; rfl
    have hT : ltx x.T = [45] := by rw [T0]; rfl
    refine ⟨by omega, by omega, ?_, fun _ => ⟨e0, u0, r0⟩, fun h => absurd hv h, fun _ => W0, fun h => absurd hW h, fun _ => T0, fun h => absurd hT h, by rw [W0]; simp, by rw [T0]; simp⟩
    intro p hp
    unfold wds at hp
    rw [hv, hW, hT, h0] at hp
    simp only [List.mem_cons, List.not_mem_nil, or_false] at hp
    rcases hp with rfl | rfl | rfl | rfl | rfl
    · rw [itoa_one (by omega) (by omega)]; decide
    · decide
    · exact hh
    · decide
    · decide
  · rw [if_neg h0] at h
    simp only [Bool.and_eq_true, decide_eq_true_eq] at h
    obtain ⟨⟨⟨⟨⟨⟨a0, a7⟩, hr⟩, hW⟩, hT⟩, _⟩, _⟩ := h
    obtain ⟨lW, pW, _⟩ := lok_parts hW
    obtain ⟨lT, pT, _⟩ := lok_parts hT
    have hv : vtx x = Vm.pt x.e x.u x.r := by unfold vtx; rw [if_neg h0]
    obtain ⟨p32, pn⟩ := pt_no hr
    obtain ⟨w32, w0, w1⟩ := ltx_back (l := x.W) (fun s hs => ⟨(nmo_no (pW s hs)).1, by have := (nmo_no (pW s hs)).2; omega⟩) (fun a e e1 => by have := (nmo_no (pW a (by rw [e]; simp))).2; rw [e1] at this; simp at this)
    obtain ⟨t32, t0, t1⟩ := ltx_back (l := x.T) (fun s hs => ⟨(tko_no (pT s hs)).1, (tko_no (pT s hs)).2.1⟩) (fun a e => (tko_no (pT a (by rw [e]; simp))).2.2)
    refine ⟨a0, a7, ?_, fun h => absurd (hv.symm.trans h) pn, fun _ => ⟨by rw [hv]; exact Vm.pv_pt hr, h0⟩, w0, w1, t0, t1, lW, lT⟩
    intro p hp
    unfold wds at hp
    rw [hv] at hp
    simp only [List.mem_cons, List.not_mem_nil, or_false] at hp
    rcases hp with rfl | rfl | rfl | rfl | rfl
    · rw [itoa_one a0 a7]
      obtain ⟨k, hk⟩ : ∃ k : Nat, x.n = k := ⟨x.n.toNat, by omega⟩
      rw [hk]
      have : k < 8 := by omega
      match k, this with
      | 0, _ | 1, _ | 2, _ | 3, _ | 4, _ | 5, _ | 6, _ | 7, _ => decide
    · exact p32
    · exact hh
    · exact w32
    · exact t32
theorem words_of {s : List UInt8} {x : Sta} (h : IsS s x) (k : Nat) (hk : 4 ≤ k) : spk 32 k s = wds x ∧ s.count 32 = 4 := by
  have hw := wok_of h.ok
  rw [← h.tx]
  unfold stx
  refine ⟨spk_jn 32 _ k (by unfold wds; simp) hw.no (by unfold wds; simp; omega), ?_⟩
  have := count_jn 32 (wds x) (by unfold wds; simp) hw.no
  unfold wds at this ⊢
  simp at this ⊢
  omega
/-- The status that a text is, or that it is none. -/
noncomputable def rds (s : List UInt8) : Option Sta := by
  classical exact if h : ∃ x, IsS s x then some h.choose else none
theorem isS_one {s : List UInt8} {x y : Sta} (h : IsS s x) (k : IsS s y) : x = y := by
  have hx := wok_of h.ok
  have hy := wok_of k.ok
  have hw : wds x = wds y := (words_of h 4 (by omega)).1.symm.trans (words_of k 4 (by omega)).1
  obtain ⟨n, e, u, r, held, W, T⟩ := x
  obtain ⟨n', e', u', r', held', W', T'⟩ := y
  unfold wds at hw
  simp only [List.cons.injEq, and_true] at hw
  obtain ⟨h1, h2, h3, h4, h5⟩ := hw
  have en : n = n' := by
    have a := hx.n0; have b := hx.n7; have a' := hy.n0; have b' := hy.n7
    dsimp only at a b a' b'
    rw [itoa_one a b, itoa_one a' b'] at h1
    have := congrArg (fun l : List UInt8 => (l.headD 0).toNat) h1
    simp at this
    omega
  have ev : e = e' ∧ u = u' ∧ r = r' := by
    by_cases hv : vtx ⟨n, e, u, r, held, W, T⟩ = [45]
    · have := hx.v0 hv
      have := hy.v0 (h2 ▸ hv)
      simp_all
    · have a := (hx.v1 hv).1
      have b := (hy.v1 (h2 ▸ hv)).1
      rw [← h2, a] at b
      simpa using b
  have eh : held = held' := by revert h3; cases held <;> cases held' <;> simp [htx]
  have eW : W = W' := by
    by_cases hv : ltx W = [45]
    · exact (hx.W0 hv).trans (hy.W0 (h4 ▸ hv)).symm
    · have a := (hx.W1 hv).1 4 (by have := hx.WL; omega)
      have b := (hy.W1 (h4 ▸ hv)).1 4 (by have := hy.WL; omega)
      dsimp only at a b h4
      rw [← a, h4, b]
  have eT : T = T' := by
    by_cases hv : ltx T = [45]
    · exact (hx.T0 hv).trans (hy.T0 (h5 ▸ hv)).symm
    · have a := (hx.T1 hv).1 4 (by have := hx.TL; omega)
      have b := (hy.T1 (h5 ▸ hv)).1 4 (by have := hy.TL; omega)
      dsimp only at a b h5
      rw [← a, h5, b]
  obtain ⟨rfl, rfl, rfl⟩ := ev
  subst en eh eW eT
  rfl
theorem rds_some {s : List UInt8} {x : Sta} (h : IsS s x) : rds s = some x := by
  unfold rds
  have he : ∃ x, IsS s x := ⟨x, h⟩
  rw [dif_pos he]
  exact congrArg some (isS_one he.choose_spec h)
theorem rds_none {s : List UInt8} (h : ∀ x, ¬ IsS s x) : rds s = none := by
  unfold rds
  rw [dif_neg (fun ⟨x, hx⟩ => h x hx)]
theorem rds_isS {s : List UInt8} {x : Sta} (h : rds s = some x) : IsS s x := by
  by_cases he : ∃ y, IsS s y
  · obtain ⟨y, hy⟩ := he
    rw [rds_some hy] at h
    exact (Option.some.inj h) ▸ hy
  · rw [rds_none fun y hy => he ⟨y, hy⟩] at h; cases h
/-- What a list's text is read as: cut n - 1 times at most. -/
def rdl (n : Nat) (s : List UInt8) : List (List UInt8) := if s = [45] then [] else spk 44 (min n (s.length + 1) - 1) s
theorem rdl_W {x : Sta} (h : Wok x) : rdl 5 (ltx x.W) = x.W := by
  unfold rdl
  split
  · rename_i e; exact (h.W0 e).symm
  · rename_i e
    have := h.W1 e
    have l4 := h.WL
    have := List.count_le_length (a := (44 : UInt8)) (l := ltx x.W)
    exact (h.W1 e).1 _ (by omega)
theorem rdl_T {x : Sta} (h : Wok x) : rdl 3 (ltx x.T) = x.T := by
  unfold rdl
  split
  · rename_i e; exact (h.T0 e).symm
  · rename_i e
    have := h.T1 e
    have l4 := h.TL
    have := List.count_le_length (a := (44 : UInt8)) (l := ltx x.T)
    exact (h.T1 e).1 _ (by omega)
/-- What a version's text is read as. -/
def rdv (s : List UInt8) : Option (Int × List UInt8 × List UInt8) := if s = [45] then some (0, [], []) else Vm.pv s
theorem rdv_v {x : Sta} (h : Wok x) : rdv (vtx x) = some (x.e, x.u, x.r) := by
  unfold rdv
  split
  · rename_i e; obtain ⟨h1, h2, h3⟩ := h.v0 e; rw [h1, h2, h3]
  · rename_i e; exact (h.v1 e).1
/-- What words are read as. -/
def rdw (n : Int) (v : Int × List UInt8 × List UInt8) (w2 w3 w4 : List UInt8) : Sta := ⟨n, v.1, v.2.1, v.2.2, w2 == [104, 101, 108, 100], rdl 5 w3, rdl 3 w4⟩
theorem htx_back (b : Bool) : (htx b == [104, 101, 108, 100]) = b := by cases b <;> decide
theorem atoi_one {n : Int} (h0 : 0 ≤ n) (h7 : n ≤ 7) : Lib.atoiAll (Lib.itoa n) = .ok n := by
  rw [itoa_one h0 h7]
  obtain ⟨k, rfl⟩ : ∃ k : Nat, n = k := ⟨n.toNat, by omega⟩
  have : k < 8 := by omega
  match k, this with
  | 0, _ | 1, _ | 2, _ | 3, _ | 4, _ | 5, _ | 6, _ | 7, _ => rfl
theorem words_prog {s : List UInt8} {x : Sta} (h : IsS s x) : spk 32 (min 6 (s.length + 1) - 1) s = wds x := by
  have := (words_of h 4 (by omega)).2
  have := List.count_le_length (a := (32 : UInt8)) (l := s)
  exact (words_of h _ (by omega)).1
/-- What is read of words that are no status's is none. -/
theorem rds_words {s : List UInt8} (h : (spk 32 (min 6 (s.length + 1) - 1) s).length ≠ 5) : rds s = none :=
  rds_none fun x hx => h (by rw [words_prog hx]; rfl)
theorem rds_num {s w0 w1 w2 w3 w4 : List UInt8} (hw : spk 32 (min 6 (s.length + 1) - 1) s = [w0, w1, w2, w3, w4]) (h : ∀ n, Lib.atoiAll w0 ≠ .ok n) : rds s = none :=
  rds_none fun x hx => by
    have e := (words_prog hx).symm.trans hw
    unfold wds at e
    simp only [List.cons.injEq, and_true] at e
    have hk := wok_of hx.ok
    exact h x.n (by rw [← e.1]; exact atoi_one hk.n0 hk.n7)
theorem rds_ver {s w0 w1 w2 w3 w4 : List UInt8} (hw : spk 32 (min 6 (s.length + 1) - 1) s = [w0, w1, w2, w3, w4]) (h : rdv w1 = none) : rds s = none :=
  rds_none fun x hx => by
    have e := (words_prog hx).symm.trans hw
    unfold wds at e
    simp only [List.cons.injEq, and_true] at e
    rw [← e.2.1, rdv_v (wok_of hx.ok)] at h
    cases h
theorem rds_read {s w0 w1 w2 w3 w4 : List UInt8} {n : Int} {v : Int × List UInt8 × List UInt8} (hw : spk 32 (min 6 (s.length + 1) - 1) s = [w0, w1, w2, w3, w4]) (hn : Lib.atoiAll w0 = .ok n) (hv : rdv w1 = some v) :
    rds s = if sok (rdw n v w2 w3 w4) && (stx (rdw n v w2 w3 w4) == s) then some (rdw n v w2 w3 w4) else none := by
  split
  · rename_i h
    simp only [Bool.and_eq_true, beq_iff_eq] at h
    exact rds_some ⟨h.1, h.2⟩
  · rename_i h
    refine rds_none fun x hx => h ?_
    have e := (words_prog hx).symm.trans hw
    unfold wds at e
    simp only [List.cons.injEq, and_true] at e
    have hk := wok_of hx.ok
    obtain ⟨e0, e1, e2, e3, e4⟩ := e
    have en : n = x.n := by
      rw [← e0, atoi_one hk.n0 hk.n7] at hn
      cases hn; rfl
    have ev : v = (x.e, x.u, x.r) := by
      rw [← e1, rdv_v hk] at hv
      cases hv; rfl
    have : rdw n v w2 w3 w4 = x := by
      unfold rdw
      rw [en, ev, ← e2, ← e3, ← e4, htx_back, rdl_W hk, rdl_T hk]
    rw [this, hx.ok, hx.tx]
    simp
theorem pv_rt {s : List UInt8} {v : Int × List UInt8 × List UInt8} (h : Vm.pv s = some v) : Vm.rt v.1 v.2.1 v.2.2 = true := by
  unfold Vm.pv at h
  split at h
  · cases h
  · split at h
    · cases h
    · split at h
      · split at h
        · rename_i hr; cases h; exact hr
        · cases h
      · split at h
        · cases h
        · split at h
          · rename_i hr; cases h; exact hr
          · cases h
theorem pv_small {s : List UInt8} {v : Int × List UInt8 × List UInt8} (h : rdv s = some v) : 0 ≤ v.1 ∧ v.1 < 1000000000 ∧ v.2.1.length ≤ 40 ∧ v.2.2.length ≤ 40 := by
  unfold rdv at h
  split at h
  · cases h; simp
  · obtain ⟨h1, h2, h3, h4, _⟩ := Vm.rt_parts (pv_rt h)
    exact ⟨h1, h2, h3, h4⟩
end Go.Proofs.YtoojbpldhhbkbaaDoor
