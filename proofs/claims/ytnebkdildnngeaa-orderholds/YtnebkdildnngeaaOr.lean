/- The law OrderHolds. -/
import Derived.Test.YtnebkdildnngeaaOq
import Derived.Carry
namespace Go.Proofs.Ytnebkdildnngeaa
open Go.RowKit Go.Sort Go.Maps

/-- What the law wants of a line and of sets. -/
structure Hf (n : Nat) (l l' : List E) (L : List Nat) (R : List (List Nat)) : Prop where
  ln : L.length = n
  nd : L.Nodup
  mem : ∀ a, a ∈ L ↔ a < n
  rn : R.flatten.Nodup
  rm : ∀ a, a ∈ R.flatten ↔ a < n
  rl : R.flatten.length = n
  len : R.length ≤ n
  up : ∀ a b : Nat, ((a : Int), (b : Int)) ∈ l ++ l' → ∀ i j (hi : i < R.length) (hj : j < R.length), a ∈ R[i] → b ∈ R[j] → i ≤ j
  pos : ∀ p q (hp : p < L.length) (hq : q < L.length), q < p → ∀ i j (hi : i < R.length) (hj : j < R.length), L[p] ∈ R[i] → L[q] ∈ R[j] → j ≤ i
  str : n ≤ (rgs (Om.cl n (et l')) n).length → ∀ p q (hp : p < L.length) (hq : q < L.length), q < p → ¬ ((L[p] : Int), (L[q] : Int)) ∈ l'
theorem ring_one {R : List (List Nat)} (h : R.flatten.Nodup) {x i j : Nat} (hi : i < R.length) (hj : j < R.length) (h1 : x ∈ R[i]) (h2 : x ∈ R[j]) : i = j := by
  unfold List.Nodup at h
  rw [List.pairwise_flatten] at h
  have hp := List.pairwise_iff_getElem.1 h.2
  rcases Nat.lt_trichotomy i j with e | e | e
  · exact absurd rfl (hp i j hi hj e x h1 x h2)
  · exact e
  · exact absurd rfl (hp j i hj hi e x h2 x h1)
theorem hf_of (n : Nat) (l l' : List E) : Hf n l l' (lin (Om.cl n (et (l ++ l'))) (et l') n) (rgs (Om.cl n (et (l ++ l'))) n) := by
  have h := cl_wy n (et (l ++ l'))
  have hge : ∀ a b : Nat, ((a : Int), (b : Int)) ∈ l ++ l' → Om.cl n (et (l ++ l')) a b = true := fun a b hm => Om.cl_ge (by unfold et; simpa using hm)
  obtain ⟨h1, h2, h3⟩ := lin_all h (et l')
  have hnd := rgs_nodup h
  refine ⟨h1, h2, h3, hnd, mem_rgs h, perm_range n _ hnd (mem_rgs h), rgs_len _ n, fun a b hm i j hi hj ha hb => ?_, fun p q hp hq hqp i j hi hj h4 h5 => ?_, fun hlen p q hp hq hqp hm => ?_⟩
  · rcases Nat.lt_or_ge j i with e | e
    · have := List.pairwise_iff_getElem.1 (rgs_pw h) j i hj hi e b hb a ha
      rw [hge a b hm] at this; cases this
    · exact e
  · have hpw : (lin (Om.cl n (et (l ++ l'))) (et l') n).Pairwise fun x y => ∀ i j (hi : i < (rgs (Om.cl n (et (l ++ l'))) n).length) (hj : j < (rgs (Om.cl n (et (l ++ l'))) n).length), x ∈ (rgs (Om.cl n (et (l ++ l'))) n)[i] → y ∈ (rgs (Om.cl n (et (l ++ l'))) n)[j] → i ≤ j := by
      unfold lin
      rw [List.pairwise_flatMap]
      refine ⟨fun r hr => ?_, List.pairwise_iff_getElem.2 fun i0 j0 hi0 hj0 hlt x hx y hy i j hi hj hxi hyj => ?_⟩
      · obtain ⟨k, hk, rfl⟩ := List.getElem_of_mem hr
        refine List.pairwise_iff_getElem.2 fun i0 j0 hi0 hj0 _ i j hi hj hxi hyj => ?_
        have e1 := ring_one hnd hi hk hxi (ob_mem (List.getElem_mem hi0))
        have e2 := ring_one hnd hj hk hyj (ob_mem (List.getElem_mem hj0))
        omega
      · have e1 := ring_one hnd hi hi0 hxi (ob_mem hx)
        have e2 := ring_one hnd hj hj0 hyj (ob_mem hy)
        omega
    exact List.pairwise_iff_getElem.1 hpw q p hq hp hqp j i hj hi h5 h4
  · have hs := lin_strong h (S := et l') (fun a b hab => Om.cl_ge (by unfold et at hab ⊢; simp at hab ⊢; exact .inr hab)) hlen
    have := List.pairwise_iff_getElem.1 hs q p hq hp hqp
    have h9 : et l' (lin (Om.cl n (et (l ++ l'))) (et l') n)[p] (lin (Om.cl n (et (l ++ l'))) (et l') n)[q] = true := decide_eq_true hm
    rw [this] at h9; cases h9
/-- Where numbers stand. -/
def At (L : List Nat) (k : Nat) (f : Nat → Int) : Prop := ∀ i (h : i < L.length), i < k → f L[i] = i
def Of (R : List (List Nat)) (D : List Nat) (f : Nat → Int) : Prop := ∀ x ∈ D, ∀ j (h : j < R.length), x ∈ R[j] → f x = j
theorem at_put {L : List Nat} {k : Nat} {f : Nat → Int} (h : At L k f) (hn : L.Nodup) (hk : k < L.length) : At L (k + 1) (fun j => if j = L[k] then (k : Int) else f j) := fun i hi hik => by
  by_cases e : i = k
  · subst e; simp
  · have : L[i] ≠ L[k] := fun e2 => e (by
      have hp := List.pairwise_iff_getElem.1 hn
      rcases Nat.lt_trichotomy i k with c | c | c
      · exact absurd e2 (hp i k hi hk c)
      · exact c
      · exact absurd e2.symm (hp k i hk hi c))
    simp only [if_neg this]
    exact h i hi (by omega)
theorem of_put {R : List (List Nat)} {D : List Nat} {f : Nat → Int} (h : Of R D f) (hn : R.flatten.Nodup) {i x : Nat} (hi : i < R.length) (hx : x ∈ R[i]) : Of R (D ++ [x]) (fun j => if j = x then (i : Int) else f j) := fun y hy j hj hyj => by
  by_cases e : y = x
  · subst e; simp only [if_true]; rw [ring_one hn hj hi hyj hx]
  · simp only [if_neg e]
    rcases List.mem_append.1 hy with hy | hy
    · exact h y hy j hj hyj
    · simp at hy; exact absurd hy e
theorem not_take {L : List Nat} (hn : L.Nodup) (k : Nat) (hk : k < L.length) : L[k] ∉ L.take k := fun hm => by
  obtain ⟨i, hi, e⟩ := List.getElem_of_mem hm
  have hi' : i < k := by simp at hi; omega
  rw [List.getElem_take] at e
  exact List.pairwise_iff_getElem.1 hn i k (by omega) hk hi' e
theorem take_dec (L : List Nat) (k : Nat) (hk : k < L.length) : (fun j => decide (j = L[k]) || decide (j ∈ L.take k)) = fun j => decide (j ∈ L.take (k + 1)) := by
  funext j
  rw [Bool.eq_iff_iff, Bool.or_eq_true, decide_eq_true_eq, decide_eq_true_eq, decide_eq_true_eq, List.take_succ_eq_append_getElem hk, List.mem_append, List.mem_singleton]
  exact ⟨fun h => h.symm, fun h => h.symm⟩
theorem snoc_dec (D : List Nat) (x : Nat) : (fun j => decide (j = x) || decide (j ∈ D)) = fun j => decide (j ∈ D ++ [x]) := by
  funext j
  rw [Bool.eq_iff_iff]
  simp
  exact ⟨fun h => h.symm, fun h => h.symm⟩
/-- What is told of the sets so far. -/
def so (R : List (List Nat)) (i k : Nat) : List Nat := (R.take i).flatten ++ (R.getD i []).take k
theorem so_next (R : List (List Nat)) (i k : Nat) (hi : i < R.length) (hk : k < R[i].length) : so R i (k + 1) = so R i k ++ [R[i][k]] := by
  unfold so
  rw [show R.getD i [] = R[i] by simp [List.getD, hi], List.take_succ_eq_append_getElem hk, List.append_assoc]
theorem so_set (R : List (List Nat)) (i : Nat) (hi : i < R.length) : so R (i + 1) 0 = so R i R[i].length := by
  unfold so
  rw [show R.getD i [] = R[i] by simp [List.getD, hi], List.take_of_length_le (Nat.le_refl _), List.take_succ_eq_append_getElem hi, List.flatten_append]
  simp
theorem so_all (R : List (List Nat)) : so R R.length 0 = R.flatten := by unfold so; simp
theorem so_pre (R : List (List Nat)) (i k : Nat) (hi : i < R.length) (hk : k < R[i].length) : (so R i k).length < R.flatten.length ∧ (R.flatten.Nodup → R[i][k] ∉ so R i k) := by
  have e : R.flatten = so R i k ++ R[i][k] :: (R[i].drop (k + 1) ++ (R.drop (i + 1)).flatten) := by
    unfold so
    rw [show R.getD i [] = R[i] by simp [List.getD, hi]]
    conv => lhs; rw [← List.take_append_drop i R, List.drop_eq_getElem_cons hi]
    rw [List.flatten_append, List.flatten_cons]
    have e2 : R[i] = R[i].take k ++ R[i][k] :: R[i].drop (k + 1) := by rw [← List.drop_eq_getElem_cons hk, List.take_append_drop]
    have e3 : ∀ X : List Nat, R[i] ++ X = R[i].take k ++ R[i][k] :: (R[i].drop (k + 1) ++ X) := fun X => by
      exact (congrArg (· ++ X) e2).trans (List.append_assoc _ _ _)
    rw [e3, List.append_assoc]
  constructor
  · rw [e]; simp
  · intro hn hm
    rw [e, List.nodup_append] at hn
    exact hn.2.2 _ hm _ (by simp) rfl
theorem so_le (R : List (List Nat)) (i k : Nat) (hi : i < R.length) : (so R i k).length ≤ R.flatten.length := by
  have e : R.flatten = (R.take i).flatten ++ (R[i] ++ (R.drop (i + 1)).flatten) := by
    conv => lhs; rw [← List.take_append_drop i R, List.drop_eq_getElem_cons hi]
    rw [List.flatten_append, List.flatten_cons]
  have e2 : (so R i k).length = (R.take i).flatten.length + (R[i].take k).length := by unfold so; rw [show R.getD i [] = R[i] by simp [List.getD, hi], List.length_append]
  have e3 : R.flatten.length = (R.take i).flatten.length + (R[i].length + (R.drop (i + 1)).flatten.length) := by
    conv => lhs; rw [e]
    rw [List.length_append, List.length_append]
  rw [e2, e3, List.length_take]
  omega
theorem row_le (R : List (List Nat)) (i : Nat) (hi : i < R.length) : R[i].length ≤ R.flatten.length := by
  have h1 := so_le R i R[i].length hi
  have h2 : (so R i R[i].length).length = (R.take i).flatten.length + (R[i].take R[i].length).length := by unfold so; rw [show R.getD i [] = R[i] by simp [List.getD, hi], List.length_append]
  rw [List.take_of_length_le (Nat.le_refl _)] at h2
  omega
/-- What lookups say of an edge. -/
theorem edge_says {n : Nat} {l l' : List E} {L : List Nat} {R : List (List Nat)} (h : Hf n l l' L R) {f g : Nat → Int} (hf : At L L.length f) (hg : Of R R.flatten g) {a b : Nat} (ha : a < n) (hb : b < n) :
    (((a : Int), (b : Int)) ∈ l ++ l' → ¬ g b < g a) ∧ (g a < g b → ¬ f b < f a) ∧ (n ≤ (rgs (Om.cl n (et l')) n).length → ((a : Int), (b : Int)) ∈ l' → ¬ f b < f a) := by
  obtain ⟨p, hp, rfl⟩ := List.getElem_of_mem ((h.mem a).2 ha)
  obtain ⟨q, hq, rfl⟩ := List.getElem_of_mem ((h.mem b).2 hb)
  have m1 := (h.rm _).2 ha
  have m2 := (h.rm _).2 hb
  obtain ⟨r, hr, har⟩ := List.mem_flatten.1 m1
  obtain ⟨s, hs, hbs⟩ := List.mem_flatten.1 m2
  obtain ⟨i, hi, rfl⟩ := List.getElem_of_mem hr
  obtain ⟨j, hj, rfl⟩ := List.getElem_of_mem hs
  rw [hf p hp hp, hf q hq hq, hg _ m1 i hi har, hg _ m2 j hj hbs]
  refine ⟨fun hm => ?_, fun hlt => ?_, fun hl hm => ?_⟩
  · have := h.up _ _ hm i j hi hj har hbs; omega
  · intro hqp
    have := h.pos p q hp hq (by omega) i j hi hj har hbs
    omega
  · intro hqp
    exact h.str hl p q hp hq (by omega) hm
set_option maxHeartbeats 6400000 in
set_option maxRecDepth 100000 in
theorem holds_ok (n : Nat) (A A' : Option Addr) (c c' : Nat) (l l' : List E) (w : World) (hn : n ≤ 40) (hl : l.length ≤ 60) (hl' : l'.length ≤ 60) (h : Es w (.slice A l.length c) l) (h' : Es w (.slice A' l'.length c') l') (hA : A = none → c = 0) (hA' : A' = none → c' = 0) (hr : roL n l = .ok) (hr' : roL n l' = .ok) :
    Calls Try.prog 3 #[.int .i64 n, .slice A l.length c, .slice A' l'.length c'] w fun e w' => e = .returned (.bool true) ∧ Below w.heap.size w w' := by
  have HE := Lib.hid h
  have HE' := Lib.hid h'
  have HR := Lib.hid hr
  have HR' := Lib.hid hr'
  have HA := Lib.hid hA
  have HA' := Lib.hid hA'
  clear h h' hr hr' hA hA'
  have hl1 : ¬ (60 : Int) < (l.length : Int) := by omega
  have hl1' : ¬ (60 : Int) < (l'.length : Int) := by omega
  have cU := lineup_any w
  have HF := Lib.hid (hf_of n l l')
  go_enter Try.func3, Try.ntmps3
  go_wp2_with fail
  refine cU.mono ?_
  rintro e w1 ⟨rfl, b1⟩
  have cL := Line_ok n A A' c c' l l' w1 hn (by omega) (by omega) (HE.out.on b1) (HE'.out.on b1) HR.out HR'.out
  clear cU
  generalize hLn : lin (Om.cl n (et (l ++ l'))) (et l') n = L at cL HF
  go_wp2_with fail
  refine cL.mono ?_
  rintro e w2 ⟨v, rfl, hI, b2⟩
  have k2 := bon b1 b2
  obtain ⟨V1, V2, rfl⟩ := iw_sl hI
  have b3 := bA1 w2 (.cells #[] 34)
  have E3 : Ew (w2.alloc (.cells #[] 34)) w2.heap.size (.slice (some ⟨w2.heap.size, 0, none⟩) 0 0) [] := World.ownsRow_lit w2 #[] 0 (Nat.le_refl _) (by unfold maxLen; omega) (by simp)
  have hs1 := (HE.out.on k2).on b3
  have hs2 : ∀ W, Below w2.heap.size w2 W → Es W (.slice A' l'.length c') l' := fun W hW => (HE'.out.on k2).on hW
  have hBa : w2.heap.size ≤ (w2.alloc (.cells #[] 34)).heap.size := b3.size
  have HI := Lib.hid hI
  have HK2 := Lib.hid k2
  have HS2 := Lib.hid hs2
  have HB3 := Lib.hid b3
  clear hs2 hI b1 b2 k2 cL b3
  have HRg : Hid (∀ W, Below w2.heap.size w2 W → ∀ g c9, Ew W w2.heap.size (.slice (some ⟨g, 0, none⟩) (l ++ l').length c9) (l ++ l') → Calls Try.prog 6 #[.int .i64 n, .slice (some ⟨g, 0, none⟩) (l ++ l').length c9] W fun e w' => ∃ v, e = .returned (.tuple #[v, .nilIface]) ∧ Rl w' W.heap.size v (rgs (Om.cl n (et (l ++ l'))) n) ∧ Below W.heap.size W w') := fun W hW g c9 hE => by
    refine Rings_ok n _ c9 (l ++ l') W hn (by simp; omega) (ew_es hE rfl) ?_
    have h1 := roL_ok HR.out
    have h2 := roL_ok HR'.out
    unfold roL
    rw [fi_no]
    intro j hj
    have hx : Rn n (l ++ l') := fun e he => by rcases List.mem_append.1 he with he | he; · exact h1 e he
                                               · exact h2 e he
    have := hx (l ++ l')[j] (List.getElem_mem hj)
    unfold bade
    simp
    omega
  rw [show (l ++ l').length = l.length + l'.length by simp] at HRg
  generalize rgs (Om.cl n (et (l ++ l'))) n = R at HRg HF
  clear hLn
  go_wp2_with (first
    | (at_builtin; refine wpList_apE (l := []) (m := l) E3 rfl hs1 HA.out (by simp) (by omega) hBa rfl _ _ rfl rfl rfl ?_; intro g4 c4 w4 hE4 hB4; rw [List.nil_append, Nat.zero_add] at hE4; rw [Nat.zero_add]; have HE4 := Lib.hid hE4; have HB4 := Lib.hid (HB3.out.trans (hB4 _ (Nat.le_refl _))); clear hE4 hB4 E3 hs1 hBa)
    | (at_builtin; refine wpList_apE (l := l) (m := l') HE4.out rfl (HS2.out _ HB4.out) HA'.out (by omega) (by omega) HB4.out.size rfl _ _ rfl rfl rfl ?_; intro g5 c5 w5 hE5 hB5; have HE5 := Lib.hid hE5; have HB5 := Lib.hid (HB4.out.trans (hB5 _ (Nat.le_refl _))); clear hE5 hB5)
    | fail)
  have cG := HRg.out w5 HB5.out g5 c5 HE5.out
  have HI5 := Lib.hid (own_on HI.out HB5.out)
  have HK5 := Lib.hid (bon HK2.out HB5.out)
  have HEd5 := Lib.hid (ew_es HE5.out (by simp))
  clear HRg HE4 HB4 HI HE5 HS2 HB3 HK2 HA HA'
  refine cG.mono ?_
  rintro e w6 ⟨v6, rfl, hR6, b6⟩
  obtain ⟨Z1, Z2, rfl⟩ := rl_sl hR6
  have HI6 := Lib.hid (own_on HI5.out b6)
  have HK6 := Lib.hid (bon HK5.out b6)
  have HEd6 := Lib.hid (HEd5.out.on b6)
  have HR6 := Lib.hid hR6
  have hLn : L.length = n := HF.out.ln
  subst hLn
  have hRn : R.length ≤ 40 := by have := HF.out.len; omega
  have M1 : IM ((w6.alloc (.map #[] 0)).alloc (.map #[] 0)) w6.heap.size (fun _ => 0) (fun _ => false) 0 := IM.new (by rw [Below.heap_alloc _ _ _ (by simp)]; exact nb0 _ _)
  have M2 : IM ((w6.alloc (.map #[] 0)).alloc (.map #[] 0)) (w6.heap.size + 1) (fun _ => 0) (fun _ => false) 0 := IM.new (by have := nb0 (w6.alloc (.map #[] 0)) (.map #[] 0); rw [World.size_alloc] at this; exact this)
  have B7 : Below w6.heap.size w6 ((w6.alloc (.map #[] 0)).alloc (.map #[] 0)) := bon (bA1 _ _) (bA1 _ _)
  have HM1 := Lib.hid M1
  have HM2 := Lib.hid M2
  have HB7 := Lib.hid B7
  clear cG hR6 b6 HI5 HK5 HEd5 HB5 M1 M2 B7
  have hmm := @run_makeMap Try.prog
  go_wp2_with fail
  clear hmm
  go_loopw [14] (fun i W => ∃ (k : Nat) (f : Nat → Int), k ≤ L.length ∧ i = .int .i64 k ∧ Hid (Below w6.heap.size w6 W) ∧ Hid (IM W w6.heap.size f (fun j => decide (j ∈ L.take k)) k) ∧ Hid (IM W (w6.heap.size + 1) (fun _ => 0) (fun _ => false) 0) ∧ Hid (At L k f)) (fun i _ => L.length - (intOf i).toNat)
  case atStart => exact ⟨0, _, Nat.zero_le _, rfl, HB7, HM1.out, HM2, fun i h hi => absurd hi (Nat.not_lt_zero _)⟩
  case round =>
    obtain ⟨k, f, hk, rfl, HB, HM, HMo, HAt⟩ := hrel
    by_cases hlt : k < L.length
    · obtain ⟨vb, vo, rfl, hIr⟩ := is_row (iw_is (own_on HI6.out HB.out)) (by omega)
      have c0 := hIr.c k hlt
      have hx40 : L[k] < L.length := (HF.out.mem _).1 (List.getElem_mem hlt)
      obtain ⟨W', e1, hM', hK'⟩ := HM.out.put L[k] (by omega) (by omega) (k : Int) (decide_eq_false (not_take HF.out.nd k hlt))
      rw [take_dec L k hlt] at hM'
      have HAt' := Lib.hid (at_put HAt.out HF.out.nd hlt)
      have HM' := Lib.hid hM'
      have HB' := Lib.hid (HB.out.trans (hK'.below HB.out.size (fun j e => by omega)))
      have HMo' := Lib.hid (HMo.out.kp hK' (by omega))
      clear hIr hM' hK' HM HMo HB HAt
      go_wp2_with fail
      exact ⟨⟨k + 1, _, hlt, by go_num, HB', HM', HMo', HAt'⟩, by simp [intOf]; omega⟩
    · obtain rfl : k = L.length := by omega
      have HM3 : Hid (IM wr w6.heap.size f (fun j => decide (j ∈ L)) L.length) := by have := HM.out; rw [List.take_of_length_le (Nat.le_refl _)] at this; exact this
      clear HM
      go_wp2_with fail
      go_loopw [13, 15] (fun z i W => ∃ (k : Nat) (g : Nat → Int), k ≤ R.length ∧ i = .int .i64 k ∧ z = .int .i64 (so R k 0).length ∧ Hid (Below w6.heap.size w6 W) ∧ Hid (IM W w6.heap.size f (fun j => decide (j ∈ L)) L.length) ∧ Hid (IM W (w6.heap.size + 1) g (fun j => decide (j ∈ so R k 0)) (so R k 0).length) ∧ Hid (Of R (so R k 0) g)) (fun _ i _ => R.length - (intOf i).toNat)
      case atStart => exact ⟨0, _, Nat.zero_le _, rfl, rfl, HB, HM3, HMo, fun x hx => by simp [so] at hx⟩
      case round =>
        obtain ⟨k, g, hk2, rfl, rfl, HB2, HM4, HM5, HOf⟩ := hrel
        by_cases hlt2 : k < R.length
        · have HSo := Lib.hid (so_set R k hlt2)
          have hRk : R[k].length ≤ 1000 := by have h1 := row_le R k hlt2; have h2 := HF.out.rl; omega
          have HSl : Hid (∀ q, (so R k q).length ≤ 1000) := fun q => by
            have h1 := so_le R k q hlt2
            have h2 := HF.out.rl
            omega
          go_wp2_with fail
          go_loopw [13, 16] (fun z i W => ∃ (q : Nat) (g : Nat → Int), q ≤ R[k].length ∧ i = .int .i64 q ∧ z = .int .i64 (so R k q).length ∧ Hid (Below w6.heap.size w6 W) ∧ Hid (IM W w6.heap.size f (fun j => decide (j ∈ L)) L.length) ∧ Hid (IM W (w6.heap.size + 1) g (fun j => decide (j ∈ so R k q)) (so R k q).length) ∧ Hid (Of R (so R k q) g)) (fun _ i _ => R[k].length - (intOf i).toNat)
          case atStart => exact ⟨0, g, Nat.zero_le _, rfl, rfl, HB2, HM4, HM5, HOf⟩
          case round =>
            obtain ⟨q, g', hq, rfl, rfl, HB3, HM6, HM7, HOf2⟩ := hrel
            obtain ⟨zg, u, rfl, hcu, hIu⟩ := rl_at (HR6.out.on HB3.out) k hlt2
            obtain ⟨U1, U2, rfl⟩ := iw_sl hIu
            by_cases hltq : q < R[k].length
            · obtain ⟨ub, uo, rfl, hIr⟩ := is_row (iw_is hIu) (by omega)
              have c0 := hIr.c q hltq
              have hx40 : R[k][q] < L.length := (HF.out.rm _).1 (List.mem_flatten.2 ⟨_, List.getElem_mem hlt2, List.getElem_mem hltq⟩)
              have hsl := HSl.out q
              obtain ⟨W', e1, hM', hK'⟩ := HM7.out.put R[k][q] (by omega) (by omega) (k : Int) (decide_eq_false ((so_pre R k q hlt2 hltq).2 HF.out.rn))
              rw [snoc_dec, ← so_next R k q hlt2 hltq] at hM'
              have hOf' := of_put HOf2.out HF.out.rn hlt2 (List.getElem_mem hltq)
              rw [← so_next R k q hlt2 hltq] at hOf'
              have HOf' := Lib.hid hOf'
              have HSn : Hid ((so R k (q + 1)).length = (so R k q).length + 1) := by show _ = _; rw [so_next R k q hlt2 hltq]; simp
              have HM' : Hid (IM W' (w6.heap.size + 1) (fun j => if j = R[k][q] then (k : Int) else g' j) (fun j => decide (j ∈ so R k (q + 1))) (so R k (q + 1)).length) := by rw [HSn.out]; exact hM'
              have HB' := Lib.hid (HB3.out.trans (hK'.below HB3.out.size (fun j e => by omega)))
              have HMo' := Lib.hid (HM6.out.kp hK' (by omega))
              clear hIr hM' hK' HM6 HM7 HB3 HOf2 hOf' hIu
              go_wp2_with fail
              exact ⟨⟨q + 1, _, hltq, by go_num, by rw [HSn.out]; go_num, HB', HMo', HM', HOf'⟩, by simp [intOf]; omega⟩
            · obtain rfl : q = R[k].length := by omega
              rw [← HSo.out] at HM7 HOf2
              clear hIu
              go_wp2_with fail
              exact ⟨⟨k + 1, g', hlt2, by go_num, by rw [HSo.out], HB3, HM6, HM7, HOf2⟩, by simp [intOf]; omega⟩
        · obtain rfl : k = R.length := by omega
          rw [so_all] at HM5 HOf
          rw [so_all]
          have hfl := HF.out.rl
          rw [hfl] at HM5
          have hl3 := HM4.out.len
          have hl4 := HM5.out.len
          have HAt2 := HAt
          have HRg2 := Lib.hid (fun W (hW : Below w.heap.size w W) => Rings_ok L.length A' c' l' W hn (by omega) (HE'.out.on hW) HR'.out)
          have HSay := Lib.hid (fun a b (ha : a < L.length) (hb : b < L.length) => edge_says HF.out HAt.out HOf.out ha hb)
          have HRn : Hid (Rn L.length (l ++ l')) := fun e he => by
            rcases List.mem_append.1 he with he | he
            · exact roL_ok HR.out e he
            · exact roL_ok HR'.out e he
          clear HAt HAt2 HOf HR HI6 HR6
          go_wp2_with fail
          clear hl3 hl4
          go_loopw [17] (fun i W => ∃ k : Nat, k ≤ (l ++ l').length ∧ i = .int .i64 k ∧ Hid (Below w6.heap.size w6 W) ∧ Hid (IM W w6.heap.size f (fun j => decide (j ∈ L)) L.length) ∧ Hid (IM W (w6.heap.size + 1) g (fun j => decide (j ∈ R.flatten)) L.length)) (fun i _ => (l ++ l').length - (intOf i).toNat)
          case atStart => exact ⟨0, Nat.zero_le _, rfl, HB2, HM4, HM5⟩
          case round =>
            obtain ⟨k3, hk3, rfl, HB3, HM6, HM7⟩ := hrel
            have hlen : (l ++ l').length = l.length + l'.length := by simp
            by_cases hlt3 : k3 < (l ++ l').length
            · obtain ⟨eb, eo, he, hEr⟩ := es_row (HEd6.out.on HB3.out) (by omega)
              cases he
              have c0 := hEr.c0 k3 hlt3
              have c1 := hEr.c1 k3 hlt3
              rw [Nat.zero_add] at c0 c1
              have hx := HRn.out (l ++ l')[k3] (List.getElem_mem hlt3)
              have hmem : (l ++ l')[k3] ∈ l ++ l' := List.getElem_mem hlt3
              have hk3' : (k3 : Int) < (l.length : Int) + (l'.length : Int) := by omega
              have HL3 := Lib.hid hlt3
              generalize (l ++ l')[k3] = e at c0 c1 hx hmem
              obtain ⟨e1, e2⟩ := e
              obtain ⟨x, rfl, hx1⟩ := nat_of hx.1 hx.2.1
              obtain ⟨y, rfl, hy1⟩ := nat_of hx.2.2.1 hx.2.2.2
              dsimp only at c0 c1
              obtain ⟨s1, s2, _⟩ := HSay.out x y hx1 hy1
              have s1' := s1 hmem
              have b8 := bA1 wr (.cells #[eI x, eI y] 34)
              have HB8 := Lib.hid (HB3.out.trans (b8.mono HB3.out.size))
              have HM8 := Lib.hid (HM6.out.on b8)
              have HM9 := Lib.hid (HM7.out.on b8)
              have q1 := HM9.out.look x (by omega)
              have q2 := HM9.out.look y (by omega)
              have q3 := HM8.out.look x (by omega)
              have q4 := HM8.out.look y (by omega)
              clear hEr hx hmem s1 b8 HM6 HM7 HB3
              by_cases t1 : g x < g y
              · have s3 := s2 t1
                clear s2
                go_wp2_with fail
                exact ⟨⟨k3 + 1, HL3.out, by go_num, HB8, HM8, HM9⟩, by simp [intOf]; omega⟩
              · clear s2
                go_wp2_with fail
                exact ⟨⟨k3 + 1, HL3.out, by go_num, HB8, HM8, HM9⟩, by simp [intOf]; omega⟩
            · have hk3' : ¬ (k3 : Int) < (l.length : Int) + (l'.length : Int) := by omega
              have cG2 := HRg2.out wr (HK6.out.trans (HB3.out.mono HK6.out.size))
              clear HEd6 HM5 HM4 HB2
              go_wp2_with fail
              refine cG2.mono ?_
              rintro e w9 ⟨v9, rfl, hR9, b9⟩
              obtain ⟨Y1, Y2, rfl⟩ := rl_sl hR9
              have HB9 := Lib.hid (HB3.out.trans (b9.mono HB3.out.size))
              have HM8 := Lib.hid (HM6.out.on b9)
              clear cG2 hR9 b9 HB3 HM6 HM7 HRg2
              generalize hrl : (rgs (Om.cl L.length (et l')) L.length).length = rl at HSay
              by_cases t9 : (rl : Int) < (L.length : Int)
              · go_wp2_with fail
                go_ret
                exact ⟨rfl, HK6.out.trans (HB9.out.mono HK6.out.size)⟩
              · have hrl2 : L.length ≤ rl := by omega
                have t9n : ¬ rl < L.length := by omega
                go_wp2_with fail
                clear t9n
                go_loopw [20] (fun i W => ∃ k : Nat, k ≤ l'.length ∧ i = .int .i64 k ∧ Hid (Below w6.heap.size w6 W) ∧ Hid (IM W w6.heap.size f (fun j => decide (j ∈ L)) L.length)) (fun i _ => l'.length - (intOf i).toNat)
                case atStart => exact ⟨0, Nat.zero_le _, rfl, HB9, HM8⟩
                case round =>
                  obtain ⟨k4, hk4, rfl, HB10, HM10⟩ := hrel
                  by_cases hlt4 : k4 < l'.length
                  · obtain ⟨eb, eo, rfl, hEr⟩ := es_row ((HE'.out.on HK6.out).on HB10.out) (by omega)
                    have c0 := hEr.c0 k4 hlt4
                    have c1 := hEr.c1 k4 hlt4
                    have hx := roL_ok HR'.out l'[k4] (List.getElem_mem hlt4)
                    have hmem : l'[k4] ∈ l' := List.getElem_mem hlt4
                    generalize l'[k4] = e at c0 c1 hx hmem
                    obtain ⟨e1, e2⟩ := e
                    obtain ⟨x, rfl, hx1⟩ := nat_of hx.1 hx.2.1
                    obtain ⟨y, rfl, hy1⟩ := nat_of hx.2.2.1 hx.2.2.2
                    dsimp only at c0 c1
                    obtain ⟨_, _, s3⟩ := HSay.out x y hx1 hy1
                    have s3' := s3 hrl2 hmem
                    have b8 := bA1 wr (.cells #[eI x, eI y] 34)
                    have HB8 := Lib.hid (HB10.out.trans (b8.mono HB10.out.size))
                    have HM11 := Lib.hid (HM10.out.on b8)
                    have q3 := HM11.out.look x (by omega)
                    have q4 := HM11.out.look y (by omega)
                    clear hEr hx hmem s3 b8 HM10 HB10
                    by_cases t1 : x = y
                    · subst t1
                      go_wp2_with fail
                      exact ⟨⟨k4 + 1, hlt4, by go_num, HB8, HM11⟩, by simp [intOf]; omega⟩
                    · have t2 : ((x : Int) == (y : Int)) = false := by rw [beq_eq_false_iff_ne]; omega
                      have t3 : ¬ (x : Int) = (y : Int) := by omega
                      clear t1 t2
                      go_wp2_with fail
                      exact ⟨⟨k4 + 1, hlt4, by go_num, HB8, HM11⟩, by simp [intOf]; omega⟩
                  · go_wp2_with fail
                    go_ret
                    exact ⟨rfl, HK6.out.trans (HB10.out.mono HK6.out.size)⟩
end Go.Proofs.Ytnebkdildnngeaa
