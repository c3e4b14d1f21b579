/- Plain mathematics of terms as texts: how they are read, and written. -/
import Derived.Test.YtlldfmnoidndmaaGreatDoorDa
import Derived.Test.YtlldfmnoidndmaaGreatDoorVx
import Derived.Lib.SlTrimSet
import Derived.Test.YtlldfmnoidndmaaGreatDoorPx
import Derived.Shelf.Strings.SlTrimAscii
namespace Go.Proofs.YtlldfmnoidndmaaGreatDoor

/-- What is nothing around a term. -/
def bls : List UInt8 := [32, 9, 10]
/-- A byte that may stand first in a name. -/
def pby (c : UInt8) : Bool := (decide (97 ≤ c.toNat) && decide (c.toNat ≤ 122)) || (decide (48 ≤ c.toNat) && decide (c.toNat ≤ 57))
def nby (c : UInt8) : Bool := pby c || decide (c.toNat = 43) || decide (c.toNat = 45) || decide (c.toNat = 46)
/-- A package's name. -/
def nmo (s : List UInt8) : Bool := decide (2 ≤ s.length) && decide (s.length ≤ 24) && (match s with | [] => false | c :: _ => pby c) && s.all nby
/-- The signs, by their numbers. -/
def sgt : Nat → List UInt8
  | 1 => [60, 60]
  | 2 => [60, 61]
  | 3 => [61]
  | 4 => [62, 61]
  | 5 => [62, 62]
  | _ => []
/-- The first sign, from the k-th on, that a text begins with; what is left. -/
def cutF (s : List UInt8) (k : Nat) : Nat × List UInt8 := if (sgt k).isPrefixOf s then (k, s.drop (sgt k).length) else (0, s)
def cutS (s : List UInt8) : Nat × List UInt8 :=
  if (sgt 1).isPrefixOf s then (1, s.drop 2) else if (sgt 2).isPrefixOf s then (2, s.drop 2) else if (sgt 3).isPrefixOf s then (3, s.drop 1) else if (sgt 4).isPrefixOf s then (4, s.drop 2) else if (sgt 5).isPrefixOf s then (5, s.drop 2) else (0, s)
/-- A version, as it is written. -/
def rdV (s : List UInt8) : Option (Int × List UInt8 × List UInt8) := match Vm.pv s with
  | some (e, u, r) => if Vm.pt e u r = s then some (e, u, r) else none
  | none => none
/-- Its end cut off. -/
def cutE (b : List UInt8) : List UInt8 := if b.getLast? = some 41 then b.dropLast else b
/-- What stands behind a name. -/
def rdB (n b : List UInt8) : Option Tm :=
  match rdV (Lib.trimS (cutS (cutE b)).2 bls) with
  | some (e, u, r) => if b.getLast? = some 41 ∧ (cutS (cutE b)).1 ≠ 0 then some ⟨n, ((cutS (cutE b)).1 : Int), e, u, r⟩ else none
  | none => none
/-- A term without blanks at its ends. -/
def rdT (t : List UInt8) : Option Tm := match Vm.fc 40 t with
  | none => if nmo (Lib.trimRightS t bls) = true then some ⟨Lib.trimRightS t bls, 0, 0, [], []⟩ else none
  | some (a, b) => if nmo (Lib.trimRightS a bls) = true then rdB (Lib.trimRightS a bls) b else none
/-- A term. -/
def rd (s : List UInt8) : Option Tm := rdT (Lib.trimS s bls)

/-- A text cut at each of a byte. -/
def sp (c : UInt8) : List UInt8 → List (List UInt8)
  | [] => [[]]
  | x :: t => if x = c then [] :: sp c t else match sp c t with
    | [] => [[x]]
    | y :: ys => (x :: y) :: ys
theorem sp_ne (c : UInt8) (l : List UInt8) : ∃ y ys, sp c l = y :: ys := by
  induction l with
  | nil => exact ⟨_, _, rfl⟩
  | cons x t ih =>
    obtain ⟨y, ys, h⟩ := ih
    unfold sp
    split
    · exact ⟨_, _, rfl⟩
    · rw [h]; exact ⟨_, _, rfl⟩
theorem sp_none {c : UInt8} {l : List UInt8} (h : Vm.fc c l = none) : sp c l = [l] := by
  induction l with
  | nil => rfl
  | cons x t ih =>
    unfold Vm.fc at h
    by_cases e : x = c
    · rw [if_pos e] at h; cases h
    · rw [if_neg e] at h
      cases ht : Vm.fc c t with
      | none => unfold sp; rw [if_neg e, ih ht]
      | some p => rw [ht] at h; cases h
theorem sp_some {c : UInt8} {l a b : List UInt8} (h : Vm.fc c l = some (a, b)) : sp c l = a :: sp c b := by
  induction l generalizing a with
  | nil => unfold Vm.fc at h; cases h
  | cons x t ih =>
    unfold Vm.fc at h
    by_cases e : x = c
    · rw [if_pos e] at h; cases h; rw [sp, if_pos e]
    · rw [if_neg e] at h
      cases ht : Vm.fc c t with
      | none => rw [ht] at h; cases h
      | some p =>
        obtain ⟨a', b'⟩ := p
        rw [ht] at h; cases h
        rw [sp, if_neg e, ih ht]

/-- Pieces of one of some. -/
def grp (i : Nat) (l : List UInt8) : List (Nat × List UInt8) := (sp 124 l).map fun x => (i, x)
def pcl : Nat → List (List UInt8) → List (Nat × List UInt8)
  | _, [] => []
  | i, x :: xs => grp i x ++ pcl (i + 1) xs
/-- All pieces of a text. -/
def pcs (s : List UInt8) : List (Nat × List UInt8) := pcl 0 (sp 44 s)

/-- A term laid into the i-th list. -/
def put (L : List (List Tm)) (i : Nat) (t : Tm) : List (List Tm) := if i = L.length then L ++ [[t]] else L.set i (L[i]?.getD [] ++ [t])
/-- All pieces read: 3: one is no term; 4: too many. -/
def goT : Nat → List (List Tm) → List (Nat × List UInt8) → Except Int (List (List Tm))
  | _, L, [] => .ok L
  | n, L, (i, x) :: ps => match rd x with
    | none => .error 3
    | some t => if n = 30 then .error 4 else goT (n + 1) (put L i t) ps
/-- What a text asks for. -/
def rdA (s : List UInt8) : Except Int (List (List Tm)) := if Lib.trimS s bls = [] then .ok [] else goT 0 [] (pcs s)

/-- The fact that is asked. -/
theorem rdA_fact : rdA [97, 97, 32, 40, 62, 61, 32, 49, 46, 48, 41, 32, 124, 32, 98, 98, 44, 32, 99, 99] = .ok [[⟨[97, 97], 4, 0, [49, 46, 48], []⟩, ⟨[98, 98], 0, 0, [], []⟩], [⟨[99, 99], 0, 0, [], []⟩]] := by
  rfl

end Go.Proofs.YtlldfmnoidndmaaGreatDoor
namespace Go.Proofs.YtlldfmnoidndmaaGreatDoor
open Go.RowKit Go.Shelf Go.Sort

theorem plain_any (c : UInt8) (w : World) : Calls Tryz.prog 175 #[.int .u8 c.toNat] w fun e w' => e = .returned (.bool (pby c)) ∧ w' = w := by
  go_enter Tryz.func175, Tryz.ntmps175
  go_wp2
  all_goals
    go_ret
    exact ⟨ret_bool (by unfold pby; rw [Bool.eq_iff_iff]; simp; omega), rfl⟩

theorem nm_no1 {l : List UInt8} (h : l.length < 2) : false = nmo l := by unfold nmo; simp; intros; omega
theorem nm_no2 {l : List UInt8} (h : 24 < l.length) : false = nmo l := by unfold nmo; simp; intros; omega
theorem nm_no3 {c : UInt8} {l : List UInt8} (h : pby c = false) : false = nmo (c :: l) := by unfold nmo; simp [h]
theorem nm_no4 {l : List UInt8} (k : Nat) (hk : k < l.length) (h : nby l[k] = false) : false = nmo l := by
  unfold nmo; rw [← all_no k hk h]; simp
theorem nm_yes {c : UInt8} {l : List UInt8} (h1 : 2 ≤ (c :: l).length) (h2 : (c :: l).length ≤ 24) (h3 : pby c = true) (h : ∀ j (hj : j < (c :: l).length), nby (c :: l)[j] = true) : true = nmo (c :: l) := by
  unfold nmo; rw [← all_to h]; simp [h3]; simp at h1 h2; omega
attribute [local go_sem] pb_head

theorem name_short (l : List UInt8) (w : World) (h : l.length < 2) : Calls Tryz.prog 126 #[.string ⟨l.toArray⟩] w fun e w' => e = .returned (.bool (nmo l)) ∧ Below w.heap.size w w' := by
  go_enter Tryz.func126, Tryz.ntmps126
  go_wp2
  go_ret
  exact ⟨ret_bool (nm_no1 h), Below.refl _ _⟩
theorem name_long (l : List UInt8) (w : World) (h : 24 < l.length) : Calls Tryz.prog 126 #[.string ⟨l.toArray⟩] w fun e w' => e = .returned (.bool (nmo l)) ∧ Below w.heap.size w w' := by
  go_enter Tryz.func126, Tryz.ntmps126
  go_wp2
  go_ret
  exact ⟨ret_bool (nm_no2 h), Below.refl _ _⟩
theorem name_head (c : UInt8) (l : List UInt8) (w : World) (h1 : 2 ≤ (c :: l).length) (h2 : (c :: l).length ≤ 24) (h : pby c = false) : Calls Tryz.prog 126 #[.string ⟨(c :: l).toArray⟩] w fun e w' => e = .returned (.bool (nmo (c :: l))) ∧ Below w.heap.size w w' := by
  have cP := fun W => plain_any c W
  rw [h] at cP
  simp only [List.length_cons] at h1 h2
  go_enter Tryz.func126, Tryz.ntmps126
  go_wp2_with (go_at_call 175; refine (cP _).mono ?_; rintro e w' ⟨rfl, rfl⟩)
  go_ret
  exact ⟨ret_bool (nm_no3 h), Below.refl _ _⟩

theorem nby_p {c : UInt8} (h : pby c = true) : nby c = true := by simp [nby, h]
set_option maxHeartbeats 400000 in
theorem name_loop (c : UInt8) (t : List UInt8) (w : World) (h1 : 2 ≤ (c :: t).length) (h2 : (c :: t).length ≤ 24) (h : pby c = true) : Calls Tryz.prog 126 #[.string ⟨(c :: t).toArray⟩] w fun e w' => e = .returned (.bool (nmo (c :: t))) ∧ Below w.heap.size w w' := by
  have cP := fun W => plain_any c W
  rw [h] at cP
  obtain ⟨r, hr⟩ : ∃ r, r = nmo (c :: t) := ⟨_, rfl⟩
  have HY : Hid ((∀ j (hj : j < (c :: t).length), nby (c :: t)[j] = true) → r = true) := fun h' => by rw [hr]; exact (nm_yes h1 h2 h h').symm
  have HN : Hid (∀ k (hk : k < (c :: t).length), nby (c :: t)[k] = false → r = false) := fun k hk h' => by rw [hr]; exact (nm_no4 k hk h').symm
  rw [← hr]
  clear hr h
  simp only [List.length_cons] at h1 h2
  go_enter Tryz.func126, Tryz.ntmps126
  go_wp2_with (go_at_call 175; refine (cP _).mono ?_; rintro e w' ⟨rfl, rfl⟩)
  go_loop [21] (fun i => ∃ k : Nat, k ≤ (c :: t).length ∧ i = .int .i64 k ∧ Hid (∀ j (hj : j < (c :: t).length), j < k → nby (c :: t)[j] = true)) (fun i => (c :: t).length - (intOf i).toNat)
  case atStart => exact ⟨0, Nat.zero_le _, rfl, fun j _ h => absurd h (Nat.not_lt_zero _)⟩
  case round =>
    obtain ⟨k, hk, rfl, HP⟩ := hrel
    by_cases hlt : k < (c :: t).length
    · have HM : Hid (nby (c :: t)[k] = true → ∀ j (hj : j < (c :: t).length), j < k + 1 → nby (c :: t)[j] = true) := fun hc j hj h => by
        by_cases e : j = k
        · subst e; exact hc
        · exact HP.out j hj (by omega)
      have HN' := Lib.hid (HN.out k hlt)
      clear HN
      obtain ⟨x, hx⟩ : ∃ x, x = (c :: t)[k] := ⟨_, rfl⟩
      have HX : Hid (nby x = true → nby (c :: t)[k] = true) := fun h => by rw [← hx]; exact h
      have HX' : Hid (nby x = false → nby (c :: t)[k] = false) := fun h => by rw [← hx]; exact h
      have cQ := fun W => plain_any (c :: t)[k] W
      rw [← hx] at cQ
      have hbx : ∀ (h : k < (ByteArray.mk (c :: t).toArray).size), (ByteArray.mk (c :: t).toArray)[k]'h = x := fun h => hx.symm
      clear hx
      simp only [List.length_cons] at hlt
      cases hp : pby x with
      | true =>
        rw [hp] at cQ
        go_wp2_with (go_at_call 175; refine (cQ _).mono ?_; rintro e w' ⟨rfl, rfl⟩)
        exact ⟨⟨k + 1, hlt, by go_num, HM.out (HX.out (nby_p hp))⟩, by simp [intOf]; omega⟩
      | false =>
        rw [hp] at cQ
        go_wp2_with (go_at_call 175; refine (cQ _).mono ?_; rintro e w' ⟨rfl, rfl⟩)
        all_goals rename_i hz
        all_goals first
          | (go_ret; exact ⟨ret_bool (HN'.out (HX'.out (by try simp at hz
                                                           unfold nby; rw [hp]; simp; omega))).symm, Below.refl _ _⟩)
          | exact ⟨⟨k + 1, hlt, by go_num, HM.out (HX.out (by try simp at hz
                                                              unfold nby; rw [hp]; simp; omega))⟩, by simp [intOf]; omega⟩
    · simp only [List.length_cons] at hlt
      go_wp2
      go_ret
      exact ⟨ret_bool (HY.out (fun j hj => HP.out j hj (by simp only [List.length_cons] at hj; omega))).symm, Below.refl _ _⟩

theorem name_any (l : List UInt8) (w : World) : Calls Tryz.prog 126 #[.string ⟨l.toArray⟩] w fun e w' => e = .returned (.bool (nmo l)) ∧ Below w.heap.size w w' := by
  by_cases h1 : l.length < 2
  · exact name_short l w h1
  · by_cases h2 : 24 < l.length
    · exact name_long l w h2
    · cases l with
      | nil => simp at h1
      | cons c t =>
        cases h : pby c with
        | false => exact name_head c t w (by omega) (by omega) h
        | true => exact name_loop c t w (by omega) (by omega) h

theorem asc3 : ∀ (j : Nat) (b : UInt8), (ByteArray.mk #[32, 9, 10]).data.toList[j]? = some b → b.toNat < 128 := by
  intro j b hj
  match j, hj with
  | 0, hj => simp at hj; subst hj; decide
  | 1, hj => simp at hj; subst hj; decide
  | 2, hj => simp at hj; subst hj; decide
  | j + 3, hj => simp at hj
theorem clone2 (l : List UInt8) (w : World) (hl : l.length ≤ 1000000) : Calls Tryz.prog 116 #[.string ⟨l.toArray⟩] w fun e w' => e = .returned (.string ⟨l.toArray⟩) ∧ Below w.heap.size w w' := by
  go_enter Tryz.func116, Tryz.ntmps116
  go_wp2_with fail
  refine (Tryz.stringslite_Clone ⟨l.toArray⟩ _ (by have := size_le hl; omega)).mono ?_
  rintro e w' ⟨rfl, hb⟩
  go_wp2
  go_ret
  exact ⟨rfl, hb⟩

theorem below_drewN (w : World) (n : Nat) : Below w.heap.size w (w.drewN n) := by
  induction n with
  | zero => exact Below.refl _ _
  | succ n ih => exact ih.drew
theorem lcutc_some (c : UInt8) (l : List UInt8) (k : Nat) (w : World) (hl : l.length ≤ 1000000) (hk : k < l.length) (hi : Lib.indexByte l c = k) : Calls Tryz.prog 154 #[.string ⟨l.toArray⟩, .string ⟨#[c]⟩] w fun e w' =>
    e = .returned (.tuple #[.string ⟨(l.take k).toArray⟩, .string ⟨(l.drop (k + 1)).toArray⟩, .bool true]) ∧ ∃ n, w' = w.drewN n := by
  have HI := Lib.hid hi
  clear hi
  go_enter Tryz.func154, Tryz.ntmps154
  go_wp2_with fail
  refine (Tryz.stringslite_Index_one ⟨l.toArray⟩ c _).mono ?_
  rintro e w' ⟨rfl, rfl⟩
  rw [show Lib.indexByte (ByteArray.mk l.toArray).data.toList c = (k : Int) from HI.out]
  have h1 : (k : Int) ≤ (l.length : Int) := by omega
  have h2 : (k : Int) + 1 ≤ (l.length : Int) := by omega
  go_wp2_with fail
  go_quiet (fail)
  go_wp2
  go_ret3
  exact ⟨ret_cut (ba_take l k) (ba_drop l (k + 1)) rfl, _, rfl⟩
theorem lcutc_none (c : UInt8) (l : List UInt8) (w : World) (hi : Lib.indexByte l c = -1) : Calls Tryz.prog 154 #[.string ⟨l.toArray⟩, .string ⟨#[c]⟩] w fun e w' =>
    e = .returned (.tuple #[.string ⟨l.toArray⟩, .string ⟨#[]⟩, .bool false]) ∧ ∃ n, w' = w.drewN n := by
  have HI := Lib.hid hi
  clear hi
  go_enter Tryz.func154, Tryz.ntmps154
  go_wp2_with fail
  refine (Tryz.stringslite_Index_one ⟨l.toArray⟩ c _).mono ?_
  rintro e w' ⟨rfl, rfl⟩
  rw [show Lib.indexByte (ByteArray.mk l.toArray).data.toList c = -1 from HI.out]
  go_wp2
  go_ret3
  exact ⟨rfl, 0, rfl⟩
/-- What a text is cut into at a byte. -/
def cutV (c : UInt8) (l : List UInt8) : List UInt8 × List UInt8 × Bool := match Vm.fc c l with
  | some (a, b) => (a, b, true)
  | none => (l, [], false)
theorem lcutc (c : UInt8) (l : List UInt8) (w : World) (hl : l.length ≤ 1000000) : Calls Tryz.prog 154 #[.string ⟨l.toArray⟩, .string ⟨#[c]⟩] w fun e w' =>
    e = .returned (.tuple #[.string ⟨(cutV c l).1.toArray⟩, .string ⟨(cutV c l).2.1.toArray⟩, .bool (cutV c l).2.2]) ∧ ∃ n, w' = w.drewN n := by
  rcases Vm.fc_idx c l with ⟨hi, hf⟩ | ⟨k, hk, hi, hf⟩
  · unfold cutV; rw [hf]; exact lcutc_none c l w hi
  · unfold cutV; rw [hf]; exact lcutc_some c l k w hl hk hi
theorem cutc (c : UInt8) (l : List UInt8) (w : World) (hl : l.length ≤ 1000000) : Calls Tryz.prog 117 #[.string ⟨l.toArray⟩, .string ⟨#[c]⟩] w fun e w' =>
    e = .returned (.tuple #[.string ⟨(cutV c l).1.toArray⟩, .string ⟨(cutV c l).2.1.toArray⟩, .bool (cutV c l).2.2]) ∧ Below w.heap.size w w' := by
  have cL := fun W => lcutc c l W hl
  go_enter Tryz.func117, Tryz.ntmps117
  go_wp2_with fail
  refine (cL _).mono ?_
  rintro e w' ⟨rfl, n, rfl⟩
  go_wp2
  go_ret3
  exact ⟨rfl, by first | exact below_drewN _ _ | exact (below_drewN _ _).drew⟩

end Go.Proofs.YtlldfmnoidndmaaGreatDoor
