/- The walk of take: a line read. -/
import Derived.Test.YtmlmdncepgcimaaGreatDoorXq
namespace Go.Proofs.YtmlmdncepgcimaaGreatDoor.Stz
open Go.RowKit Go.Shelf Go.Sort

/-- The first line of a field: its name and its value. -/
def bg (cu : List Sm.F) (l : List UInt8) : Option (List UInt8 × List UInt8) :=
  if Lib.indexByte l 58 < 0 then none else
  let n := l.take (Lib.indexByte l 58).toNat
  let v := Lib.trimS (l.drop ((Lib.indexByte l 58).toNat + 1)) [32, 9]
  if (Sm.nok n && Sm.lok v && !(cu.length == 40) && (Sm.fnd cu n).isNone) = true then some (n, v) else none
/-- A further line of the last field. -/
def addL (cu : List Sm.F) (u : List UInt8) : List Sm.F := match cu.getLast? with
  | none => []
  | some f => cu.dropLast ++ [(f.1, f.2 ++ [10] ++ u)]
/-- What a line makes of what has been read. -/
def step (out : List (List Sm.F)) (cu : List Sm.F) (l : List UInt8) : Option (List (List Sm.F) × List Sm.F) :=
  if l.head? = some 35 then some (out, cu) else
  if Lib.trimS l [32, 9] = [] then some (endO out cu, []) else
  if l.head?.any Sm.bl = true then (gOk cu (Lib.trimS l [32, 9])).map fun u => (out, addL cu u)
  else (bg cu l).map fun x => (out, cu ++ [x])

theorem setL_add (cur : List Sm.F) (val u : List UInt8) : setL cur (val ++ [10] ++ u) = addL (setL cur val) u := by
  rcases List.eq_nil_or_concat cur with rfl | ⟨p, f, rfl⟩
  · rfl
  · rw [List.concat_eq_append, setL_app, setL_app]; simp [addL]
theorem setL_names (cur : List Sm.F) (val : List UInt8) : (setL cur val).map (·.1) = cur.map (·.1) := by
  rcases List.eq_nil_or_concat cur with rfl | ⟨p, f, rfl⟩
  · rfl
  · rw [List.concat_eq_append, setL_app]; simp
theorem fnd_names {a b : List Sm.F} (h : a.map (·.1) = b.map (·.1)) (s : List UInt8) : Sm.fnd a s = Sm.fnd b s := by
  have e : ∀ l : List Sm.F, Sm.fnd l s = (l.map (·.1)).findIdx? fun n => Sm.small n == Sm.small s := fun l => by
    unfold Sm.fnd; rw [List.findIdx?_map]; rfl
  rw [e, e, h]
theorem setL_empty (cur : List Sm.F) (val : List UInt8) : (setL cur val).isEmpty = cur.isEmpty := by
  have := setL_length cur val
  cases hc : cur <;> cases hs : setL cur val <;> simp_all
theorem gOk_set (cur : List Sm.F) (val t : List UInt8) : gOk (setL cur val) t = gOk cur t := by
  unfold gOk; rw [setL_empty]
theorem trim_len (l : List UInt8) : (Lib.trimS l [32, 9]).length ≤ l.length := by
  rw [trimS_eq]
  exact Nat.le_trans (tl_suf _).length_le (tr_pre _).length_le
theorem gl_len {t u : List UInt8} (h : gl t = some u) : u.length ≤ t.length := by
  unfold gl at h
  split at h
  · split at h
    · cases h; simp
    · cases h
  · cases h; exact Nat.le_refl _
theorem gOk_len {cur : List Sm.F} {t u : List UInt8} (h : gOk cur t = some u) : u.length ≤ t.length := by
  unfold gOk at h
  cases hg : gl t with
  | none => rw [hg] at h; cases h
  | some x =>
    rw [hg] at h
    simp only at h
    split at h
    · cases h; exact gl_len hg
    · cases h

/-- A reader that has read so much. -/
structure Rs (B r : Nat) (out : List (List Sm.F)) (cu : List Sm.F) (m : Nat) (w0 W : World) : Prop where
  ex : ∃ C S A V vs cur val, Rd B C r S A V out vs cur val w0 W ∧ cu = setL cur val ∧ val.length ≤ m
  nm : ∀ f ∈ cu, f.1.length ≤ 100
  n : cu.length ≤ 40

theorem hp35 (x : List UInt8) (w : World) : Calls Tryz.prog 106 #[.string ⟨x.toArray⟩, .string ⟨#[35]⟩] w fun e w' => e = .returned (.bool (x.head? == some 35)) ∧ w' = w := by
  refine (Tryz.strings_HasPrefix ⟨x.toArray⟩ ⟨#[35]⟩ w).mono ?_
  rintro e w' ⟨rfl, rfl⟩
  refine ⟨ret_bool ?_, rfl⟩
  cases x with
  | nil => rfl
  | cons c t =>
    rw [Bool.eq_iff_iff]
    simp [Lib.hasPrefix]
    exact ⟨Eq.symm, Eq.symm⟩
theorem idx_bl (c : UInt8) (w : World) : Calls Tryz.prog 170 #[.string ⟨#[32, 9]⟩, .int .u8 c.toNat] w fun e w' => ∃ k : Int, e = .returned (.int .i64 k) ∧ Sm.bl c = decide (0 ≤ k) ∧ w' = w := by
  refine (Tryz.strings_IndexByte ⟨#[32, 9]⟩ c.toNat w).mono ?_
  rintro e w' ⟨rfl, rfl⟩
  refine ⟨_, rfl, ?_, rfl⟩
  have e1 : ((c.toNat : Int).toNat).toUInt8 = c := by simp
  rw [e1]
  show Sm.bl c = decide (0 ≤ Lib.indexByte [32, 9] c)
  unfold Sm.bl
  by_cases h1 : c = 32
  · subst h1; rfl
  · by_cases h2 : c = 9
    · subst h2; rfl
    · have h1' : (32 == c) = false := by rw [beq_eq_false_iff_ne]; exact Ne.symm h1
      have h2' : (9 == c) = false := by rw [beq_eq_false_iff_ne]; exact Ne.symm h2
      simp [Lib.indexByte, h1, h2, h1', h2']
end Go.Proofs.YtmlmdncepgcimaaGreatDoor.Stz
namespace Go.Proofs.YtmlmdncepgcimaaGreatDoor.Stz
open Go.RowKit Go.Shelf Go.Sort

set_option maxHeartbeats 1600000 in
set_option maxRecDepth 100000 in
theorem take_hash {B C r : Nat} {S A V : Value} {out : List (List Sm.F)} {vs : List Value} {cur : List Sm.F} {val : List UInt8} {w0 W : World} (h : Rd B C r S A V out vs cur val w0 W) (l : List UInt8) (hl : l.length ≤ 1000000) (hh : l.head? = some 35) :
    Calls Tryz.prog 146 #[.pointer (some ⟨r, 0, none⟩), .string ⟨l.toArray⟩] W fun e w' => e = .returned (.bool true) ∧ Rd B C r S A V out vs cur val w0 w' := by
  have cH : ∀ W, Calls Tryz.prog 106 #[.string ⟨l.toArray⟩, .string ⟨#[35]⟩] W fun e w' => e = .returned (.bool true) ∧ w' = W := fun W => by
    have := hp35 l W; rw [hh] at this; exact this
  have HT := Lib.hid (fun W => trim_any l W hl)
  have HR := Lib.hid h
  clear h hh
  go_enter Tryz.func146, Tryz.ntmps146
  go_wp2_with fail
  refine (HT.out _).mono ?_
  rintro e w1 ⟨rfl, b1⟩
  go_wp2_with (go_at_call 106; with_reducible refine (cH _).mono ?_; rintro x w' ⟨rfl, rfl⟩)
  go_ret
  exact ⟨rfl, HR.out.on b1⟩

set_option maxHeartbeats 1600000 in
set_option maxRecDepth 100000 in
theorem take_empty {B C r : Nat} {S A V : Value} {out : List (List Sm.F)} {vs : List Value} {cur : List Sm.F} {val : List UInt8} {w0 W : World} (h : Rd B C r S A V out vs cur val w0 W) (hp : cur.length ≤ 100) (hv : val.length ≤ 1000000) (ho : out.length ≤ 1000000) (l : List UInt8) (hl : l.length ≤ 1000000) (hh : (l.head? == some 35) = false) (ht : Lib.trimS l [32, 9] = []) :
    Calls Tryz.prog 146 #[.pointer (some ⟨r, 0, none⟩), .string ⟨l.toArray⟩] W fun e w' => e = .returned (.bool true) ∧ ∃ C' S' V' vs', Rd B C' r S' (.slice none 0 0) V' (endO out (setL cur val)) vs' [] [] w0 w' := by
  have cH : ∀ W, Calls Tryz.prog 106 #[.string ⟨l.toArray⟩, .string ⟨#[35]⟩] W fun e w' => e = .returned (.bool false) ∧ w' = W := fun W => by
    have := hp35 l W; rw [hh] at this; exact this
  have cT : ∀ W, Calls Tryz.prog 141 #[.string ⟨l.toArray⟩, .string ⟨#[32, 9]⟩] W fun e w' => e = .returned (.string ⟨#[]⟩) ∧ Below W.heap.size W w' := fun W => by
    have := trim_any l W hl; rw [ht] at this; exact this
  have HT := Lib.hid cT
  have HR := Lib.hid h
  have HV := Lib.hid hv
  clear h hh ht cT hv
  go_enter Tryz.func146, Tryz.ntmps146
  go_wp2_with fail
  refine (HT.out _).mono ?_
  rintro e w1 ⟨rfl, b1⟩
  go_wp2_with (go_at_call 106; with_reducible refine (cH _).mono ?_; rintro x w' ⟨rfl, rfl⟩)
  refine (endS_any (HR.out.on b1) hp HV.out ho).mono ?_
  rintro e w2 ⟨rfl, R2⟩
  have HR2 := Lib.hid R2
  clear R2
  go_wp2
  go_ret
  exact ⟨rfl, HR2.out⟩

set_option maxHeartbeats 1600000 in
set_option maxRecDepth 100000 in
theorem take_more {B C r : Nat} {S A V : Value} {out : List (List Sm.F)} {vs : List Value} {cur : List Sm.F} {val : List UInt8} {w0 W : World} (h : Rd B C r S A V out vs cur val w0 W) (hp : cur.length ≤ 100) (hv : val.length ≤ 1000000) (c : UInt8) (l t : List UInt8) (hl : (c :: l).length ≤ 1000000) (hh : (c == 35) = false) (ht : Lib.trimS (c :: l) [32, 9] = t) (hne : t.isEmpty = false) (htl : t.length ≤ 1000000) (hb : Sm.bl c = true) :
    Calls Tryz.prog 146 #[.pointer (some ⟨r, 0, none⟩), .string ⟨(c :: l).toArray⟩] W fun e w' => e = .returned (.bool (gOk cur t).isSome) ∧
      ∀ u, (gOk cur t = some u → ∃ V', Rd B C r S A V' out vs cur (val ++ [10] ++ u) w0 w') ∧ (gOk cur t = none → Rd B C r S A V out vs cur val w0 w') := by
  have cH : ∀ W, Calls Tryz.prog 106 #[.string ⟨(c :: l).toArray⟩, .string ⟨#[35]⟩] W fun e w' => e = .returned (.bool false) ∧ w' = W := fun W => by
    have := hp35 (c :: l) W
    have e1 : ((c :: l).head? == some 35) = false := by simpa using hh
    rw [e1] at this; exact this
  have cT : ∀ W, Calls Tryz.prog 141 #[.string ⟨(c :: l).toArray⟩, .string ⟨#[32, 9]⟩] W fun e w' => e = .returned (.string ⟨t.toArray⟩) ∧ Below W.heap.size W w' := fun W => by
    have := trim_any (c :: l) W hl; rw [ht] at this; exact this
  have cI : ∀ W, Calls Tryz.prog 170 #[.string ⟨#[32, 9]⟩, .int .u8 c.toNat] W fun e w' => ∃ k : Int, e = .returned (.int .i64 k) ∧ decide (0 ≤ k) = true ∧ w' = W := fun W => by
    refine (idx_bl c W).mono ?_
    rintro e w' ⟨k, rfl, h1, h2⟩
    exact ⟨k, rfl, by rw [← h1, hb], h2⟩
  have HT := Lib.hid cT
  have HR := Lib.hid h
  have HV := Lib.hid hv
  obtain ⟨g, hg⟩ : ∃ g, g = gOk cur t := ⟨_, rfl⟩
  have HG := Lib.hid hg
  clear h hh ht cT hv hg hb
  rw [← HG.out]
  go_enter Tryz.func146, Tryz.ntmps146
  go_wp2_with fail
  refine (HT.out _).mono ?_
  rintro e w1 ⟨rfl, b1⟩
  go_wp2_with (first | (go_at_call 106; with_reducible refine (cH _).mono ?_; rintro x w' ⟨rfl, rfl⟩) | (go_at_call 170; refine (cI _).mono ?_; rintro x w' ⟨k, rfl, hk, rfl⟩))
  refine (goOn_any (HR.out.on b1) t htl HV.out hp).mono ?_
  rintro e w2 ⟨rfl, R2⟩
  have HR2 := Lib.hid R2
  clear R2
  rw [← HG.out] at HR2 ⊢
  go_wp2
  go_ret
  exact ⟨rfl, HR2.out⟩
end Go.Proofs.YtmlmdncepgcimaaGreatDoor.Stz
namespace Go.Proofs.YtmlmdncepgcimaaGreatDoor.Stz
open Go.RowKit Go.Shelf Go.Sort

theorem nm_set {cur : List Sm.F} {val : List UInt8} (h1 : (setL cur val).length ≤ 40) (h2 : ∀ f ∈ setL cur val, f.1.length ≤ 100) : Nm cur := by
  refine ⟨by rw [setL_length] at h1; omega, fun f hf => ?_⟩
  have h3 : f.1 ∈ (setL cur val).map (·.1) := by rw [setL_names]; exact List.mem_map.2 ⟨f, hf, rfl⟩
  obtain ⟨f', h4, h5⟩ := List.mem_map.1 h3
  rw [← h5]; exact h2 f' h4

theorem idx_cases (l : List UInt8) (c : UInt8) : Lib.indexByte l c = -1 ∨ ∃ k : Nat, Lib.indexByte l c = k ∧ k < l.length := by
  induction l with
  | nil => exact Or.inl rfl
  | cons b l ih =>
    unfold Lib.indexByte
    by_cases h : b = c
    · right; exact ⟨0, by simp [h], by simp⟩
    · rcases ih with ih | ⟨k, h1, h2⟩
      · left; simp [h, ih]
      · right
        refine ⟨k + 1, ?_, by simp; omega⟩
        have hk : ((k : Int) == -1) = false := by rw [beq_eq_false_iff_ne]; omega
        simp [h, h1, hk]

theorem bg_any {B C r : Nat} {S A V : Value} {out : List (List Sm.F)} {vs : List Value} {cur : List Sm.F} {val : List UInt8} {w0 W : World} (h : Rd B C r S A V out vs cur val w0 W) (hp : Nm cur) (hv : val.length ≤ 1000000) (l : List UInt8) (hl : l.length ≤ 1000000) :
    Calls Tryz.prog 195 #[.pointer (some ⟨r, 0, none⟩), .string ⟨l.toArray⟩] W fun e w' => e = .returned (.bool (bg (setL cur val) l).isSome) ∧ Below B w0 w' ∧
      ∀ x, bg (setL cur val) l = some x → ∃ A' V', Rd B C r S A' V' out vs (setL cur val ++ [(x.1, [])]) x.2 w0 w' := by
  by_cases hi : Lib.indexByte l 58 < 0
  · have hb : bg (setL cur val) l = none := by unfold bg; rw [if_pos hi]
    rw [hb]
    have hi' : Lib.indexByte l 58 = -1 := by
      rcases idx_cases l 58 with h1 | ⟨k, h1, _⟩
      · exact h1
      · omega
    refine (bg_none h l hi').mono ?_
    rintro e w' ⟨rfl, R⟩
    exact ⟨rfl, R.be, fun x hx => by cases hx⟩
  · obtain ⟨k, hk, hkl⟩ : ∃ k : Nat, Lib.indexByte l 58 = k ∧ k < l.length := by
      rcases idx_cases l 58 with h1 | ⟨k, h1, h2⟩
      · omega
      · exact ⟨k, h1, h2⟩
    have hb : bg (setL cur val) l = if (Sm.nok (l.take k) && Sm.lok (Lib.trimS (l.drop (k + 1)) [32, 9]) && !(cur.length == 40) && (Sm.fnd cur (l.take k)).isNone) = true then some (l.take k, Lib.trimS (l.drop (k + 1)) [32, 9]) else none := by
      unfold bg
      rw [if_neg hi, hk, setL_length]
      simp only [Int.toNat_natCast, fnd_names (setL_names cur val)]
    refine (bg_some h hp hv l hl k hkl hk _ _ rfl rfl (by simp; omega) (by have := trim_len (l.drop (k + 1)); simp at this; omega)).mono ?_
    rintro e w' ⟨q, rfl, hq, h1, h2⟩
    rw [← hq] at hb
    rw [hb]
    cases q with
    | false => exact ⟨rfl, (h1 rfl).be, fun x hx => by cases hx⟩
    | true => exact ⟨rfl, by obtain ⟨_, _, R⟩ := h2 rfl; exact R.be, fun x hx => by cases hx; exact h2 rfl⟩

set_option maxHeartbeats 1600000 in
set_option maxRecDepth 100000 in
theorem take_new {B C r : Nat} {S A V : Value} {out : List (List Sm.F)} {vs : List Value} {cur : List Sm.F} {val : List UInt8} {w0 W : World} (h : Rd B C r S A V out vs cur val w0 W) (hp : Nm cur) (hv : val.length ≤ 1000000) (c : UInt8) (l t : List UInt8) (hl : (c :: l).length ≤ 1000000) (hh : (c == 35) = false) (ht : Lib.trimS (c :: l) [32, 9] = t) (hne : t.isEmpty = false) (hb : Sm.bl c = false) :
    Calls Tryz.prog 146 #[.pointer (some ⟨r, 0, none⟩), .string ⟨(c :: l).toArray⟩] W fun e w' => e = .returned (.bool (bg (setL cur val) (c :: l)).isSome) ∧ Below B w0 w' ∧
      ∀ x, bg (setL cur val) (c :: l) = some x → ∃ A' V', Rd B C r S A' V' out vs (setL cur val ++ [(x.1, [])]) x.2 w0 w' := by
  have cH : ∀ W, Calls Tryz.prog 106 #[.string ⟨(c :: l).toArray⟩, .string ⟨#[35]⟩] W fun e w' => e = .returned (.bool false) ∧ w' = W := fun W => by
    have := hp35 (c :: l) W
    have e1 : ((c :: l).head? == some 35) = false := by simpa using hh
    rw [e1] at this; exact this
  have cT : ∀ W, Calls Tryz.prog 141 #[.string ⟨(c :: l).toArray⟩, .string ⟨#[32, 9]⟩] W fun e w' => e = .returned (.string ⟨t.toArray⟩) ∧ Below W.heap.size W w' := fun W => by
    have := trim_any (c :: l) W hl; rw [ht] at this; exact this
  have cI : ∀ W, Calls Tryz.prog 170 #[.string ⟨#[32, 9]⟩, .int .u8 c.toNat] W fun e w' => ∃ k : Int, e = .returned (.int .i64 k) ∧ decide (0 ≤ k) = false ∧ w' = W := fun W => by
    refine (idx_bl c W).mono ?_
    rintro e w' ⟨k, rfl, h1, h2⟩
    exact ⟨k, rfl, by rw [← h1, hb], h2⟩
  have HT := Lib.hid cT
  have HR := Lib.hid h
  have HV := Lib.hid hv
  have HL := Lib.hid hl
  obtain ⟨g, hg⟩ : ∃ g, g = bg (setL cur val) (c :: l) := ⟨_, rfl⟩
  have HG := Lib.hid hg
  clear h hh ht cT hv hg hb
  rw [← HG.out]
  go_enter Tryz.func146, Tryz.ntmps146
  go_wp2_with fail
  refine (HT.out _).mono ?_
  rintro e w1 ⟨rfl, b1⟩
  go_wp2_with (first | (go_at_call 106; with_reducible refine (cH _).mono ?_; rintro x w' ⟨rfl, rfl⟩) | (go_at_call 170; refine (cI _).mono ?_; rintro x w' ⟨k, rfl, hk, rfl⟩))
  refine (bg_any (HR.out.on b1) hp HV.out (c :: l) HL.out).mono ?_
  rintro e w2 ⟨rfl, R2⟩
  have HR2 := Lib.hid R2
  clear R2
  rw [← HG.out] at HR2 ⊢
  go_wp2
  go_ret
  exact ⟨rfl, HR2.out⟩

theorem mem_addL {cu : List Sm.F} {u : List UInt8} {f : Sm.F} (h : f ∈ addL cu u) : ∃ g ∈ cu, g.1 = f.1 := by
  unfold addL at h
  rcases List.eq_nil_or_concat cu with rfl | ⟨p, g, rfl⟩
  · simp at h
  · simp at h
    rcases h with h | rfl
    · exact ⟨f, by simp [h], rfl⟩
    · exact ⟨g, by simp, rfl⟩
theorem addL_length (cu : List Sm.F) (u : List UInt8) : (addL cu u).length = cu.length := by
  unfold addL
  rcases List.eq_nil_or_concat cu with rfl | ⟨p, g, rfl⟩
  · rfl
  · simp
theorem bg_len {cu : List Sm.F} {l : List UInt8} {x : List UInt8 × List UInt8} (h : bg cu l = some x) : x.1.length ≤ 24 ∧ x.2.length ≤ l.length ∧ cu.length ≠ 40 := by
  unfold bg at h
  split at h
  · cases h
  · simp only at h
    split at h
    · rename_i hq
      cases h
      simp only [Bool.and_eq_true] at hq
      refine ⟨?_, ?_, by simpa using hq.1.2⟩
      · have := hq.1.1.1; unfold Sm.nok at this; simp at this; simp; omega
      · have := trim_len (l.drop ((Lib.indexByte l 58).toNat + 1)); simp only [List.length_drop] at this; show (Lib.trimS _ _).length ≤ _; omega
    · cases h

theorem take_any {B r : Nat} {out : List (List Sm.F)} {cu : List Sm.F} {m : Nat} {w0 W : World} (h : Rs B r out cu m w0 W) (l : List UInt8) (hm : m ≤ 1000000) (hl : l.length ≤ 1000000) (ho : out.length ≤ 1000000) :
    Calls Tryz.prog 146 #[.pointer (some ⟨r, 0, none⟩), .string ⟨l.toArray⟩] W fun e w' => e = .returned (.bool (step out cu l).isSome) ∧ Below B w0 w' ∧ ∀ x, step out cu l = some x → Rs B r x.1 x.2 (m + l.length + 1) w0 w' := by
  obtain ⟨⟨C, S, A, V, vs, cur, val, hr, rfl, hvm⟩, hnm, hn⟩ := h
  have hNm := nm_set hn hnm
  have hc : cur.length ≤ 100 := by have := hNm.n; omega
  have hv : val.length ≤ 1000000 := by omega
  unfold step
  by_cases h1 : l.head? = some 35
  · rw [if_pos h1]
    refine (take_hash hr l hl h1).mono ?_
    rintro e w' ⟨rfl, R⟩
    exact ⟨rfl, R.be, fun x hx => by cases hx; exact ⟨⟨C, S, A, V, vs, cur, val, R, rfl, by omega⟩, hnm, hn⟩⟩
  · rw [if_neg h1]
    have h1' : (l.head? == some 35) = false := by rw [beq_eq_false_iff_ne]; exact h1
    by_cases h2 : Lib.trimS l [32, 9] = []
    · rw [if_pos h2]
      refine (take_empty hr hc hv ho l hl h1' h2).mono ?_
      rintro e w' ⟨rfl, C', S', V', vs', R⟩
      exact ⟨rfl, R.be, fun x hx => by cases hx; exact ⟨⟨C', S', _, V', vs', [], [], R, rfl, by simp⟩, by simp, by simp⟩⟩
    · rw [if_neg h2]
      cases l with
      | nil => exact absurd rfl h2
      | cons c l =>
        have h1c : (c == 35) = false := by simpa using h1'
        have hne : (Lib.trimS (c :: l) [32, 9]).isEmpty = false := by
          cases hq : Lib.trimS (c :: l) [32, 9] with
          | nil => exact absurd hq h2
          | cons a b => rfl
        have htl := trim_len (c :: l)
        cases hb : Sm.bl c with
        | true =>
          rw [if_pos (by simpa using hb), gOk_set]
          refine (take_more hr hc hv c l _ hl h1c rfl hne (by omega) hb).mono ?_
          rintro e w' ⟨rfl, R⟩
          refine ⟨by simp, ?_, fun x hx => ?_⟩
          · cases hg : gOk cur (Lib.trimS (c :: l) [32, 9]) with
            | none => exact ((R []).2 hg).be
            | some u => obtain ⟨_, R'⟩ := (R u).1 hg; exact R'.be
          cases hg : gOk cur (Lib.trimS (c :: l) [32, 9]) with
          | none => rw [hg] at hx; cases hx
          | some u =>
            rw [hg] at hx
            cases hx
            obtain ⟨V', R'⟩ := (R u).1 hg
            have hul := gOk_len hg
            refine ⟨⟨C, S, A, V', vs, cur, _, R', (setL_add cur val u).symm, ?_⟩, ?_, ?_⟩
            · simp at hul ⊢; simp at htl; omega
            · intro f hf
              obtain ⟨g, hg1, hg2⟩ := mem_addL hf
              rw [← hg2]; exact hnm g hg1
            · rw [addL_length]; exact hn
        | false =>
          rw [if_neg (by simp [hb])]
          refine (take_new hr hNm hv c l _ hl h1c rfl hne hb).mono ?_
          rintro e w' ⟨rfl, be, R⟩
          refine ⟨by simp, be, fun x hx => ?_⟩
          cases hg : bg (setL cur val) (c :: l) with
          | none => rw [hg] at hx; cases hx
          | some u =>
            rw [hg] at hx
            cases hx
            obtain ⟨A', V', R'⟩ := R u hg
            obtain ⟨k1, k2, k3⟩ := bg_len hg
            refine ⟨⟨C, S, A', V', vs, _, _, R', (setL_app _ (u.1, []) u.2).symm, ?_⟩, ?_, ?_⟩
            · omega
            · intro f hf
              rcases List.mem_append.1 hf with hf | hf
              · exact hnm f hf
              · simp at hf; subst hf; omega
            · simp; omega
end Go.Proofs.YtmlmdncepgcimaaGreatDoor.Stz
namespace Go.Proofs.YtmlmdncepgcimaaGreatDoor.Stz
open Go.RowKit Go.Shelf Go.Sort

/-- Lines read, one by one, from line i on: the stanzas, or the line that is none. -/
def run : Nat → List (List Sm.F) → List Sm.F → List (List UInt8) → Except Nat (List (List Sm.F))
  | _, out, cu, [] => .ok (endO out cu)
  | i, out, cu, x :: xs => match step out cu x with
    | none => .error i
    | some o => run (i + 1) o.1 o.2 xs

theorem cut_line2 (l : List UInt8) : ∃ x y b, CutIs l x y b ∧ (b = true → x.length + 1 + y.length ≤ l.length) := by
  rcases Sm.fc_spl l with ⟨h1, h2⟩ | ⟨k, hk, h1, h2⟩
  · exact ⟨l, [], false, ⟨Nat.le_refl _, by simp, by simpa using h2, fun _ => rfl, fun w _ => cut_none 10 l w h1⟩, by simp⟩
  · exact ⟨l.take k, l.drop (k + 1), true, ⟨by simp; omega, by simp; omega, by simpa using h2, by simp, fun w hl => cut_some 10 l k w hl hk h1⟩, fun _ => by simp; omega⟩

theorem endO_len (out : List (List Sm.F)) (cu : List Sm.F) : (endO out cu).length ≤ out.length + 1 := by
  unfold endO; split <;> simp
theorem step_len {out : List (List Sm.F)} {cu : List Sm.F} {l : List UInt8} {x : List (List Sm.F) × List Sm.F} (h : step out cu l = some x) : x.1.length ≤ out.length + 1 := by
  unfold step at h
  split at h
  · cases h; exact Nat.le_succ _
  · split at h
    · cases h; exact endO_len _ _
    · split at h
      · cases hg : gOk cu (Lib.trimS l [32, 9]) with
        | none => rw [hg] at h; cases h
        | some u => rw [hg] at h; cases h; exact Nat.le_succ _
      · cases hg : bg cu l with
        | none => rw [hg] at h; cases h
        | some u => rw [hg] at h; cases h; exact Nat.le_succ _

/-- What is left to read, as the loop has it. -/
def rest (k : Nat) (q : Bool) (out : List (List Sm.F)) (cu : List Sm.F) (y : List UInt8) : Except Nat (List (List Sm.F)) := if q = true then run k out cu (Sm.spl y) else .ok (endO out cu)
theorem rest_none {k : Nat} {out : List (List Sm.F)} {cu : List Sm.F} {l x y : List UInt8} {b : Bool} (C : CutIs l x y b) (h : step out cu x = none) : rest k true out cu l = .error k := by
  unfold rest; rw [if_pos rfl, C.spl]
  cases b <;> simp [run, h]
theorem rest_some {k : Nat} {out : List (List Sm.F)} {cu : List Sm.F} {l x y : List UInt8} {b : Bool} {o : List (List Sm.F) × List Sm.F} (C : CutIs l x y b) (h : step out cu x = some o) : rest k true out cu l = rest (k + 1) b o.1 o.2 y := by
  unfold rest; rw [if_pos rfl, C.spl]
  cases b <;> simp [run, h]

theorem Rs.on {B r m : Nat} {out : List (List Sm.F)} {cu : List Sm.F} {w0 W W' : World} (h : Rs B r out cu m w0 W) (k : Below W.heap.size W W') : Rs B r out cu m w0 W' := by
  obtain ⟨⟨C, S, A, V, vs, cur, val, hr, h1, h2⟩, h3, h4⟩ := h
  exact ⟨⟨C, S, A, V, vs, cur, val, hr.on k, h1, h2⟩, h3, h4⟩

/-- What Parse hands back: rows of fields, or a place. -/
def Out (w : World) (res : Except Nat (List (List Sm.F))) (e : Ending) (w' : World) : Prop := match res with
  | .error i => ∃ p, e = .returned (.tuple #[.slice none 0 0, .iface 171 (.pointer (some ⟨p, 0, none⟩))]) ∧ w'.heap[p]? = some (.cells #[.int .i64 3, .int .i64 i] 172 (0, 0)) ∧ Below w.heap.size w w'
  | .ok o => ∃ S vs, e = .returned (.tuple #[S, .nilIface]) ∧ w'.ownsRow w.heap.size 31 1 S vs.length vs ∧ vs.length = o.length ∧ (∀ i (hi : i < vs.length) (hj : i < o.length), w'.ownsRow w.heap.size 52 2 vs[i] o[i].length (fcl o[i])) ∧ Below w.heap.size w w'

set_option maxHeartbeats 3200000 in
set_option maxRecDepth 100000 in
theorem parse_any (l : List UInt8) (w : World) (hl : l.length ≤ 20000) : Calls Tryz.prog 91 #[.string ⟨l.toArray⟩] w fun e w' => Out w (run 0 [] [] (Sm.spl l)) e w' := by
  obtain ⟨res, hres⟩ : ∃ r, r = run 0 [] [] (Sm.spl l) := ⟨_, rfl⟩
  have HB : Hid (res = rest 0 true [] [] l) := hres
  rw [← hres]
  clear hres
  have R0 : Rs w.heap.size w.heap.size [] [] 0 w (w.alloc (.cells #[.slice none 0 0, .slice none 0 0, .slice none 0 0] 170)) :=
    ⟨⟨w.heap.size, _, _, _, [], [], [], ⟨new_block0 _ _, Nat.le_refl _, ⟨rfl, Or.inl ⟨rfl, rfl⟩⟩, ⟨rfl, Or.inl ⟨rfl, rfl⟩⟩, ⟨rfl, Or.inl ⟨rfl, rfl⟩⟩, Nat.le_refl _, by show w.heap.size ≤ (w.heap.push _).size; rw [Array.size_push]; exact Nat.le_succ _, (Below.refl _ _).alloc (Nat.le_refl _) _, rfl, fun i hi _ => by simp at hi⟩, rfl, by simp⟩, by simp, by simp⟩
  have HR0 := Lib.hid R0
  clear R0
  go_enter Tryz.func91, Tryz.ntmps91
  go_wp2
  go_loopw [0, 5, 6] (fun v i m W => ∃ (y : List UInt8) (k : Nat) (q : Bool) (out : List (List Sm.F)) (cu : List Sm.F) (mm : Nat), v = .string ⟨y.toArray⟩ ∧ i = .int .i64 k ∧ m = .bool q ∧ Hid ((q = true → k + y.length ≤ l.length ∧ mm + y.length ≤ l.length) ∧ mm ≤ l.length + 1 ∧ out.length ≤ k) ∧ k ≤ l.length + 1 ∧ y.length ≤ l.length ∧ Hid (Rs w.heap.size w.heap.size out cu mm w W) ∧ Hid (res = rest k q out cu y)) (fun v i m _ => match m with | .bool true => strLen v + 1 | _ => 0)
  case atStart => exact ⟨l, 0, true, [], [], 0, rfl, rfl, rfl, ⟨fun _ => by omega, by omega, by simp⟩, by omega, Nat.le_refl _, HR0, HB⟩
  case round =>
    obtain ⟨y, k, q, out, cu, mm, rfl, rfl, rfl, h1, h2, h3, HR, HK⟩ := hrel
    cases q with
    | false =>
      have HE : Hid (res = .ok (endO out cu)) := HK
      have hcu := HR.out.n
      obtain ⟨C, S, A, V, vs, cur, val, hr, hcu0, hvm⟩ := HR.out.ex
      have hcl : cur.length ≤ 100 := by rw [hcu0, setL_length] at hcu; omega
      have hvl : val.length ≤ 1000000 := by have := h1.out.2.1; omega
      have hol : out.length ≤ 1000000 := by have := h1.out.2.2; omega
      have HD := Lib.hid hr
      have HU := Lib.hid hcu0
      clear hr hcu0 hvm HR HK h1
      go_wp2_with fail
      refine (endS_any HD.out hcl hvl hol).mono ?_
      rintro e w2 ⟨rfl, C', S', V', vs', R2⟩
      have d0 := R2.c0
      have HR2 := Lib.hid R2
      clear R2 HD
      go_wp2
      go_ret2
      rw [HE.out]
      refine ⟨S', vs', rfl, HR2.out.hS, ?_, ?_, HR2.out.be⟩
      · rw [HR2.out.ol, HU.out]
      · intro i hi hj
        have := (HR2.out.ov i hi (by rw [← HU.out]; exact hj)).1
        simpa [HU.out] using this
    | true =>
      obtain ⟨x, z, b', C, hxz⟩ := cut_line2 y
      obtain ⟨hkb, hmb⟩ := h1.out.1 rfl
      have hxl := C.len
      have hcc := fun W => C.call W (by omega)
      have HC := Lib.hid hcc
      have hol : out.length ≤ 1000000 := by have := h1.out.2.2; omega
      have ct := fun W (h : Rs w.heap.size w.heap.size out cu mm w W) => take_any h x (by omega) (by omega) hol
      cases hst : step out cu x with
      | none =>
        rw [hst] at ct
        have HT := Lib.hid ct
        have HE : Hid (res = .error k) := by show _ = _; rw [HK.out, rest_none C hst]
        clear ct hcc C hst HK h1 hxz
        go_wp2_with fail
        refine (HC.out _).mono ?_
        rintro e w1 ⟨rfl, b1⟩
        have HR1 := Lib.hid (HR.out.on b1)
        clear HR
        go_wp2_with fail
        refine (HT.out _ HR1.out).mono ?_
        rintro e w2 ⟨rfl, b2, -⟩
        go_wp2
        go_ret2
        rw [HE.out]
        exact ⟨w2.heap.size, rfl, new_block0 _ _, b2.alloc b2.size _⟩
      | some o =>
        rw [hst] at ct
        have hsl := step_len hst
        have HT := Lib.hid ct
        have HE : Hid (res = rest (k + 1) b' o.1 o.2 z) := by show _ = _; rw [HK.out, rest_some C hst]
        have hin : Hid (((b' = true → k + 1 + z.length ≤ l.length ∧ mm + x.length + 1 + z.length ≤ l.length) ∧ mm + x.length + 1 ≤ l.length + 1 ∧ o.1.length ≤ k + 1) ∧ k + 1 ≤ l.length + 1 ∧ z.length ≤ l.length) := by
          have := h1.out.2.2
          refine ⟨⟨fun e => ?_, by omega, by omega⟩, by omega, ?_⟩
          · have := hxz e; omega
          · cases hb' : b' with
            | true => have := hxz hb'; omega
            | false => rw [C.nil hb']; simp
        have hme : Hid ((match Value.bool b' with | .bool true => z.length + 1 | _ => 0) < y.length + 1) := by
          cases hb' : b' with
          | true => have := C.less hb'; show z.length + 1 < y.length + 1; omega
          | false => show 0 < y.length + 1; omega
        clear ct hcc C hst HK h1 hxz hsl
        go_wp2_with fail
        refine (HC.out _).mono ?_
        rintro e w1 ⟨rfl, b1⟩
        have HR1 := Lib.hid (HR.out.on b1)
        clear HR
        go_wp2_with fail
        refine (HT.out _ HR1.out).mono ?_
        rintro e w2 ⟨rfl, -, R2⟩
        have HR2 := Lib.hid (R2 _ rfl)
        clear R2 HR1
        go_wp2
        exact ⟨⟨z, k + 1, b', o.1, o.2, _, rfl, by go_num, rfl, hin.out.1, hin.out.2.1, hin.out.2.2, HR2, HE⟩, hme.out⟩
end Go.Proofs.YtmlmdncepgcimaaGreatDoor.Stz
namespace Go.Proofs.YtmlmdncepgcimaaGreatDoor.Stz
namespace Sm

theorem spl_no {l : List UInt8} (h : 10 ∉ l) : spl l = [l] := by
  induction l with
  | nil => rfl
  | cons c t ih =>
    have hc : ¬ c = 10 := fun e => h (by simp [e])
    unfold spl
    rw [if_neg hc, ih (fun e => h (by simp [e]))]
theorem spl_lf (t : List UInt8) : spl (10 :: t) = [] :: spl t := by rw [spl, if_pos rfl]
theorem spl_cons {c : UInt8} (hc : ¬ c = 10) {t x : List UInt8} {r : List (List UInt8)} (h : spl t = x :: r) : spl (c :: t) = (c :: x) :: r := by rw [spl, if_neg hc, h]
/-- Cut at a line feed: what stands ahead, what stands behind. -/
theorem spl_app (a b : List UInt8) : spl (a ++ 10 :: b) = spl a ++ spl b := by
  induction a with
  | nil => show spl (10 :: b) = _; rw [spl_lf]; rfl
  | cons c t ih =>
    rw [List.cons_append]
    by_cases hc : c = 10
    · subst hc
      rw [spl_lf, spl_lf, ih]; rfl
    · cases hs : spl t with
      | nil => exact absurd hs (spl_ne t)
      | cons x r =>
        rw [hs] at ih
        rw [spl_cons hc ih, spl_cons hc hs]; rfl
theorem spl_in (l : List UInt8) : ∀ x ∈ spl l, (10 : UInt8) ∉ x := by
  induction l with
  | nil => intro x hx; simp [spl] at hx; simp [hx]
  | cons c t ih =>
    intro x hx
    unfold spl at hx
    split at hx
    · rcases List.mem_cons.1 hx with rfl | hx
      · simp
      · exact ih x hx
    · rename_i hc
      split at hx
      · simp at hx; subst hx; simp; exact fun e => hc e.symm
      · rename_i y r hy
        rcases List.mem_cons.1 hx with rfl | hx
        · have := ih y (by rw [hy]; simp)
          simp only [List.mem_cons, not_or]
          exact ⟨fun e => hc e.symm, this⟩
        · exact ih x (by rw [hy]; simp [hx])
/-- The pieces, put together again. -/
theorem spl_join (l : List UInt8) : ∀ x r, spl l = x :: r → l = x ++ r.flatMap (fun y => 10 :: y) := by
  induction l with
  | nil => intro x r h; simp [spl] at h; obtain ⟨rfl, rfl⟩ := h; rfl
  | cons c t ih =>
    intro x r h
    unfold spl at h
    split at h
    · rename_i hc
      subst hc
      injection h with h1 h2
      subst h1 h2
      cases hs : spl t with
      | nil => exact absurd hs (spl_ne t)
      | cons y q => rw [List.flatMap_cons, List.nil_append, List.cons_append, ← ih y q hs]
    · cases hs : spl t with
      | nil => exact absurd hs (spl_ne t)
      | cons y q =>
        rw [hs] at h
        injection h with h1 h2
        subst h1 h2
        rw [List.cons_append, ← ih y q hs]

/-- Lines written one behind the other. -/
def lay (ls : List (List UInt8)) : List UInt8 := ls.flatMap fun x => x ++ [10]
theorem spl_lay (ls : List (List UInt8)) (h : ∀ x ∈ ls, (10 : UInt8) ∉ x) (b : List UInt8) : spl (lay ls ++ b) = ls ++ spl b := by
  induction ls with
  | nil => rfl
  | cons x r ih =>
    have e : lay (x :: r) ++ b = x ++ 10 :: (lay r ++ b) := by simp [lay]
    rw [e, spl_app, spl_no (h x (by simp)), ih (fun y hy => h y (by simp [hy]))]
    rfl
theorem lay_app (a b : List (List UInt8)) : lay (a ++ b) = lay a ++ lay b := by simp [lay]

/-- A field's lines. -/
def fl0 (n x : List UInt8) : List UInt8 := n ++ 58 :: (if x = [] then [] else 32 :: x)
def fl1 (y : List UInt8) : List UInt8 := 32 :: (if y.head? = some 46 then 46 :: y else y)
def fls (f : F) : List (List UInt8) := match spl f.2 with | [] => [] | x :: r => fl0 f.1 x :: r.map fl1
theorem ft_lay (f : F) : ft f = lay (fls f) := by
  unfold ft fls vt
  cases hs : spl f.2 with
  | nil => exact absurd hs (spl_ne f.2)
  | cons x r =>
    have e1 : lay (r.map fl1) = r.flatMap ln := by
      unfold lay
      rw [List.flatMap_map]
      congr 1
      funext y
      unfold fl1 ln
      split <;> simp
    show f.1 ++ 58 :: (l0 x ++ r.flatMap ln) = lay (fl0 f.1 x :: r.map fl1)
    rw [show lay (fl0 f.1 x :: r.map fl1) = fl0 f.1 x ++ [10] ++ lay (r.map fl1) from rfl, e1]
    unfold fl0 l0
    split <;> simp
theorem txt_lay (l : List F) : txt l = lay (l.flatMap fls) := by
  induction l with
  | nil => rfl
  | cons f r ih =>
    have e : txt (f :: r) = ft f ++ txt r := by simp [txt]
    rw [e, List.flatMap_cons, lay_app, ft_lay, ih]

theorem cok_10 {l : List UInt8} (h : l.all cok = true) : (10 : UInt8) ∉ l := fun hm => by
  have := List.all_eq_true.1 h 10 hm
  exact absurd this (by decide)
theorem lok_10 {l : List UInt8} (h : lok l = true) : (10 : UInt8) ∉ l := by
  unfold lok at h; rw [Bool.and_eq_true] at h; exact cok_10 h.1
theorem nb_10 {l : List UInt8} (h : l.all nb = true) : (10 : UInt8) ∉ l := fun hm => by
  have := List.all_eq_true.1 h 10 hm
  exact absurd this (by decide)
theorem nb_58 {l : List UInt8} (h : l.all nb = true) : (58 : UInt8) ∉ l := fun hm => by
  have := List.all_eq_true.1 h 58 hm
  exact absurd this (by decide)
theorem fls_10 {f : F} (h : nok f.1 = true) : ∀ x ∈ fls f, (10 : UInt8) ∉ x := by
  have h1 : f.1.all nb = true := by unfold nok at h; rw [Bool.and_eq_true] at h; exact h.2
  have h2 := nb_10 h1
  intro x hx
  unfold fls at hx
  cases hs : spl f.2 with
  | nil => exact absurd hs (spl_ne f.2)
  | cons y r =>
    rw [hs] at hx
    have h3 := spl_in f.2
    rw [hs] at h3
    rcases List.mem_cons.1 hx with rfl | hx
    · have := h3 y (by simp)
      unfold fl0
      split <;> simp [h2, this]
    · obtain ⟨z, hz, rfl⟩ := List.mem_map.1 hx
      have := h3 z (by simp [hz])
      unfold fl1
      split <;> simp [this]
end Sm
end Go.Proofs.YtmlmdncepgcimaaGreatDoor.Stz
namespace Go.Proofs.YtmlmdncepgcimaaGreatDoor.Stz
open Sm

theorem tl_app_no {a : List UInt8} {c : UInt8} (h : Sm.bl c = false) : Sm.tl (a ++ [c]) = Sm.tl a ++ [c] := by
  induction a with
  | nil => show Sm.tl [c] = [c]; exact tl_cons_no h
  | cons x a ih =>
    cases hx : Sm.bl x with
    | true => rw [List.cons_append, tl_cons_bl hx, tl_cons_bl hx, ih]
    | false => rw [List.cons_append, tl_cons_no hx, tl_cons_no hx]; rfl
theorem tl_app_bl {a : List UInt8} {c : UInt8} (h : Sm.bl c = true) : Sm.tl (a ++ [c]) = Sm.tl a ++ (if Sm.tl a = [] then [] else [c]) := by
  induction a with
  | nil => show Sm.tl [c] = [] ++ _; rw [tl_cons_bl h]; rfl
  | cons x a ih =>
    cases hx : Sm.bl x with
    | true => rw [List.cons_append, tl_cons_bl hx, tl_cons_bl hx, ih]
    | false => rw [List.cons_append, tl_cons_no hx, tl_cons_no hx]; simp
theorem trim_comm (l : List UInt8) : Sm.tl (Sm.tr l) = Sm.tr (Sm.tl l) := by
  generalize hn : l.length = n
  induction n generalizing l with
  | zero => rw [List.length_eq_zero_iff.1 hn]; rfl
  | succ n ih =>
    rcases List.eq_nil_or_concat l with rfl | ⟨p, c, rfl⟩
    · rfl
    · rw [List.concat_eq_append] at *
      have hp : p.length = n := by simpa using hn
      cases hc : Sm.bl c with
      | true =>
        rw [tr_app_bl hc, ih p hp, tl_app_bl hc]
        split
        · simp
        · rw [tr_app_bl hc]
      | false => rw [tr_app_no hc, tl_app_no hc, tr_app_no hc]
theorem trims (l : List UInt8) : Lib.trimS l [32, 9] = Sm.tr (Sm.tl l) := by rw [trimS_eq, trim_comm]

theorem lok_trim {x : List UInt8} (h : lok x = true) : tl x = x ∧ tr x = x := by
  unfold lok at h; rw [Bool.and_eq_true] at h
  exact (trim_l x).1 (by simpa using h.2)
theorem trims_lok {x : List UInt8} (h : lok x = true) : Lib.trimS x [32, 9] = x := by
  rw [trims, (lok_trim h).1, (lok_trim h).2]
theorem trims_bl {x : List UInt8} (h : lok x = true) : Lib.trimS (32 :: x) [32, 9] = x := by
  rw [trims, tl_cons_bl (by decide), (lok_trim h).1, (lok_trim h).2]
theorem tr_nil {l : List UInt8} (h : tr l = []) : ∀ c ∈ l, bl c = true := by
  unfold tr at h
  have h1 : l.reverse.dropWhile bl = [] := by simpa using h
  intro c hc
  by_cases hb : bl c = true
  · exact hb
  · exfalso
    have : ∀ q : List UInt8, c ∈ q → q.dropWhile bl ≠ [] := by
      intro q
      induction q with
      | nil => intro h; cases h
      | cons d q ih =>
        intro hm
        rw [List.dropWhile_cons]
        split
        · rcases List.mem_cons.1 hm with rfl | hm
          · contradiction
          · exact ih hm
        · simp
    exact this _ (by simpa using hc) h1
theorem trims_ne {c : UInt8} {t : List UInt8} (h : bl c = false) : ¬ Lib.trimS (c :: t) [32, 9] = [] := by
  rw [trims, tl_cons_no h]
  intro e
  have := tr_nil e c (by simp)
  rw [h] at this; cases this

theorem idx_name {n : List UInt8} (h : (58 : UInt8) ∉ n) (t : List UInt8) : Lib.indexByte (n ++ 58 :: t) 58 = n.length := by
  induction n with
  | nil => simp [Lib.indexByte]
  | cons c n ih =>
    have hc : ¬ c = 58 := fun e => h (by simp [e])
    have h2 := ih (fun e => h (by simp [e]))
    rw [List.cons_append]
    unfold Lib.indexByte
    have hk : ((n.length : Int) == -1) = false := by rw [beq_eq_false_iff_ne]; omega
    simp [hc, h2, hk]

/-- A name, its parts. -/
theorem nok_parts {n : List UInt8} (h : nok n = true) : n.all nb = true ∧ ∃ c t, n = c :: t ∧ bl c = false ∧ ¬ c = 35 := by
  unfold nok at h
  rw [Bool.and_eq_true, Bool.and_eq_true] at h
  refine ⟨h.2, ?_⟩
  cases n with
  | nil => exact absurd h.1.1 (by simp [hok])
  | cons c t =>
    refine ⟨c, t, rfl, ?_, ?_⟩
    · have h1 := List.all_eq_true.1 h.2 c (by simp)
      unfold nb at h1
      simp only [Bool.and_eq_true, decide_eq_true_eq] at h1
      unfold bl
      rw [Bool.or_eq_false_iff, beq_eq_false_iff_ne, beq_eq_false_iff_ne]
      exact ⟨fun e => by subst e; exact absurd h1.1.1 (by decide), fun e => by subst e; exact absurd h1.1.1 (by decide)⟩
    · have h1 := h.1.1
      simp [hok] at h1
      exact h1.1

/-- The first line of a field. -/
theorem step_first {out : List (List F)} {cu : List F} {n x : List UInt8} (hn : nok n = true) (hx : lok x = true) (hl : cu.length < 40) (hf : fnd cu n = none) :
    step out cu (fl0 n x) = some (out, cu ++ [(n, x)]) := by
  obtain ⟨ha, c, t, rfl, hb, hc⟩ := nok_parts hn
  unfold step
  have e : fl0 (c :: t) x = c :: (t ++ 58 :: (if x = [] then [] else 32 :: x)) := rfl
  rw [e, if_neg (by simpa using hc), if_neg (trims_ne hb), if_neg (by simp [hb]), ← e]
  have hi : Lib.indexByte (fl0 (c :: t) x) 58 = (c :: t).length := idx_name (nb_58 ha) _
  have ht : (fl0 (c :: t) x).take (c :: t).length = c :: t := by unfold fl0; rw [List.take_left]
  have hd : Lib.trimS ((fl0 (c :: t) x).drop ((c :: t).length + 1)) [32, 9] = x := by
    have : (fl0 (c :: t) x).drop ((c :: t).length + 1) = if x = [] then [] else 32 :: x := by
      unfold fl0; rw [← List.drop_drop, List.drop_left]; rfl
    rw [this]
    split
    · rename_i h0; rw [h0]; rfl
    · exact trims_bl hx
  have hg : bg cu (fl0 (c :: t) x) = some (c :: t, x) := by
    unfold bg
    rw [if_neg (by rw [hi]; omega), hi]
    simp only [Int.toNat_natCast]
    rw [ht, hd, if_pos]
    simp only [hn, hx, hf, Bool.true_and, Option.isNone_none, Bool.and_true, Bool.not_eq_true', beq_eq_false_iff_ne]
    omega
  rw [hg]
  rfl

theorem lok_dot {y : List UInt8} (h : lok y = true) (hy : ¬ y = []) : lok (46 :: y) = true := by
  have h1 := lok_trim h
  unfold lok at h ⊢
  rw [Bool.and_eq_true] at h ⊢
  refine ⟨by rw [List.all_cons, h.1]; decide, ?_⟩
  rw [tl_cons_no (by decide), beq_iff_eq]
  have h2 := h1.2
  rcases List.eq_nil_or_concat y with rfl | ⟨p, c, rfl⟩
  · exact absurd rfl hy
  · rw [List.concat_eq_append] at h2 ⊢
    cases hc : bl c with
    | true =>
      rw [tr_app_bl hc] at h2
      have := (tr_pre p).length_le
      rw [h2] at this
      simp at this
      omega
    | false => rw [← List.cons_append, tr_app_no hc]

/-- A further line. -/
theorem step_more {out : List (List F)} {cu : List F} {y : List UInt8} (hy : lok y = true) (h0 : ¬ y = []) (hc : ¬ cu = []) :
    step out cu (fl1 y) = some (out, addL cu y) := by
  have hce : cu.isEmpty = false := by cases cu <;> simp_all
  have hk : ∀ z, lok z = true → ¬ z = [] → gl z = some y → step out cu (32 :: z) = some (out, addL cu y) := fun z h1 h2 h3 => by
    unfold step
    rw [if_neg (by simp), trims_bl h1, if_neg h2, if_pos (by simp [bl])]
    have hg : gOk cu z = some y := by unfold gOk; rw [h3]; simp [hce, hy]
    rw [hg]; rfl
  unfold fl1
  split
  · rename_i h46
    exact hk _ (lok_dot hy h0) (by simp) (by unfold gl; rw [if_pos (by simp)]; simp [h46])
  · rename_i h46
    exact hk _ hy h0 (by unfold gl; rw [if_neg h46])

theorem addL_last (p : List F) (n v u : List UInt8) : addL (p ++ [(n, v)]) u = p ++ [(n, v ++ [10] ++ u)] := by simp [addL]

/-- Further lines, all of them. -/
theorem run_more (r : List (List UInt8)) : ∀ (i : Nat) (out : List (List F)) (p : List F) (n v : List UInt8) (rest : List (List UInt8)), mok r = true →
    ∃ j, run i out (p ++ [(n, v)]) (r.map fl1 ++ rest) = run j out (p ++ [(n, v ++ r.flatMap (fun y => 10 :: y))]) rest := by
  induction r with
  | nil => intro i out p n v rest _; exact ⟨i, by simp⟩
  | cons y r ih =>
    intro i out p n v rest hm
    unfold mok at hm
    rw [List.all_cons, Bool.and_eq_true, Bool.and_eq_true] at hm
    have hs : step out (p ++ [(n, v)]) (fl1 y) = some (out, addL (p ++ [(n, v)]) y) := step_more hm.1.2 (by have := hm.1.1; simpa using this) (by simp)
    rw [addL_last] at hs
    obtain ⟨j, hj⟩ := ih (i + 1) out p n (v ++ [10] ++ y) rest hm.2
    refine ⟨j, ?_⟩
    rw [List.map_cons, List.cons_append]
    show run i out (p ++ [(n, v)]) (fl1 y :: (r.map fl1 ++ rest)) = _
    simp only [run, hs]
    rw [hj]
    simp

/-- A field's lines. -/
theorem run_field (f : F) (i : Nat) (out : List (List F)) (cu : List F) (rest : List (List UInt8)) (hl : cu.length < 40) (hf : fok cu f = true) :
    ∃ j, run i out cu (fls f ++ rest) = run j out (cu ++ [f]) rest := by
  unfold fok at hf
  rw [Bool.and_eq_true, Bool.and_eq_true] at hf
  obtain ⟨⟨h1, h2⟩, h3⟩ := hf
  unfold vok at h2
  unfold fls
  cases hs : spl f.2 with
  | nil => exact absurd hs (spl_ne f.2)
  | cons x r =>
    rw [hs] at h2
    simp only [Bool.and_eq_true] at h2
    have hst : step out cu (fl0 f.1 x) = some (out, cu ++ [(f.1, x)]) := step_first h1 h2.1 hl (by simpa using h3)
    obtain ⟨j, hj⟩ := run_more r (i + 1) out cu f.1 x rest h2.2
    refine ⟨j, ?_⟩
    show run i out cu (fl0 f.1 x :: (r.map fl1 ++ rest)) = _
    simp only [run, hst]
    rw [hj, ← spl_join f.2 x r hs]

/-- Fields, one behind the other. -/
theorem run_fields (q : List F) : ∀ (i : Nat) (out : List (List F)) (p : List F) (rest : List (List UInt8)), (p ++ q).length ≤ 40 → (∀ k (hk : k < q.length), fok (p ++ q.take k) q[k] = true) →
    ∃ j, run i out p (q.flatMap fls ++ rest) = run j out (p ++ q) rest := by
  induction q with
  | nil => intro i out p rest _ _; exact ⟨i, by simp⟩
  | cons f q ih =>
    intro i out p rest hl hf
    have h0 := hf 0 (by simp)
    simp only [List.take_zero, List.append_nil, List.getElem_cons_zero] at h0
    simp only [List.length_append, List.length_cons] at hl
    obtain ⟨j, hj⟩ := run_field f i out p (q.flatMap fls ++ rest) (by omega) h0
    obtain ⟨j2, hj2⟩ := ih j out (p ++ [f]) rest (by simp; omega) (fun k hk => by
      have := hf (k + 1) (by simp; omega)
      simpa using this)
    refine ⟨j2, ?_⟩
    rw [List.flatMap_cons, List.append_assoc, hj, hj2]
    simp

/-- A stanza that may be: its fields. -/
theorem rgt_parts {l : List F} (h : rgt l = true) : ¬ l = [] ∧ l.length ≤ 40 ∧ ∀ k (hk : k < l.length), fok (l.take k) l[k] = true := by
  unfold rgt at h
  simp only [Bool.and_eq_true, decide_eq_true_eq] at h
  refine ⟨fun e => by rw [e] at h; simp at h, h.1.1.2, fun k hk => ?_⟩
  have h1 := h.1.2
  cases hf : fok (l.take k) l[k] with
  | true => rfl
  | false => rw [foks_no k hk hf] at h1; cases h1
theorem rgt_10 {l : List F} (h : rgt l = true) : ∀ x ∈ l.flatMap fls, (10 : UInt8) ∉ x := by
  intro x hx
  obtain ⟨f, hf, hx⟩ := List.mem_flatMap.1 hx
  obtain ⟨k, hk, rfl⟩ := List.getElem_of_mem hf
  have := (rgt_parts h).2.2 k hk
  unfold fok at this
  simp only [Bool.and_eq_true] at this
  exact fls_10 this.1.1 x hx
theorem run_stanza {l : List F} (h : rgt l = true) (i : Nat) (out : List (List F)) (rest : List (List UInt8)) : ∃ j, run i out [] (l.flatMap fls ++ rest) = run j out l rest := by
  obtain ⟨_, h2, h3⟩ := rgt_parts h
  have := run_fields l i out [] rest (by simpa using h2) (fun k hk => by simpa using h3 k hk)
  simpa using this

theorem step_empty (out : List (List F)) (cu : List F) : step out cu [] = some (endO out cu, []) := rfl
theorem step_blank (out : List (List F)) (cu : List F) : step out cu [32] = some (endO out cu, []) := rfl

/-- What a stanza is written as is that stanza. -/
theorem run_txt {l : List F} (h : rgt l = true) : run 0 [] [] (spl (txt l)) = .ok [l] := by
  have e : spl (txt l) = l.flatMap fls ++ [[]] := by
    have := spl_lay (l.flatMap fls) (rgt_10 h) []
    rw [List.append_nil] at this
    rw [txt_lay, this]; rfl
  obtain ⟨j, hj⟩ := run_stanza h 0 [] [[]]
  rw [e, hj]
  simp only [run, step_empty]
  have hn := (rgt_parts h).1
  simp [endO, hn]

/-- The text between two stanzas: a remark, a blank, an empty line. -/
def between : List UInt8 := [35, 32, 114, 101, 109, 97, 114, 107, 58, 32, 120, 10, 32, 10, 10]
/-- Of several, with empty lines and remarks between, each. -/
theorem run_two {a b : List F} (ha : rgt a = true) (hb : rgt b = true) : run 0 [] [] (spl ([10] ++ txt a ++ between ++ txt b ++ [10])) = .ok [a, b] := by
  have e : spl ([10] ++ txt a ++ between ++ txt b ++ [10]) = [] :: (a.flatMap fls ++ ([35, 32, 114, 101, 109, 97, 114, 107, 58, 32, 120] :: [32] :: [] :: (b.flatMap fls ++ [[], []]))) := by
    have e1 : [10] ++ txt a ++ between ++ txt b ++ [10] = 10 :: (lay (a.flatMap fls) ++ (lay [[35, 32, 114, 101, 109, 97, 114, 107, 58, 32, 120], [32], []] ++ (lay (b.flatMap fls) ++ [10]))) := by
      rw [txt_lay, txt_lay]
      simp [between, lay]
    rw [e1, spl_lf, spl_lay _ (rgt_10 ha), spl_lay _ (by decide), spl_lay _ (rgt_10 hb)]
    rfl
  rw [e]
  have s1 : step ([] : List (List F)) [] [] = some ([], []) := rfl
  simp only [run, s1]
  obtain ⟨j, hj⟩ := run_stanza ha (0 + 1) [] ([35, 32, 114, 101, 109, 97, 114, 107, 58, 32, 120] :: [32] :: [] :: (b.flatMap fls ++ [[], []]))
  rw [hj]
  have s2 : step ([] : List (List F)) a [35, 32, 114, 101, 109, 97, 114, 107, 58, 32, 120] = some ([], a) := rfl
  have na := (rgt_parts ha).1
  have nb := (rgt_parts hb).1
  have s3 : step ([] : List (List F)) a [32] = some ([a], []) := by rw [step_blank]; simp [endO, na]
  have s4 : step [a] [] [] = some ([a], []) := by rw [step_empty]; simp [endO]
  simp only [run, s2, s3, s4]
  obtain ⟨j2, hj2⟩ := run_stanza hb (j + 1 + 1 + 1) [a] [[], []]
  rw [hj2]
  have s5 : step [a] b [] = some ([a, b], []) := by rw [step_empty]; simp [endO, nb]
  have s6 : step [a, b] [] [] = some ([a, b], []) := by rw [step_empty]; simp [endO]
  simp only [run, s5, s6]
  simp [endO]
end Go.Proofs.YtmlmdncepgcimaaGreatDoor.Stz
