/- The walk of take: a line read. -/
import Derived.Test.YtfoangkkagijcaaGreatDoorQe
namespace Go.Proofs.YtfoangkkagijcaaGreatDoor.Stz
open Go.RowKit Go.Shelf Go.Sort

/-- The first line of a field: its name and its value. -/
def bg (cu : List Sm.F) (l : List UInt8) : Option (List UInt8 × List UInt8) :=
  if Lib.indexByte l 58 < 0 then none else
  let n := l.take (Lib.indexByte l 58).toNat
  let v := Lib.trimS (l.drop ((Lib.indexByte l 58).toNat + 1)) [32, 9]
  if (Sm.nok n && Sm.lok v && !(cu.length == 40) && (Sm.fnd cu n).isNone) = true then some (n, v) else none
/-- A further line of the last field. -/
def addL (cu : List Sm.F) (u : List UInt8) : List Sm.F := match cu.getLast? with
  | none => []
  | some f => cu.dropLast ++ [(f.1, f.2 ++ [10] ++ u)]
/-- What a line makes of what has been read. -/
def step (out : List (List Sm.F)) (cu : List Sm.F) (l : List UInt8) : Option (List (List Sm.F) × List Sm.F) :=
  if l.head? = some 35 then some (out, cu) else
  if Lib.trimS l [32, 9] = [] then some (endO out cu, []) else
  if l.head?.any Sm.bl = true then (gOk cu (Lib.trimS l [32, 9])).map fun u => (out, addL cu u)
  else (bg cu l).map fun x => (out, cu ++ [x])

theorem setL_add (cur : List Sm.F) (val u : List UInt8) : setL cur (val ++ [10] ++ u) = addL (setL cur val) u := by
  rcases List.eq_nil_or_concat cur with rfl | ⟨p, f, rfl⟩
  · rfl
  · rw [List.concat_eq_append, setL_app, setL_app]; simp [addL]
theorem setL_names (cur : List Sm.F) (val : List UInt8) : (setL cur val).map (·.1) = cur.map (·.1) := by
  rcases List.eq_nil_or_concat cur with rfl | ⟨p, f, rfl⟩
  · rfl
  · rw [List.concat_eq_append, setL_app]; simp
theorem fnd_names {a b : List Sm.F} (h : a.map (·.1) = b.map (·.1)) (s : List UInt8) : Sm.fnd a s = Sm.fnd b s := by
  have e : ∀ l : List Sm.F, Sm.fnd l s = (l.map (·.1)).findIdx? fun n => Sm.small n == Sm.small s := fun l => by
    unfold Sm.fnd; rw [List.findIdx?_map]; rfl
  rw [e, e, h]
theorem setL_empty (cur : List Sm.F) (val : List UInt8) : (setL cur val).isEmpty = cur.isEmpty := by
  have := setL_length cur val
  cases hc : cur <;> cases hs : setL cur val <;> simp_all
theorem gOk_set (cur : List Sm.F) (val t : List UInt8) : gOk (setL cur val) t = gOk cur t := by
  unfold gOk; rw [setL_empty]
theorem trim_len (l : List UInt8) : (Lib.trimS l [32, 9]).length ≤ l.length := by
  rw [trimS_eq]
  exact Nat.le_trans (tl_suf _).length_le (tr_pre _).length_le
theorem gl_len {t u : List UInt8} (h : gl t = some u) : u.length ≤ t.length := by
  unfold gl at h
  split at h
  · split at h
    · cases h; simp
    · cases h
  · cases h; exact Nat.le_refl _
theorem gOk_len {cur : List Sm.F} {t u : List UInt8} (h : gOk cur t = some u) : u.length ≤ t.length := by
  unfold gOk at h
  cases hg : gl t with
  | none => rw [hg] at h; cases h
  | some x =>
    rw [hg] at h
    simp only at h
    split at h
    · cases h; exact gl_len hg
    · cases h

/-- A reader that has read so much. -/
structure Rs (B r : Nat) (out : List (List Sm.F)) (cu : List Sm.F) (m : Nat) (w0 W : World) : Prop where
  ex : ∃ C S A V vs cur val, Rd B C r S A V out vs cur val w0 W ∧ cu = setL cur val ∧ val.length ≤ m
  nm : ∀ f ∈ cu, f.1.length ≤ 100
  n : cu.length ≤ 40

theorem hp35 (x : List UInt8) (w : World) : Calls Tryz.prog 106 #[.string ⟨x.toArray⟩, .string ⟨#[35]⟩] w fun e w' => e = .returned (.bool (x.head? == some 35)) ∧ w' = w := by
  refine (Tryz.strings_HasPrefix ⟨x.toArray⟩ ⟨#[35]⟩ w).mono ?_
  rintro e w' ⟨rfl, rfl⟩
  refine ⟨ret_bool ?_, rfl⟩
  cases x with
  | nil => rfl
  | cons c t =>
    rw [Bool.eq_iff_iff]
    simp [Lib.hasPrefix]
    exact ⟨Eq.symm, Eq.symm⟩
theorem idx_bl (c : UInt8) (w : World) : Calls Tryz.prog 170 #[.string ⟨#[32, 9]⟩, .int .u8 c.toNat] w fun e w' => ∃ k : Int, e = .returned (.int .i64 k) ∧ Sm.bl c = decide (0 ≤ k) ∧ w' = w := by
  refine (Tryz.strings_IndexByte ⟨#[32, 9]⟩ c.toNat w).mono ?_
  rintro e w' ⟨rfl, rfl⟩
  refine ⟨_, rfl, ?_, rfl⟩
  have e1 : ((c.toNat : Int).toNat).toUInt8 = c := by simp
  rw [e1]
  show Sm.bl c = decide (0 ≤ Lib.indexByte [32, 9] c)
  unfold Sm.bl
  by_cases h1 : c = 32
  · subst h1; rfl
  · by_cases h2 : c = 9
    · subst h2; rfl
    · have h1' : (32 == c) = false := by rw [beq_eq_false_iff_ne]; exact Ne.symm h1
      have h2' : (9 == c) = false := by rw [beq_eq_false_iff_ne]; exact Ne.symm h2
      simp [Lib.indexByte, h1, h2, h1', h2']
end Go.Proofs.YtfoangkkagijcaaGreatDoor.Stz
