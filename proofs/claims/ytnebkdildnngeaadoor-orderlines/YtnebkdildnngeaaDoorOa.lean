/- Mathematics of who comes ahead of whom: ways by squares, sets, one by one. -/
namespace Go.Proofs.YtnebkdildnngeaaDoor
namespace Om

/-- A table: of each one, ahead of whom it comes. -/
abbrev T := Nat → Nat → Bool
def stp (M : T) (k : Nat) : T := fun a b => M a b || (M a k && M k b)
def fw (M : T) : Nat → T
  | 0 => M
  | k + 1 => stp (fw M k) k
theorem fw_ge (M : T) : ∀ (k : Nat) {a b : Nat}, M a b = true → fw M k a b = true
  | 0, _, _, h => h
  | k + 1, _, _, h => by show (fw M k _ _ || _) = true; rw [fw_ge M k h]; rfl
theorem fw_tr (M : T) : ∀ (k c : Nat), c < k → ∀ a b, fw M k a c = true → fw M k c b = true → fw M k a b = true
  | 0, _, h, _, _ => absurd h (Nat.not_lt_zero _)
  | k + 1, c, h, a, b => by
    have ih := fw_tr M k
    intro h1 h2
    show (fw M k a b || (fw M k a k && fw M k k b)) = true
    have h1' : fw M k a c = true ∨ (fw M k a k = true ∧ fw M k k c = true) := by
      have : (fw M k a c || (fw M k a k && fw M k k c)) = true := h1
      simpa using this
    have h2' : fw M k c b = true ∨ (fw M k c k = true ∧ fw M k k b = true) := by
      have : (fw M k c b || (fw M k c k && fw M k k b)) = true := h2
      simpa using this
    by_cases hc : c = k
    · subst hc
      have e1 : fw M c a c = true := by rcases h1' with h | h; exact h; exact h.1
      have e2 : fw M c c b = true := by rcases h2' with h | h; exact h; exact h.2
      simp [e1, e2]
    · have hk : c < k := by omega
      rcases h1' with h1' | h1' <;> rcases h2' with h2' | h2'
      · simp [ih c hk a b h1' h2']
      · simp [ih c hk a k h1' h2'.1, h2'.2]
      · simp [h1'.1, ih c hk k b h1'.2 h2']
      · simp [h1'.1, h2'.2]
/-- Each to itself. -/
def dg (n : Nat) (M : T) : T := fun a b => M a b || (decide (a = b) && decide (a < n))
def cl (n : Nat) (M : T) : T := fw (dg n M) n
theorem cl_refl {n : Nat} (M : T) {a : Nat} (h : a < n) : cl n M a a = true := fw_ge _ _ (by simp [dg, h])
theorem cl_ge {n : Nat} {M : T} {a b : Nat} (h : M a b = true) : cl n M a b = true := fw_ge _ _ (by simp [dg, h])
theorem cl_tr {n : Nat} (M : T) {a b c : Nat} (hc : c < n) (h1 : cl n M a c = true) (h2 : cl n M c b = true) : cl n M a b = true := fw_tr _ n c hc a b h1 h2
/-- One step of a square, cell by cell: those ahead of (a, b) are done. -/
def sq (M : T) (k a b : Nat) : T := fun x y => if x < a ∨ (x = a ∧ y < b) then stp M k x y else M x y
theorem stp_col (M : T) (k x : Nat) : stp M k x k = M x k := by unfold stp; cases M x k <;> simp
theorem stp_row (M : T) (k y : Nat) : stp M k k y = M k y := by unfold stp; cases M k y <;> simp
theorem sq_col (M : T) (k a b x : Nat) : sq M k a b x k = M x k := by unfold sq; rw [stp_col]; split <;> rfl
theorem sq_row (M : T) (k a b y : Nat) : sq M k a b k y = M k y := by unfold sq; rw [stp_row]; split <;> rfl
theorem sq_here (M : T) (k a b : Nat) : sq M k a b a b = M a b := by unfold sq; rw [if_neg (by omega)]
theorem sq_next (M : T) (k a b : Nat) : sq M k a (b + 1) = fun x y => if x = a ∧ y = b then stp M k a b else sq M k a b x y := by
  funext x y
  unfold sq
  by_cases h : x = a ∧ y = b
  · obtain ⟨rfl, rfl⟩ := h
    rw [if_pos (by omega), if_pos ⟨rfl, rfl⟩]
  · rw [if_neg h]
    by_cases h2 : x < a ∨ (x = a ∧ y < b)
    · rw [if_pos h2, if_pos (by omega)]
    · rw [if_neg h2, if_neg (by omega)]
theorem sq_0 (M : T) (k : Nat) : sq M k 0 0 = M := by funext x y; unfold sq; rw [if_neg (by omega)]
/-- Beyond n nothing is asked. -/
def Eqn (n : Nat) (M N : T) : Prop := ∀ a b, a < n → b < n → M a b = N a b
end Om
end Go.Proofs.YtnebkdildnngeaaDoor
