/- Plain mathematics of versions: keys of parts, their order, numbers as texts. -/
import Derived.Lib.ItoaNum
import Derived.Lib.Bytealg
import Derived.Lib.LastIndexByte
namespace Go.Proofs.YtlldfmnoidndmaaGreatDoor
namespace Vm

def dg (c : UInt8) : Bool := decide (48 ≤ c.toNat) && decide (c.toNat ≤ 57)
def lr (c : UInt8) : Bool := (decide (65 ≤ c.toNat) && decide (c.toNat ≤ 90)) || (decide (97 ≤ c.toNat) && decide (c.toNat ≤ 122))
def rk (c : UInt8) : Int := if c.toNat = 126 then -1 else if lr c = true then (c.toNat : Int) else 256 + (c.toNat : Int)

def sg (n : Int) : Int := if n < 0 then -1 else if 0 < n then 1 else 0

/-- A key against noughts. -/
def zk : List Int → Int
  | [] => 0
  | x :: xs => if x < 0 then -1 else if 0 < x then 1 else zk xs

/-- Two keys, noughts behind the shorter one. -/
def ck : List Int → List Int → Int
  | [], b => - zk b
  | x :: xs, [] => zk (x :: xs)
  | x :: xs, y :: ys => if x < y then -1 else if y < x then 1 else ck xs ys

theorem zk_range (a : List Int) : zk a = -1 ∨ zk a = 0 ∨ zk a = 1 := by
  induction a with
  | nil => right; left; rfl
  | cons x xs ih => unfold zk; split; · left; rfl
                    split; · right; right; rfl
                    exact ih

theorem ck_nil_left (b : List Int) : ck [] b = - zk b := rfl
theorem ck_nil_right (a : List Int) : ck a [] = zk a := by cases a <;> rfl

theorem ck_range (a b : List Int) : ck a b = -1 ∨ ck a b = 0 ∨ ck a b = 1 := by
  induction a generalizing b with
  | nil => have := zk_range b; rw [ck_nil_left]; omega
  | cons x xs ih =>
    cases b with
    | nil => rw [ck_nil_right]; exact zk_range _
    | cons y ys => unfold ck; split; · left; rfl
                   split; · right; right; rfl
                   exact ih ys

theorem ck_step (a b : List Int) : ck a b = if a.headD 0 < b.headD 0 then -1 else if b.headD 0 < a.headD 0 then 1 else ck a.tail b.tail := by
  cases a with
  | nil =>
    cases b with
    | nil => simp [ck, zk]
    | cons y ys =>
      simp only [ck, zk, List.headD_nil, List.headD_cons, List.tail_nil, List.tail_cons]
      by_cases h1 : y < 0
      · rw [if_pos h1, if_neg (by omega), if_pos h1]; rfl
      · by_cases h2 : 0 < y
        · rw [if_neg h1, if_pos h2, if_pos h2]
        · rw [if_neg h1, if_neg h2, if_neg h2, if_neg h1]
  | cons x xs =>
    cases b with
    | nil =>
      rw [ck_nil_right]
      simp only [List.headD_nil, List.headD_cons, List.tail_nil, List.tail_cons, ck_nil_right]
      rfl
    | cons y ys => simp [ck]

theorem ck_refl (a : List Int) : ck a a = 0 := by
  induction a with
  | nil => rfl
  | cons x xs ih => simp [ck, ih]

theorem ck_anti (a b : List Int) : ck b a = - ck a b := by
  induction a generalizing b with
  | nil => rw [ck_nil_left, ck_nil_right]; omega
  | cons x xs ih =>
    cases b with
    | nil => rw [ck_nil_left, ck_nil_right]
    | cons y ys =>
      unfold ck
      by_cases h1 : x < y
      · rw [if_neg (by omega), if_pos h1, if_pos h1]; rfl
      · by_cases h2 : y < x
        · rw [if_pos h2, if_neg h1, if_pos h2]
        · rw [if_neg h2, if_neg h1, if_neg h1, if_neg h2]; exact ih ys

theorem ck_trans_n (n : Nat) : ∀ (a b c : List Int), a.length ≤ n → b.length ≤ n → c.length ≤ n →
    (ck a b = ck b c → ck a c = ck a b) ∧ (ck a b = 0 → ck a c = ck b c) ∧ (ck b c = 0 → ck a c = ck a b) := by
  induction n with
  | zero =>
    intro a b c ha hb hc
    have ha' : a = [] := List.length_eq_zero_iff.1 (by omega)
    have hb' : b = [] := List.length_eq_zero_iff.1 (by omega)
    have hc' : c = [] := List.length_eq_zero_iff.1 (by omega)
    subst ha' hb' hc'
    simp [ck, zk]
  | succ n ih =>
    intro a b c ha hb hc
    have := ih a.tail b.tail c.tail (by simp; omega) (by simp; omega) (by simp; omega)
    rw [ck_step a b, ck_step b c, ck_step a c]
    have r1 := ck_range a.tail b.tail
    have r2 := ck_range b.tail c.tail
    have r3 := ck_range a.tail c.tail
    generalize a.headD 0 = x at *
    generalize b.headD 0 = y at *
    generalize c.headD 0 = z at *
    generalize ck a.tail b.tail = p at *
    generalize ck b.tail c.tail = q at *
    generalize ck a.tail c.tail = r at *
    by_cases h1 : x < y <;> by_cases h2 : y < x <;> by_cases h3 : y < z <;> by_cases h4 : z < y <;> by_cases h5 : x < z <;> by_cases h6 : z < x <;> simp [h1, h2, h3, h4, h5, h6] <;> omega

theorem ck_trans (a b c : List Int) :
    (ck a b = ck b c → ck a c = ck a b) ∧ (ck a b = 0 → ck a c = ck b c) ∧ (ck b c = 0 → ck a c = ck a b) :=
  ck_trans_n (a.length + b.length + c.length) a b c (by omega) (by omega) (by omega)

theorem ck_same {a a' b b' : List Int} (ha : ck a a' = 0) (hb : ck b b' = 0) : ck a b = ck a' b' := by
  have h1 := (ck_trans a a' b).2.1 ha
  have h2 := (ck_trans a' b b').2.2 hb
  rw [h1, h2]

/-- The key of a part: what is no digit by its rank, then a nought, then the number, by turns. -/
def key : Option Nat → List UInt8 → List Int
  | none, [] => []
  | none, c :: s => if dg c = true then 0 :: key (some (c.toNat - 48)) s else rk c :: key none s
  | some n, [] => [(n : Int)]
  | some n, c :: s => if dg c = true then key (some (10 * n + (c.toNat - 48))) s else (n : Int) :: rk c :: key none s

def pc (a b : List UInt8) : Int := ck (key none a) (key none b)

def vl (n : Nat) (s : List UInt8) : Nat := s.foldl (fun n c => 10 * n + (c.toNat - 48)) n

theorem key_some (n : Nat) (s : List UInt8) : key (some n) s = (vl n (s.takeWhile dg) : Int) :: key none (s.dropWhile dg) := by
  induction s generalizing n with
  | nil => simp [key, vl]
  | cons c s ih =>
    by_cases h : dg c = true
    · simp only [key, h, if_true, List.takeWhile_cons, List.dropWhile_cons]
      rw [ih]; simp [vl]
    · simp [key, h, vl]

theorem key_num (s : List UInt8) (hd : s.head?.any dg = true ∨ s = []) : ck (key none s) (0 :: (vl 0 (s.takeWhile dg) : Int) :: key none (s.dropWhile dg)) = 0 := by
  cases s with
  | nil => simp [key, ck, zk, vl]
  | cons c s =>
    have h : dg c = true := by simpa using hd
    simp only [key, h, if_true, List.takeWhile_cons, List.dropWhile_cons]
    rw [key_some]
    have e : vl (c.toNat - 48) (s.takeWhile dg) = vl 0 (c :: s.takeWhile dg) := by simp [vl]
    rw [e]; exact ck_refl _

def wd (s : List UInt8) : List UInt8 := s.takeWhile (fun c => !dg c)
def wr (s : List UInt8) : List UInt8 := s.dropWhile (fun c => !dg c)

theorem wr_head (s : List UInt8) : (wr s).head?.any dg = true ∨ wr s = [] := by
  induction s with
  | nil => right; rfl
  | cons c s ih =>
    unfold wr at *
    by_cases h : dg c = true
    · left; simp [h]
    · simp only [List.dropWhile_cons]
      simp [h] at ih ⊢
      exact ih

theorem key_word (s : List UInt8) : key none s = (wd s).map rk ++ key none (wr s) := by
  induction s with
  | nil => rfl
  | cons c s ih =>
    unfold wd wr at *
    by_cases h : dg c = true
    · simp [h]
    · simp only [List.takeWhile_cons, List.dropWhile_cons]
      simp only [h, Bool.not_false, if_true, List.map_cons, List.cons_append]
      rw [← ih]
      simp [key, h]

theorem ck_append_left (p a b : List Int) : ck (p ++ a) (p ++ b) = ck a b := by
  induction p with
  | nil => rfl
  | cons x p ih => simp [ck, ih]

theorem rk_ne (c : UInt8) : rk c ≠ 0 := by
  unfold rk lr
  split
  · omega
  · split
    · rename_i h; simp at h; omega
    · omega

theorem ck_words (a b : List UInt8) (x y : List Int) :
    ck (a.map rk ++ 0 :: x) (b.map rk ++ 0 :: y) = if ck (a.map rk) (b.map rk) = 0 then ck x y else ck (a.map rk) (b.map rk) := by
  induction a generalizing b with
  | nil =>
    cases b with
    | nil => simp [ck, zk]
    | cons d b =>
      have := rk_ne d
      simp only [List.map_nil, List.nil_append, List.map_cons, List.cons_append, ck, zk]
      by_cases h1 : 0 < rk d
      · have h2 : ¬ rk d < 0 := by omega
        simp [h1, h2]
      · have h2 : rk d < 0 := by omega
        simp [h1, h2]
  | cons c a ih =>
    cases b with
    | nil =>
      have := rk_ne c
      simp only [List.map_nil, List.nil_append, List.map_cons, List.cons_append, ck, zk]
      by_cases h1 : rk c < 0
      · simp [h1]
      · have h2 : 0 < rk c := by omega
        simp [h1, h2]
    | cons d b =>
      simp only [List.map_cons, List.cons_append, ck]
      by_cases h1 : rk c < rk d
      · simp [h1]
      · by_cases h2 : rk d < rk c
        · simp [h1, h2]
        · simp only [h1, h2, if_false]; exact ih b

def nr (s : List UInt8) : List UInt8 := (wr s).dropWhile dg
def nm (s : List UInt8) : List UInt8 := (wr s).takeWhile dg
def cw (a b : List UInt8) : Int := ck (a.map rk) (b.map rk)
def cn (a b : List UInt8) : Int := sg ((vl 0 a : Int) - (vl 0 b : Int))

theorem key_turn (s : List UInt8) : ck (key none s) ((wd s).map rk ++ 0 :: (vl 0 (nm s) : Int) :: key none (nr s)) = 0 := by
  rw [key_word s, ck_append_left]
  exact key_num _ (wr_head s)

/-- One turn of the comparison. -/
theorem pc_turn (a b : List UInt8) : pc a b = if cw (wd a) (wd b) = 0 then (if cn (nm a) (nm b) = 0 then pc (nr a) (nr b) else cn (nm a) (nm b)) else cw (wd a) (wd b) := by
  have e : pc a b = ck ((wd a).map rk ++ 0 :: (vl 0 (nm a) : Int) :: key none (nr a)) ((wd b).map rk ++ 0 :: (vl 0 (nm b) : Int) :: key none (nr b)) := ck_same (key_turn a) (key_turn b)
  rw [e, ck_words]
  have f : ck ((vl 0 (nm a) : Int) :: key none (nr a)) ((vl 0 (nm b) : Int) :: key none (nr b)) = if cn (nm a) (nm b) = 0 then pc (nr a) (nr b) else cn (nm a) (nm b) := by
    unfold pc
    have d : cn (nm a) (nm b) = sg ((vl 0 (nm a) : Int) - (vl 0 (nm b) : Int)) := rfl
    rw [d]
    generalize vl 0 (nm a) = p
    generalize vl 0 (nm b) = q
    generalize key none (nr a) = x
    generalize key none (nr b) = y
    rw [show ck ((p : Int) :: x) ((q : Int) :: y) = if (p : Int) < q then -1 else if (q : Int) < p then 1 else ck x y from rfl]
    by_cases h1 : (p : Int) < (q : Int)
    · have g : sg ((p : Int) - q) = -1 := by unfold sg; rw [if_pos (by omega)]
      rw [g, if_pos h1]; rfl
    · by_cases h2 : (q : Int) < (p : Int)
      · have g : sg ((p : Int) - q) = 1 := by unfold sg; rw [if_neg (by omega), if_pos (by omega)]
        rw [g, if_neg h1, if_pos h2]; rfl
      · have g : sg ((p : Int) - q) = 0 := by unfold sg; rw [if_neg (by omega), if_neg (by omega)]
        rw [g, if_neg h1, if_neg h2, if_pos rfl]
  rw [f]; rfl

theorem pc_refl (a : List UInt8) : pc a a = 0 := ck_refl _
theorem pc_range (a b : List UInt8) : pc a b = -1 ∨ pc a b = 0 ∨ pc a b = 1 := ck_range _ _

/-! ### Numbers as texts -/

theorem vl_cons (n : Nat) (c : UInt8) (s : List UInt8) : vl n (c :: s) = vl (10 * n + (c.toNat - 48)) s := by
  unfold vl; rw [List.foldl_cons]

theorem arith1 (n d p v : Nat) : (10 * n + d) * p + v = n * (p * 10) + ((10 * 0 + d) * p + v) := by
  rw [Nat.mul_zero, Nat.zero_add, Nat.add_mul, Nat.mul_comm p 10, ← Nat.mul_assoc, Nat.mul_comm n 10, Nat.add_assoc]

theorem vl_pow (n : Nat) (s : List UInt8) : vl n s = n * 10 ^ s.length + vl 0 s := by
  induction s generalizing n with
  | nil => rw [show vl n [] = n from rfl, show vl 0 [] = 0 from rfl, List.length_nil, Nat.pow_zero, Nat.mul_one, Nat.add_zero]
  | cons c s ih =>
    rw [vl_cons, vl_cons 0 c s, ih (10 * n + (c.toNat - 48)), ih (10 * 0 + (c.toNat - 48)), List.length_cons, Nat.pow_succ]
    exact arith1 _ _ _ _

theorem dg_iff (c : UInt8) : dg c = true ↔ 48 ≤ c.toNat ∧ c.toNat ≤ 57 := by simp [dg]

theorem vl_lt (s : List UInt8) (h : ∀ c ∈ s, dg c = true) : vl 0 s < 10 ^ s.length := by
  induction s with
  | nil => simp [vl]
  | cons c s ih =>
    rw [vl_cons, vl_pow]
    have h1 := ih (fun d hd => h d (List.mem_cons_of_mem _ hd))
    have h2 := (dg_iff c).1 (h c (List.mem_cons_self ..))
    simp only [List.length_cons, Nat.pow_succ]
    generalize 10 ^ s.length = p at *
    have h3 : (10 * 0 + (c.toNat - 48)) * p ≤ 9 * p := Nat.mul_le_mul_right _ (by omega)
    omega

def tz (s : List UInt8) : List UInt8 := s.dropWhile (fun c => c == 48)

theorem vl_tz (s : List UInt8) : vl 0 (tz s) = vl 0 s := by
  induction s with
  | nil => rfl
  | cons c s ih =>
    unfold tz at *
    by_cases h : c = 48
    · subst h; simp only [List.dropWhile_cons]; simpa [vl_cons] using ih
    · simp [h]

theorem tz_dg (s : List UInt8) (h : ∀ c ∈ s, dg c = true) : ∀ c ∈ tz s, dg c = true :=
  fun c hc => h c ((List.dropWhile_suffix _).subset hc)

theorem tz_head (s : List UInt8) (c : UInt8) (t : List UInt8) (h : tz s = c :: t) : c ≠ 48 := by
  induction s with
  | nil => simp [tz] at h
  | cons d s ih =>
    unfold tz at *
    by_cases hd : d = 48
    · subst hd; simp only [List.dropWhile_cons] at h; exact ih (by simpa using h)
    · simp [hd] at h; rw [← h.1]; exact hd

theorem vl_low (s : List UInt8) (h : ∀ c ∈ s, dg c = true) (n : Nat) (hn : n < (tz s).length) : 10 ^ n ≤ vl 0 s := by
  rw [← vl_tz]
  match e : tz s with
  | [] => rw [e] at hn; simp at hn
  | c :: t =>
    have h1 := tz_head s c t e
    have h2 := (dg_iff c).1 (tz_dg s h c (by rw [e]; exact List.mem_cons_self ..))
    have h3 : c.toNat ≠ 48 := fun hc => h1 (UInt8.toNat_inj.1 hc)
    rw [vl_cons, vl_pow]
    rw [e] at hn
    simp only [List.length_cons] at hn
    have h4 : 10 ^ n ≤ 10 ^ t.length := Nat.pow_le_pow_right (by omega) (by omega)
    have h5 : 1 * 10 ^ t.length ≤ (10 * 0 + (c.toNat - 48)) * 10 ^ t.length := Nat.mul_le_mul_right _ (by omega)
    omega

/-- Two texts byte by byte. -/
def cb : List UInt8 → List UInt8 → Int
  | [], [] => 0
  | [], _ :: _ => -1
  | _ :: _, [] => 1
  | a :: as, b :: bs => if a < b then -1 else if b < a then 1 else cb as bs

theorem sg_neg {n : Int} (h : n < 0) : sg n = -1 := by unfold sg; rw [if_pos h]
theorem sg_pos {n : Int} (h : 0 < n) : sg n = 1 := by unfold sg; rw [if_neg (by omega), if_pos h]
theorem sg_nul {n : Int} (h : n = 0) : sg n = 0 := by unfold sg; rw [if_neg (by omega), if_neg (by omega)]

theorem cb_vl (a b : List UInt8) (ha : ∀ c ∈ a, dg c = true) (hb : ∀ c ∈ b, dg c = true) (h : a.length = b.length) :
    cb a b = sg ((vl 0 a : Int) - (vl 0 b : Int)) := by
  induction a generalizing b with
  | nil =>
    cases b with
    | nil => simp [cb, vl, sg]
    | cons d b => simp at h
  | cons c a ih =>
    cases b with
    | nil => simp at h
    | cons d b =>
      have h1 := ih b (fun x hx => ha x (List.mem_cons_of_mem _ hx)) (fun x hx => hb x (List.mem_cons_of_mem _ hx)) (by simpa using h)
      have ec : a.length = b.length := by simpa using h
      have l1 := vl_lt a (fun x hx => ha x (List.mem_cons_of_mem _ hx))
      have l2 := vl_lt b (fun x hx => hb x (List.mem_cons_of_mem _ hx))
      have d1 := (dg_iff c).1 (ha c (List.mem_cons_self ..))
      have d2 := (dg_iff d).1 (hb d (List.mem_cons_self ..))
      unfold cb
      rw [vl_cons, vl_cons, vl_pow _ a, vl_pow _ b, ← ec]
      rw [← ec] at l2
      rw [h1]
      generalize vl 0 a = x at *
      generalize vl 0 b = y at *
      generalize 10 ^ a.length = p at *
      have q1 : c < d ↔ c.toNat < d.toNat := UInt8.lt_iff_toNat_lt
      have q2 : d < c ↔ d.toNat < c.toNat := UInt8.lt_iff_toNat_lt
      generalize c.toNat = m at *
      generalize d.toNat = n at *
      by_cases h2 : m < n
      · rw [if_pos (q1.2 h2), sg_neg]
        have : (10 * 0 + (m - 48) + 1) * p ≤ (10 * 0 + (n - 48)) * p := Nat.mul_le_mul_right _ (by omega)
        rw [Nat.add_mul] at this
        omega
      · by_cases h3 : n < m
        · rw [if_neg (fun h => h2 (q1.1 h)), if_pos (q2.2 h3), sg_pos]
          have : (10 * 0 + (n - 48) + 1) * p ≤ (10 * 0 + (m - 48)) * p := Nat.mul_le_mul_right _ (by omega)
          rw [Nat.add_mul] at this
          omega
        · rw [if_neg (fun h => h2 (q1.1 h)), if_neg (fun h => h3 (q2.1 h))]
          have : m = n := by omega
          subst this
          congr 1
          omega

/-- Numbers as texts without noughts ahead: by how long they are, then byte by byte. -/
theorem cn_texts (a b : List UInt8) (ha : ∀ c ∈ a, dg c = true) (hb : ∀ c ∈ b, dg c = true) :
    cn a b = if (tz a).length < (tz b).length then -1 else if (tz b).length < (tz a).length then 1 else cb (tz a) (tz b) := by
  unfold cn
  by_cases h1 : (tz a).length < (tz b).length
  · rw [if_pos h1]
    have l1 := vl_lt (tz a) (tz_dg a ha)
    have l2 := vl_low b hb _ h1
    rw [vl_tz] at l1
    exact sg_neg (by omega)
  · by_cases h2 : (tz b).length < (tz a).length
    · rw [if_neg h1, if_pos h2]
      have l1 := vl_lt (tz b) (tz_dg b hb)
      have l2 := vl_low a ha _ h2
      rw [vl_tz] at l1
      exact sg_pos (by omega)
    · rw [if_neg h1, if_neg h2, cb_vl _ _ (tz_dg a ha) (tz_dg b hb) (by omega), vl_tz, vl_tz]

theorem nm_dg (s : List UInt8) : ∀ c ∈ nm s, dg c = true := by
  intro c hc; unfold nm at hc
  generalize wr s = t at hc
  induction t with
  | nil => simp at hc
  | cons d t ih =>
    by_cases h : dg d = true
    · simp only [List.takeWhile_cons, h, if_true, List.mem_cons] at hc
      rcases hc with rfl | hc
      · exact h
      · exact ih hc
    · simp [h] at hc

theorem while_cut (p : UInt8 → Bool) (l : List UInt8) (k : Nat) (hk : k ≤ l.length) (h1 : ∀ j (hj : j < l.length), j < k → p l[j] = true) (h2 : ∀ hk : k < l.length, p l[k] = false) :
    l.takeWhile p = l.take k ∧ l.dropWhile p = l.drop k := by
  induction l generalizing k with
  | nil => simp
  | cons c l ih =>
    cases k with
    | zero =>
      have := h2 (by simp)
      simp at this
      simp [this]
    | succ k =>
      have h0 := h1 0 (by simp) (by omega)
      simp at h0
      have := ih k (by simpa using hk) (fun j hj h => h1 (j + 1) (by simpa using hj) (by omega)) (fun hk => h2 (by simpa using hk))
      simp [h0, this]

/-! ### Keys by places -/

theorem headD_drop (a : List Int) (k : Nat) : (a.drop k).headD 0 = a.getD k 0 := by
  induction a generalizing k with
  | nil => simp
  | cons x a ih => cases k with
    | zero => simp
    | succ k => simp

theorem ck_drop (a b : List Int) (k : Nat) (h : ∀ j, j < k → a.getD j 0 = b.getD j 0) : ck a b = ck (a.drop k) (b.drop k) := by
  induction k with
  | zero => simp
  | succ k ih =>
    rw [ih (fun j hj => h j (by omega)), ck_step]
    have e := h k (by omega)
    rw [headD_drop, headD_drop, e]
    simp [List.tail_drop]

theorem ck_at (a b : List Int) (k : Nat) (h : ∀ j, j < k → a.getD j 0 = b.getD j 0) (hne : a.getD k 0 ≠ b.getD k 0) :
    ck a b = if a.getD k 0 < b.getD k 0 then -1 else 1 := by
  rw [ck_drop a b k h, ck_step, headD_drop, headD_drop]
  by_cases h1 : a.getD k 0 < b.getD k 0
  · rw [if_pos h1, if_pos h1]
  · have h2 : b.getD k 0 < a.getD k 0 := by omega
    rw [if_neg h1, if_pos h2, if_neg h1]

theorem ck_all (a b : List Int) (k : Nat) (h : ∀ j, j < k → a.getD j 0 = b.getD j 0) (ha : a.length ≤ k) (hb : b.length ≤ k) : ck a b = 0 := by
  rw [ck_drop a b k h, List.drop_of_length_le ha, List.drop_of_length_le hb]; rfl

def ra (l : List UInt8) (k : Nat) : Int := (l.map rk).getD k 0

theorem ra_in (l : List UInt8) (k : Nat) (h : k < l.length) : ra l k = rk l[k] := by
  unfold ra; simp [h]
theorem ra_out (l : List UInt8) (k : Nat) (h : l.length ≤ k) : ra l k = 0 := by
  unfold ra; simp [h]

theorem cw_at (a b : List UInt8) (k : Nat) (h : ∀ j, j < k → ra a j = ra b j) (hne : ra a k ≠ ra b k) :
    cw a b = if ra a k < ra b k then -1 else 1 := ck_at _ _ k h hne
theorem cw_all (a b : List UInt8) (k : Nat) (h : ∀ j, j < k → ra a j = ra b j) (ha : a.length ≤ k) (hb : b.length ≤ k) : cw a b = 0 :=
  ck_all _ _ k h (by simpa using ha) (by simpa using hb)
theorem ra_range (l : List UInt8) (k : Nat) : -1 ≤ ra l k ∧ ra l k ≤ 600 := by
  by_cases h : k < l.length
  · rw [ra_in l k h]
    have := (l[k]).toNat_lt
    unfold rk; split
    · omega
    · split <;> omega
  · rw [ra_out l k (by omega)]; omega

/-! ### Whole versions -/

def cv (e1 : Int) (u1 r1 : List UInt8) (e2 : Int) (u2 r2 : List UInt8) : Int :=
  if e1 < e2 then -1 else if e2 < e1 then 1 else if pc u1 u2 = 0 then pc r1 r2 else pc u1 u2

theorem cv_range (e1 : Int) (u1 r1 : List UInt8) (e2 : Int) (u2 r2 : List UInt8) : cv e1 u1 r1 e2 u2 r2 = -1 ∨ cv e1 u1 r1 e2 u2 r2 = 0 ∨ cv e1 u1 r1 e2 u2 r2 = 1 := by
  unfold cv
  have := pc_range u1 u2
  have := pc_range r1 r2
  split
  · omega
  · split
    · omega
    · split <;> omega

/-- Is a version so, its order being c? -/
def iv (c op : Int) : Bool :=
  op == 0 || (op == 1 && decide (c < 0)) || (op == 2 && decide (c ≤ 0)) || (op == 3 && c == 0) || (op == 4 && decide (0 ≤ c)) || (op == 5 && decide (0 < c))

/-! ### The reference's way -/

/-- The reference's rank of a text's first byte. -/
def rr : List UInt8 → Int
  | [] => 1
  | c :: _ => if dg c = true then 1 else if c.toNat = 126 then 0 else if lr c = true then 2 + (c.toNat : Int) else 300 + (c.toNat : Int)

theorem rr_cons (c : UInt8) (l : List UInt8) : rr (c :: l) = if dg c = true then 1 else if c.toNat = 126 then 0 else if lr c = true then 2 + (c.toNat : Int) else 300 + (c.toNat : Int) := rfl

theorem rr_range (l : List UInt8) : 0 ≤ rr l ∧ rr l ≤ 600 := by
  cases l with
  | nil => simp [rr]
  | cons c l =>
    have := c.toNat_lt
    rw [rr_cons]; split
    · omega
    · split
      · omega
      · split <;> omega

theorem rr_one {l : List UInt8} (h : rr l = 1) : wd l = [] ∧ wr l = l := by
  cases l with
  | nil => exact ⟨rfl, rfl⟩
  | cons c l =>
    by_cases hd : dg c = true
    · simp [wd, wr, hd]
    · exfalso
      rw [rr_cons, if_neg hd] at h
      split at h
      · omega
      · split at h <;> omega

theorem rr_ne {l : List UInt8} (h : rr l ≠ 1) : ∃ c t, l = c :: t ∧ dg c = false := by
  cases l with
  | nil => exact absurd rfl h
  | cons c l =>
    refine ⟨c, l, rfl, ?_⟩
    cases hd : dg c with
    | false => rfl
    | true => exact absurd (by rw [rr_cons, if_pos hd]) h

theorem rr_rk {c : UInt8} {t : List UInt8} (h : dg c = false) : rr (c :: t) = if rk c = -1 then 0 else if rk c < 256 then 2 + rk c else 44 + rk c := by
  have h0 : ¬ dg c = true := by simp [h]
  rw [rr_cons, if_neg h0]
  unfold rk
  have := c.toNat_lt
  by_cases h1 : c.toNat = 126
  · simp [h1]
  · by_cases h2 : lr c = true
    · rw [if_neg h1, if_pos h2, if_neg h1, if_pos h2, if_neg (by omega), if_pos (by omega)]
    · rw [if_neg h1, if_neg h2, if_neg h1, if_neg h2, if_neg (by omega), if_neg (by omega)]; omega

theorem rk_bounds (c : UInt8) : rk c = -1 ∨ (0 < rk c ∧ rk c < 256) ∨ (256 ≤ rk c ∧ rk c < 600) := by
  have := c.toNat_lt
  unfold rk
  by_cases h1 : c.toNat = 126
  · simp [h1]
  · by_cases h2 : lr c = true
    · rw [if_neg h1, if_pos h2]
      have h3 : 65 ≤ c.toNat := by simp [lr] at h2; omega
      omega
    · rw [if_neg h1, if_neg h2]; omega

theorem rk_inj {c d : UInt8} (h : rk c = rk d) : c = d := by
  have hc := c.toNat_lt
  have hd := d.toNat_lt
  apply UInt8.toNat_inj.1
  unfold rk at h
  by_cases h1 : c.toNat = 126 <;> by_cases h2 : d.toNat = 126 <;> by_cases h3 : lr c = true <;> by_cases h4 : lr d = true <;> simp [h1, h2, h3, h4] at h <;> omega

theorem key_nd {c : UInt8} {t : List UInt8} (h : dg c = false) : key none (c :: t) = rk c :: key none t := by
  rw [key, if_neg (by simp [h])]

theorem key_zero {l : List UInt8} (h : rr l = 1) : (key none l).headD 0 = 0 := by
  cases l with
  | nil => rfl
  | cons c l =>
    by_cases hd : dg c = true
    · rw [key, if_pos hd]; rfl
    · have := (rr_one h).1
      simp [wd, hd] at this

theorem key_head {l : List UInt8} (h : rr l ≠ 1) : ∃ c t, l = c :: t ∧ dg c = false ∧ (key none l).headD 0 = rk c := by
  obtain ⟨c, t, rfl, hd⟩ := rr_ne h
  exact ⟨c, t, rfl, hd, by rw [key_nd hd]; rfl⟩

/-- The first bytes part. -/
theorem pc_part (p q : List UInt8) (h : rr p ≠ rr q) : pc p q = sg (rr p - rr q) := by
  unfold pc
  rw [ck_step]
  by_cases hp : rr p = 1
  · have hq : rr q ≠ 1 := fun e => h (hp.trans e.symm)
    obtain ⟨d, t, rfl, hd, e⟩ := key_head hq
    rw [key_zero hp, e, hp, rr_rk hd]
    have hb := rk_bounds d
    rcases hb with hb | hb | hb
    · rw [hb]; simp [sg]
    · rw [if_pos (by omega), if_neg (by omega), if_pos (by omega), sg_neg (by omega)]
    · rw [if_pos (by omega), if_neg (by omega), if_neg (by omega), sg_neg (by omega)]
  · obtain ⟨c, s, rfl, hc, e⟩ := key_head hp
    have ha := rk_bounds c
    by_cases hq : rr q = 1
    · rw [key_zero hq, e, hq, rr_rk hc]
      rcases ha with ha | ha | ha
      · rw [ha]; simp [sg]
      · rw [if_neg (by omega), if_pos (by omega), if_neg (by omega), if_pos (by omega), sg_pos (by omega)]
      · rw [if_neg (by omega), if_pos (by omega), if_neg (by omega), if_neg (by omega), sg_pos (by omega)]
    · obtain ⟨d, t, rfl, hd, e'⟩ := key_head hq
      have hb := rk_bounds d
      rw [rr_rk hc, rr_rk hd] at h
      rw [e, e', rr_rk hc, rr_rk hd]
      generalize rk c = x at *
      generalize rk d = y at *
      by_cases hxy : x < y
      · rw [if_pos hxy, sg_neg]
        split <;> split <;> (try split) <;> (try split) <;> omega
      · have hne : x ≠ y := fun e => h (by rw [e])
        rw [if_neg hxy, if_pos (by omega), sg_pos]
        split <;> split <;> (try split) <;> (try split) <;> omega

/-- The first bytes are the same, and no digits. -/
theorem pc_same (p q : List UInt8) (h : rr p = rr q) (hp : rr p ≠ 1) : ∃ c s t, p = c :: s ∧ q = c :: t ∧ pc p q = pc s t := by
  obtain ⟨c, s, rfl, hc⟩ := rr_ne hp
  obtain ⟨d, t, rfl, hd⟩ := rr_ne (h ▸ hp)
  have hcd : c = d := by
    rw [rr_rk hc, rr_rk hd] at h
    have ha := rk_bounds c
    have hb := rk_bounds d
    apply rk_inj
    generalize rk c = x at *
    generalize rk d = y at *
    split at h <;> split at h <;> (try split at h) <;> (try split at h) <;> omega
  subst hcd
  refine ⟨c, s, t, rfl, rfl, ?_⟩
  unfold pc
  rw [key_nd hc, key_nd hc]
  simp [ck]

def tw (l : List UInt8) : List UInt8 := l.takeWhile dg
def dw (l : List UInt8) : List UInt8 := l.dropWhile dg

/-- Numbers, or ends, stand first. -/
theorem pc_nums (p q : List UInt8) (hp : rr p = 1) (hq : rr q = 1) : pc p q = if cn (tw p) (tw q) = 0 then pc (dw p) (dw q) else cn (tw p) (tw q) := by
  have h := pc_turn p q
  rw [(rr_one hp).1, (rr_one hq).1] at h
  unfold nm nr at h
  rw [(rr_one hp).2, (rr_one hq).2] at h
  rw [h, if_pos (by rfl)]; rfl

theorem tw_dg (l : List UInt8) : ∀ c ∈ tw l, dg c = true := by
  intro c hc; unfold tw at hc
  induction l with
  | nil => simp at hc
  | cons d t ih =>
    by_cases h : dg d = true
    · simp only [List.takeWhile_cons, h, if_true, List.mem_cons] at hc
      rcases hc with rfl | hc
      · exact h
      · exact ih hc
    · simp [h] at hc

theorem cb_range (a b : List UInt8) : cb a b = -1 ∨ cb a b = 0 ∨ cb a b = 1 := by
  induction a generalizing b with
  | nil => cases b <;> simp [cb]
  | cons x a ih =>
    cases b with
    | nil => simp [cb]
    | cons y b => unfold cb; split; · simp
                  split; · simp
                  exact ih b
theorem cb_sg (a b : List UInt8) : sg (cb a b) = cb a b := by
  rcases cb_range a b with h | h | h <;> rw [h] <;> rfl
theorem cb_refl (a : List UInt8) : cb a a = 0 := by
  induction a with
  | nil => rfl
  | cons x a ih => unfold cb; simp [ih]
theorem cb_ne {a b : List UInt8} (h : a ≠ b) : cb a b ≠ 0 := by
  induction a generalizing b with
  | nil => cases b with
    | nil => exact absurd rfl h
    | cons y b => simp [cb]
  | cons x a ih =>
    cases b with
    | nil => simp [cb]
    | cons y b =>
      unfold cb; split; · simp
      split; · simp
      rename_i h1 h2
      have e : x = y := by
        apply UInt8.toNat_inj.1
        rw [UInt8.lt_iff_toNat_lt] at h1 h2; omega
      subst e
      exact ih (fun e => h (by rw [e]))

theorem tz_snoc (d : List UInt8) (c : UInt8) : tz (d ++ [c]) = if tz d ≠ [] ∨ c ≠ 48 then tz d ++ [c] else [] := by
  induction d with
  | nil =>
    by_cases h : c = 48
    · subst h; simp [tz]
    · simp [tz, h]
  | cons x d ih =>
    unfold tz at *
    by_cases h : x = 48
    · subst h; simpa using ih
    · simp [h]

theorem run_end (d r : List UInt8) (hd : ∀ c ∈ d, dg c = true) (hr : ∀ c t, r = c :: t → dg c = false) : tw (d ++ r) = d ∧ dw (d ++ r) = r := by
  unfold tw dw
  induction d with
  | nil =>
    cases r with
    | nil => simp
    | cons c t => simp [hr c t rfl]
  | cons x d ih =>
    have h1 := hd x (List.mem_cons_self ..)
    have h2 := ih (fun c hc => hd c (List.mem_cons_of_mem _ hc))
    simp only [List.cons_append, List.takeWhile_cons, List.dropWhile_cons, h1, if_true]
    exact ⟨by rw [h2.1], h2.2⟩

end Vm
end Go.Proofs.YtlldfmnoidndmaaGreatDoor
namespace Go.Proofs.YtlldfmnoidndmaaGreatDoor
namespace Vm

/-- How a version is written. -/
def pe (e : Int) : List UInt8 := if e = 0 then [] else Lib.itoa e ++ [58]
def pr (r : List UInt8) : List UInt8 := if r = [] then [] else 45 :: r
def pt (e : Int) (u r : List UInt8) : List UInt8 := pe e ++ u ++ pr r

/-- A byte that may stand in a part, m being the signs that may. -/
def ok1 (m : List UInt8) (c : UInt8) : Bool := dg c || lr c || m.contains c
def sgn : List UInt8 := [46, 43, 126]
def us (e : Int) (r : List UInt8) : List UInt8 := (if 0 < e then sgn ++ [58] else sgn) ++ (if r = [] then [] else [45])
def ft (e : Int) (u r : List UInt8) : Bool := decide (u.length ≤ 40) && decide (r.length ≤ 40) && decide ((pt e u r).length ≤ 40)
def hd (u : List UInt8) : Bool := match u with | [] => false | c :: _ => dg c
def rt (e : Int) (u r : List UInt8) : Bool := decide (0 ≤ e) && decide (e < 1000000000) && ft e u r && hd u && u.all (ok1 (us e r)) && r.all (ok1 sgn)

theorem idx_neg (m : List UInt8) (c : UInt8) : decide (Lib.indexByte m c < 0) = !m.contains c := by
  induction m with
  | nil => simp [Lib.indexByte]
  | cons b m ih =>
    have hge := Lib.indexByte_ge m c
    unfold Lib.indexByte
    by_cases h : b = c
    · subst h; simp
    · have h' : ¬ c = b := fun e => h e.symm
      simp only [beq_iff_eq, h, if_false, List.contains_cons]
      rw [show (c == b) = false from by simpa using h', Bool.false_or, ← ih]
      by_cases h1 : Lib.indexByte m c = -1
      · simp [h1]
      · have h2 : ¬ Lib.indexByte m c < 0 := by omega
        have h3 : ¬ Lib.indexByte m c + 1 < 0 := by omega
        simp [h1, h2, h3]

/-! ### Cuts -/

/-- A text cut at a byte's first place. -/
def fc (c : UInt8) : List UInt8 → Option (List UInt8 × List UInt8)
  | [] => none
  | b :: l => if b = c then some ([], l) else match fc c l with
    | none => none
    | some (x, y) => some (b :: x, y)
/-- .. at its last one. -/
def lc (c : UInt8) : List UInt8 → Option (List UInt8 × List UInt8)
  | [] => none
  | b :: l => match lc c l with
    | some (x, y) => some (b :: x, y)
    | none => if b = c then some ([], l) else none

theorem fc_idx (c : UInt8) (l : List UInt8) : (Lib.indexByte l c = -1 ∧ fc c l = none) ∨ ∃ k : Nat, k < l.length ∧ Lib.indexByte l c = k ∧ fc c l = some (l.take k, l.drop (k + 1)) := by
  induction l with
  | nil => left; exact ⟨rfl, rfl⟩
  | cons b l ih =>
    unfold Lib.indexByte fc
    by_cases h : b = c
    · right; exact ⟨0, by simp, by simp [h], by simp [h]⟩
    · rcases ih with ⟨h1, h2⟩ | ⟨k, hk, h1, h2⟩
      · left; simp [h, h1, h2]
      · right
        refine ⟨k + 1, by simpa using hk, ?_, by simp [h, h2]⟩
        have h3 : ¬ (k : Int) = -1 := by omega
        simp [h, h1, h3]

theorem lc_none (c : UInt8) (l : List UInt8) (h : ∀ x ∈ l, x ≠ c) : lc c l = none := by
  induction l with
  | nil => rfl
  | cons b l ih =>
    unfold lc
    rw [ih (fun x hx => h x (List.mem_cons_of_mem _ hx))]
    simp [h b (List.mem_cons_self ..)]
theorem lc_at (c : UInt8) (l : List UInt8) (i : Nat) (hi : i < l.length) (h1 : l[i] = c) (h2 : ∀ j (hj : j < l.length), i < j → l[j] ≠ c) : lc c l = some (l.take i, l.drop (i + 1)) := by
  induction l generalizing i with
  | nil => simp at hi
  | cons b l ih =>
    unfold lc
    cases i with
    | zero =>
      rw [lc_none c l (fun x hx => by
        obtain ⟨j, hj, rfl⟩ := List.getElem_of_mem hx
        exact h2 (j + 1) (by simpa using hj) (by omega))]
      simp at h1
      simp [h1]
    | succ i =>
      rw [ih i (by simpa using hi) (by simpa using h1) (fun j hj h => h2 (j + 1) (by simpa using hj) (by omega))]
      simp
theorem lc_idx (c : UInt8) (l : List UInt8) : (Lib.lastIndexByte ⟨l.toArray⟩ c.toNat = -1 ∧ lc c l = none) ∨ ∃ k : Nat, k < l.length ∧ Lib.lastIndexByte ⟨l.toArray⟩ c.toNat = k ∧ lc c l = some (l.take k, l.drop (k + 1)) := by
  have get : ∀ j (hj : j < l.length), ((ByteArray.mk l.toArray).data[j]!) = l[j] := fun j hj => by simp [hj]
  rcases Lib.lastIdx_spec ⟨l.toArray⟩ c.toNat (ByteArray.mk l.toArray).size with ⟨h1, h2⟩ | ⟨i, hi, h1, h2, h3⟩
  · left
    refine ⟨h1, lc_none c l (fun x hx => ?_)⟩
    obtain ⟨j, hj, rfl⟩ := List.getElem_of_mem hx
    intro e
    have := h2 j hj
    rw [get j hj, e] at this
    exact this rfl
  · right
    refine ⟨i, hi, h1, lc_at c l i hi ?_ (fun j hj h e => ?_)⟩
    · rw [get i hi] at h2
      exact UInt8.toNat_inj.1 (by omega)
    · have := h3 j h hj
      rw [get j hj, e] at this
      exact this rfl

/-- The epoch that a text is. -/
def pep (s : List UInt8) : Option Nat :=
  if s = [] ∨ 9 < s.length ∨ (s.headD 0 = 48 ∧ s ≠ [48]) then none else if s.all dg = true then some (vl 0 s) else none

theorem vl_snoc (l : List UInt8) (c : UInt8) : vl 0 (l ++ [c]) = 10 * vl 0 l + (c.toNat - 48) := by
  unfold vl; rw [List.foldl_append]; rfl
theorem take_snoc (l : List UInt8) (k : Nat) (h : k < l.length) : l.take (k + 1) = l.take k ++ [l[k]] := by
  rw [List.take_succ_eq_append_getElem h]
theorem vl_take (l : List UInt8) (k : Nat) (h : k < l.length) : vl 0 (l.take (k + 1)) = 10 * vl 0 (l.take k) + (l[k].toNat - 48) := by
  rw [take_snoc l k h, vl_snoc]
theorem vl_take_lt (l : List UInt8) (k : Nat) (hk : k ≤ 9) (h : ∀ j (hj : j < l.length), j < k → dg l[j] = true) : vl 0 (l.take k) < 1000000000 := by
  have h1 := vl_lt (l.take k) (fun c hc => by
    obtain ⟨j, hj, rfl⟩ := List.getElem_of_mem hc
    simp at hj
    rw [List.getElem_take]
    exact h j (by omega) (by omega))
  have h2 : (l.take k).length ≤ 9 := by simp; omega
  have h3 : 10 ^ (l.take k).length ≤ 10 ^ 9 := Nat.pow_le_pow_right (by omega) h2
  have h4 : (10 : Nat) ^ 9 = 1000000000 := by decide
  omega

/-- The version that a text is. -/
def pv (s : List UInt8) : Option (Int × List UInt8 × List UInt8) :=
  if 40 < s.length then none else
  match (match fc 58 s with
    | none => some ((0 : Int), s)
    | some (x, y) => match pep x with
      | none => none
      | some n => some ((n : Int), y)) with
  | none => none
  | some (e, y) => match lc 45 y with
    | none => if rt e y [] = true then some (e, y, []) else none
    | some (u, r) => if r = [] then none else if rt e u r = true then some (e, u, r) else none

end Vm
end Go.Proofs.YtlldfmnoidndmaaGreatDoor
namespace Go.Proofs.YtlldfmnoidndmaaGreatDoor
namespace Vm

theorem dd_unfold (u : Nat) : Lib.decDigits u = if u < 10 then [UInt8.ofNat (48 + u)] else Lib.decDigits (u / 10) ++ [UInt8.ofNat (48 + u % 10)] := by
  rw [Lib.decDigits]; split <;> rfl

theorem d1_toNat (k : Nat) (h : k < 10) : (UInt8.ofNat (48 + k)).toNat = 48 + k := by
  rw [UInt8.toNat_ofNat']; omega

theorem dd_all (u : Nat) : (∀ c ∈ Lib.decDigits u, dg c = true) ∧ vl 0 (Lib.decDigits u) = u := by
  induction u using Nat.strongRecOn with
  | _ u ih =>
    rw [dd_unfold]
    by_cases h : u < 10
    · rw [if_pos h]
      refine ⟨fun c hc => ?_, ?_⟩
      · rw [List.mem_singleton.1 hc, dg_iff, d1_toNat u h]; omega
      · show vl 0 ([] ++ [_]) = u
        rw [vl_snoc, d1_toNat u h]; simp [vl]
    · rw [if_neg h]
      have h2 := ih (u / 10) (by omega)
      refine ⟨fun c hc => ?_, ?_⟩
      · rcases List.mem_append.1 hc with hc | hc
        · exact h2.1 c hc
        · rw [List.mem_singleton.1 hc, dg_iff, d1_toNat (u % 10) (by omega)]; omega
      · rw [vl_snoc, h2.2, d1_toNat (u % 10) (by omega)]; omega

theorem dd_len (k : Nat) : ∀ u, u < 10 ^ (k + 1) → (Lib.decDigits u).length ≤ k + 1 := by
  induction k with
  | zero => intro u h; rw [dd_unfold, if_pos (by simpa using h)]; simp
  | succ k ih =>
    intro u h
    rw [dd_unfold]
    by_cases h1 : u < 10
    · rw [if_pos h1]; simp
    · rw [if_neg h1]
      have h2 : 10 ^ (k + 1 + 1) = 10 ^ (k + 1) * 10 := Nat.pow_succ ..
      have := ih (u / 10) (by omega)
      simp; omega

theorem dd_head (u : Nat) (hu : 1 ≤ u) : ∃ c t, Lib.decDigits u = c :: t ∧ c ≠ 48 := by
  induction u using Nat.strongRecOn with
  | _ u ih =>
    rw [dd_unfold]
    by_cases h : u < 10
    · rw [if_pos h]
      refine ⟨_, [], rfl, fun e => ?_⟩
      have := congrArg UInt8.toNat e
      rw [d1_toNat u h] at this
      have e48 : (48 : UInt8).toNat = 48 := rfl
      omega
    · rw [if_neg h]
      obtain ⟨c, t, h1, h2⟩ := ih (u / 10) (by omega) (by omega)
      exact ⟨c, t ++ [_], by rw [h1]; rfl, h2⟩

theorem pep_dd (n : Nat) (h1 : 1 ≤ n) (h2 : n < 1000000000) : pep (Lib.decDigits n) = some n := by
  obtain ⟨c, t, hc, hne⟩ := dd_head n h1
  have hl := dd_len 8 n (by have : (10 : Nat) ^ (8 + 1) = 1000000000 := by decide
                            omega)
  have ha := dd_all n
  unfold pep
  rw [if_neg, if_pos (by rw [List.all_eq_true]; exact ha.1), ha.2]
  rintro (h | h | h)
  · rw [h] at hc; cases hc
  · omega
  · rw [hc] at h; exact hne h.1

theorem fc_none (c : UInt8) (l : List UInt8) (h : ∀ x ∈ l, x ≠ c) : fc c l = none := by
  induction l with
  | nil => rfl
  | cons b l ih =>
    unfold fc
    rw [if_neg (h b (List.mem_cons_self ..)), ih (fun x hx => h x (List.mem_cons_of_mem _ hx))]
theorem fc_app (c : UInt8) (l r : List UInt8) (h : ∀ x ∈ l, x ≠ c) : fc c (l ++ c :: r) = some (l, r) := by
  induction l with
  | nil => simp [fc]
  | cons b l ih =>
    rw [List.cons_append]
    unfold fc
    rw [if_neg (h b (List.mem_cons_self ..)), ih (fun x hx => h x (List.mem_cons_of_mem _ hx))]
theorem lc_app (c : UInt8) (l r : List UInt8) (h : ∀ x ∈ r, x ≠ c) : lc c (l ++ c :: r) = some (l, r) := by
  induction l with
  | nil => rw [List.nil_append]; unfold lc; rw [lc_none c r h]; simp
  | cons b l ih => rw [List.cons_append]; unfold lc; rw [ih]

theorem ok_ne {m : List UInt8} {l : List UInt8} {c : UInt8} (hc : ok1 m c = false) (h : l.all (ok1 m) = true) : ∀ x ∈ l, x ≠ c := by
  intro x hx e
  subst e
  have := List.all_eq_true.1 h x hx
  rw [hc] at this; cases this

theorem rt_parts {e : Int} {u r : List UInt8} (h : rt e u r = true) : 0 ≤ e ∧ e < 1000000000 ∧ u.length ≤ 40 ∧ r.length ≤ 40 ∧ (pt e u r).length ≤ 40 ∧ u.all (ok1 (us e r)) = true ∧ r.all (ok1 sgn) = true := by
  unfold rt ft at h
  simp only [Bool.and_eq_true, decide_eq_true_eq] at h
  exact ⟨h.1.1.1.1.1, h.1.1.1.1.2, h.1.1.1.2.1.1, h.1.1.1.2.1.2, h.1.1.1.2.2, h.1.2, h.2⟩

theorem lc_part {e : Int} {u r : List UInt8} (h : rt e u r = true) : (match lc 45 (u ++ pr r) with
    | none => if rt e (u ++ pr r) [] = true then some (e, (u ++ pr r), []) else none
    | some (u, r) => if r = [] then none else if rt e u r = true then some (e, u, r) else none) = some (e, u, r) := by
  have hp := rt_parts h
  by_cases hr : r = []
  · subst hr
    have hm : ok1 (us e []) 45 = false := by
      unfold us; by_cases he : 0 < e
      · simp only [he, if_true]; decide
      · simp only [he, if_false]; decide
    have : u ++ pr [] = u := by simp [pr]
    rw [this, lc_none 45 u (ok_ne hm hp.2.2.2.2.2.1)]
    simp [h]
  · have : u ++ pr r = u ++ 45 :: r := by simp [pr, hr]
    rw [this, lc_app 45 u r (ok_ne (by decide) hp.2.2.2.2.2.2)]
    simp [h, hr]

/-- What a version is written as is that version. -/
theorem pv_pt {e : Int} {u r : List UInt8} (h : rt e u r = true) : pv (pt e u r) = some (e, u, r) := by
  have hp := rt_parts h
  unfold pv
  rw [if_neg (by omega)]
  have hr58 : ∀ x ∈ pr r, x ≠ 58 := by
    intro x hx
    unfold pr at hx
    split at hx
    · cases hx
    · rcases List.mem_cons.1 hx with rfl | hx
      · decide
      · exact ok_ne (by decide) hp.2.2.2.2.2.2 x hx
  by_cases he : e = 0
  · subst he
    have hm : ok1 (us 0 r) 58 = false := by
      unfold us; by_cases hr : r = []
      · simp only [hr, if_true]; decide
      · simp only [hr, if_false]; decide
    have e1 : pt 0 u r = u ++ pr r := by simp [pt, pe]
    rw [e1, fc_none 58 _ (fun x hx => by
      rcases List.mem_append.1 hx with hx | hx
      · exact ok_ne hm hp.2.2.2.2.2.1 x hx
      · exact hr58 x hx)]
    exact lc_part h
  · obtain ⟨n, hn⟩ := Int.eq_ofNat_of_zero_le hp.1
    subst hn
    have hit : Lib.itoa (n : Int) = Lib.decDigits n := by
      unfold Lib.itoa; rw [if_neg (by omega)]; rfl
    have e1 : pt (n : Int) u r = Lib.decDigits n ++ 58 :: (u ++ pr r) := by
      unfold pt pe; rw [if_neg he, hit]; simp
    rw [e1, fc_app 58 _ _ (fun x hx e => by
      have := (dd_all n).1 x hx
      rw [e] at this
      exact absurd this (by decide))]
    simp only [pep_dd n (by omega) (by omega)]
    exact lc_part h

theorem pep_lt {l : List UInt8} {n : Nat} (h : pep l = some n) : n < 1000000000 := by
  unfold pep at h
  split at h
  · cases h
  · rename_i hh
    split at h
    · rename_i ha
      cases h
      have h9 : l.length ≤ 9 := Nat.le_of_not_lt (fun h => hh (Or.inr (Or.inl h)))
      have := vl_take_lt l l.length h9 (fun j hj _ => List.all_eq_true.1 ha _ (List.getElem_mem hj))
      rwa [List.take_length] at this
    · cases h

end Vm
end Go.Proofs.YtlldfmnoidndmaaGreatDoor
