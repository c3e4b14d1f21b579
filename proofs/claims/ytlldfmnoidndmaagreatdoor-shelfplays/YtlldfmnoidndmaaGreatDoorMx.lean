/- Maps of texts as lists that rise: mathematics. -/
import Derived.Maps.RangeWalk
import Derived.Sort.KeysCollected
import Derived.Test.YtlldfmnoidndmaaGreatDoorProg
import Derived.WalkKit
import Derived.OwnWalk
import Derived.BigCall
import Derived.Deep.Slices
import Derived.ChangeSame
import Derived.Lib.Hide
import Derived.Lib.QuietBelow
import Derived.WideShapes
import Derived.WalkSpells
import Derived.WalkLawsBesides
import Derived.Deep.QuietTactic
import Derived.BigQuiet
namespace Go.Proofs.YtlldfmnoidndmaaGreatDoor.Dsk

section
variable {α : Type}
/-- Keys and what lies there. -/
abbrev Kv (α : Type) := List (List UInt8 × α)
def insL (k : List UInt8) (a : α) : Kv α → Kv α
  | [] => [(k, a)]
  | y :: r => if bytesBefore k y.1 then (k, a) :: y :: r else y :: insL k a r
def delL (k : List UInt8) (L : Kv α) : Kv α := L.filter fun p => !(p.1 == k)
def putL (k : List UInt8) (a : α) (L : Kv α) : Kv α := insL k a (delL k L)
def lkL (k : List UInt8) (L : Kv α) : Option α := (L.find? fun p => p.1 == k).map (·.2)
def Srt (L : Kv α) : Prop := L.Pairwise fun p q => bytesBefore p.1 q.1 = true

theorem mem_ins {k : List UInt8} {a : α} {p : List UInt8 × α} : ∀ {L : Kv α}, p ∈ insL k a L ↔ p = (k, a) ∨ p ∈ L
  | [] => by simp [insL]
  | y :: r => by
    unfold insL
    split
    · simp
    · rw [List.mem_cons, mem_ins, List.mem_cons]
      constructor
      · rintro (h | h | h)
        · exact .inr (.inl h)
        · exact .inl h
        · exact .inr (.inr h)
      · rintro (h | h | h)
        · exact .inr (.inl h)
        · exact .inl h
        · exact .inr (.inr h)
theorem mem_del {k : List UInt8} {p : List UInt8 × α} {L : Kv α} : p ∈ delL k L ↔ p ∈ L ∧ p.1 ≠ k := by
  unfold delL
  rw [List.mem_filter]
  simp
theorem Srt.nil : Srt ([] : Kv α) := List.Pairwise.nil
theorem Srt.del {L : Kv α} (h : Srt L) (k : List UInt8) : Srt (delL k L) := h.filter _
theorem Srt.ins {k : List UInt8} {a : α} : ∀ {L : Kv α}, Srt L → (∀ p ∈ L, p.1 ≠ k) → Srt (insL k a L)
  | [], _, _ => List.pairwise_cons.2 ⟨fun _ h => (by cases h), List.Pairwise.nil⟩
  | y :: r, h, hk => by
    obtain ⟨h1, h2⟩ := List.pairwise_cons.1 h
    unfold insL
    split
    · rename_i hb
      refine List.pairwise_cons.2 ⟨fun p hp => ?_, h⟩
      rcases List.mem_cons.1 hp with rfl | hp
      · exact hb
      · exact WideShapes.bytes_trans _ _ _ hb (h1 p hp)
    · rename_i hb
      refine List.pairwise_cons.2 ⟨fun p hp => ?_, Srt.ins h2 (fun p hp => hk p (List.mem_cons_of_mem _ hp))⟩
      rcases mem_ins.1 hp with rfl | hp
      · rcases WideAt.bytes_total y.1 k (hk y (List.mem_cons_self ..)) with h' | h'
        · exact h'
        · exact absurd h' hb
      · exact h1 p hp
theorem Srt.put {L : Kv α} (h : Srt L) (k : List UInt8) (a : α) : Srt (putL k a L) := (h.del k).ins fun _ hp => (mem_del.1 hp).2
theorem Srt.inj {L : Kv α} (h : Srt L) {p q : List UInt8 × α} (hp : p ∈ L) (hq : q ∈ L) (e : p.1 = q.1) : p = q := by
  induction L with
  | nil => cases hp
  | cons y r ih =>
    obtain ⟨h1, h2⟩ := List.pairwise_cons.1 h
    rcases List.mem_cons.1 hp with e1 | hp'
    · rcases List.mem_cons.1 hq with e2 | hq'
      · rw [e1, e2]
      · have := h1 q hq'; rw [← e1, e, WideAt.bytes_irrefl] at this; cases this
    · rcases List.mem_cons.1 hq with e2 | hq'
      · have := h1 p hp'; rw [← e2, e, WideAt.bytes_irrefl] at this; cases this
      · exact ih h2 hp' hq'
theorem lk_iff {L : Kv α} (h : Srt L) {k : List UInt8} {a : α} : lkL k L = some a ↔ (k, a) ∈ L := by
  unfold lkL
  constructor
  · intro e
    obtain ⟨p, hp, rfl⟩ := Option.map_eq_some_iff.1 e
    have h1 := List.mem_of_find?_eq_some hp
    have h2 := List.find?_some hp
    have h2 : p.1 = k := by simpa using h2
    rw [← h2]; exact h1
  · intro hm
    cases hf : L.find? fun p => p.1 == k with
    | none =>
      have := List.find?_eq_none.1 hf _ hm
      simp at this
    | some p =>
      have h1 := List.mem_of_find?_eq_some hf
      have h2 := List.find?_some hf
      have h2 : p.1 = k := by simpa using h2
      rw [h.inj h1 hm h2]; rfl
theorem lk_none {L : Kv α} {k : List UInt8} : lkL k L = none ↔ ∀ p ∈ L, p.1 ≠ k := by
  unfold lkL
  rw [Option.map_eq_none_iff, List.find?_eq_none]
  constructor
  · intro h p hp e; exact h p hp (by simp [e])
  · intro h p hp e; exact h p hp (by simpa using e)
theorem lk_put_same {L : Kv α} (h : Srt L) (k : List UInt8) (a : α) : lkL k (putL k a L) = some a := (lk_iff (h.put k a)).2 (mem_ins.2 (.inl rfl))
theorem lk_put_other {L : Kv α} (h : Srt L) {k k' : List UInt8} (hne : k' ≠ k) (a : α) : lkL k' (putL k a L) = lkL k' L := by
  cases hl : lkL k' L with
  | none =>
    rw [lk_none] at hl ⊢
    intro p hp
    rcases mem_ins.1 hp with rfl | hp
    · exact fun e => hne e.symm
    · exact hl p (mem_del.1 hp).1
  | some b => exact (lk_iff (h.put k a)).2 (mem_ins.2 (.inr (mem_del.2 ⟨(lk_iff h).1 hl, hne⟩)))
theorem lk_del_same {L : Kv α} (k : List UInt8) : lkL k (delL k L) = none := lk_none.2 fun _ hp => (mem_del.1 hp).2
theorem lk_del_other {L : Kv α} (h : Srt L) {k k' : List UInt8} (hne : k' ≠ k) : lkL k' (delL k L) = lkL k' L := by
  cases hl : lkL k' L with
  | none =>
    rw [lk_none] at hl ⊢
    intro p hp
    exact hl p (mem_del.1 hp).1
  | some b => exact (lk_iff (h.del k)).2 (mem_del.2 ⟨(lk_iff h).1 hl, hne⟩)
/-- Two that rise, and tell the same, are one. -/
theorem ext_lk {L L' : Kv α} (h : Srt L) (h' : Srt L') (e : ∀ k, lkL k L = lkL k L') : L = L' := by
  have nd : ∀ {M : Kv α}, Srt M → M.Nodup := fun {M} hM => hM.imp fun {p q} hpq e => by rw [e, WideAt.bytes_irrefl] at hpq; cases hpq
  refine List.Perm.eq_of_pairwise (le := fun p q : List UInt8 × α => bytesBefore p.1 q.1 = true) (fun a b _ _ h1 h2 => ?_) h h' ((List.perm_ext_iff_of_nodup (nd h) (nd h')).2 fun p => ?_)
  · have := WideShapes.bytes_trans _ _ _ h1 h2
    rw [WideAt.bytes_irrefl] at this; cases this
  · obtain ⟨k, a⟩ := p
    rw [← lk_iff h, ← lk_iff h', e]
theorem del_none {L : Kv α} {k : List UInt8} (h : lkL k L = none) : delL k L = L := by
  unfold delL
  rw [List.filter_eq_self]
  intro p hp
  have := lk_none.1 h p hp
  simpa using this
theorem len_del {L : Kv α} (k : List UInt8) : (delL k L).length ≤ L.length := List.length_filter_le _ _
theorem len_ins (k : List UInt8) (a : α) : ∀ L : Kv α, (insL k a L).length = L.length + 1
  | [] => rfl
  | y :: r => by
    unfold insL
    split
    · rfl
    · simp [len_ins k a r]
theorem len_put (L : Kv α) (k : List UInt8) (a : α) : (putL k a L).length ≤ L.length + 1 := by
  unfold putL; rw [len_ins]; have := len_del (L := L) k; omega

/-- Sums. -/
def tot (f : α → Nat) (L : Kv α) : Nat := (L.map fun p => f p.2).sum
theorem tot_ins (f : α → Nat) (k : List UInt8) (a : α) : ∀ L : Kv α, tot f (insL k a L) = tot f L + f a
  | [] => by simp [tot, insL]
  | y :: r => by
    unfold insL
    split
    · simp [tot]; omega
    · have := tot_ins f k a r
      simp only [tot, List.map_cons, List.sum_cons] at this ⊢
      omega
def olen (f : α → Nat) (k : List UInt8) (L : Kv α) : Nat := match lkL k L with | some a => f a | none => 0
theorem tot_del (f : α → Nat) (k : List UInt8) {L : Kv α} (h : Srt L) : tot f (delL k L) + olen f k L = tot f L := by
  induction L with
  | nil => rfl
  | cons y r ih =>
    obtain ⟨h1, h2⟩ := List.pairwise_cons.1 h
    have ih := ih h2
    by_cases e : y.1 = k
    · have hn : lkL k r = none := lk_none.2 fun p hp e' => by
        have := h1 p hp; rw [e, e', WideAt.bytes_irrefl] at this; cases this
      have h3 : delL k (y :: r) = r := by
        have := del_none hn
        unfold delL at this ⊢
        rw [List.filter_cons, if_neg (by simp [e])]; exact this
      have h4 : olen f k (y :: r) = f y.2 := by unfold olen lkL; simp [e]
      rw [h3, h4]; simp [tot]; omega
    · have h3 : delL k (y :: r) = y :: delL k r := by
        unfold delL
        rw [List.filter_cons, if_pos (by simpa using e)]
      have h4 : olen f k (y :: r) = olen f k r := by
        have he : (y.1 == k) = false := by simpa using e
        unfold olen lkL; simp [he]
      rw [h3, h4]
      simp only [tot, List.map_cons, List.sum_cons] at ih ⊢
      omega
theorem tot_put (f : α → Nat) (k : List UInt8) (a : α) {L : Kv α} (h : Srt L) : tot f (putL k a L) + olen f k L = tot f L + f a := by
  unfold putL; rw [tot_ins]; have := tot_del f k h; omega
theorem tot_le (f : α → Nat) (c : Nat) {L : Kv α} (h : ∀ p ∈ L, f p.2 ≤ c) : tot f L ≤ L.length * c := by
  induction L with
  | nil => simp [tot]
  | cons y r ih =>
    have h1 := ih fun p hp => h p (List.mem_cons_of_mem _ hp)
    have h2 := h y (List.mem_cons_self ..)
    simp only [tot, List.map_cons, List.sum_cons, List.length_cons, Nat.succ_mul] at h1 ⊢
    omega
theorem olen_le (f : α → Nat) (k : List UInt8) {L : Kv α} (h : Srt L) : olen f k L ≤ tot f L := by
  have := tot_del f k h; omega
/-- What is counted of those that are no longer to come. -/
def totI (f : α → Nat) (q : List UInt8 → Bool) (L : Kv α) : Nat := (L.map fun p => if q p.1 then f p.2 else 0).sum
theorem totI_step (f : α → Nat) (q q' : List UInt8 → Bool) (k : List UInt8) {L : Kv α} (h : Srt L) (hq : q k = false) (hq' : q' k = true) (ho : ∀ x, x ≠ k → q' x = q x) : totI f q' L = totI f q L + olen f k L := by
  induction L with
  | nil => rfl
  | cons y r ih =>
    obtain ⟨h1, h2⟩ := List.pairwise_cons.1 h
    have ih := ih h2
    by_cases e : y.1 = k
    · have hn : lkL k r = none := lk_none.2 fun p hp e' => by
        have := h1 p hp; rw [e, e', WideAt.bytes_irrefl] at this; cases this
      have h4 : olen f k (y :: r) = f y.2 := by unfold olen lkL; simp [e]
      have h5 : olen f k r = 0 := by unfold olen; rw [hn]
      rw [h4]
      simp only [totI, List.map_cons, List.sum_cons, e, hq, hq', h5] at ih ⊢
      simp at ih ⊢
      omega
    · have h4 : olen f k (y :: r) = olen f k r := by
        have he : (y.1 == k) = false := by simpa using e
        unfold olen lkL; simp [he]
      rw [h4]
      simp only [totI, List.map_cons, List.sum_cons, ho y.1 e] at ih ⊢
      omega
theorem totI_none (f : α → Nat) (q : List UInt8 → Bool) (L : Kv α) (h : ∀ p ∈ L, q p.1 = false) : totI f q L = 0 := by
  induction L with
  | nil => rfl
  | cons y r ih =>
    have := ih fun p hp => h p (List.mem_cons_of_mem _ hp)
    simp only [totI, List.map_cons, List.sum_cons] at this ⊢
    rw [h y (List.mem_cons_self ..), this]; rfl
theorem totI_all (f : α → Nat) (q : List UInt8 → Bool) (L : Kv α) (h : ∀ p ∈ L, q p.1 = true) : totI f q L = tot f L := by
  induction L with
  | nil => rfl
  | cons y r ih =>
    have := ih fun p hp => h p (List.mem_cons_of_mem _ hp)
    simp only [totI, tot, List.map_cons, List.sum_cons] at this ⊢
    rw [h y (List.mem_cons_self ..), this]; rfl

/-- How such a list is read as a map. -/
def toD (f : α → Value) (L : Kv α) : DataW Value := .map (L.map fun p => (.string p.1, .held (f p.2)))
def Rv (v : Value) : Option (DataW Value × List MemPlace) := some (.held v, [])
theorem toD_ins (f : α → Value) (k : List UInt8) (a : α) : ∀ L : Kv α, DataW.insert (.string k, .held (f a)) (L.map fun p => ((.string p.1, .held (f p.2)) : Lit × DataW Value)) = (insL k a L).map fun p => (.string p.1, .held (f p.2))
  | [] => rfl
  | y :: r => by
    have ih := toD_ins f k a r
    rw [List.map_cons]
    unfold insL DataW.insert
    by_cases hb : bytesBefore k y.1 = true
    · rw [if_pos (show (Lit.string k).before (Lit.string y.1) = true from hb), if_pos hb]; rfl
    · rw [if_neg (show ¬ (Lit.string k).before (Lit.string y.1) = true from hb), if_neg hb, ih]; rfl
theorem toD_del (f : α → Value) (k : List UInt8) (L : Kv α) : (toD f L).del (.string k) = toD f (delL k L) := by
  show DataW.map (List.filter (fun p => !p.1.sameKey (.string k)) (L.map fun p => ((.string p.1, .held (f p.2)) : Lit × DataW Value))) = _
  rw [List.filter_map]
  rfl
theorem toD_put (f : α → Value) (k : List UInt8) (a : α) (L : Kv α) : (toD f L).put (.string k) (.held (f a)) = toD f (putL k a L) := by
  have h := toD_ins f k a (delL k L)
  show DataW.map (DataW.insert (.string k, .held (f a)) (List.filter (fun p => !p.1.sameKey (.string k)) (L.map fun p => ((.string p.1, .held (f p.2)) : Lit × DataW Value)))) = _
  unfold toD putL
  rw [← h]
  unfold delL
  rw [List.filter_map]
  rfl
theorem toD_at (f : α → Value) (k : List UInt8) (L : Kv α) (z : DataW Value) : (toD f L).atKey (.string k) z = match lkL k L with | some a => .held (f a) | none => z := by
  unfold toD DataW.atKey lkL
  dsimp only
  rw [List.find?_map]
  simp only [Function.comp_def, Lit.sameKey]
  cases L.find? fun p => p.1 == k <;> rfl
theorem toD_has (f : α → Value) (k : List UInt8) (L : Kv α) : Maps.has (toD f L) (.string k) = (lkL k L).isSome := by
  unfold toD lkL
  rw [Maps.has_eq, List.any_map, Option.isSome_map, List.isSome_find?]
  rfl
theorem toD_size (f : α → Value) (L : Kv α) : Maps.size (toD f L) = L.length := by
  unfold toD; rw [Maps.size_eq, List.length_map]
theorem toD_keys (f : α → Value) (L : Kv α) : strKeys (toD f L) = L.map (·.1) := by
  show List.map (fun p => strOf p.1) (L.map fun p => ((.string p.1, .held (f p.2)) : Lit × DataW Value)) = _
  rw [List.map_map]; rfl
end
end Go.Proofs.YtlldfmnoidndmaaGreatDoor.Dsk
namespace Go.Proofs.YtlldfmnoidndmaaGreatDoor.Dsk
open Go.RowKit Go.Sort

theorem ret_bool {a b : Bool} (h : a = b) : Ending.returned (.bool a) = .returned (.bool b) := by rw [h]
/-- A file that is there: as it is, and as it is safe. -/
structure Ent where
  now : List UInt8
  sf : Option (List UInt8)
  deriving Inhabited
def pv (e : Ent) : Value := .agg #[.string ⟨e.now.toArray⟩, .string ⟨(e.sf.getD []).toArray⟩, .bool e.sf.isSome]
def nl (e : Ent) : Nat := e.now.length
/-- Nothing that was there has turned but X. -/
structure Kp (X : Nat → Prop) (w w' : World) : Prop where
  os : w'.os = w.os
  tape : w'.tape = w.tape
  output : w'.output = w.output
  size : w.heap.size ≤ w'.heap.size
  block : ∀ k, k < w.heap.size → ¬ X k → w'.heap[k]? = w.heap[k]?
theorem Kp.refl (X : Nat → Prop) (w : World) : Kp X w w := ⟨rfl, rfl, rfl, Nat.le_refl _, fun _ _ _ => rfl⟩
theorem Kp.trans {X Y : Nat → Prop} {a b c : World} (h : Kp X a b) (k : Kp Y b c) (hY : ∀ i, i < a.heap.size → Y i → X i) : Kp X a c :=
  ⟨k.os.trans h.os, k.tape.trans h.tape, k.output.trans h.output, Nat.le_trans h.size k.size, fun i hi hx => (k.block i (Nat.lt_of_lt_of_le hi h.size) fun hy => hx (hY i hi hy)).trans (h.block i hi hx)⟩
theorem Kp.of {X : Nat → Prop} {w w' : World} (h : Below w.heap.size w w') : Kp X w w' := ⟨h.os, h.tape, h.output, h.size, fun k hk _ => h.block k hk⟩
theorem Kp.set {X : Nat → Prop} {a w : World} (h : Kp X a w) {p : Addr} (hp : X p.block) (u : Value) : Kp X a (w.setCell p u) :=
  ⟨h.os, h.tape, h.output, by simpa using h.size, fun k hk hx => (Below.heap_setCell w p u k (fun e => hx (e ▸ hp))).trans (h.block k hk hx)⟩
theorem Kp.alloc {X : Nat → Prop} {a w : World} (h : Kp X a w) (o : Obj) : Kp X a (w.alloc o) :=
  h.trans (Kp.of (X := X) ((Below.refl _ _).alloc (Nat.le_refl _) _)) (fun _ _ h => h)
theorem Kp.below {X : Nat → Prop} {B : Nat} {w w' : World} (h : Kp X w w') (hB : B ≤ w.heap.size) (hX : ∀ k, k < B → ¬ X k) : Below B w w' :=
  ⟨h.os, h.tape, h.output, h.size, fun k hk => h.block k (by omega) (hX k hk)⟩
theorem Kp.grown {X : Nat → Prop} {w w' : World} {row : Option Nat} (h : w.grownBy w' row) (hr : ∀ k, row = some k → X k) : Kp X w w' :=
  ⟨h.os, h.tape, h.output, h.size, fun k hk hx => h.block k hk fun e => hx (hr k e.symm)⟩

abbrev dko (mb : Option Nat) (n : Int) (e : Bool) (c : Int) (bd : Bool) (r : Int) : Obj := .cells #[.map mb, .int .i64 n, .bool e, .int .i64 c, .bool bd, .int .i64 r] 31 (0, 0)
/-- A disk: its files, its power, its room. -/
structure PD (w : World) (b : Nat) (mb : Option Nat) (L : Kv Ent) (e : Bool) (c : Int) (bd : Bool) (r : Int) : Prop where
  blk : w.heap[b]? = some (dko mb (tot nl L : Int) e c bd r)
  nil : mb = none → L = []
  map : ∀ m, mb = some m → w.ownsMap Tryz.prog 9 Rv m L.length (toD pv L)
  srt : Srt L
/-- Its blocks. -/
def DX (b : Nat) (mb : Option Nat) (k : Nat) : Prop := k = b ∨ mb = some k
structure Dc (w : World) (b : Nat) (mb : Option Nat) (n : Int) (e : Bool) (c : Int) (bd : Bool) (r : Int) : Prop where
  lt : b < w.heap.size
  c0 : w.cell? ⟨b, 0, none⟩ = some (.map mb)
  c1 : w.cell? ⟨b, 1, none⟩ = some (.int .i64 n)
  c2 : w.cell? ⟨b, 2, none⟩ = some (.bool e)
  c3 : w.cell? ⟨b, 3, none⟩ = some (.int .i64 c)
  c4 : w.cell? ⟨b, 4, none⟩ = some (.bool bd)
  c5 : w.cell? ⟨b, 5, none⟩ = some (.int .i64 r)
  f0 : w.frozen? ⟨b, 0, none⟩ = false
  f1 : w.frozen? ⟨b, 1, none⟩ = false
  f2 : w.frozen? ⟨b, 2, none⟩ = false
  f3 : w.frozen? ⟨b, 3, none⟩ = false
  f4 : w.frozen? ⟨b, 4, none⟩ = false
  f5 : w.frozen? ⟨b, 5, none⟩ = false
theorem dc_of {w : World} {b : Nat} {mb : Option Nat} {n : Int} {e : Bool} {c : Int} {bd : Bool} {r : Int} (h : w.heap[b]? = some (dko mb n e c bd r)) : Dc w b mb n e c bd r :=
  ⟨(Array.getElem?_eq_some_iff.1 h).1, by simp [World.cell?, h], by simp [World.cell?, h], by simp [World.cell?, h], by simp [World.cell?, h], by simp [World.cell?, h], by simp [World.cell?, h], by simp [World.frozen?, h], by simp [World.frozen?, h], by simp [World.frozen?, h], by simp [World.frozen?, h], by simp [World.frozen?, h], by simp [World.frozen?, h]⟩
theorem heap_set {w : World} {b i : Nat} {cs : Array Value} {t : TypeId} {u : Value} (h : w.heap[b]? = some (.cells cs t (0, 0))) : (w.setCell ⟨b, i, none⟩ u).heap[b]? = some (.cells (cs.setIfInBounds i u) t (0, 0)) := heap_setCell_same w b i cs t u h

theorem on_any (b : Nat) (mb : Option Nat) (n : Int) (e : Bool) (c : Int) (bd : Bool) (r : Int) (w : World) (h : Dc w b mb n e c bd r) : Calls Tryz.prog 145 #[.pointer (some ⟨b, 0, none⟩)] w fun x w' => x = .returned (.bool (!e || decide (0 < c))) ∧ w' = w := by
  obtain ⟨hlt, c0, c1, c2, c3, c4, c5, f0, f1, f2, f3, f4, f5⟩ := h
  cases e with
  | false =>
    go_enter Tryz.func145, Tryz.ntmps145
    go_wp2
    go_ret
    exact ⟨rfl, rfl⟩
  | true =>
    go_enter Tryz.func145, Tryz.ntmps145
    go_wp2
    all_goals go_ret
    all_goals exact ⟨ret_bool (by simp_all), rfl⟩
theorem named_any (s : List UInt8) (w : World) : Calls Tryz.prog 146 #[.string ⟨s.toArray⟩] w fun x w' => x = .returned (.bool (decide (1 ≤ s.length) && decide (s.length ≤ 80))) ∧ w' = w := by
  go_enter Tryz.func146, Tryz.ntmps146
  go_wp2
  all_goals go_ret
  all_goals exact ⟨ret_bool (by rw [Bool.eq_iff_iff]; simp only [Bool.and_eq_true, decide_eq_true_eq, reduceCtorEq, false_iff]; omega), rfl⟩
theorem settled_any (s : List UInt8) (w : World) : Calls Tryz.prog 149 #[.string ⟨s.toArray⟩] w fun x w' => x = .returned (pv ⟨s, some s⟩) ∧ Below w.heap.size w w' := by
  go_enter Tryz.func149, Tryz.ntmps149
  go_wp2
  exact bodyPost_ret (v := pv ⟨s, some s⟩) (by simp [results, Tryz.results149, go_sem]; rfl) rfl ⟨rfl, (Below.refl _ _).alloc (Nat.le_refl _) _⟩
end Go.Proofs.YtlldfmnoidndmaaGreatDoor.Dsk
