/- Plain mathematics of stanzas: small letters, names, lines, fields, texts. -/
import Derived.Lib.Bytealg
import Derived.Lib.Split
import Derived.Lib.SplitLaws
import Derived.Lib.SlTrimSet
import Derived.Test.YtmlmdncepgcimaaGreatDoorProg
import Derived.WalkKit
import Derived.OwnWalk
import Derived.BigCall
import Derived.Lib.Hide
import Derived.Lib.ConvBytes
import Derived.Lib.Slices
import Derived.Lib.Builder
import Derived.Laws.IdiomStrings
import Derived.Laws.BytesArg
import Derived.Test.YtmlmdncepgcimaaGreatDoorZaq
namespace Go.Proofs.YtmlmdncepgcimaaGreatDoor.Stz
namespace Sm

def sm (c : UInt8) : UInt8 := if 65 ≤ c.toNat ∧ c.toNat ≤ 90 then c + 32 else c
def small (l : List UInt8) : List UInt8 := l.map sm
def bl (c : UInt8) : Bool := c == 32 || c == 9
def tl (l : List UInt8) : List UInt8 := l.dropWhile bl
def tr (l : List UInt8) : List UInt8 := (l.reverse.dropWhile bl).reverse
def nb (c : UInt8) : Bool := decide (33 ≤ c.toNat) && decide (c.toNat ≤ 126) && !(c == 58)
def hok (s : List UInt8) : Bool := match s with | [] => false | c :: _ => !(c == 35) && !(c == 45)
def nok (s : List UInt8) : Bool := hok s && decide (s.length ≤ 24) && s.all nb
def cok (c : UInt8) : Bool := (decide (32 ≤ c.toNat) || c == 9) && !(c == 127)
def lok (s : List UInt8) : Bool := s.all cok && (tr (tl s) == s)

/-- A text cut at line feeds. -/
def spl : List UInt8 → List (List UInt8)
  | [] => [[]]
  | c :: t => if c = 10 then [] :: spl t else match spl t with
    | [] => [[c]]
    | x :: r => (c :: x) :: r
/-- .. lines behind the first one. -/
def mok (ls : List (List UInt8)) : Bool := ls.all fun y => !(y == []) && lok y
def vok (v : List UInt8) : Bool := match spl v with | [] => true | x :: r => lok x && mok r
def ln (x : List UInt8) : List UInt8 := 32 :: ((if x.head? = some 46 then [46] else []) ++ (x ++ [10]))
def l0 (x : List UInt8) : List UInt8 := (if x = [] then [] else 32 :: x) ++ [10]
def vt (v : List UInt8) : List UInt8 := match spl v with | [] => [] | x :: r => l0 x ++ r.flatMap ln
abbrev F := List UInt8 × List UInt8
def ft (f : F) : List UInt8 := f.1 ++ (58 :: vt f.2)
def txt (l : List F) : List UInt8 := l.flatMap ft
/-- Where the first field of a name stands. -/
def fnd (l : List F) (s : List UInt8) : Option Nat := l.findIdx? fun f => small f.1 == small s
def gets (l : List F) (s : List UInt8) : Option (List UInt8) := (fnd l s).map fun i => (l.getD i ([], [])).2
/-- A field among those ahead of it. -/
def fok (l : List F) (f : F) : Bool := nok f.1 && vok f.2 && (fnd l f.1).isNone
def foks (l : List F) : Bool := (List.range l.length).all fun j => fok (l.take j) (l.getD j ([], []))
def rgt (l : List F) : Bool := decide (1 ≤ l.length) && decide (l.length ≤ 40) && foks l && decide ((txt l).length ≤ 4000)

theorem foks_yes {l : List F} (h : ∀ j (hj : j < l.length), fok (l.take j) l[j] = true) : foks l = true := by
  unfold foks; rw [List.all_eq_true]
  intro j hj
  have hj' : j < l.length := by simpa using hj
  rw [show l.getD j ([], []) = l[j] from by simp [List.getD, hj']]
  exact h j hj'
theorem foks_no {l : List F} (k : Nat) (hk : k < l.length) (h : fok (l.take k) l[k] = false) : foks l = false := by
  unfold foks; rw [List.all_eq_false]
  exact ⟨k, by simpa using hk, by rw [show l.getD k ([], []) = l[k] from by simp [List.getD, hk], h]; simp⟩

theorem sm_hi {c : UInt8} (h1 : 65 ≤ c.toNat) (h2 : c.toNat ≤ 90) : (sm c).toNat = c.toNat + 32 := by
  unfold sm; rw [if_pos ⟨h1, h2⟩]
  rw [UInt8.toNat_add]
  show (c.toNat + 32) % 256 = _
  omega
theorem sm_lo {c : UInt8} (h : ¬ (65 ≤ c.toNat ∧ c.toNat ≤ 90)) : sm c = c := by unfold sm; rw [if_neg h]

theorem fc_spl (l : List UInt8) : (Lib.indexByte l 10 = -1 ∧ spl l = [l]) ∨ ∃ k : Nat, k < l.length ∧ Lib.indexByte l 10 = k ∧ spl l = l.take k :: spl (l.drop (k + 1)) := by
  induction l with
  | nil => left; exact ⟨rfl, rfl⟩
  | cons c t ih =>
    by_cases hc : c = 10
    · right; subst hc
      exact ⟨0, by simp, by simp [Lib.indexByte], by simp [spl]⟩
    · rcases ih with ⟨h1, h2⟩ | ⟨k, hk, h1, h2⟩
      · left
        refine ⟨?_, ?_⟩
        · unfold Lib.indexByte; simp [hc, h1]
        · unfold spl; rw [if_neg hc, h2]
      · right
        refine ⟨k + 1, by simp; omega, ?_, ?_⟩
        · unfold Lib.indexByte; simp [hc, h1]
        · conv => lhs; unfold spl
          rw [if_neg hc, h2]; simp
theorem spl_ne (l : List UInt8) : spl l ≠ [] := by
  rcases fc_spl l with ⟨_, h⟩ | ⟨k, _, _, h⟩ <;> rw [h] <;> simp
theorem spl_len (l : List UInt8) : ∀ x ∈ spl l, x.length ≤ l.length := by
  induction l with
  | nil => intro x hx; simp [spl] at hx; simp [hx]
  | cons c t ih =>
    intro x hx
    unfold spl at hx
    split at hx
    · rcases List.mem_cons.1 hx with rfl | hx
      · simp
      · have := ih x hx; simp; omega
    · split at hx
      · simp at hx; simp [hx]
      · rename_i y r hy
        rcases List.mem_cons.1 hx with rfl | hx
        · have := ih y (by rw [hy]; simp); simpa using this
        · have := ih x (by rw [hy]; simp [hx]); simp; omega
end Sm
end Go.Proofs.YtmlmdncepgcimaaGreatDoor.Stz

/- The walks of Small, either side. -/
namespace Go.Proofs.YtmlmdncepgcimaaGreatDoor.Stz
open Go.RowKit

theorem ret_bool {a b : Bool} (h : a = b) : Ending.returned (.bool a) = .returned (.bool b) := by rw [h]
theorem ret_sv {a : ByteArray} {b : List UInt8} (h : a = ⟨b.toArray⟩) : Ending.returned (.string a) = .returned (.string ⟨b.toArray⟩) := by rw [h]
theorem onn {w w1 w2 : World} (h : Below w.heap.size w w1) (k : Below w1.heap.size w1 w2) : Below w.heap.size w w2 := h.trans (k.mono h.size)

/-- A row of bytes that may be written. -/
structure Row (W : World) (g n : Nat) (f : Nat → UInt8) : Prop where
  cell : ∀ j, j < n → W.cell? ⟨g, j, none⟩ = some (.int .u8 (f j).toNat)
  free : ∀ j, j < n → W.frozen? ⟨g, j, none⟩ = false

theorem Row.set {W : World} {g n : Nat} {f : Nat → UInt8} (h : Row W g n f) (k : Nat) (hk : k < n) (c : UInt8) : Row (W.setCell ⟨g, k, none⟩ (.int .u8 c.toNat)) g n (fun j => if j = k then c else f j) :=
  ⟨fun j hj => by
    by_cases e : j = k
    · subst e; rw [if_pos rfl]; exact World.cell?_setCell_same _ _ _ (h.cell j hj)
    · rw [if_neg e, World.cell?_setCell_other _ _ _ _ (fun x => e (by injection x with x1 x2 x3; exact x2.symm))]; exact h.cell j hj,
   fun j hj => by rw [World.frozen?_setCell]; exact h.free j hj⟩
theorem Row.cong {W : World} {g n : Nat} {f f' : Nat → UInt8} (h : Row W g n f) (e : ∀ j, j < n → f j = f' j) : Row W g n f' :=
  ⟨fun j hj => by rw [← e j hj]; exact h.cell j hj, h.free⟩
theorem Row.on {W w' : World} {g n : Nat} {f : Nat → UInt8} (h : Row W g n f) (hg : g < W.heap.size) (b : Below W.heap.size W w') : Row w' g n f :=
  ⟨fun j hj => by rw [b.cell hg]; exact h.cell j hj, fun j hj => by rw [b.frozen hg]; exact h.free j hj⟩
theorem Row.text {W : World} {g cap n : Nat} {f : Nat → UInt8} (h : Row W g n f) (l : List UInt8) (hn : l.length = n) (e : ∀ j (hj : j < l.length), f j = l[j]) : (convert 120 9 (.slice (some ⟨g, 0, none⟩) n cap)).run Tryz.prog W = .ok (.string ⟨l.toArray⟩) W := by
  subst hn
  exact run_convert_bytes_back (P := Tryz.prog) W 120 9 5 ⟨g, 0, none⟩ cap l Tryz.underlying120 Tryz.underlying5 Tryz.underlying9 (fun j hj => by
    have := h.cell j hj
    rw [e j hj] at this
    rcases j with _ | j <;> simpa [Addr.add] using this)

/-- A text's bytes in a row of their own. -/
theorem conv_in (l : List UInt8) (w : World) : ∃ cap W, (convert 9 120 (.string ⟨l.toArray⟩)).run Tryz.prog w = .ok (.slice (some ⟨w.heap.size, 0, none⟩) l.length cap) W ∧ Below w.heap.size w W ∧ w.heap.size < W.heap.size ∧ Row W w.heap.size l.length (fun j => l.getD j 0) := by
  refine ⟨_, _, Lib.run_convert_string_bytes (P := Tryz.prog) w 9 120 5 ⟨l.toArray⟩ Tryz.underlying9 Tryz.underlying120 Tryz.underlying5, ?_, ?_, ?_, ?_⟩
  · exact ⟨rfl, rfl, rfl, by rw [Lib.bytesWorld_size]; omega, fun j hj => Lib.bytesWorld_at_old w 5 _ j hj⟩
  · rw [Lib.bytesWorld_size]; omega
  · intro j hj
    have := Lib.bytesWorld_cell w 5 ⟨l.toArray⟩ j hj
    simpa using this
  · intro j hj
    have h1 := Lib.bytesWorld_cell w 5 ⟨l.toArray⟩ j hj
    have h2 := Lib.bytesWorld_at_new w 5 ⟨l.toArray⟩
    have h3 : j < (Lib.bytesCells w 5 ⟨l.toArray⟩).size := by
      rw [Lib.cell_of_heap h2] at h1
      exact (Array.getElem?_eq_some_iff.1 h1).1
    simp [World.frozen?, h2]; omega

def mx (l : List UInt8) (k j : Nat) : UInt8 := if j < k then Sm.sm (l.getD j 0) else l.getD j 0

set_option maxHeartbeats 1600000 in
set_option maxRecDepth 100000 in
theorem small_any (l : List UInt8) (w : World) (hl : l.length ≤ 1000000) : Calls Tryz.prog 177 #[.string ⟨l.toArray⟩] w fun e w' => e = .returned (.string ⟨(Sm.small l).toArray⟩) ∧ Below w.heap.size w w' := by
  obtain ⟨cap, W, hc, hb, hlt, hr⟩ := conv_in l w
  have HR : Hid (Row W w.heap.size l.length (fun j => l.getD j 0)) := hr
  clear hr
  go_enter Tryz.func177, Tryz.ntmps177
  go_wp2_with fail
  go_loopw [10] (fun i W' => ∃ k : Nat, k ≤ l.length ∧ i = .int .i64 k ∧ Below w.heap.size w W' ∧ Hid (Row W' w.heap.size l.length (mx l k))) (fun i _ => l.length - (intOf i).toNat)
  case atStart => exact ⟨0, Nat.zero_le _, rfl, hb, HR.out.cong (fun j _ => by simp [mx])⟩
  case round =>
    obtain ⟨k, hk, rfl, hbk, HK⟩ := hrel
    by_cases hlt : k < l.length
    · have ck := HK.out.cell k hlt
      have fk := HK.out.free k hlt
      rw [show mx l k k = l.getD k 0 from by simp [mx]] at ck
      have nxt : ∀ (W' : World) (c : UInt8), c = Sm.sm (l.getD k 0) → Row W' w.heap.size l.length (fun j => if j = k then c else mx l k j) → Row W' w.heap.size l.length (mx l (k + 1)) := fun W' c hc h => h.cong (fun j _ => by
        unfold mx
        by_cases e : j = k
        · subst e; rw [if_pos rfl, if_pos (Nat.lt_succ_self _), hc]
        · rw [if_neg e]
          by_cases h2 : j < k
          · rw [if_pos h2, if_pos (by omega)]
          · rw [if_neg h2, if_neg (by omega)])
      have gk : l.getD k 0 = l[k] := by simp [List.getD, hlt]
      have same : ∀ W', Row W' w.heap.size l.length (mx l k) → ¬ (65 ≤ l[k].toNat ∧ l[k].toNat ≤ 90) → Row W' w.heap.size l.length (mx l (k + 1)) := fun W' h hn => nxt W' l[k] (by rw [gk, Sm.sm_lo hn]) (h.cong (fun j _ => by
        by_cases e : j = k
        · subst e; rw [if_pos rfl]; unfold mx; rw [if_neg (Nat.lt_irrefl _), gk]
        · rw [if_neg e]))
      have HN := Lib.hid nxt
      have HS := Lib.hid same
      clear nxt same
      go_wp2_with fail
      · have h1 : 65 ≤ l[k].toNat ∧ l[k].toNat ≤ 90 := by omega
        have h2 := Sm.sm_hi h1.1 h1.2
        have e : Value.int .u8 ((l[k].toNat : Int) - 65 + 97) = .int .u8 ((Sm.sm l[k]).toNat : Int) := by rw [h2]; congr 1; omega
        rw [e]
        exact ⟨⟨k + 1, hlt, by go_num, hbk.setCell (Nat.le_refl _) _, HN.out _ _ (by rw [gk]) (HK.out.set k hlt _)⟩, by simp [intOf]; omega⟩
      · exact ⟨⟨k + 1, hlt, by go_num, hbk, HS.out _ HK.out (by omega)⟩, by simp [intOf]; omega⟩
      · exact ⟨⟨k + 1, hlt, by go_num, hbk, HS.out _ HK.out (by omega)⟩, by simp [intOf]; omega⟩
    · have hkl : k = l.length := by omega
      subst hkl
      have hcv := HK.out.text (cap := cap) (Sm.small l) (by simp [Sm.small]) (fun j hj => by
        have hj' : j < l.length := by simpa [Sm.small] using hj
        simp [mx, Sm.small, hj', List.getD])
      go_wp2
      go_ret
      exact ⟨rfl, hbk⟩

/-- The first k in small letters, noughts behind. -/
def mz (l : List UInt8) (k j : Nat) : UInt8 := if j < k then Sm.sm (l.getD j 0) else 0
theorem infoByte : (Tryz.prog.info? 5).map (fun i => (i.zero, i.size, i.bytes)) = some (some (.int .u8 0), 1, 1) := by kernel_rfl

theorem made_row {w W : World} {n : Nat} (h : W.ownsRow w.heap.size 5 1 (.slice (some ⟨w.heap.size, 0, none⟩) n n) n (madeCells (Value.int .u8 0).cells (n * 1)).toList) : Row W w.heap.size n (fun _ => 0) := by
  rcases h.2 with ⟨h1, _⟩ | ⟨g, cap, cur, h1, _, h3, _, _, h6, h7⟩
  · cases h1
  · injection h1 with e1 e2 e3
    injection e1 with e1
    injection e1 with e1
    subst e1 e3
    refine ⟨fun j hj => ?_, fun j _ => by simp [World.frozen?, h3]⟩
    rw [Lib.cell_of_heap h3]
    have h8 : cur.toList[j]? = (madeCells (Value.int .u8 0).cells (n * 1)).toList[j]? := by
      rw [← h7, List.getElem?_take, if_pos (by omega)]
    rw [← Array.getElem?_toList, h8]
    simp [madeCells, Value.cells, hj, Nat.mod_one]

set_option maxHeartbeats 1600000 in
set_option maxRecDepth 100000 in
theorem xsmall_any (l : List UInt8) (w : World) (hl : l.length ≤ 1000000) : Calls Tryz.prog 114 #[.string ⟨l.toArray⟩] w fun e w' => e = .returned (.string ⟨(Sm.small l).toArray⟩) ∧ Below w.heap.size w w' := by
  obtain ⟨i0, hi, hz0, hz1, hz2⟩ := info_parts infoByte
  go_enter Tryz.func114, Tryz.ntmps114
  go_wp2_with (refine wpList_make_full _ rfl _ _ 120 rfl w.heap.size 5 i0 _ 1 Tryz.underlying120 hi hz0 hz1 .i64 .i64 _ _ l.length rfl rfl rfl rfl ?h1 ?h2 ?h3 ?_)
  case h1 => rw [hz2]; omega
  case h2 => unfold maxLen; omega
  case h3 => exact Nat.le_refl _
  intro W hown hgr
  have hb : Below w.heap.size w W := (Below.refl _ _).grown hgr (Nat.le_refl _) (fun k e => by cases e)
  have HR : Hid (Row W w.heap.size l.length (fun _ => 0)) := made_row (by rw [Nat.mul_one]; exact hown)
  clear hown hgr
  go_wp2_with fail
  go_loopw [11] (fun i W' => ∃ k : Nat, k ≤ l.length ∧ i = .int .i64 k ∧ Below w.heap.size w W' ∧ Hid (Row W' w.heap.size l.length (mz l k))) (fun i _ => l.length - (intOf i).toNat)
  case atStart => exact ⟨0, Nat.zero_le _, rfl, hb, HR.out.cong (fun j _ => by simp [mz])⟩
  case round =>
    obtain ⟨k, hk, rfl, hbk, HK⟩ := hrel
    by_cases hlt : k < l.length
    · have ck := HK.out.cell k hlt
      have fk := HK.out.free k hlt
      have gk : l.getD k 0 = l[k] := by simp [List.getD, hlt]
      have nxt : ∀ (W' : World) (c : UInt8), c = Sm.sm l[k] → Row W' w.heap.size l.length (fun j => if j = k then c else mz l k j) → Row W' w.heap.size l.length (mz l (k + 1)) := fun W' c hc h => h.cong (fun j _ => by
        unfold mz
        by_cases e : j = k
        · subst e; rw [if_pos rfl, if_pos (Nat.lt_succ_self _), hc, gk]
        · rw [if_neg e]
          by_cases h2 : j < k
          · rw [if_pos h2, if_pos (by omega)]
          · rw [if_neg h2, if_neg (by omega)])
      have HN := Lib.hid nxt
      clear nxt
      have eg : (ByteArray.mk l.toArray)[k]'hlt = l[k] := rfl
      go_wp2_with fail
      · have h1 : 65 ≤ l[k].toNat ∧ l[k].toNat ≤ 90 := by omega
        have h2 := Sm.sm_hi h1.1 h1.2
        have e : Value.int .u8 ((l[k].toNat : Int) + 32) = .int .u8 ((Sm.sm l[k]).toNat : Int) := by rw [h2]; congr 1
        rw [e]
        exact ⟨⟨k + 1, hlt, by go_num, hbk.setCell (Nat.le_refl _) _, HN.out _ _ rfl (HK.out.set k hlt _)⟩, by simp [intOf]; omega⟩
      · exact ⟨⟨k + 1, hlt, by go_num, hbk.setCell (Nat.le_refl _) _, HN.out _ _ (Sm.sm_lo (by omega)).symm (HK.out.set k hlt _)⟩, by simp [intOf]; omega⟩
      · exact ⟨⟨k + 1, hlt, by go_num, hbk.setCell (Nat.le_refl _) _, HN.out _ _ (Sm.sm_lo (by omega)).symm (HK.out.set k hlt _)⟩, by simp [intOf]; omega⟩
    · have hkl : k = l.length := by omega
      subst hkl
      have hcv := HK.out.text (cap := l.length) (Sm.small l) (by simp [Sm.small]) (fun j hj => by
        have hj' : j < l.length := by simpa [Sm.small] using hj
        simp [mz, Sm.small, hj', List.getD])
      go_wp2
      go_ret
      exact ⟨rfl, hbk⟩

end Go.Proofs.YtmlmdncepgcimaaGreatDoor.Stz

/- The walks of names and lines, either side. -/
namespace Go.Proofs.YtmlmdncepgcimaaGreatDoor.Stz
open Go.RowKit Go.Shelf

theorem all_to {p : UInt8 → Bool} {l : List UInt8} (h : ∀ j (hj : j < l.length), p l[j] = true) : l.all p = true := by
  rw [List.all_eq_true]
  intro x hx
  obtain ⟨j, hj, rfl⟩ := List.getElem_of_mem hx
  exact h j hj
theorem all_no {p : UInt8 → Bool} {l : List UInt8} (k : Nat) (hk : k < l.length) (h : p l[k] = false) : l.all p = false := by
  rw [List.all_eq_false]
  exact ⟨l[k], List.getElem_mem hk, by simp [h]⟩
theorem beq_of {c d : UInt8} : (((c.toNat : Int) == (d.toNat : Int))) = (c == d) := by
  rw [Bool.eq_iff_iff, beq_iff_eq, beq_iff_eq]
  constructor
  · intro h; exact UInt8.toNat_inj.1 (by omega)
  · rintro rfl; rfl
theorem eq35 (c : UInt8) : ((c.toNat : Int) == 35) = (c == 35) := beq_of (d := 35)
theorem eq45 (c : UInt8) : ((c.toNat : Int) == 45) = (c == 45) := beq_of (d := 45)
theorem eq58 (c : UInt8) : ((c.toNat : Int) == 58) = (c == 58) := beq_of (d := 58)
theorem eq127 (c : UInt8) : ((c.toNat : Int) == 127) = (c == 127) := beq_of (d := 127)
theorem eq9 (c : UInt8) : ((c.toNat : Int) == 9) = (c == 9) := beq_of (d := 9)
theorem eq32 (c : UInt8) : ((c.toNat : Int) == 32) = (c == 32) := beq_of (d := 32)
theorem eq46 (c : UInt8) : ((c.toNat : Int) == 46) = (c == 46) := beq_of (d := 46)

theorem ba_head (c : UInt8) (l : List UInt8) (h : 0 < (ByteArray.mk (c :: l).toArray).size) : (ByteArray.mk (c :: l).toArray)[0]'h = c := rfl

theorem nok_nil : Sm.nok [] = false := rfl
theorem nok_long {l : List UInt8} (h : 24 < l.length) : Sm.nok l = false := by
  unfold Sm.nok; rw [show decide (l.length ≤ 24) = false from by simp; omega]; simp
theorem nok_head {l : List UInt8} (h : Sm.hok l = false) : Sm.nok l = false := by unfold Sm.nok; rw [h]; rfl
theorem nok_all {l : List UInt8} (h1 : Sm.hok l = true) (h2 : l.length ≤ 24) (b : Bool) (h3 : l.all Sm.nb = b) : b = Sm.nok l := by unfold Sm.nok; rw [h1, h3]; simp [h2]

theorem rn_nil (w : World) : Calls Tryz.prog 166 #[.string ⟨([] : List UInt8).toArray⟩] w fun e w' => e = .returned (.bool (Sm.nok [])) ∧ w' = w := by
  go_enter Tryz.func166, Tryz.ntmps166
  go_wp2
  go_ret
  exact ⟨rfl, rfl⟩

theorem nb_no1 {c : UInt8} (h : (c.toNat : Int) < 33) : Sm.nb c = false := by unfold Sm.nb; rw [show decide (33 ≤ c.toNat) = false from by simp; omega]; rfl
theorem nb_no2 {c : UInt8} (h : 126 < (c.toNat : Int)) : Sm.nb c = false := by unfold Sm.nb; rw [show decide (c.toNat ≤ 126) = false from by simp; omega]; simp
theorem nb_no3 {c : UInt8} (h : (c == 58) = true) : Sm.nb c = false := by unfold Sm.nb; rw [h]; simp
theorem nb_yes {c : UInt8} (h1 : 33 ≤ (c.toNat : Int)) (h2 : (c.toNat : Int) ≤ 126) (h3 : (c == 58) = false) : Sm.nb c = true := by unfold Sm.nb; rw [h3]; simp; omega

attribute [local go_sem] ba_head in
set_option maxHeartbeats 1600000 in
theorem rn_cons (c : UInt8) (t : List UInt8) (w : World) (hl : (c :: t).length ≤ 1000000) : Calls Tryz.prog 166 #[.string ⟨(c :: t).toArray⟩] w fun e w' => e = .returned (.bool (Sm.nok (c :: t))) ∧ w' = w := by
  obtain ⟨b, hb⟩ : ∃ b, b = Sm.nok (c :: t) := ⟨_, rfl⟩
  have HB := Lib.hid hb
  rw [← hb]
  clear hb
  have e35 := eq35 c
  have e45 := eq45 c
  by_cases h24 : (c :: t).length ≤ 24
  · cases h35 : (c == 35) with
    | true =>
      have hn : b = false := by rw [HB.out]; exact nok_head (by simp [Sm.hok, h35])
      simp only [List.length_cons] at h24 hl
      go_enter Tryz.func166, Tryz.ntmps166
      go_wp2
      go_ret
      first | exact ⟨rfl, rfl⟩ | exact ⟨ret_bool hn.symm, rfl⟩
    | false =>
      cases h45 : (c == 45) with
      | true =>
        have hn : b = false := by rw [HB.out]; exact nok_head (by simp [Sm.hok, h45])
        simp only [List.length_cons] at h24 hl
        go_enter Tryz.func166, Tryz.ntmps166
        go_wp2
        go_ret
        first | exact ⟨rfl, rfl⟩ | exact ⟨ret_bool hn.symm, rfl⟩
      | false =>
        have hd : Sm.hok (c :: t) = true := by simp [Sm.hok, h35, h45]
        have HY := Lib.hid (fun b' h => nok_all hd h24 b' h)
        obtain ⟨l, hle⟩ : ∃ l, l = c :: t := ⟨_, rfl⟩
        have h0 : 0 < (ByteArray.mk l.toArray).size := by rw [hle]; simp [ByteArray.size]
        have g0 : (ByteArray.mk l.toArray)[0]'h0 = c := by subst hle; rfl
        have ge : l.isEmpty = false := by rw [hle]; rfl
        rw [← hle] at HB HY h24 hl ⊢
        clear hle
        go_enter Tryz.func166, Tryz.ntmps166
        go_wp2
        go_loop [24] (fun i => ∃ k : Nat, k ≤ l.length ∧ i = .int .i64 k ∧ Hid (∀ j (hj : j < l.length), j < k → Sm.nb l[j] = true)) (fun i => l.length - (intOf i).toNat)
        case atStart => exact ⟨0, Nat.zero_le _, rfl, fun j _ h => absurd h (Nat.not_lt_zero _)⟩
        case round =>
          obtain ⟨k, hk, rfl, HP⟩ := hrel
          by_cases hlt : k < l.length
          · have more : Sm.nb l[k] = true → ∀ j (hj : j < l.length), j < k + 1 → Sm.nb l[j] = true := fun hc j hj h => by
              by_cases e : j = k
              · subst e; exact hc
              · exact HP.out j hj (by omega)
            have HM := Lib.hid more
            clear more
            have eg : (ByteArray.mk l.toArray)[k]'hlt = l[k] := rfl
            have e58 := eq58 l[k]
            by_cases a1 : l[k].toNat < 33
            · go_wp2
              go_ret
              exact ⟨ret_bool (by rw [HB.out]; exact HY.out false (all_no k hlt (nb_no1 (by omega)))), rfl⟩
            · by_cases a2 : 126 < l[k].toNat
              · go_wp2
                go_ret
                exact ⟨ret_bool (by rw [HB.out]; exact HY.out false (all_no k hlt (nb_no2 (by omega)))), rfl⟩
              · cases a3 : (l[k] == 58) with
                | true =>
                  rw [a3] at e58
                  go_wp2
                  go_ret
                  exact ⟨ret_bool (by rw [HB.out]; exact HY.out false (all_no k hlt (nb_no3 a3))), rfl⟩
                | false =>
                  rw [a3] at e58
                  go_wp2
                  exact ⟨⟨k + 1, hlt, by go_num, HM.out (nb_yes (by omega) (by omega) a3)⟩, by simp [intOf]; omega⟩
          · go_wp2
            go_ret
            exact ⟨ret_bool (by rw [HB.out]; exact HY.out true (all_to (fun j hj => HP.out j hj (by omega)))), rfl⟩
  · have hn : b = false := by rw [HB.out]; exact nok_long (by omega)
    simp only [List.length_cons] at h24 hl
    go_enter Tryz.func166, Tryz.ntmps166
    go_wp2
    go_ret
    first | exact ⟨rfl, rfl⟩ | exact ⟨ret_bool hn.symm, rfl⟩
theorem rn_any (l : List UInt8) (w : World) (hl : l.length ≤ 1000000) : Calls Tryz.prog 166 #[.string ⟨l.toArray⟩] w fun e w' => e = .returned (.bool (Sm.nok l)) ∧ w' = w := by
  cases l with
  | nil => exact rn_nil w
  | cons c t => exact rn_cons c t w hl

theorem xin_any (e a b : Int) (w : World) : Calls Tryz.prog 66 #[.int .i64 e, .int .i64 a, .int .i64 b] w fun x w' => x = .returned (.bool (decide (a ≤ e) && decide (e ≤ b))) ∧ w' = w := by
  go_enter Tryz.func66, Tryz.ntmps66
  go_wp2
  all_goals go_ret
  all_goals exact ⟨ret_bool (by rw [Bool.eq_iff_iff]; simp; omega), rfl⟩

theorem hok_cons (c : UInt8) (t : List UInt8) (h1 : (c == 35) = false) (h2 : (c == 45) = false) : Sm.hok (c :: t) = true := by simp [Sm.hok, h1, h2]

attribute [local go_sem] ba_head in
set_option maxHeartbeats 1600000 in
set_option maxRecDepth 100000 in
theorem xn_any (l : List UInt8) (w : World) (hl : l.length ≤ 1000000) : Calls Tryz.prog 113 #[.string ⟨l.toArray⟩] w fun e w' => e = .returned (.bool (Sm.nok l)) ∧ w' = w := by
  obtain ⟨b, hb⟩ : ∃ b, b = Sm.nok l := ⟨_, rfl⟩
  have HB := Lib.hid hb
  rw [← hb]
  clear hb
  go_enter Tryz.func113, Tryz.ntmps113
  go_wp2
  go_loop [6] (fun i => ∃ k : Nat, k ≤ l.length ∧ i = .int .i64 k ∧ Hid (∀ j (hj : j < l.length), j < k → Sm.nb l[j] = true)) (fun i => l.length - (intOf i).toNat)
  case atStart => exact ⟨0, Nat.zero_le _, rfl, fun j _ h => absurd h (Nat.not_lt_zero _)⟩
  case round =>
    obtain ⟨k, hk, rfl, HP⟩ := hrel
    by_cases hlt : k < l.length
    · have more : Sm.nb l[k] = true → ∀ j (hj : j < l.length), j < k + 1 → Sm.nb l[j] = true := fun hc j hj h => by
        by_cases e : j = k
        · subst e; exact hc
        · exact HP.out j hj (by omega)
      have HM := Lib.hid more
      have HN : Hid (Sm.nb l[k] = false → false = b) := fun h => by
        rw [HB.out]; unfold Sm.nok; rw [all_no k hlt h]; simp
      clear more
      have eg : (ByteArray.mk l.toArray)[k]'hlt = l[k] := rfl
      have e58 := eq58 l[k]
      have cI : ∀ W, Calls Tryz.prog 66 #[.int .i64 l[k].toNat, .int .i64 33, .int .i64 126] W fun x w' => x = .returned (.bool (decide (33 ≤ (l[k].toNat : Int)) && decide ((l[k].toNat : Int) ≤ 126))) ∧ w' = W := fun W => xin_any _ _ _ W
      by_cases a1 : 33 ≤ l[k].toNat ∧ l[k].toNat ≤ 126
      · rw [show (decide (33 ≤ (l[k].toNat : Int)) && decide ((l[k].toNat : Int) ≤ 126)) = true from by simp; omega] at cI
        cases a3 : (l[k] == 58) with
        | true =>
          rw [a3] at e58
          go_wp2_with (go_at_call 66; with_reducible refine (cI _).mono ?_; rintro x w' ⟨rfl, rfl⟩)
          go_ret
          exact ⟨ret_bool (HN.out (nb_no3 a3)), rfl⟩
        | false =>
          rw [a3] at e58
          go_wp2_with (go_at_call 66; with_reducible refine (cI _).mono ?_; rintro x w' ⟨rfl, rfl⟩)
          exact ⟨⟨k + 1, hlt, by go_num, HM.out (nb_yes (by omega) (by omega) a3)⟩, by simp [intOf]; omega⟩
      · rw [show (decide (33 ≤ (l[k].toNat : Int)) && decide ((l[k].toNat : Int) ≤ 126)) = false from by simp; omega] at cI
        have HF : Hid (false = b) := HN.out (by
          by_cases h : l[k].toNat < 33
          · exact nb_no1 (by omega)
          · exact nb_no2 (by omega))
        have h256 := l[k].toNat_lt
        clear a1 HN HM e58
        go_wp2_with (go_at_call 66; with_reducible refine (cI _).mono ?_; rintro x w' ⟨rfl, rfl⟩)
        go_ret
        exact ⟨ret_bool HF.out, rfl⟩
    · have hall : l.all Sm.nb = true := all_to (fun j hj => HP.out j hj (by omega))
      have HY : Hid (b = (Sm.hok l && decide (l.length ≤ 24))) := by show b = _; rw [HB.out]; unfold Sm.nok; rw [hall]; simp
      clear HP hall
      obtain rfl : k = l.length := by omega
      clear hk hlt
      cases l with
      | nil =>
        go_wp2_with (go_at_call 66; refine (xin_any _ _ _ _).mono ?_; rintro x w' ⟨rfl, rfl⟩)
        go_ret
        exact ⟨ret_bool (by rw [HY.out]; rfl), rfl⟩
      | cons c t =>
        have e35 := eq35 c
        have e45 := eq45 c
        by_cases h24 : (c :: t).length ≤ 24
        · have hAB : (decide (1 ≤ (t.length : Int) + 1) && decide ((t.length : Int) + 1 ≤ 24)) = true := by simp; simp at h24; omega
          cases h35 : (c == 35) with
          | true =>
            have HZ : Hid (b = false) := by show b = _; rw [HY.out]; simp [Sm.hok, h35]
            rw [h35] at e35
            have n35 : ((c.toNat : Int) != 35) = false := by unfold bne; rw [e35]; rfl
            simp only [List.length_cons] at h24 hl
            go_wp2_with (go_at_call 66; refine (xin_any _ _ _ _).mono ?_; rintro x w' ⟨rfl, rfl⟩; rw [hAB])
            go_ret
            exact ⟨ret_bool HZ.out.symm, rfl⟩
          | false =>
            have HZ : Hid (b = !(c == 45)) := by
              show b = _
              rw [HY.out, show decide ((c :: t).length ≤ 24) = true from by simpa using h24]
              simp [Sm.hok, h35]
            rw [h35] at e35
            have n35 : ((c.toNat : Int) != 35) = true := by unfold bne; rw [e35]; rfl
            cases h45 : (c == 45) with
            | true =>
              rw [h45] at e45 HZ
              have n45 : ((c.toNat : Int) != 45) = false := by unfold bne; rw [e45]; rfl
              simp only [List.length_cons] at h24 hl
              go_wp2_with (go_at_call 66; refine (xin_any _ _ _ _).mono ?_; rintro x w' ⟨rfl, rfl⟩; rw [hAB])
              go_ret
              exact ⟨ret_bool HZ.out.symm, rfl⟩
            | false =>
              rw [h45] at e45 HZ
              have n45 : ((c.toNat : Int) != 45) = true := by unfold bne; rw [e45]; rfl
              simp only [List.length_cons] at h24 hl
              go_wp2_with (go_at_call 66; refine (xin_any _ _ _ _).mono ?_; rintro x w' ⟨rfl, rfl⟩; rw [hAB])
              go_ret
              exact ⟨ret_bool HZ.out.symm, rfl⟩
        · have hAB : (decide (1 ≤ (t.length : Int) + 1) && decide ((t.length : Int) + 1 ≤ 24)) = false := by simp; simp at h24; omega
          have HZ : Hid (b = false) := by show b = _; rw [HY.out]; simp at h24 ⊢; omega
          simp only [List.length_cons] at h24 hl
          go_wp2_with (go_at_call 66; refine (xin_any _ _ _ _).mono ?_; rintro x w' ⟨rfl, rfl⟩; rw [hAB])
          go_ret
          exact ⟨ret_bool HZ.out.symm, rfl⟩

end Go.Proofs.YtmlmdncepgcimaaGreatDoor.Stz
