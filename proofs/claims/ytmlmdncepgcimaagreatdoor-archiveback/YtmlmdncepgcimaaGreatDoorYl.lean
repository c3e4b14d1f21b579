/- The walk of the reference's Fields. -/
import Derived.Test.YtmlmdncepgcimaaGreatDoorZaz
import Derived.Test.YtmlmdncepgcimaaGreatDoorZal
namespace Go.Proofs.YtmlmdncepgcimaaGreatDoor
open Go.RowKit Go.Shelf Go.Sort

/-- What is asked for, in its order. -/
def lx (p : Pck) : List (List (List Tm)) := [p.D, p.A, sing p.G, sing p.B, sing p.R, sing p.o.P]
def nm6 : List (List UInt8) := [[68, 101, 112, 101, 110, 100, 115], [80, 114, 101, 45, 68, 101, 112, 101, 110, 100, 115], [67, 111, 110, 102, 108, 105, 99, 116, 115], [66, 114, 101, 97, 107, 115], [82, 101, 112, 108, 97, 99, 101, 115], [80, 114, 111, 118, 105, 100, 101, 115]]
def mid6 (p : Pck) : List Fd := [([68, 101, 112, 101, 110, 100, 115], wrA p.D), ([80, 114, 101, 45, 68, 101, 112, 101, 110, 100, 115], wrA p.A), ([67, 111, 110, 102, 108, 105, 99, 116, 115], wrA (sing p.G)), ([66, 114, 101, 97, 107, 115], wrA (sing p.B)), ([82, 101, 112, 108, 97, 99, 101, 115], wrA (sing p.R)), ([80, 114, 111, 118, 105, 100, 101, 115], wrA (sing p.o.P))]
def last2 (p : Pck) : List Fd := [([67, 111, 110, 102, 102, 105, 108, 101, 115], lns p.S), ([84, 114, 105, 103, 103, 101, 114, 115], lns p.L)]
def ini (p : Pck) : List Fd := [([80, 97, 99, 107, 97, 103, 101], p.o.n), ([86, 101, 114, 115, 105, 111, 110], Vm.pt p.o.e p.o.u p.o.r)]
theorem pt_ne {e : Int} {u r : List UInt8} (h : Vm.rt e u r = true) : Vm.pt e u r ≠ [] := by
  cases u with
  | nil => rw [show Vm.rt e [] r = false from rt_hd rfl] at h; cases h
  | cons c t => unfold Vm.pt; simp
theorem nm_ne {s : List UInt8} (h : nmo s = true) : s ≠ [] := by
  intro e; rw [e] at h; cases h
theorem flds_eq {p : Pck} (h : Rk p) : flds p = ini p ++ (mid6 p).flatMap kp ++ (last2 p).flatMap kp := by
  unfold flds addl mid6 last2 ini
  simp only [List.flatMap_cons, List.flatMap_nil, List.append_nil]
  rw [show kp ([80, 97, 99, 107, 97, 103, 101], p.o.n) = [([80, 97, 99, 107, 97, 103, 101], p.o.n)] from by unfold kp; rw [if_neg (nm_ne h.n)], show kp ([86, 101, 114, 115, 105, 111, 110], Vm.pt p.o.e p.o.u p.o.r) = [([86, 101, 114, 115, 105, 111, 110], Vm.pt p.o.e p.o.u p.o.r)] from by unfold kp; rw [if_neg (pt_ne h.v)]]
  simp only [List.append_assoc, List.cons_append, List.nil_append]
theorem lx_at {p : Pck} {W : World} {bb : Nat} {v0 v1 v2 v3 v4 v5 : Value} (hc : W.heap[bb]? = some (Obj.cells #[v0, v1, v2, v3, v4, v5] 24 (0, 0))) (h0 : As W v0 p.D) (h1 : As W v1 p.A) (h2 : As W v2 (sing p.G)) (h3 : As W v3 (sing p.B)) (h4 : As W v4 (sing p.R)) (h5 : As W v5 (sing p.o.P)) (hp : Pg p) (hk : Rk p) (k : Nat) (hk6 : k < 6) :
    ∃ v x, W.cell? ⟨bb, k, none⟩ = some v ∧ As W v x ∧ Asx x ∧ ask x = true ∧ (mid6 p)[k]? = some ((nm6[k]?).getD [], wrA x) := by
  match k, hk6 with
  | 0, _ => exact ⟨v0, p.D, by simp [World.cell?, hc], h0, hp.D, hk.D, rfl⟩
  | 1, _ => exact ⟨v1, p.A, by simp [World.cell?, hc], h1, hp.A, hk.A, rfl⟩
  | 2, _ => exact ⟨v2, sing p.G, by simp [World.cell?, hc], h2, hp.G, hk.G, rfl⟩
  | 3, _ => exact ⟨v3, sing p.B, by simp [World.cell?, hc], h3, hp.B, hk.B, rfl⟩
  | 4, _ => exact ⟨v4, sing p.R, by simp [World.cell?, hc], h4, hp.R, hk.R, rfl⟩
  | 5, _ => exact ⟨v5, sing p.o.P, by simp [World.cell?, hc], h5, hp.P, hk.P, rfl⟩
theorem mid_up {p : Pck} {k : Nat} {f : Fd} (h : (mid6 p)[k]? = some f) : ((mid6 p).take (k + 1)).flatMap kp = ((mid6 p).take k).flatMap kp ++ kp f := by
  obtain ⟨hk, e⟩ := List.getElem?_eq_some_iff.1 h
  rw [List.take_succ_eq_append_getElem hk, List.flatMap_append, e]; simp
theorem mid_le (p : Pck) (k : Nat) : (ini p ++ ((mid6 p).take k).flatMap kp).length ≤ 10 := by
  have := kps_le ((mid6 p).take k)
  have h2 : ((mid6 p).take k).length ≤ 6 := by simp [mid6]; omega
  rw [List.length_append]
  have : (ini p).length = 2 := rfl
  omega

def nm2 : List (List UInt8) := [[67, 111, 110, 102, 102, 105, 108, 101, 115], [84, 114, 105, 103, 103, 101, 114, 115]]
theorem l2_at {p : Pck} {W : World} {bb : Nat} {v0 v1 : Value} (hc : W.heap[bb]? = some (Obj.cells #[v0, v1] 26 (0, 0))) (h0 : Ss W v0 p.S) (h1 : Ss W v1 p.L) (hp : Pg p) (k : Nat) (hk : k < 2) :
    ∃ v x, W.cell? ⟨bb, k, none⟩ = some v ∧ Ss W v x ∧ txs x = true ∧ (last2 p)[k]? = some ((nm2[k]?).getD [], lns x) := by
  match k, hk with
  | 0, _ => exact ⟨v0, p.S, by simp [World.cell?, hc], h0, hp.S, rfl⟩
  | 1, _ => exact ⟨v1, p.L, by simp [World.cell?, hc], h1, hp.L, rfl⟩
theorem last_up {p : Pck} {k : Nat} {f : Fd} (h : (last2 p)[k]? = some f) : ((last2 p).take (k + 1)).flatMap kp = ((last2 p).take k).flatMap kp ++ kp f := by
  obtain ⟨hk, e⟩ := List.getElem?_eq_some_iff.1 h
  rw [List.take_succ_eq_append_getElem hk, List.flatMap_append, e]; simp
theorem last_le (p : Pck) (k : Nat) : ((ini p ++ (mid6 p).flatMap kp) ++ ((last2 p).take k).flatMap kp).length ≤ 20 := by
  have h1 := kps_le ((last2 p).take k)
  have h2 : ((last2 p).take k).length ≤ 2 := by simp [last2]; omega
  have h3 := mid_le p 6
  rw [show (mid6 p).take 6 = mid6 p from rfl] at h3
  rw [List.length_append]
  omega
theorem nm2_at (W : World) (k : Nat) (hk : k < 2) : (W.alloc (.cells #[.string ⟨#[67, 111, 110, 102, 102, 105, 108, 101, 115]⟩, .string ⟨#[84, 114, 105, 103, 103, 101, 114, 115]⟩] 9)).cell? ⟨W.heap.size, k, none⟩ = some (.string ⟨((nm2[k]?).getD []).toArray⟩) := by
  match k, hk with
  | 0, _ => simp [nm2]
  | 1, _ => simp [nm2]
theorem ss_at {W : World} {A : Option Addr} {n c : Nat} {l : List (List UInt8)} (h : Ss W (.slice A n c) l) (k : Nat) (hk : k < l.length) : ∃ b o, A = some ⟨b, o, none⟩ ∧ W.cell? ⟨b, o + k, none⟩ = some (.string ⟨l[k].toArray⟩) := by
  rcases h.is with ⟨rfl, _⟩ | ⟨b, o, c', e, _, hf⟩
  · simp at hk
  · cases e; exact ⟨b, o, rfl, hf.c k hk⟩
theorem lns5 {l : List (List UInt8)} (h : txs l = true) (i : Nat) : (lns (l.take i)).length ≤ 5000 := by
  obtain ⟨hn, hs⟩ := txs_p h
  have h1 := lns_le (l.take i) (fun s hs' => hs s (List.mem_of_mem_take hs'))
  have h2 : (l.take i).length ≤ 40 := by simp; omega
  have h3 : (l.take i).length * 101 ≤ 40 * 101 := Nat.mul_le_mul h2 (Nat.le_refl _)
  omega
end Go.Proofs.YtmlmdncepgcimaaGreatDoor
