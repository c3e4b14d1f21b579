/- Maps from texts to texts, beside the disk. -/
import Derived.Test.YtjllnhdampjieaaDoorKg0
namespace Go.Proofs.YtjllnhdampjieaaDoor
open Go.RowKit Go.Sort Go.Maps Go.Shelf

def sv (s : List UInt8) : Value := .string ⟨s.toArray⟩
theorem zero9 (w : World) : (zeroValue 9).run Tryd.prog w = .ok (.string ⟨#[]⟩) w := by kernel_rfl
def tx (k : List UInt8) (O : Kv (List UInt8)) : List UInt8 := (lkL k O).getD []
theorem slook {w : World} {m n : Nat} {O : Kv (List UInt8)} (h : w.ownsMap Tryd.prog 9 Rv m n (toD sv O)) (k : List UInt8) (hk : k.length ≤ 1000000) :
    (Instr.lookup 57 (.map (some m)) (.string ⟨k.toArray⟩) false).run Tryd.prog w = .ok (.string ⟨(tx k O).toArray⟩) w := by
  have hat : ∀ v ps, Rv v = some ((toD sv O).atKey (.string k) (.held (sv [])), ps) → v = sv (tx k O) := fun v ps hv => by
    rw [toD_at] at hv
    unfold tx
    cases hl : lkL k O with
    | none => rw [hl] at hv; simpa [Rv] using congrArg (fun o => o.map Prod.fst) hv
    | some a => rw [hl] at hv; simpa [Rv] using congrArg (fun o => o.map Prod.fst) hv
  obtain ⟨v, ps, h1, h2⟩ := h.lookup law9 Tryd.underlying57 (zero9 w) (zd := .held (sv [])) (zp := []) rfl (key9 k hk)
  rw [h1, hat v ps h2]; rfl
/-- A map of texts, laid behind the world w0, apart from the disk. -/
structure MP (w0 W : World) (b : Nat) (mb : Option Nat) (mn : Nat) (O : Kv (List UInt8)) : Prop where
  own : W.ownsMap Tryd.prog 9 Rv mn O.length (toD sv O)
  srt : Srt O
  ne : mn ≠ b
  nm : mb ≠ some mn
  ge : w0.heap.size ≤ mn
section
variable {w0 W W' : World} {b : Nat} {mb mb' : Option Nat} {mn : Nat} {O : Kv (List UInt8)} {L L' : Kv Ent} {e e' : Bool} {c c' : Int}
theorem MP.up (h : MP w0 W b mb mn O) (hb : Below W.heap.size W W') : MP w0 W' b mb mn O :=
  ⟨own_kp h.own (Kp.of (X := fun _ => False) hb) (fun x => x), h.srt, h.ne, h.nm, h.ge⟩
theorem MP.next (h : MP w0 W b mb mn O) (hm : ∀ m, mb' = some m → mb = some m ∨ W.heap.size ≤ m) (hk : Kp (DX b mb) W W') : MP w0 W' b mb' mn O := by
  refine ⟨own_kp h.own hk fun hx => ?_, h.srt, h.ne, fun e1 => ?_, h.ge⟩
  · rcases hx with hx | hx
    · exact h.ne hx
    · exact h.nm hx
  · rcases hm mn e1 with h1 | h1
    · exact h.nm h1
    · have := h.own.lt; omega
theorem KD.oth (h : KD w0 W b mb L e c) (hk : Kp (fun k => k = mn) W W') (h1 : mn ≠ b) (h2 : mb ≠ some mn) (h3 : w0.heap.size ≤ mn) : KD w0 W' b mb L e c := by
  refine ⟨h.pd.on fun k hlt hx => hk.block k hlt fun e1 => ?_, h.bl.trans (hk.below h.bl.size fun k hk' e1 => by omega), h.hb, h.hm⟩
  subst e1
  rcases hx with hx | hx
  · exact h1 hx
  · exact h2 hx
theorem MP.store (h : MP w0 W b mb mn O) (k s : List UInt8) (hk : k.length ≤ 1000000) (hn : O.length ≤ 1000000) :
    ∃ W', (Instr.mapUpdate 57 (.map (some mn)) (.string ⟨k.toArray⟩) (.string ⟨s.toArray⟩)).run Tryd.prog W = .ok () W' ∧ MP w0 W' b mb mn (putL k s O) ∧ Kp (fun i => i = mn) W W' := by
  obtain ⟨W', hrun, hown, hturn⟩ := h.own.store law9 Tryd.underlying57 (by unfold maxLen; omega) (key9 k hk) (val := sv s) (d := .held (sv s)) (ps := []) rfl
  rw [toD_put] at hown
  exact ⟨W', hrun, ⟨own_tight hown, h.srt.put k s, h.ne, h.nm, h.ge⟩, Kp.grown hturn.grown fun i hi => by cases hi; rfl⟩
theorem MP.oth (h : MP w0 W b mb mn O) {mo : Nat} (hk : Kp (fun k => k = mo) W W') (hne : mn ≠ mo) : MP w0 W' b mb mn O := ⟨own_kp h.own hk hne, h.srt, h.ne, h.nm, h.ge⟩
end
theorem Kcs.one {W : World} {A : Option Addr} {n c : Nat} {l : List Kc} (h : Kcs W (.slice A n c) l) (i : Nat) (hi : i < l.length) : ∃ b o, A = some ⟨b, o, none⟩ ∧ l.length ≤ c ∧ b < W.heap.size ∧ W.cell? ⟨b, o + i * 4, none⟩ = some (.int .i64 l[i].t) ∧ ∀ c', 1 ≤ c' → Kcs W (.slice (some ⟨b, o + i * 4, none⟩) 1 c') [l[i]] := by
  rcases h.is with ⟨rfl, _⟩ | ⟨b, o, c0, h1, hcp, hk⟩
  · exact absurd hi (Nat.not_lt_zero _)
  · cases h1
    refine ⟨b, o, rfl, hcp, hk.lt, hk.c0 i hi, fun c' hc' => ⟨.inr ⟨b, o + i * 4, c', rfl, hc', ⟨hk.lt, fun j hj => ?_, fun j hj => ?_, fun j hj => ?_, fun j hj => ?_⟩⟩⟩⟩
    all_goals
      obtain rfl : j = 0 := by simp at hj; omega
    · simpa using hk.c0 i hi
    · simpa using hk.c1 i hi
    · simpa using hk.c2 i hi
    · simpa using hk.c3 i hi
def opc (M : Kv Ent) : List (List UInt8) := (nms M).map fun k => k ++ [61] ++ (ent k M).now
theorem altx_semi (M : Kv Ent) : altx M = semi (opc M) := by
  unfold altx semi opc
  rw [List.map_map]
  rfl
theorem opc_at {M : Kv Ent} (h : Kok M) {k : List UInt8} (hk : k ∈ nms M) : ∃ x : UInt8, k = [x] ∧ (97 ≤ x.toNat ∧ x.toNat < 103) ∧ Lt (ent k M).now := by
  obtain ⟨a, ha⟩ := nms_mem.1 hk
  obtain ⟨⟨x, rfl, hx⟩, _⟩ := h.is k a ((lk_iff h.srt).2 ha)
  exact ⟨x, rfl, hx, (h.ent _).1⟩
theorem no_u8 {c x : UInt8} (hc : c.toNat < 97) (hx : 97 ≤ x.toNat) : c ≠ x := fun e => by rw [e] at hc; omega
theorem lt_no {s : List UInt8} (h : Lt s) {c : UInt8} (hc : c.toNat < 97) : c ∉ s := fun hm => by have := (h.ch c hm).1; omega
theorem opc_ok {M : Kv Ent} (h : Kok M) : ∀ p ∈ opc M, (59 : UInt8) ∉ p := fun p hp => by
  obtain ⟨k, hk, rfl⟩ := List.mem_map.1 hp
  obtain ⟨x, e1, hx, hl⟩ := opc_at h hk
  have h1 := lt_no hl (c := 59) (by decide)
  generalize (ent k M).now = now at h1
  subst e1
  have h2 : (59 : UInt8) ≠ x := no_u8 (by decide) hx.1
  simp [h1, h2]
theorem opc_len {M : Kv Ent} (h : Kok M) : (semi (opc M)).length ≤ 240 := by
  rw [← altx_semi]
  have h1 := pcs_len M (nms M) (nms M).length 19 (fun k hk => by obtain ⟨x, rfl, _⟩ := opc_at h hk; simp) h.bn
  rw [List.take_length] at h1
  have h2 := h.len
  rw [nms_len] at h1
  have : M.length * (2 * 19 + 2) ≤ 6 * 40 := Nat.mul_le_mul h2 (Nat.le_refl _)
  unfold altx
  omega
def afterR (n : Nat) : Code → Option Code
  | .seq (.region m _ _) b => if m = n then some b else afterR n b
  | .seq a b => match afterR n a with
    | some c => some c
    | none => afterR n b
  | .block _ c => afterR n c
  | .loop c => afterR n c
  | .scope c => afterR n c
  | .cond _ a b => match afterR n a with
    | some c => some c
    | none => afterR n b
  | _ => none
end Go.Proofs.YtjllnhdampjieaaDoor
