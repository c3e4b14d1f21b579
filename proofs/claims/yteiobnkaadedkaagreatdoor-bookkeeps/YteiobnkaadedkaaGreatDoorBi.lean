/- A book: Get walked. -/
import Derived.Test.YteiobnkaadedkaaGreatDoorBh
namespace Go.Proofs.YteiobnkaadedkaaGreatDoor
open Go.RowKit Go.Sort Go.Maps

/-- What is told at a name. -/
def gtx (P : Bk) (N : Nat → Bk) (k : List UInt8) : List UInt8 := match lkL k (N (shf k)) with | some t => t | none => txt k P
set_option maxRecDepth 100000 in
set_option maxHeartbeats 2000000 in
theorem get_any (b d pm : Nat) (ns : Nat → Nat) (dn : Bool) (P : Bk) (N : Nat → Bk) (k : List UInt8) (w : World) (h : BK w b d pm ns dn P N) (hk : k.length ≤ 1000) : Calls Tryz.prog 14 #[.pointer (some ⟨b, 0, none⟩), .string ⟨k.toArray⟩] w fun x w' => x = .returned (.string ⟨(gtx P N k).toArray⟩) ∧ Below w.heap.size w w' := by
  have hi := shf_lt k
  have cS := fun W => sheet_any k W (by omega)
  obtain ⟨hlt, c0, c1, cn, cd, f⟩ := bc_of h.blk
  have hci := cn _ hi
  have hlk := (lmlook (h.ln _ hi) k (by omega)).2
  have hlp := (lmlook h.lp k (by omega)).1
  have bE := fun s => ((Below.refl w.heap.size w).drew).alloc (Nat.le_refl _) (.cells #[.string s] 77 (0, 0))
  obtain ⟨i, hie⟩ : ∃ i, i = shf k := ⟨_, rfl⟩
  unfold gtx
  rw [← hie] at cS hci hlk hi ⊢
  have hlkd : (Instr.lookup 64 (.map (some (ns i))) (.string ⟨k.toArray⟩) true).run Tryz.prog w.drew = .ok (.tuple #[lv (txt k (N i)), .bool (lkL k (N i)).isSome]) w.drew := (lmlook ((h.up ((Below.refl w.heap.size w).drew)).ln i hi) k (by omega)).2
  have hi' : (i : Int) < 37 := by omega
  have hlka : (Instr.lookup 64 (.map (some (ns i))) (.string ⟨k.toArray⟩) true).run Tryz.prog (w.alloc (.cells #[.string ⟨#[]⟩] 77 (0, 0))).drew = .ok (.tuple #[lv (txt k (N i)), .bool (lkL k (N i)).isSome]) (w.alloc (.cells #[.string ⟨#[]⟩] 77 (0, 0))).drew := (lmlook ((h.up (((Below.refl w.heap.size w).alloc (Nat.le_refl _) _).drew)).ln i hi) k (by omega)).2
  have HL := Lib.hid h
  clear h hie cn
  cases hz : lkL k (N i) with
  | some t =>
    have ht : txt k (N i) = t := by unfold txt; rw [hz]; rfl
    rw [ht, hz] at hlkd hlka
    clear hlk hlp ht
    unfold lv at hlkd hlka
    go_enter Tryz.func14, Tryz.ntmps14
    go_wp2
    go_region_law (first | (go_simp; go_at_call 29; refine (cS _).mono ?_; rintro e w6 ⟨rfl, rfl⟩))
    all_goals
      go_wp2
      go_ret
      exact ⟨rfl, ((Below.refl _ _).alloc (Nat.le_refl _) _).drew⟩
  | none =>
    have ht : txt k (N i) = [] := by unfold txt; rw [hz]; rfl
    rw [ht, hz] at hlkd hlka
    have hb2 := HL.out.up (((Below.refl w.heap.size w).alloc (Nat.le_refl _) (.cells #[.string ⟨#[]⟩] 77 (0, 0))).drew)
    have hp2 := (lmlook hb2.lp k (by omega)).1
    have d1 := (bc_of hb2.blk).c1
    have hf := fld77 ⟨(txt k P).toArray⟩
    generalize txt k P = t at hp2 hf
    clear hlk hlp ht hb2
    unfold lv at hlkd hlka hp2
    go_enter Tryz.func14, Tryz.ntmps14
    go_wp2
    go_region_law (first | (go_simp; go_at_call 29; refine (cS _).mono ?_; rintro e w6 ⟨rfl, rfl⟩))
    all_goals
      go_wp2
      go_ret
      exact ⟨rfl, ((Below.refl _ _).alloc (Nat.le_refl _) _).drew⟩
end Go.Proofs.YteiobnkaadedkaaGreatDoor
