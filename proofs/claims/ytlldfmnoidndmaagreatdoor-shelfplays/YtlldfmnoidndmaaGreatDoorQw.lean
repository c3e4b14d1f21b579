/- A package's files lie there, as it has them (but settings). -/
import Derived.Test.YtlldfmnoidndmaaGreatDoorQe
namespace Go.Proofs.YtlldfmnoidndmaaGreatDoor.Dsk
open Go.RowKit Go.Sort Go.Maps

theorem zero3 (w : World) : (zeroValue 3).run Tryz.prog w = .ok (.int .i64 0) w := by kernel_rfl
def iat (k : List UInt8) (M : Kv Value) : Value := (lkL k M).getD (.int .i64 0)
theorem milook {w : World} {m : Nat} {M : Kv Value} (h : MV w m M) (k : List UInt8) (hk : k.length ≤ 1000000) :
    (Instr.lookup 107 (.map (some m)) (.string ⟨k.toArray⟩) false).run Tryz.prog w = .ok (iat k M) w := by
  have hat : ∀ v ps, Rv v = some ((toD (fun v => v) M).atKey (.string k) (.held (.int .i64 0)), ps) → v = iat k M := fun v ps hv => by
    rw [toD_at] at hv
    unfold iat
    cases hl : lkL k M with
    | none => rw [hl] at hv; simpa [Rv] using congrArg (fun o => o.map Prod.fst) hv
    | some a => rw [hl] at hv; simpa [Rv] using congrArg (fun o => o.map Prod.fst) hv
  obtain ⟨v, ps, h1, h2⟩ := h.lookup law9 Tryz.underlying107 (zero3 w) (zd := .held (.int .i64 0)) (zp := []) rfl (key9 k hk)
  rw [h1, hat v ps h2]
/-- How often texts stand in a list. -/
structure Cn (l : List (List UInt8)) (n : Nat) (M : Kv Value) : Prop where
  s : Srt M
  v : ∀ k, ∃ c : Nat, c ≤ n ∧ iat k M = .int .i64 c ∧ (c = 0 ↔ ¬ k ∈ l)
  n : M.length ≤ n
theorem cn_nil : Cn [] 0 [] := ⟨Srt.nil, fun k => ⟨0, Nat.le_refl _, rfl, by simp⟩, Nat.le_refl _⟩
theorem Cn.put {l : List (List UInt8)} {n : Nat} {M : Kv Value} (h : Cn l n M) (x : List UInt8) (c : Nat) (hc : iat x M = .int .i64 c) : Cn (l ++ [x]) (n + 1) (putL x (.int .i64 ((c : Int) + 1)) M) := by
  refine ⟨h.s.put _ _, fun k => ?_, Nat.le_trans (putL_len _ _ _) (by have := h.n; omega)⟩
  by_cases e : k = x
  · subst e
    obtain ⟨c', h1, h2, _⟩ := h.v k
    rw [hc] at h2
    have h3 : c = c' := by simp at h2; omega
    exact ⟨c + 1, by omega, by unfold iat; rw [lk_put_same h.s]; rfl, by simp⟩
  · obtain ⟨c', h1, h2, h3⟩ := h.v k
    refine ⟨c', by omega, ?_, ?_⟩
    · unfold iat at h2 ⊢
      rw [lk_put_other h.s e]
      exact h2
    · rw [h3]
      simp [e]
section
variable {w W : World} {s d : Nat} {Z : Nat → Prop} {L : Kv Ent}
set_option maxRecDepth 100000 in
set_option maxHeartbeats 8000000 in
theorem laid_any (h : SJ w s d L Z W) (p : Pck) (vD vA vG vB vR vP vS vL vF : Value) (hS : Ss W vS p.S) (hSl : p.S.length ≤ 1000) (hSx : ∀ x ∈ p.S, x.length ≤ 900) (hF : Fs W vF p.F) (hFl : p.F.length ≤ 1000) (hFx : ∀ f ∈ p.F, f.1.length ≤ 900) (_hnl : p.o.n.length ≤ 1000)
    (hO : ∀ f ∈ p.F, (ent ([111, 47] ++ f.1) L).now = p.o.n) (hDt : ∀ f ∈ p.F, ¬ f.1 ∈ p.S → ∃ e, lkL ([100, 47] ++ f.1) L = some e ∧ e.now = f.2) :
    Calls Tryz.prog 25 #[.pointer (some ⟨s, 0, none⟩), pkv p.o.n p.o.e p.o.u p.o.r vD vA vG vB vR vP vS vL vF] W fun x W2 => x = .returned (.bool true) ∧ Below W.heap.size W W2 := by
  obtain ⟨fA, fc, rfl⟩ : ∃ fA fc, vF = .slice fA p.F.length fc := by
    rcases hF.is with ⟨h, A, c, h1⟩ | ⟨b, o, c, h1, _⟩
    · rw [h]; exact ⟨_, _, h1⟩
    · exact ⟨_, _, h1⟩
  obtain ⟨sA, sc, rfl⟩ : ∃ sA sc, vS = .slice sA p.S.length sc := by
    rcases hS.is with ⟨h, A, c, h1⟩ | ⟨b, o, c, h1, _⟩
    · rw [h]; exact ⟨_, _, h1⟩
    · exact ⟨_, _, h1⟩
  have bA := (Below.refl W.heap.size W).alloc (Nat.le_refl _) (pko p.o.n p.o.e p.o.u p.o.r vD vA vG vB vR vP (.slice sA p.S.length sc) vL (.slice fA p.F.length fc))
  have x0 := nb0 W (pko p.o.n p.o.e p.o.u p.o.r vD vA vG vB vR vP (.slice sA p.S.length sc) vL (.slice fA p.F.length fc))
  obtain ⟨bp, hbp⟩ : ∃ bp, bp = W.heap.size := ⟨_, rfl⟩
  obtain ⟨V0, hV0⟩ : ∃ V0, V0 = W.alloc (pko p.o.n p.o.e p.o.u p.o.r vD vA vG vB vR vP (.slice sA p.S.length sc) vL (.slice fA p.F.length fc)) := ⟨_, rfl⟩
  rw [← hV0] at bA x0
  rw [← hbp] at x0
  have hmm := @run_makeMap Tryz.prog
  have bM := (Below.refl V0.heap.size V0).alloc (Nat.le_refl _) (.map #[] 0)
  have HM0 := Lib.hid (mv_made V0)
  obtain ⟨mm, hmmE⟩ : ∃ mm, mm = V0.heap.size := ⟨_, rfl⟩
  obtain ⟨V1, hV1⟩ : ∃ V1, V1 = V0.alloc (.map #[] 0) := ⟨_, rfl⟩
  rw [← hmmE, ← hV1] at HM0
  rw [← hV1] at bM
  have hb1 := bA.trans (bM.mono bA.size)
  have hx1 := (bM.block bp (Array.getElem?_eq_some_iff.1 x0).1).trans x0
  have hmW : W.heap.size ≤ mm := by rw [hmmE]; exact bA.size
  have hbm : bp ≠ mm := by have := (Array.getElem?_eq_some_iff.1 x0).1; omega
  have HJ := Lib.hid h
  have HSs := Lib.hid hS
  have HFs := Lib.hid hF
  have HSX := Lib.hid hSx
  have HFX := Lib.hid hFx
  have HO := Lib.hid hO
  have HDt := Lib.hid hDt
  have HB1 := Lib.hid hb1
  have HX1 := Lib.hid hx1
  clear h hS hF hSx hFx hO hDt bA x0 bM hb1 hx1
  go_enter Tryz.func25, Tryz.ntmps25
  go_upto_region 1 with fail
  rw [← hV0, ← hbp]
  clear hV0 hbp
  go_upto_region 2 with fail
  rw [← hV1, ← hmmE]
  clear hV1 hmmE hmm
  go_wp2_with fail
  go_loopw [6] (fun iv Y => ∃ k : Nat, k ≤ p.S.length ∧ iv = .int .i64 k ∧ Hid (∃ M, Cn (p.S.take k) k M ∧ MV Y mm M) ∧ Hid (Below W.heap.size W Y ∧ Y.heap[bp]? = V1.heap[bp]?)) (fun iv _ => p.S.length - (intOf iv).toNat)
  case atStart => exact ⟨0, Nat.zero_le _, rfl, ⟨[], by rw [List.take_zero]; exact cn_nil, HM0.out⟩, HB1.out, rfl⟩
  case round =>
    obtain ⟨k, hk, rfl, HK, HY⟩ := hrel
    have hxY := HY.out.2.trans HX1.out
    have p10 : wr.cell? ⟨bp, 10, none⟩ = some (.slice sA p.S.length sc) := by simp [World.cell?, hxY]
    have hbpl : bp < wr.heap.size := (Array.getElem?_eq_some_iff.1 hxY).1
    clear hxY
    by_cases hlt : k < p.S.length
    · obtain ⟨sb, so, rfl, hsl, hsc⟩ : ∃ sb so, sA = some ⟨sb, so, none⟩ ∧ sb < wr.heap.size ∧ wr.cell? ⟨sb, so + k, none⟩ = some (.string ⟨p.S[k].toArray⟩) := by
        rcases (HSs.out.on HY.out.1).is with ⟨h, _⟩ | ⟨b, o, c, h1, _, h3⟩
        · rw [h] at hlt; simp at hlt
        · cases h1; exact ⟨b, o, rfl, h3.lt, h3.c k hlt⟩
      obtain ⟨M, hCn, hM⟩ := HK.out
      have hxl := HSX.out _ (List.getElem_mem hlt)
      have hlook := milook hM p.S[k] (by omega)
      obtain ⟨c, hcn, hci, _⟩ := hCn.v p.S[k]
      rw [hci] at hlook
      obtain ⟨w7, hrun, hown7, hturn⟩ := hM.store law9 Tryz.underlying107 (by unfold maxLen; have := hCn.n; omega) (key9 p.S[k] (by omega)) (val := .int .i64 ((c : Int) + 1)) (d := .held (.int .i64 ((c : Int) + 1))) (ps := []) rfl
      have h7 : MV w7 mm (putL p.S[k] (.int .i64 ((c : Int) + 1)) M) := by
        have e1 := toD_put (fun v : Value => v) p.S[k] (.int .i64 ((c : Int) + 1)) M
        rw [e1] at hown7
        exact own_tight hown7
      have HF7 : Hid ((∃ M, Cn (p.S.take (k + 1)) (k + 1) M ∧ MV w7 mm M) ∧ (Below W.heap.size W w7 ∧ w7.heap[bp]? = V1.heap[bp]?)) := by
        refine ⟨⟨_, ?_, h7⟩, HY.out.1.grown hturn.grown HY.out.1.size (fun r hr => by cases hr; exact hmW), (hturn.grown.block bp hbpl (by simpa using hbm)).trans HY.out.2⟩
        rw [List.take_succ_eq_append_getElem hlt]
        exact hCn.put _ c hci
      generalize p.S[k] = x at hlook hrun hsc hxl
      clear HK hM hCn hci h7 hown7 hturn
      go_wp2_with fail
      exact ⟨⟨k + 1, hlt, by go_num, HF7.out.1, HF7.out.2⟩, by simp [intOf]; omega⟩
    · have hke : k = p.S.length := by omega
      have HKE : Hid (∃ M, Cn p.S p.S.length M ∧ MV wr mm M) := by
        have := HK.out
        rw [hke, List.take_length] at this
        exact this
      have HX2 : Hid (wr.heap[bp]? = some (pko p.o.n p.o.e p.o.u p.o.r vD vA vG vB vR vP (.slice sA p.S.length sc) vL (.slice fA p.F.length fc))) := HY.out.2.trans HX1.out
      have HB2 := Lib.hid HY.out.1
      clear HK HY hke HM0 HB1 HX1
      obtain ⟨V2, hV2⟩ : ∃ V2, V2 = wr := ⟨_, rfl⟩
      rw [← hV2] at HKE HX2 HB2 p10 hbpl ⊢
      clear hV2
      go_wp2_with fail
      go_loopw [7] (fun iv Y => ∃ k : Nat, k ≤ p.F.length ∧ iv = .int .i64 k ∧ Hid (Below V2.heap.size V2 Y)) (fun iv _ => p.F.length - (intOf iv).toNat)
      case atStart => exact ⟨0, Nat.zero_le _, rfl, Below.refl _ _⟩
      case round =>
        obtain ⟨k, hk, rfl, HY⟩ := hrel
        have hxY := (HY.out.block bp hbpl).trans HX2.out
        have q12 : wr.cell? ⟨bp, 12, none⟩ = some (.slice fA p.F.length fc) := by simp [World.cell?, hxY]
        have hbpY : bp < wr.heap.size := (Array.getElem?_eq_some_iff.1 hxY).1
        by_cases hlt : k < p.F.length
        · have hWY := HB2.out.trans (HY.out.mono HB2.out.size)
          obtain ⟨fb, fo, rfl, hfl, f0, f1⟩ : ∃ fb fo, fA = some ⟨fb, fo, none⟩ ∧ fb < wr.heap.size ∧ wr.cell? ⟨fb, fo + k * 2, none⟩ = some (.string ⟨p.F[k].1.toArray⟩) ∧ wr.cell? ⟨fb, fo + k * 2 + 1, none⟩ = some (.string ⟨p.F[k].2.toArray⟩) := by
            rcases (HFs.out.on hWY).is with ⟨h, _⟩ | ⟨b, o, c, h1, _, h3⟩
            · rw [h] at hlt; simp at hlt
            · cases h1; exact ⟨b, o, rfl, h3.lt, h3.c0 k hlt, h3.c1 k hlt⟩
          have hfx := HFX.out _ (List.getElem_mem hlt)
          have hfo := HO.out _ (List.getElem_mem hlt)
          have hfd := HDt.out _ (List.getElem_mem hlt)
          generalize p.F[k] = f at f0 f1 hfx hfo hfd
          obtain ⟨pa, da⟩ := f
          dsimp only at f0 f1 hfx hfo hfd
          have bF := (Below.refl wr.heap.size wr).alloc (Nat.le_refl _) (.cells #[.string ⟨pa.toArray⟩, .string ⟨da.toArray⟩] 73)
          have hxF := nb0 wr (.cells #[.string ⟨pa.toArray⟩, .string ⟨da.toArray⟩] 73)
          obtain ⟨bf, hbf⟩ : ∃ bf, bf = wr.heap.size := ⟨_, rfl⟩
          obtain ⟨VF, hVF⟩ : ∃ VF, VF = wr.alloc (.cells #[.string ⟨pa.toArray⟩, .string ⟨da.toArray⟩] 73) := ⟨_, rfl⟩
          rw [← hVF] at bF hxF
          rw [← hbf] at hxF
          have g0' : VF.cell? ⟨bf, 0, none⟩ = some (.string ⟨pa.toArray⟩) := by simp [World.cell?, hxF]
          have g2' : VF.cell? ⟨bf, 1, none⟩ = some (.string ⟨da.toArray⟩) := by simp [World.cell?, hxF]
          have hxp := (bF.block bp hbpY).trans hxY
          have g1' : VF.cell? ⟨bp, 0, none⟩ = some (.string ⟨p.o.n.toArray⟩) := by simp [World.cell?, hxp]
          have hWF := hWY.trans (bF.mono hWY.size)
          have d61 : ∀ dd os, Calls Tryz.prog 61 #[.pointer (some ⟨s, 0, none⟩), .string ⟨pa.toArray⟩] (grow (redrawn VF dd) os) fun z w'' => z = .returned (.string ⟨p.o.n.toArray⟩) ∧ ∃ q : Regrown, w'' = grow (redrawn VF q.d) q.os := fun dd os => Calls.regrown_of (by rw [← hfo]; exact owner_any (HJ.out.up (hWF.trans ((below_regrown VF dd os).mono hWF.size))) pa (by omega))
          have g0 := cell_regrown g0'
          have g1 := cell_regrown g1'
          have HVF := Lib.hid (HY.out.trans (bF.mono HY.out.size))
          have HWF := Lib.hid hWF
          have bfl : bf < VF.heap.size := block_lt_of_cell g0'
          have hnn : (p.o.n == p.o.n) = true := beq_self_eq_true _
          clear bF hxF hxp hWY hWF hxY g1'
          go_upto_region 10 with fail
          rw [← hVF, ← hbf]
          clear hVF hbf f0 f1 hfl q12 hbpY
          refine wp_region_quiet_below (by kernel_rfl) (by kernel_rfl) ?_
          repeat (any_goals (first | go_big_quiet_step (with_reducible exact d61 _ _) | quiet_step (with_reducible exact d61 _ _)))
          refine wpQuiet_nil ?_
          intro _ hw'
          obtain ⟨⟨dq, osq⟩, hw''⟩ := hw'
          subst hw''
          have bR := below_regrown VF dq osq
          generalize grow (redrawn VF dq) osq = V3 at bR ⊢
          have g0 := (bR.cell (p := ⟨bf, 0, none⟩) bfl).trans g0'
          have g2 := (bR.cell (p := ⟨bf, 1, none⟩) bfl).trans g2'
          have hW3 := HWF.out.trans (bR.mono HWF.out.size)
          have h23 := HVF.out.trans (bR.mono HVF.out.size)
          have cR := sread_any (HJ.out.up hW3) pa (by omega)
          have bfl3 : bf < V3.heap.size := block_lt_of_cell g0
          have HW3 := Lib.hid hW3
          have H23 := Lib.hid h23
          clear d61 g0' g2' bR hW3 h23 HVF HWF bfl
          obtain ⟨M, hCn, hM⟩ := HKE.out
          obtain ⟨c, hcn, hci, hcz⟩ := hCn.v pa
          have hcl : c ≤ 1000 := by omega
          have HLK : Hid (∀ Y, Below V2.heap.size V2 Y → (Instr.lookup 107 (.map (some mm)) (.string ⟨pa.toArray⟩) false).run Tryz.prog Y = .ok (.int .i64 c) Y) := fun Y hY => by
            have := milook (mv_on hM (hY.block mm (mv_lt hM))) pa (by omega)
            rwa [hci] at this
          clear hM hCn hci
          by_cases hin : pa ∈ p.S
          · have hc0 : ((c : Int) == 0) = false := beq_eq_false_iff_ne.2 (by have := mt hcz.1 (fun h => h hin); omega)
            have hc1 : ¬ c = 0 := mt hcz.1 (fun h => h hin)
            generalize (ent ([100, 47] ++ pa) L).now = dt at cR
            obtain ⟨ev, hev⟩ : ∃ ev, ev = evv (rdc ([100, 47] ++ pa) L) := ⟨_, rfl⟩
            have hevs : ev = .nilIface ∨ ev = .iface 33 (.int .i64 7) := by
              rw [hev]
              unfold rdc
              split
              · exact .inl rfl
              · exact .inr rfl
            rw [← hev] at cR
            clear hev hcz hin hfd hfo
            rcases hevs with rfl | rfl
            · go_wp2_with fail
              refine cR.mono ?_
              rintro x Y2 ⟨rfl, b2⟩
              have hlook := HLK.out Y2 (H23.out.trans (b2.mono H23.out.size))
              have g02 := (b2.cell (p := ⟨bf, 0, none⟩) bfl3).trans g0
              have g22 := (b2.cell (p := ⟨bf, 1, none⟩) bfl3).trans g2
              have bfl4 : bf < Y2.heap.size := block_lt_of_cell g02
              have HF := Lib.hid (H23.out.trans (b2.mono H23.out.size))
              clear cR b2 g0 g2 bfl3
              go_wp2_with fail
              exact ⟨⟨k + 1, hlt, by go_num, HF⟩, by simp [intOf]; omega⟩
            · go_wp2_with fail
              refine cR.mono ?_
              rintro x Y2 ⟨rfl, b2⟩
              have hlook := HLK.out Y2 (H23.out.trans (b2.mono H23.out.size))
              have g02 := (b2.cell (p := ⟨bf, 0, none⟩) bfl3).trans g0
              have g22 := (b2.cell (p := ⟨bf, 1, none⟩) bfl3).trans g2
              have bfl4 : bf < Y2.heap.size := block_lt_of_cell g02
              have HF := Lib.hid (H23.out.trans (b2.mono H23.out.size))
              clear cR b2 g0 g2 bfl3
              go_wp2_with fail
              exact ⟨⟨k + 1, hlt, by go_num, HF⟩, by simp [intOf]; omega⟩
          · obtain ⟨e1, hle, hne⟩ := hfd hin
            have hc0 : c = 0 := hcz.2 hin
            subst hc0
            have hrd : rdc ([100, 47] ++ pa) L = 0 := by unfold rdc; rw [hle]; rfl
            rw [hrd, show evv 0 = .nilIface from rfl, ent_lk hle, hne] at cR
            have hdd : (da == da) = true := beq_self_eq_true _
            clear hcz hin hfd hfo hle hne hrd
            go_wp2_with fail
            refine cR.mono ?_
            rintro x Y2 ⟨rfl, b2⟩
            have hlook := HLK.out Y2 (H23.out.trans (b2.mono H23.out.size))
            have g02 := (b2.cell (p := ⟨bf, 0, none⟩) bfl3).trans g0
            have g22 := (b2.cell (p := ⟨bf, 1, none⟩) bfl3).trans g2
            have bfl4 : bf < Y2.heap.size := block_lt_of_cell g02
            have HF := Lib.hid (H23.out.trans (b2.mono H23.out.size))
            clear cR b2 g0 g2 bfl3
            go_wp2_with fail
            exact ⟨⟨k + 1, hlt, by go_num, HF⟩, by simp [intOf]; omega⟩
        · obtain rfl : k = p.F.length := by omega
          have HF := Lib.hid (HB2.out.trans (HY.out.mono HB2.out.size))
          clear HY
          go_wp2
          go_ret
          exact ⟨rfl, HF.out⟩
end
end Go.Proofs.YtlldfmnoidndmaaGreatDoor.Dsk
namespace Go.Proofs.YtlldfmnoidndmaaGreatDoor.Dsk
open Go.RowKit Go.Sort Go.Maps

set_option maxRecDepth 100000 in
theorem read1_any (W : World) (hT : Tab W) : Calls Tryz.prog 31 #[.string ⟨#[49]⟩] W fun x W2 => x = .returned (.agg #[.int .i64 0, .string ⟨#[49]⟩, .string ⟨#[]⟩]) ∧ Below W.heap.size W W2 := by
  have bA := (Below.refl W.heap.size W).alloc (Nat.le_refl _) (.cells #[.int .i64 0, .string ⟨#[]⟩, .string ⟨#[]⟩] 37)
  have cP := parse_any [49] _ (tab_on hT bA)
  rw [show pvVal (Vm.pv [49]) = .tuple #[.agg #[.int .i64 0, .string ⟨#[49]⟩, .string ⟨#[]⟩], .nilIface] from by rfl] at cP
  have HB := Lib.hid bA
  clear hT bA
  go_enter Tryz.func31, Tryz.ntmps31
  go_wp2_with fail
  refine cP.mono ?_
  rintro x W1 ⟨rfl, b1⟩
  have b2 := b1.alloc b1.size (.cells #[.int .i64 0, .string ⟨#[49]⟩, .string ⟨#[]⟩] 37)
  have hx := nb0 W (.cells #[.int .i64 0, .string ⟨#[]⟩, .string ⟨#[]⟩] 37)
  have hx1 := (b1.block _ (Array.getElem?_eq_some_iff.1 hx).1).trans hx
  have r0 : W1.cell? ⟨W.heap.size, 0, none⟩ = some (.int .i64 0) := by simp [World.cell?, hx1]
  have r1 : W1.cell? ⟨W.heap.size, 1, none⟩ = some (.string ⟨#[]⟩) := by simp [World.cell?, hx1]
  have r2 : W1.cell? ⟨W.heap.size, 2, none⟩ = some (.string ⟨#[]⟩) := by simp [World.cell?, hx1]
  have hf : ∀ j, W1.frozen? ⟨W.heap.size, j, none⟩ = false := fun j => by simp [World.frozen?, hx1]
  have hlt : W.heap.size < W1.heap.size := (Array.getElem?_eq_some_iff.1 hx1).1
  have hne : W1.heap.size ≠ W.heap.size := by omega
  have HB1 := Lib.hid (HB.out.trans (b1.mono HB.out.size))
  clear cP b1 b2 hx hx1
  go_wp2
  have b3 := ((HB1.out.setCell (p := ⟨W.heap.size, 0, none⟩) (Nat.le_refl _) (.int .i64 0)).setCell (p := ⟨W.heap.size, 1, none⟩) (Nat.le_refl _) (.string ⟨#[49]⟩)).setCell (p := ⟨W.heap.size, 2, none⟩) (Nat.le_refl _) (.string ⟨#[]⟩)
  exact bodyPost_ret (v := .agg #[.int .i64 0, .string ⟨#[49]⟩, .string ⟨#[]⟩]) (by simp [results, Tryz.results31, go_sem, r0, r1, r2, hlt]) rfl ⟨rfl, b3.alloc b3.size _⟩
def aa : List UInt8 := [97, 97]
def bx : List UInt8 := [98, 105, 110, 47, 120]
def pkx : Pck := ⟨⟨aa, 0, [49], [], []⟩, [], [], [], [], [], [], [], [(bx, [97])]⟩
def stx2 : Kv Ent := [([100, 47] ++ bx, ⟨[97], some [97]⟩), ([111, 47] ++ bx, ⟨aa, some aa⟩)]
theorem pkx_ok : aok pkx = true := by decide
theorem pkx_pg : Pg pkx := by
  have hx : Asx [] := ⟨by simp, fun _ h => (by cases h), fun _ h => (by cases h), fun _ h => (by cases h)⟩
  exact ⟨by decide, by decide, by decide, by decide, by decide, hx, hx, hx, hx, hx, hx, by decide, by decide, by decide⟩
theorem pkx_put : putG [] aa [] [(bx, [97])] [] = stx2 := by rfl
theorem gd_nil : Gd [] := ⟨Srt.nil, fun k e h => (by cases h)⟩
set_option maxRecDepth 100000 in
set_option maxHeartbeats 4000000 in
theorem shelved_any (W : World) (hT : Tab W) (hM : MaxN W) : Calls Tryz.prog 21 #[] W fun x W2 => x = .returned (.bool true) ∧ Below W.heap.size W W2 := by
  have cO := over_any W
  have HT := Lib.hid hT
  have HM := Lib.hid hM
  clear hT hM
  go_enter Tryz.func21, Tryz.ntmps21
  go_wp2_with fail
  refine cO.mono ?_
  rintro x W1 ⟨s, rfl, hJ⟩
  have cR := read1_any W1 (tab_on HT.out hJ.bl)
  obtain ⟨d, hd⟩ : ∃ d, d = W.heap.size := ⟨_, rfl⟩
  rw [← hd] at hJ
  have HJ := Lib.hid hJ
  clear cO hJ hd
  go_wp2_with fail
  refine cR.mono ?_
  rintro x W2 ⟨rfl, b2⟩
  have hJ2 := HJ.out.up b2
  have bA := (Below.refl W2.heap.size W2).alloc (Nat.le_refl _) (.cells #[.string ⟨bx.toArray⟩, .string ⟨#[97]⟩] 73)
  have hJ3 := hJ2.add bA
  have hFr : Fr (W2.alloc (.cells #[.string ⟨bx.toArray⟩, .string ⟨#[97]⟩] 73)) W2.heap.size 0 [(bx, [97])] := ⟨by simp, fun i hi => by
    obtain rfl : i = 0 := by simpa using hi
    simp, fun i hi => by
    obtain rfl : i = 0 := by simpa using hi
    simp⟩
  have hFs : Fs (W2.alloc (.cells #[.string ⟨bx.toArray⟩, .string ⟨#[97]⟩] 73)) (.slice (some ⟨W2.heap.size, 0, none⟩) 1 1) pkx.F := ⟨.inr ⟨W2.heap.size, 0, 1, rfl, by simp [pkx], hFr⟩⟩
  have hSs : Ss (W2.alloc (.cells #[.string ⟨bx.toArray⟩, .string ⟨#[97]⟩] 73)) (.slice none 0 0) pkx.S := ⟨.inl ⟨rfl, _, _, rfl⟩⟩
  have hbl3 := hJ3.bl
  have hPz : Pz (W2.alloc (.cells #[.string ⟨bx.toArray⟩, .string ⟨#[97]⟩] 73)) pkx (.slice none 0 0) (.slice none 0 0) (.slice none 0 0) (.slice none 0 0) (.slice none 0 0) (.slice none 0 0) (.slice none 0 0) (.slice none 0 0) (.slice (some ⟨W2.heap.size, 0, none⟩) 1 1) :=
    ⟨⟨.inl ⟨rfl, _, _, rfl⟩⟩, ⟨.inl ⟨rfl, _, _, rfl⟩⟩, ⟨.inl ⟨rfl, _, _, rfl⟩⟩, ⟨.inl ⟨rfl, _, _, rfl⟩⟩, ⟨.inl ⟨rfl, _, _, rfl⟩⟩, ⟨.inl ⟨rfl, _, _, rfl⟩⟩, hSs, ⟨.inl ⟨rfl, _, _, rfl⟩⟩, hFs⟩
  have cP := put_gen hJ3 pkx (.slice none 0 0) (.slice none 0 0) (.slice none 0 0) (.slice none 0 0) (.slice none 0 0) (.slice none 0 0) (.slice none 0 0) (.slice none 0 0) (.slice (some ⟨W2.heap.size, 0, none⟩) 1 1) (.slice none 0 0) 67 #[] (fun _ => false) []
    hPz pkx_pg (tab_on HT.out hbl3) (HM.out.on hbl3) pkx_ok ⟨hFs, fun b o n c h _ => by cases h; exact .inr ⟨Nat.le_refl _, by simp⟩⟩ ⟨hSs, fun b o n c h h2 => absurd rfl h2⟩ ⟨.inl ⟨rfl, _, _, rfl⟩⟩ gd_nil (by decide) (by decide) (fun m V hm _ => by cases hm)
  have HCP : Hid (∀ (i : Nat) (m : List UInt8), ¬ Clr [] pkx.o.n (fun _ => false) pkx.F i m) := fun i m h => by
    cases h with
    | yes i hi j hj h1 h2 h3 => exact absurd hj (Nat.not_lt_zero _)
  rw [show putG [] pkx.o.n pkx.S pkx.F [] = stx2 from pkx_put] at cP
  clear cR b2 hJ2 bA hJ3 hFr hFs hSs hPz hbl3
  go_wp2_with fail
  refine cP.mono ?_
  intro x W3 hx3
  obtain ⟨rfl, hJ3⟩ : x = .returned .nilIface ∧ SJ W s d stx2 _ W3 := by
    rcases hx3 with ⟨_, h1, _, h2⟩ | ⟨i, m, h1, _⟩
    · exact ⟨h1, h2⟩
    · exact absurd h1 (HCP.out i m)
  have cD := sread_any hJ3 bx (by decide)
  rw [show (ent ([100, 47] ++ bx) stx2).now = [97] from rfl, show evv (rdc ([100, 47] ++ bx) stx2) = .nilIface from rfl] at cD
  have HJ3 := Lib.hid hJ3
  clear cP hJ3 HJ hx3 HCP
  go_wp2_with fail
  refine cD.mono ?_
  rintro x W4 ⟨rfl, b4⟩
  have cW := owner_any (HJ3.out.up b4) bx (by decide)
  rw [show (ent ([111, 47] ++ bx) stx2).now = [97, 97] from rfl] at cW
  have HJ4 := Lib.hid (HJ3.out.up b4)
  clear cD b4 HJ3
  go_wp2_with fail
  refine cW.mono ?_
  rintro x W5 ⟨rfl, b5⟩
  have cV := owner_any (HJ4.out.up b5) [98, 105, 110, 47, 121] (by decide)
  rw [show (ent ([111, 47] ++ [98, 105, 110, 47, 121]) stx2).now = [] from rfl] at cV
  have HJ5 := Lib.hid (HJ4.out.up b5)
  clear cW b5 HJ4
  go_wp2_with fail
  refine cV.mono ?_
  rintro x W6 ⟨rfl, b6⟩
  have HB := Lib.hid (HJ5.out.up b6).bl
  clear cV b6 HJ5
  go_wp2
  go_ret
  exact ⟨rfl, HB.out⟩
end Go.Proofs.YtlldfmnoidndmaaGreatDoor.Dsk
