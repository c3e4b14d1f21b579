/- What fields of a package say; the keeper's fact of a record. -/
import Derived.Test.YtmlmdncepgcimaaGreatDoorBf
import Derived.Test.YtmlmdncepgcimaaGreatDoorXr
namespace Go.Proofs.YtmlmdncepgcimaaGreatDoor
open Go.RowKit Go.Shelf

def nm10 : List (List UInt8) := [[80, 97, 99, 107, 97, 103, 101], [86, 101, 114, 115, 105, 111, 110], [68, 101, 112, 101, 110, 100, 115], [80, 114, 101, 45, 68, 101, 112, 101, 110, 100, 115], [67, 111, 110, 102, 108, 105, 99, 116, 115], [66, 114, 101, 97, 107, 115], [82, 101, 112, 108, 97, 99, 101, 115], [80, 114, 111, 118, 105, 100, 101, 115], [67, 111, 110, 102, 102, 105, 108, 101, 115], [84, 114, 105, 103, 103, 101, 114, 115]]
theorem addl_nm (p : Pck) : (addl p).map (·.1) = nm10 := rfl
theorem addl_nd (p : Pck) : (addl p).Pairwise fun f g => (Stz.Sm.small f.1 == Stz.Sm.small g.1) = false := by
  have h : nm10.Pairwise fun a b => (Stz.Sm.small a == Stz.Sm.small b) = false := by decide
  rw [← addl_nm p, List.pairwise_map] at h
  exact h
theorem gt_flds {p : Pck} (hk : Rk p) (r : List Fd) (hr : ∀ g ∈ r, ∀ n ∈ nm10, (Stz.Sm.small g.1 == Stz.Sm.small n) = false) : Gt (flds p ++ r) p := by
  have key : ∀ f ∈ addl p, Stz.Sm.gets (flds p ++ r) f.1 = opv f.2 := fun f hf => gets_kp (addl p) r (addl_nd p) f hf fun g hg => hr g hg f.1 (by rw [← addl_nm p]; exact List.mem_map.2 ⟨f, hf, rfl⟩)
  have hn : opv p.o.n = some p.o.n := if_neg (nmo_all hk.n).2
  have hv : opv (Vm.pt p.o.e p.o.u p.o.r) = some (Vm.pt p.o.e p.o.u p.o.r) := if_neg (pt_ok hk.v).2
  refine ⟨hn ▸ key ([80, 97, 99, 107, 97, 103, 101], p.o.n) ?_, hv ▸ key ([86, 101, 114, 115, 105, 111, 110], Vm.pt p.o.e p.o.u p.o.r) ?_, key (_, wrA p.D) ?_, key (_, wrA p.A) ?_, key (_, wrA (sing p.G)) ?_, key (_, wrA (sing p.B)) ?_, key (_, wrA (sing p.R)) ?_, key (_, wrA (sing p.o.P)) ?_, key (_, lns p.S) ?_, key (_, lns p.L) ?_⟩
  all_goals unfold addl; simp
def p0 : Pck := ⟨⟨[97, 97], 0, [49], [], []⟩, [], [], [], [], [], [[101, 116, 99, 47, 120]], [], []⟩
def t0 : List UInt8 := [80, 97, 99, 107, 97, 103, 101, 58, 32, 97, 97, 10, 86, 101, 114, 115, 105, 111, 110, 58, 32, 49, 10, 67, 111, 110, 102, 102, 105, 108, 101, 115, 58, 10, 32, 101, 116, 99, 47, 120, 10]
theorem p0_ok : rok p0 = true := by decide
theorem t0_run : Stz.run 0 [] [] (Stz.Sm.spl t0) = .ok [flds p0] := rfl
theorem p0_g : Pg p0 := pg_of ⟨by decide, by decide, by decide, rfl, rfl, rfl, rfl, rfl, rfl, by decide, rfl, rfl⟩ ⟨⟨rfl⟩, by simp [p0], by simp [p0], by simp [p0], by simp [p0], by simp [p0], by simp [p0]⟩
theorem sl_len {W : World} {v : Value} {l : List Fd} (h : Stz.Sl W v l) : ∃ A c, v = .slice A l.length c := by
  rcases h.is with ⟨rfl, A, c, rfl⟩ | ⟨b, o, c, rfl, _⟩
  · exact ⟨A, c, rfl⟩
  · exact ⟨_, c, rfl⟩
theorem p0_len : (flds p0).length = 3 ∧ Stz.Sz (flds p0) := ⟨rfl, by decide, by decide⟩
set_option maxHeartbeats 1600000 in
set_option maxRecDepth 100000 in
theorem told_any (w : World) (hG : Sg w) (hT : Tab w) (hM : MaxN w) : Calls Tryz.prog 23 #[] w fun e w' => e = .returned (.bool true) ∧ Below w.heap.size w w' := by
  have cP := Stz.parse_any t0 w (by decide)
  rw [t0_run] at cP
  have hgt := gt_flds (rk_of p0_ok) [] (by simp)
  rw [List.append_nil] at hgt
  go_enter Tryz.func23, Tryz.ntmps23
  go_wp2_with fail
  refine cP.mono ?_
  rintro x W1 ⟨S, vs, rfl, hO, hvl, hin, hb1⟩
  match vs, hvl with
  | [v0], _ =>
    obtain ⟨g, cg, rfl⟩ := Go.Joins.ownsRow_form hO (by simp)
    have hc0 : W1.cell? ⟨g, 0, none⟩ = some v0 := by
      have := World.ownsRow.cellAt hO 0 (by simp)
      simpa using this
    have hs := Stz.sl_owned (hin 0 (by simp) (by simp))
    simp only [List.getElem_cons_zero] at hs
    obtain ⟨A, c, rfl⟩ := sl_len hs
    have cRd := read_good p0 A c (flds p0) W1 hs p0_len.2 hgt p0_ok rfl p0_g (hG.on hb1) (tab_on hT hb1) (hM.on hb1)
    rw [p0_len.1] at *
    have HB1 := Lib.hid hb1
    clear cP hO hin hs hb1 hgt hG hT hM
    go_wp2_with fail
    with_reducible refine cRd.mono ?_
    rintro x W2 ⟨vD, vA, vG, vB, vR, vP, vS, vL, rfl, hz, hb2⟩
    obtain ⟨AD, cD, rfl⟩ := as_len hz.D
    obtain ⟨AA, cA, rfl⟩ := as_len hz.A
    obtain ⟨AG, cG, rfl⟩ := ts_len hz.G
    obtain ⟨AB, cB, rfl⟩ := ts_len hz.B
    obtain ⟨AR, cR, rfl⟩ := ts_len hz.R
    obtain ⟨AP, cP, rfl⟩ := ts_len hz.P
    obtain ⟨AL, cL, rfl⟩ := ss_len hz.L
    rcases hz.S.is with ⟨h1, _⟩ | ⟨sb, so, sc, rfl, _, hS⟩
    · cases h1
    · have hsc := hS.c 0 (by decide)
      have hsl := hS.lt
      have hbl := HB1.out.trans (hb2.mono HB1.out.size)
      have HBL := Lib.hid hbl
      clear hz hS hb2 hbl cRd HB1 hc0
      rw [show p0.o.n = [97, 97] from rfl, show p0.o.e = 0 from rfl, show p0.o.u = [49] from rfl, show p0.o.r = [] from rfl, show p0.D.length = 0 from rfl, show p0.A.length = 0 from rfl, show p0.G.length = 0 from rfl, show p0.B.length = 0 from rfl, show p0.R.length = 0 from rfl, show p0.o.P.length = 0 from rfl, show p0.S.length = 1 from rfl, show p0.L.length = 0 from rfl]
      rw [Nat.add_zero, show p0.S[0] = [101, 116, 99, 47, 120] from rfl] at hsc
      go_wp2_with fail
      go_ret
      exact ⟨rfl, HBL.out.alloc HBL.out.size _⟩
end Go.Proofs.YtmlmdncepgcimaaGreatDoor
