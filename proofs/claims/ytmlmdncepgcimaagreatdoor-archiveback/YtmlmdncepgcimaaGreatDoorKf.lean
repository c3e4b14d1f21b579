/- The keeper's fact of a package with a file; text, pick. -/
import Derived.Test.YtmlmdncepgcimaaGreatDoorKe
namespace Go.Proofs.YtmlmdncepgcimaaGreatDoor
open Go.RowKit Go.Shelf Go.Sort

def p1 : Pck := ⟨⟨[97, 97], 0, [49], [], []⟩, [], [], [], [], [], [], [], [([98, 105, 110, 47, 120], [97, 10, 98])]⟩
def ta1 : List UInt8 := [80, 97, 99, 107, 97, 103, 101, 58, 32, 97, 97, 10, 86, 101, 114, 115, 105, 111, 110, 58, 32, 49, 10, 10, 98, 105, 110, 47, 120, 32, 51, 10, 97, 10, 98, 10]
theorem p1_ok : aok p1 = true := by decide
theorem p1_rgt : Stz.Sm.rgt (flds p1) = true := by decide
theorem p1_g : Pg p1 := pg_of ⟨by decide, by decide, by decide, rfl, rfl, rfl, rfl, rfl, rfl, rfl, rfl, by decide⟩ ⟨⟨rfl⟩, by simp [p1], by simp [p1], by simp [p1], by simp [p1], by simp [p1], by simp [p1]⟩
theorem it3 : Lib.itoa ((3 : Nat) : Int) = [51] := by
  rw [show Lib.itoa ((3 : Nat) : Int) = Lib.decDigits 3 by simp [Lib.itoa], Arc.dd_unfold]; rfl
theorem p1_tx : atx p1 = ta1 := by
  show Stz.Sm.txt (flds p1) ++ [10] ++ (fln ([98, 105, 110, 47, 120], [97, 10, 98]) ++ []) = ta1
  unfold fln
  rw [show (([98, 105, 110, 47, 120], [97, 10, 98]) : Fl2).2.length = 3 from rfl, it3]
  decide
set_option maxHeartbeats 1600000 in
set_option maxRecDepth 100000 in
theorem wrapped_any (w : World) (hG : Sg w) (hT : Tab w) (hM : MaxN w) : Calls Tryz.prog 32 #[] w fun e w' => e = .returned (.bool true) ∧ Below w.heap.size w w' := by
  have cR := aread_good p1 w p1_ok p1_rgt (by rw [p1_tx]; decide) p1_g hG hT hM
  rw [p1_tx] at cR
  go_enter Tryz.func32, Tryz.ntmps32
  go_wp2_with fail
  refine cR.mono ?_
  rintro x w2 ⟨vD, vA, vG, vB, vR, vP, vS, vL, vF, rfl, hz, b2⟩
  obtain ⟨AD, cD, rfl⟩ := as_len hz.D
  obtain ⟨AA, cA, rfl⟩ := as_len hz.A
  obtain ⟨AG, cG, rfl⟩ := ts_len hz.G
  obtain ⟨AB, cB, rfl⟩ := ts_len hz.B
  obtain ⟨AR, cR', rfl⟩ := ts_len hz.R
  obtain ⟨AP, cP, rfl⟩ := ts_len hz.P
  obtain ⟨AS, cS, rfl⟩ := ss_len hz.S
  obtain ⟨AL, cL, rfl⟩ := ss_len hz.L
  rcases hz.F.is with ⟨h1, _⟩ | ⟨fb, fo, fc, rfl, _, hF⟩
  · cases h1
  · have c0 : w2.cell? ⟨fb, fo, none⟩ = some (.string ⟨#[98, 105, 110, 47, 120]⟩) := hF.c0 0 (by decide)
    have c1 : w2.cell? ⟨fb, fo + 1, none⟩ = some (.string ⟨#[97, 10, 98]⟩) := hF.c1 0 (by decide)
    have hfl := hF.lt
    have HBL := Lib.hid b2
    have b3 := bA1 w2 (pko [97, 97] 0 [49] [] (.slice AD 0 cD) (.slice AA 0 cA) (.slice AG 0 cG) (.slice AB 0 cB) (.slice AR 0 cR') (.slice AP 0 cP) (.slice AS 0 cS) (.slice AL 0 cL) (.slice (some ⟨fb, fo, none⟩) 1 fc))
    have e0 := (b3.cell (p := ⟨fb, fo, none⟩) hfl).trans c0
    have e1 := (b3.cell (p := ⟨fb, fo + 1, none⟩) hfl).trans c1
    rw [show p1.o.n = [97, 97] from rfl, show p1.o.e = 0 from rfl, show p1.o.u = [49] from rfl, show p1.o.r = [] from rfl, show p1.D.length = 0 from rfl, show p1.A.length = 0 from rfl, show p1.G.length = 0 from rfl, show p1.B.length = 0 from rfl, show p1.R.length = 0 from rfl, show p1.o.P.length = 0 from rfl, show p1.S.length = 0 from rfl, show p1.L.length = 0 from rfl, show p1.F.length = 1 from rfl]
    have HB3 := Lib.hid (bon b2 b3)
    clear hz hF cR b2 b3 c0 c1
    go_wp2_with fail
    go_ret
    exact ⟨rfl, HB3.out⟩
/-- What a package is written as. -/
theorem text_any (p : Pck) (vD vA vG vB vR vP vS vL vF : Value) (w : World) (hz : Pz w p vD vA vG vB vR vP vS vL vF) (hp : Pg p) (hG : Sg w) (hT : Tab w) (hM : MaxN w) (h0 : wc p = 0) : Calls Tryz.prog 33 #[pkv p.o.n p.o.e p.o.u p.o.r vD vA vG vB vR vP vS vL vF] w fun x w' => x = .returned (.string ⟨(atx p).toArray⟩) ∧ Below w.heap.size w w' := by
  have c0 := b1c w (pko p.o.n p.o.e p.o.u p.o.r vD vA vG vB vR vP vS vL vF)
  have cW := awrite_any p vD vA vG vB vR vP vS vL vF _ (hz.on c0) hp (hG.on c0) (tab_on hT c0) (hM.on c0)
  rw [show wx p = atx p by unfold wx; rw [if_pos h0], show we p = .nilIface by unfold we; rw [if_pos h0]] at cW
  obtain ⟨F1, F2, hvF⟩ := fs_sl hz.F
  obtain ⟨S1, S2, hvS⟩ := ss_sl hz.S
  obtain ⟨D1, D2, hvD⟩ := as_sl hz.D
  obtain ⟨A1, A2, hvA⟩ := as_sl hz.A
  obtain ⟨G1, G2, hvG⟩ := ts_sl hz.G
  obtain ⟨Q1, Q2, hvB⟩ := ts_sl hz.B
  obtain ⟨R1, R2, hvR⟩ := ts_sl hz.R
  obtain ⟨P1, P2, hvP⟩ := ts_sl hz.P
  obtain ⟨L1, L2, hvL⟩ := ss_sl hz.L
  subst hvF hvS hvD hvA hvG hvB hvR hvP hvL
  clear hz hp hT hM hG h0
  go_enter Tryz.func33, Tryz.ntmps33
  go_wp2_with fail
  refine cW.mono ?_
  rintro x w1 ⟨rfl, b1⟩
  go_wp2
  go_ret
  exact ⟨rfl, bon c0 b1⟩
theorem ret_int9 {k : IntKind} {a b : Int} (h : a = b) : Ending.returned (.int k a) = .returned (.int k b) := by rw [h]
theorem w64q (n : Int) (h0 : -9223372036854775808 ≤ n) (h1 : n ≤ 9223372036854775807) : wrap64 n = n := by
  unfold wrap64; omega
theorem u64_eq (a : Int) : IntKind.u64.wrap a = a % 18446744073709551616 := by unfold IntKind.wrap; rfl
theorem u64_pos (a : Int) : 0 ≤ IntKind.u64.wrap a := by rw [u64_eq]; omega
def pk (a n : Int) : Nat := ((IntKind.u64.wrap a).tmod n).toNat
theorem pk_lt (a n : Int) (hn : 0 < n) : (pk a n : Int) < n := by
  unfold pk
  rw [Int.tmod_eq_emod_of_nonneg (u64_pos a)]
  have h1 := Int.emod_nonneg (IntKind.u64.wrap a) (show n ≠ 0 by omega)
  have h2 := Int.emod_lt_of_pos (IntKind.u64.wrap a) hn
  omega
theorem pk_eq (a n : Int) (hn : 0 < n) : (IntKind.u64.wrap a).tmod n = (pk a n : Int) := by
  unfold pk
  rw [Int.tmod_eq_emod_of_nonneg (u64_pos a)]
  have h1 := Int.emod_nonneg (IntKind.u64.wrap a) (show n ≠ 0 by omega)
  omega
theorem pick_any (a n : Int) (h0 : 0 < n) (h1 : n ≤ 1000) (w : World) : Calls Tryz.prog 34 #[.int .i64 a, .int .i64 n] w fun e w' => e = .returned (.int .i64 (pk a n : Nat)) ∧ w' = w := by
  have he := pk_eq a n h0
  have hk := pk_lt a n h0
  have hwn : IntKind.u64.wrap n = n := by rw [u64_eq]; omega
  have hn0 : ¬ n = 0 := by omega
  have HE := Lib.hid he
  clear he
  go_enter Tryz.func34, Tryz.ntmps34
  go_wp2
  go_ret
  exact ⟨ret_int9 (by rw [HE.out, w64q _ (by omega) (by omega)]), rfl⟩
end Go.Proofs.YtmlmdncepgcimaaGreatDoor
