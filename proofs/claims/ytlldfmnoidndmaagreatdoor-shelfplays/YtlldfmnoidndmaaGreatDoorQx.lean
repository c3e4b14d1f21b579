/- Contracts of Go's library at this program's numbers, as the laying command prints them (those that are used). -/
import Derived.Shelf.Strings.Builder1
import Derived.Shelf.Strings.Builder2
import Derived.Shelf.Strings.OnBuilder
import Derived.Shelf.Small.Bits
import Derived.Shelf.Small.Strs
import Derived.Shelf.Small.Wraps
import Derived.Shelf.Strings.BuilderF
import Derived.Shelf.Strings.BuilderK
import Derived.Shelf.Strconv.Itoa0
import Derived.Shelf.Strconv.Itoa1
import Derived.Shelf.LaysM
import Derived.Shelf.Strconv.Itoa2
import Derived.Shelf.Strconv.Itoa3
import Derived.Shelf.Strconv.Clone
import Derived.Shelf.Strings.Search1
import Derived.Shelf.Strings.Search2
import Derived.Shelf.Strings.Search3
import Derived.Shelf.Strings.Cut
import Derived.Shelf.Strings.Shaped
import Derived.Shelf.Sort.Plain
import Derived.Shelf.Strings.LastIndex
import Derived.Shelf.Strconv.AppendUint10
import Derived.Shelf.Strconv.AppendInt10
import Derived.Shelf.Strconv.AppendIntPublic10
import Derived.Shelf.Strings.Prefix
import Derived.Shelf.Slices.Turned
import Derived.Shelf.Slices.In.SortNone
import Derived.Shelf.Slices.In.SortNone2
import Derived.Test.YtlldfmnoidndmaaGreatDoorProg
import Derived.Test.YtlldfmnoidndmaaGreatDoorSh
import Derived.Test.YtlldfmnoidndmaaGreatDoorQe
import Derived.Lib.Join
namespace Go.Proofs
open Go.Shelf
def Tryz.lays156_ren : Go.Shelf.Ren := ⟨fun | 156 => 72 | 165 => 110 | 166 => 111 | 169 => 112 | 240 => 150 | 241 => 151 | 276 => 184 | 277 => 185 | n => n, fun | 31 => 40 | 9 => 9 | 3 => 3 | 4 => 4 | 0 => 0 | 20 => 20 | 72 => 147 | 76 => 149 | 70 => 144 | 37 => 145 | 75 => 25 | 127 => 171 | 164 => 184 | 5 => 5 | 80 => 151 | n => n, fun | n => n⟩
theorem Tryz.lays156 : Go.Proofs.Lays.n156 Tryz.prog Tryz.lays156_ren := {
  mixed := by kernel_rfl
  f156 := Tryz.func72.trans (congrArg some (by kernel_rfl))
  f165 := Tryz.func110.trans (congrArg some (by kernel_rfl))
  f166 := Tryz.func111.trans (congrArg some (by kernel_rfl))
  f169 := Tryz.func112.trans (congrArg some (by kernel_rfl))
  f240 := Tryz.func150.trans (congrArg some (by kernel_rfl))
  f241 := Tryz.func151.trans (congrArg some (by kernel_rfl))
  f276 := Tryz.func184.trans (congrArg some (by kernel_rfl))
  f277 := Tryz.func185.trans (congrArg some (by kernel_rfl))
  t0 := Tryz.underlying0
  a0 := Tryz.isAgg0
  z0 := Tryz.sizeOf0
  v0 := Tryz.zeroValue0
  t3 := Tryz.underlying3
  a3 := Tryz.isAgg3
  z3 := Tryz.sizeOf3
  v3 := Tryz.zeroValue3
  t4 := Tryz.underlying4
  a4 := Tryz.isAgg4
  z4 := Tryz.sizeOf4
  v4 := Tryz.zeroValue4
  t9 := Tryz.underlying9
  a9 := Tryz.isAgg9
  z9 := Tryz.sizeOf9
  v9 := Tryz.zeroValue9
  t20 := Tryz.underlying20
  a20 := Tryz.isAgg20
  z20 := Tryz.sizeOf20
  v20 := Tryz.zeroValue20
  t31 := Tryz.underlying40
  a31 := Tryz.isAgg40
  z31 := Tryz.sizeOf40
  v31 := Tryz.zeroValue40
  t37 := Tryz.underlying145
  a37 := Tryz.isAgg145
  z37 := Tryz.sizeOf145
  v37 := Tryz.zeroValue145
  t70 := Tryz.underlying144
  a70 := Tryz.isAgg144
  z70 := Tryz.sizeOf144
  v70 := Tryz.zeroValue144
  t72 := Tryz.underlying147
  a72 := Tryz.isAgg147
  z72 := Tryz.sizeOf147
  v72 := Tryz.zeroValue147
  t75 := Tryz.underlying25
  a75 := Tryz.isAgg25
  z75 := Tryz.sizeOf25
  v75 := Tryz.zeroValue25
  t76 := Tryz.underlying149
  a76 := Tryz.isAgg149
  z76 := Tryz.sizeOf149
  v76 := Tryz.zeroValue149
  t127 := Tryz.underlying171
  a127 := Tryz.isAgg171
  z127 := Tryz.sizeOf171
  v127 := Tryz.zeroValue171
  t164 := Tryz.underlying184
  a164 := Tryz.isAgg184
  z164 := Tryz.sizeOf184
  v164 := Tryz.zeroValue184 }
theorem Tryz.Builder_Extra_156 : Builder.Extra Tryz.prog Tryz.lays156_ren := {
  sizeBuilder := by kernel_rfl
  liesBuilder := by kernel_rfl
  t5 := Tryz.underlying5
  a5 := Tryz.isAgg5
  z5 := Tryz.sizeOf5
  v5 := Tryz.zeroValue5
  infoByte := by kernel_rfl
  cellsByte := by kernel_rfl
  sizeByte := by kernel_rfl
  neB5 := by decide }
open Go.RowKit in
/-- No element: the empty string; the world is as it was. (Whatever the slice's address and capacity: a nil slice too.) (LAID: no walk: one application.) -/
theorem Tryz.strings_Join_none (a : Option Addr) (c : Nat) (sep : ByteArray) (w : World) :
    Calls Tryz.prog 72 #[.slice a 0 c, .string sep] w fun e w' => e = .returned (.string ⟨#[]⟩) ∧ w' = w := Any.strings_Join_none Tryz.lays156 Tryz.Builder_Extra_156 a c sep w
open Go.RowKit in
/-- strings.Join: "Join concatenates the elements of its first argument to create a single string. The separator string sep is placed between elements in the resulting string.": HOWEVER MANY ELEMENTS. Below the heap's end the world is as it was. (LAID: no walk: one application.) -/
theorem Tryz.strings_Join (bk o c : Nat) (xs : List ByteArray) (sep : ByteArray) (w : World) (hcells : ∀ (j : Nat) x, xs[j]? = some x → w.cell? ⟨bk, o + j, none⟩ = some (.string x)) (hbk : bk < w.heap.size) (hN : xs.length ≤ 140737488355328) (hcap : xs.length ≤ c) (hlen : (Lib.join (xs.map (·.data.toList)) sep.data.toList).length ≤ 140737488355328) :
    Calls Tryz.prog 72 #[.slice (some ⟨bk, o, none⟩) xs.length c, .string sep] w fun e w' => e = .returned (.string ⟨(Lib.join (xs.map (·.data.toList)) sep.data.toList).toArray⟩) ∧ Below w.heap.size w w' := Any.strings_Join Tryz.lays156 Tryz.Builder_Extra_156 bk o c xs sep w hcells hbk hN hcap hlen
end Go.Proofs
namespace Go.Proofs.YtlldfmnoidndmaaGreatDoor.Dsk
open Go.RowKit Go.Sort Go.Maps

def thp (L : Kv Ent) (p : List UInt8) : List UInt8 := p ++ [61] ++ (((lkL ([100, 47] ++ p) L).map Ent.now).getD [45]) ++ [59]
def jnc (l : List (List UInt8)) : List UInt8 := Lib.join l [44]
def thn (L : Kv Ent) (n : List UInt8) : List UInt8 := n ++ [40] ++ (pts L n).flatMap (thp L) ++ jnc (sts L n) ++ [41]
def thr (L : Kv Ent) : List UInt8 := (ows L).flatMap (thn L)
theorem fm_take {α : Type} (f : α → List UInt8) (l : List α) (k : Nat) (hk : k < l.length) : (l.take (k + 1)).flatMap f = (l.take k).flatMap f ++ f l[k] := by
  rw [List.take_succ_eq_append_getElem hk, List.flatMap_append]
  simp
theorem bcat (a b : List UInt8) : ((⟨a.toArray⟩ : ByteArray) ++ (⟨b.toArray⟩ : ByteArray)) = ⟨(a ++ b).toArray⟩ := by
  apply ByteArray.ext
  simp
theorem vstr {a b : ByteArray} (h : a = b) : Value.string a = Value.string b := by rw [h]
theorem jnc_le (c : Nat) : ∀ l : List (List UInt8), (∀ x ∈ l, x.length ≤ c) → (jnc l).length ≤ l.length * (c + 1) := fun l h => by
  unfold jnc Lib.join
  induction l with
  | nil => simp
  | cons a t ih =>
    have h1 := h a (List.mem_cons_self)
    have h2 := ih fun x hx => h x (List.mem_cons_of_mem _ hx)
    cases t with
    | nil => simp; omega
    | cons b t =>
      simp only [List.length_cons, List.intercalate, List.intersperse, List.flatten_cons, List.length_append] at h2 ⊢
      rw [Nat.add_mul]
      simp at h2 ⊢
      omega
section
variable {w W : World} {s d : Nat} {Z : Nat → Prop} {L : Kv Ent}
theorem join_tr {B : Nat} {A : Option Addr} {c : Nat} {l : List (List UInt8)} (h : Tr B W A l) (hl : l.length ≤ 4900) (hc : l.length ≤ c) (hx : ∀ x ∈ l, x.length ≤ 900) : Calls Tryz.prog 72 #[.slice A l.length c, .string ⟨#[44]⟩] W fun e w' => e = .returned (.string ⟨(jnc l).toArray⟩) ∧ Below W.heap.size W w' := by
  by_cases hl0 : l = []
  · subst hl0
    have := Tryz.strings_Join_none A c ⟨#[44]⟩ W
    refine this.mono ?_
    rintro e w1 ⟨rfl, rfl⟩
    exact ⟨rfl, Below.refl _ _⟩
  · obtain ⟨g, rfl, _, hgl, _⟩ := h.c 0 (List.length_pos_iff.2 hl0)
    have hle := jnc_le 900 l hx
    have hm : (l.map fun x => (⟨x.toArray⟩ : ByteArray)).map (·.data.toList) = l := by rw [List.map_map]; exact List.map_id'' (fun _ => rfl) l
    have hj : Lib.join ((l.map fun x => (⟨x.toArray⟩ : ByteArray)).map (·.data.toList)) (ByteArray.mk #[44]).data.toList = jnc l := by rw [hm]; rfl
    have cJ := Tryz.strings_Join g 0 c (l.map fun x => (⟨x.toArray⟩ : ByteArray)) ⟨#[44]⟩ W (fun j x hx => by
      rw [List.getElem?_map] at hx
      obtain ⟨y, hy, rfl⟩ := Option.map_eq_some_iff.1 hx
      obtain ⟨hj, rfl⟩ := List.getElem?_eq_some_iff.1 hy
      obtain ⟨g', e1, _, _, h4⟩ := h.c j hj
      cases e1
      rw [Nat.zero_add]
      exact h4) hgl (by simp; omega) (by simpa using hc) (by rw [hj]; omega)
    rw [hj, List.length_map] at cJ
    exact cJ
set_option maxRecDepth 100000 in
set_option maxHeartbeats 8000000 in
theorem there_any (h : SJ w s d L Z W) (hG : Gd L) (hn : L.length ≤ 4900) (hD : ∀ p, (ent ([100, 47] ++ p) L).now.length ≤ 1000) : Calls Tryz.prog 24 #[.pointer (some ⟨s, 0, none⟩)] W fun x W2 => x = .returned (.string ⟨(thr L).toArray⟩) ∧ Below W.heap.size W W2 := by
  have cO := owners_gen h hn hG.osm
  have hol : (ows L).length ≤ 4900 := Nat.le_trans (ows_len L) hn
  have HOS : Hid (∀ x ∈ ows L, x.length ≤ 1000) := fun x hx => ows_short h.srt hG.osm hx
  have HJ := Lib.hid h
  have HGd := Lib.hid hG
  have HDd := Lib.hid hD
  obtain ⟨T, hT⟩ : ∃ T, T = thr L := ⟨_, rfl⟩
  rw [← hT]
  have HT : Hid (T = (ows L).flatMap (thn L)) := hT
  generalize ows L = os at cO hol HOS HT
  clear h hG hD hT
  go_enter Tryz.func24, Tryz.ntmps24
  go_wp2_with fail
  refine cO.mono ?_
  rintro x V ⟨v, rfl, hTx, b1⟩
  obtain ⟨A, c, rfl, hTr⟩ := tr_tx hTx
  have HTr := Lib.hid hTr
  have HB1 := Lib.hid b1
  clear cO hTx hTr b1
  go_wp2_with fail
  go_loopw [3, 13] (fun tv iv Y => ∃ (k : Nat) (t : List UInt8), k ≤ os.length ∧ tv = .string ⟨t.toArray⟩ ∧ iv = .int .i64 k ∧ t.length ≤ k * 20000000 ∧ Hid (t = (os.take k).flatMap (thn L)) ∧ Hid (Below V.heap.size V Y)) (fun _ iv _ => os.length - (intOf iv).toNat)
  case atStart => exact ⟨0, [], Nat.zero_le _, rfl, rfl, by simp, by show _ = _; simp, Below.refl _ _⟩
  case round =>
    obtain ⟨k, t, hk, rfl, rfl, htl, HTt, HBY⟩ := hrel
    by_cases hlt : k < os.length
    · obtain ⟨g, rfl, _, hg2, hgc⟩ := (HTr.out.on HBY.out).c k hlt
      have hnl := HOS.out _ (List.getElem_mem hlt)
      have HNX : Hid ((os.take (k + 1)).flatMap (thn L) = t ++ thn L os[k]) := by show _ = _; rw [fm_take _ _ _ hlt, HTt.out]
      generalize os[k] = n at hgc hnl HNX
      have hWY := HB1.out.trans (HBY.out.mono HB1.out.size)
      have cP := paths_gen (HJ.out.up hWY) hn HGd.out.osm n hnl
      have hpl : (pts L n).length ≤ 4900 := Nat.le_trans (ptf_len L _ n) (by rw [List.length_map]; exact hn)
      have HP9 : Hid (∀ x ∈ pts L n, x.length ≤ 900) := fun x hx => HGd.out.pts hx
      have HTN : Hid (thn L n = n ++ [40] ++ (pts L n).flatMap (thp L) ++ jnc (sts L n) ++ [41]) := rfl
      generalize hps : pts L n = ps at cP hpl HP9 HTN
      have HPE := Lib.hid hps
      have HWY := Lib.hid hWY
      clear HTt hWY hps
      go_wp2_with fail
      refine cP.mono ?_
      rintro x V1 ⟨v1, rfl, hr1, b1⟩
      obtain ⟨A1, c1, rfl, _, hTr1⟩ := tr_own hr1
      have HTr1 := Lib.hid hTr1
      have HB2 := Lib.hid b1
      clear cP hr1 hTr1 b1 hgc
      obtain ⟨t0, ht0⟩ : ∃ t0, t0 = t ++ (n ++ [40]) := ⟨_, rfl⟩
      have ht0l : t0.length ≤ k * 20000000 + 1001 := by rw [ht0]; simp; omega
      have hcat : ((⟨t.toArray⟩ : ByteArray) ++ ((⟨n.toArray⟩ : ByteArray) ++ (⟨#[40]⟩ : ByteArray))) = ⟨t0.toArray⟩ := by
        rw [ht0, show (⟨#[40]⟩ : ByteArray) = ⟨[40].toArray⟩ from rfl, bcat, bcat]
      have HT0 := Lib.hid ht0
      have HCAT := Lib.hid hcat
      clear hcat ht0
      go_wp2_with fail
      go_loopw [3, 25] (fun tv iv Y => ∃ (j : Nat) (u : List UInt8), j ≤ ps.length ∧ tv = .string ⟨u.toArray⟩ ∧ iv = .int .i64 j ∧ u.length ≤ k * 20000000 + 1001 + j * 2000 ∧ Hid (u = t0 ++ (ps.take j).flatMap (thp L)) ∧ Hid (Below V1.heap.size V1 Y)) (fun _ iv _ => ps.length - (intOf iv).toNat)
      case atStart => exact ⟨0, t0, Nat.zero_le _, by first | rfl | exact vstr HCAT.out, rfl, by omega, by show _ = _; simp, Below.refl _ _⟩
      case round =>
        clear HCAT
        obtain ⟨j, u, hj, rfl, rfl, hul, HU, HBJ⟩ := hrel
        have hWJ := HWY.out.trans ((HB2.out.trans (HBJ.out.mono HB2.out.size)).mono HWY.out.size)
        by_cases hjt : j < ps.length
        · obtain ⟨g1, rfl, _, hg12, hgc1⟩ := (HTr1.out.on HBJ.out).c j hjt
          have hp9 := HP9.out _ (List.getElem_mem hjt)
          have HNJ : Hid (t0 ++ (ps.take (j + 1)).flatMap (thp L) = u ++ thp L ps[j]) := by show _ = _; rw [fm_take _ _ _ hjt, HU.out, List.append_assoc]
          generalize ps[j] = p at hgc1 hp9 HNJ
          have cR := sread_any (HJ.out.up hWJ) p (by omega)
          have hdl := HDd.out p
          cases hlk : lkL ([100, 47] ++ p) L with
          | none =>
            have hrd : rdc ([100, 47] ++ p) L = 7 := by unfold rdc; rw [hlk]; rfl
            rw [hrd, show evv 7 = .iface 33 (.int .i64 7) from rfl] at cR
            have HTP : Hid (thp L p = p ++ [61] ++ [45] ++ [59]) := by show _ = _; unfold thp; rw [hlk]; rfl
            generalize (ent ([100, 47] ++ p) L).now = dt at cR hdl
            clear hlk hrd hWJ HU
            go_wp2_with fail
            refine cR.mono ?_
            rintro x Y2 ⟨rfl, b2⟩
            have HB3 := Lib.hid (HBJ.out.trans (b2.mono HBJ.out.size))
            clear cR b2 HBJ hgc1
            go_wp2_with fail
            refine ⟨⟨j + 1, u ++ (p ++ [61] ++ [45] ++ [59]), hjt, ?_, by go_num, by simp; omega, by show _ = _; rw [HNJ.out, HTP.out], HB3⟩, by simp [intOf]; omega⟩
            refine vstr ?_
            apply ByteArray.ext
            simp
          | some a =>
            have hrd : rdc ([100, 47] ++ p) L = 0 := by unfold rdc; rw [hlk]; rfl
            rw [hrd, show evv 0 = .nilIface from rfl] at cR
            have HTP : Hid (thp L p = p ++ [61] ++ (ent ([100, 47] ++ p) L).now ++ [59]) := by show _ = _; unfold thp; rw [hlk, ent_lk hlk]; rfl
            generalize (ent ([100, 47] ++ p) L).now = dt at cR hdl HTP
            clear hlk hrd hWJ HU
            go_wp2_with fail
            refine cR.mono ?_
            rintro x Y2 ⟨rfl, b2⟩
            have HB3 := Lib.hid (HBJ.out.trans (b2.mono HBJ.out.size))
            clear cR b2 HBJ hgc1
            go_wp2_with fail
            refine ⟨⟨j + 1, u ++ (p ++ [61] ++ dt ++ [59]), hjt, ?_, by go_num, by simp; omega, by show _ = _; rw [HNJ.out, HTP.out], HB3⟩, by simp [intOf]; omega⟩
            refine vstr ?_
            apply ByteArray.ext
            simp
        · have hje : j = ps.length := by omega
          have cS := settings_gen (HJ.out.up hWJ) HGd.out hn n hnl
          have HSS : Hid (∀ x ∈ sts L n, x.length ≤ 900) := fun x hx => HGd.out.pts (List.mem_filter.1 hx).1
          have hsl : (sts L n).length ≤ 4900 := Nat.le_trans (List.length_filter_le _ _) (Nat.le_trans (ptf_len L _ n) (by rw [List.length_map]; exact hn))
          have HUe : Hid (u ++ (jnc (sts L n) ++ [41]) = t ++ thn L n) := by
            show _ = _
            rw [HU.out, hje, List.take_length, HT0.out, HTN.out]
            simp
          have hul2 : u.length ≤ k * 20000000 + 1001 + 4900 * 2000 := by omega
          have HWJ := Lib.hid (hWJ)
          generalize sts L n = ss at cS HSS hsl HUe
          clear hul hje hWJ HU HTN
          go_wp2_with fail
          refine cS.mono ?_
          rintro x Y2 ⟨A2, c2, rfl, hc2, hTr2, b2⟩
          have cJ := join_tr hTr2 hsl hc2 HSS.out
          have hjl := jnc_le 900 ss HSS.out
          have hjl2 : (jnc ss).length ≤ 4900 * 901 := Nat.le_trans hjl (Nat.mul_le_mul hsl (Nat.le_refl _))
          generalize jnc ss = js at cJ hjl2 HUe
          have HB3 := Lib.hid (HB2.out.trans ((HBJ.out.trans (b2.mono HBJ.out.size)).mono HB2.out.size))
          clear cS hTr2 b2 hjl HBJ HB2 HSS
          go_wp2_with fail
          refine cJ.mono ?_
          rintro x Y3 ⟨rfl, b3⟩
          have HB4 := Lib.hid (HBY.out.trans ((HB3.out.trans (b3.mono HB3.out.size)).mono HBY.out.size))
          clear cJ b3 HB3 HBY
          go_wp2_with fail
          refine ⟨⟨k + 1, u ++ (js ++ [41]), hlt, ?_, by go_num, by simp; omega, by show _ = _; rw [HUe.out, HNX.out], HB4⟩, by simp [intOf]; omega⟩
          refine vstr ?_
          apply ByteArray.ext
          simp
    · have hke : k = os.length := by omega
      have HF : Hid (t = T ∧ Below W.heap.size W wr) := ⟨by rw [HTt.out, hke, List.take_length]; exact HT.out.symm, HB1.out.trans (HBY.out.mono HB1.out.size)⟩
      clear HTt HBY hke
      go_wp2
      go_ret
      exact ⟨by rw [← HF.out.1]; rfl, HF.out.2⟩
end
end Go.Proofs.YtlldfmnoidndmaaGreatDoor.Dsk
