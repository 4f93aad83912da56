/-
  The walk of TopPieces: the root of entries by their tree, by peaks, by tiles, and by what is asked, is one; a leaf by any of their proofs is known.
-/
import Derived.Test.YticadkggaanbjaaGreatDoorWalkTopOne
import Derived.Test.YticadkggaanbjaaGreatDoorEntAll
import Derived.Test.YticadkggaanbjaaGreatDoorWalkPeakSt
import Derived.Test.YticadkggaanbjaaGreatDoorWalkTileGet
import Derived.Test.YticadkggaanbjaaGreatDoorWalkSe
import Derived.Test.YticadkggaanbjaaGreatDoorHdRun
import Derived.Test.YticadkggaanbjaaGreatDoorSeAll
import Derived.Test.YticadkggaanbjaaGreatDoorWalkDigits
import Derived.Test.YticadkggaanbjaaGreatDoorWalkPrLearn
import Derived.Test.YticadkggaanbjaaGreatDoorLeafProof
import Derived.Test.YticadkggaanbjaaGreatDoorSePlain
import Derived.Deep.CutBlock
namespace Go.Proofs.YticadkggaanbjaaGreatDoor.WalkTopPieces
open Go.RowKit
open Nums (str text)
open Decimals (dec)
open Lists (Row ints bt)
open Keeps (Kept owns_row owns_kept)
open WalkCheck (errv errv0 errv_pos)
open Wides (Wide)
open EntRows (cells)
open Entries (Entry entsE leafsOf leafsV)
open Answers (logE logH answer wLeaf)
open HeadVals (hv aggH sizeH At)
open WalkPeakSt (St)
open WalkPrObj (Pt)
open Tiles (Tile tiles sumsOf)
open Prunes

theorem ends {w w1 w2 : World} {b : Nat} {F : Nat → Prop} {root : Int} {k : Known} (h : Below w.heap.size w w1) (p : Pt w1 w.heap.size b F root k) (q : Kept F w1 w2) : Below w.heap.size w w2 :=
  h.trans (q.below (fun j hj => (p.foot j hj).1) h.size)
theorem aggT (w : World) : (isAgg 67).run Tryz.prog w = .ok true w := by kernel_rfl
theorem sizeT (w : World) : (sizeOf 67).run Tryz.prog w = .ok 3 w := by kernel_rfl
theorem enters : Enters Tryz.prog 31 := enters_of Tryz.func31 (by kernel_rfl) rfl
theorem take_snoc (l : List Int) (k : Nat) (h : k < l.length) : l.take (k + 1) = l.take k ++ [l.getD k 0] := by
  rw [List.take_succ_eq_append_getElem h, List.getD_eq_getElem?_getD, List.getElem?_eq_getElem h]; rfl

set_option maxHeartbeats 1000000 in
set_option maxRecDepth 100000 in
/-- the law's own closure: the sums of a tile of the leafs that lie at gl -/
theorem told (w : World) (l : List Int) (gl : Nat) (a : Option Addr) (n cap : Nat) (hr : Row w a n cap (ints l)) (hg : w.cell? ⟨gl, 0, none⟩ = some (.slice a n cap)) (h0 : Trees.leafsE l = 0) :
    ∀ ps (x y z : Nat) w1, w.heap.size ≤ w1.heap.size → (ps ++ [(x, y, z)]) <+: tiles n → Below w.heap.size w w1 →
      Calls Tryz.prog 31 (#[.agg #[.int .i64 (x : Int), .int .i64 (y : Int), .int .i64 (z : Int)]] ++ #[.pointer (some ⟨gl, 0, none⟩)]) w1 fun e w2 =>
        ∃ v, e = .returned (.tuple #[v, .nilIface]) ∧ w2.ownsRow w1.heap.size 3 1 v (sumsOf l (x, y, z)).length (ints (sumsOf l (x, y, z))) ∧ Below w.heap.size w w2 ∧ Kept (fun k => k < w.heap.size) w1 w2 := by
  intro ps x y z w1 hs hp hI
  have hln : l.length = n := by rw [← hr.1, Lists.ints_length]
  obtain ⟨e1, e2⟩ := Tiles.tile_in (a := x) (b := y) (c := z) hln h0 (hp.subset (by simp))
  have cS := fun w2 (b : Below w.heap.size w w2) => WalkTile.sums_any l a n cap x y z w2 (hr.below b)
  rw [e1, e2, errv0] at cS
  have b1 : Below w1.heap.size w1 (w1.alloc (.cells #[.int .i64 (x : Int), .int .i64 (y : Int), .int .i64 (z : Int)] 67)) := (Below.refl _ _).alloc (Nat.le_refl _) _
  have hB2 := bt hI b1
  have c0 := Lists.cell_below hB2 hg
  have a28 := aggT
  have z28 := sizeT
  have n0 : (w1.alloc (.cells #[.int .i64 (x : Int), .int .i64 (y : Int), .int .i64 (z : Int)] 67)).cell? ⟨w1.heap.size, 0, none⟩ = some (.int .i64 (x : Int)) := by simp
  have n1 : (w1.alloc (.cells #[.int .i64 (x : Int), .int .i64 (y : Int), .int .i64 (z : Int)] 67)).cell? ⟨w1.heap.size, 1, none⟩ = some (.int .i64 (y : Int)) := by simp
  have n2 : (w1.alloc (.cells #[.int .i64 (x : Int), .int .i64 (y : Int), .int .i64 (z : Int)] 67)).cell? ⟨w1.heap.size, 2, none⟩ = some (.int .i64 (z : Int)) := by simp
  have sz : w1.heap.size ≤ (w1.alloc (.cells #[.int .i64 (x : Int), .int .i64 (y : Int), .int .i64 (z : Int)] 67)).heap.size := by simp
  show Calls Tryz.prog 31 #[.agg #[.int .i64 (x : Int), .int .i64 (y : Int), .int .i64 (z : Int)], .pointer (some ⟨gl, 0, none⟩)] w1 _
  clear hp e1 e2 hr h0 hI hg
  go_enter Tryz.func31, Tryz.ntmps31
  go_upto_region 1 with fail
  generalize w1.alloc (.cells #[.int .i64 (x : Int), .int .i64 (y : Int), .int .i64 (z : Int)] 67) = w2 at b1 hB2 c0 n0 n1 n2 sz ⊢
  have cT := cS w2 hB2
  have HB : Hid (Below w.heap.size w w2 ∧ Below w1.heap.size w1 w2) := ⟨hB2, b1⟩
  clear cS b1 hB2
  go_wp2_with fail
  refine cT.mono ?_
  rintro e w4 ⟨v, rfl, o4, b4⟩
  clear cT
  go_wp2_with fail
  go_ret2
  exact ⟨v, rfl, Keeps.owns_base o4 sz, bt HB.out.1 b4, Kept.of_below _ (bt HB.out.2 b4)⟩

set_option maxHeartbeats 8000000 in
set_option maxRecDepth 100000 in
theorem walk (a : Option Addr) (n cap : Nat) (l : List Entry) (_ : l.length * 24 ≤ 140737488351232) (hw : ∀ x ∈ l, (Lit.int .i64 x.1).wf = true ∧ x.2.size ≤ maxLen)
    (i : Int) (_ : (Lit.int .i64 i).wf = true) (w : World) (r : Wide 2 w a n cap (cells l)) (hT : WalkBits.Tab w) (hK : WalkHdLib.Tabs w) (hY : WalkSeNum.Syn w) :
    Calls Tryz.prog 6 #[.slice a n cap, .int .i64 i] w fun e w' => e = .returned (.bool true) ∧ Below w.heap.size w w' := by
  have hln := EntRows.len_of r
  have HR : Hid (∀ w', Below w.heap.size w w' → Wide 2 w' a n cap (cells l)) := fun w' b => r.below b
  have HZ : Hid (∀ e ∈ l, e.2.size ≤ maxLen) := fun e he => (hw e he).2
  have HTb : Hid (∀ w', Below w.heap.size w w' → WalkBits.Tab w') := fun w' b => hT.below b
  have HTs : Hid (∀ w', Below w.heap.size w w' → WalkHdLib.Tabs w') := fun w' b => hK.below b
  have HSy : Hid (∀ w', Below w.heap.size w w' → WalkSeNum.Syn w') := fun w' b => hY.below b
  have c1 := WalkTopOne.one_any w
  clear r hT hK hY hw
  go_enter Tryz.func6, Tryz.ntmps6
  go_wp2_with fail
  refine c1.mono ?_
  rintro e w1 ⟨rfl, b1⟩
  have HB1 : Hid (Below w.heap.size w w1) := b1
  have c2 := WalkEnt.leafs_any l a n cap w1 (HR.out w1 b1) HZ.out
  clear c1 b1
  go_wp2_with fail
  refine c2.mono ?_
  rintro e w2 ⟨v2, rfl, o2, b2⟩
  have HB2 : Hid (Below w.heap.size w w2) := bt HB1.out b2
  obtain ⟨x2, y2, rfl, r2, _⟩ := owns_row o2
  clear c2 b2 HB1 o2
  by_cases h0 : entsE l = 0
  rotate_left
  · rw [Errs.errv_pos _ h0]
    have HB3 : Hid (∀ o, Below w.heap.size w (w2.alloc o)) := fun o => HB2.out.alloc HB2.out.size o
    generalize ((entsE l : Nat) : Int) = E
    generalize (leafsV l).length = N2 at *
    clear h0 r2
    go_wp2_with fail
    go_ret
    exact ⟨rfl, HB3.out _⟩
  have hLV : leafsV l = leafsOf l := if_pos h0
  rw [hLV] at r2 ⊢
  have hll : (leafsOf l).length = n := by rw [Serves.leafs_len]; exact hln
  rw [hll] at r2 ⊢
  rw [h0, Errs.errv0]
  have hL0 : Trees.leafsE (leafsOf l) = 0 := WalkSe.leafs_fine h0
  obtain ⟨ln, lv⟩ := LeafProof.leafs_ok hL0
  rw [hll] at ln
  go_upto_region 5 with fail
  obtain ⟨gl, HGl⟩ : ∃ gl, Hid (w2.heap.size = gl) := ⟨_, rfl⟩
  have b3 : Below w2.heap.size w2 (w2.alloc (.cells #[.slice x2 n y2] 45)) := (Below.refl _ _).alloc (Nat.le_refl _) _
  have g3 : (w2.alloc (.cells #[.slice x2 n y2] 45)).cell? ⟨w2.heap.size, 0, none⟩ = some (.slice x2 n y2) := by simp
  rw [HGl.out] at g3 ⊢
  generalize w2.alloc (.cells #[.slice x2 n y2] 45) = w3 at b3 g3 ⊢
  have HB3 : Hid (Below w.heap.size w w3) := bt HB2.out b3
  obtain ⟨LL, HLL⟩ : ∃ LL, Hid (leafsOf l = LL) := ⟨_, rfl⟩
  rw [HLL.out] at hL0 hll r2 lv
  have HG : Hid (∀ w', Below w3.heap.size w3 w' → w'.cell? ⟨gl, 0, none⟩ = some (.slice x2 n y2)) := fun w' b => Lists.cell_below b g3
  have HRL : Hid (∀ w', Below w3.heap.size w3 w' → Row w' x2 n y2 (ints LL)) := fun w' b => (r2.below b3).below b
  have HLg : Hid (∀ w', Below w.heap.size w w' → Calls Tryz.prog 11 #[.slice a n cap, .int .i64 7, .int .i64 0] w' fun e w'' => e = .returned (.tuple #[hv (logH l 7 0), .nilIface]) ∧ Below w'.heap.size w' w'') := fun w' b => by
    have h := WalkSe.head_any l a n cap 7 0 w' (HR.out w' b) HZ.out (HTs.out w' b)
    rw [Serves.log_zero h0 (by decide) (by decide) (by decide), Errs.errv0] at h
    exact h
  have HV : Hid (∀ w', Below w.heap.size w w' → Calls Tryz.prog 13 #[hv (logH l 7 0), .int .i64 7] w' fun e w'' => e = .returned .nilIface ∧ Below w'.heap.size w' w'') := fun w' b => by
    have h := WalkHdSign.verify_any (logH l 7 0) 7 w' (HTs.out w' b)
    rw [Serves.log_verify (Serves.log_zero h0 (by decide) (by decide) (by decide)), Errs.errv0] at h
    exact h
  have HRt : Hid ((logH l 7 0).root = Trees.root LL) := by
    show _ = _
    rw [Serves.log_is (Serves.log_zero h0 (by decide) (by decide) (by decide)), ← HLL.out]
    rfl
  have HAn : Hid (∀ (Z : Nat) w', Z < n → Below w.heap.size w w' → Calls Tryz.prog 8 #[.slice a n cap, .int .i64 7, .int .i64 0, .string (⟨#[108, 101, 97, 102, 32]⟩ ++ str (dec Z))] w' fun e w'' => e = .returned (.tuple #[.string (str (text (LL.getD Z 0))), .nilIface]) ∧ Below w'.heap.size w' w'') := fun Z w' hZ b => by
    have hq : (⟨#[108, 101, 97, 102, 32]⟩ : ByteArray) ++ str (dec Z) = str (wLeaf ++ 32 :: dec Z) := by
      show str [108, 101, 97, 102, 32] ++ str (dec Z) = _
      rw [Nums.str_append]
      simp [wLeaf]
    have hz := Decimals.dec_length 3 Z (by omega)
    have h := WalkSeAns.answer_any l a n cap 7 0 (str (wLeaf ++ 32 :: dec Z)) w' (HR.out w' b) HZ.out (by rw [Nums.str_size]; simp [wLeaf]; omega) (HTs.out w' b) (HSy.out w' b)
    rw [show (str (wLeaf ++ 32 :: dec Z)).data.toList = wLeaf ++ 32 :: dec Z from rfl, Serves.answer_leaf (Serves.log_zero h0 (by decide) (by decide) (by decide)) (by omega), HLL.out, Errs.errv0] at h
    rw [hq]
    exact h
  have hrv : Nums.valid (Trees.root LL) = true := Trees.root_valid LL lv
  have HOne : Hid (∀ Z, Z < n → WalkMake.makeE LL Z n = 0 ∧ (WalkMake.makeL LL Z n).length ≤ 200 ∧ WalkProofCheck.checkE (Trees.root LL) n Z (LL.getD Z 0) (WalkMake.makeL LL Z n) = 0) := fun Z h => by
    have q := LeafProof.one_proof hL0 (Z := Z) (by omega)
    rw [hll] at q
    exact ⟨q.1, WalkMake.makeL_len LL Z n, q.2.2⟩
  have HLv : Hid (∀ x ∈ LL, Nums.valid x = true) := lv
  have HL0 : Hid (Trees.leafsE LL = 0) := hL0
  obtain ⟨RL, HRL2⟩ : ∃ RL, Hid (Trees.root LL = RL) := ⟨_, rfl⟩
  rw [HRL2.out] at hrv HRt HOne
  have cT := WalkCheck.root_any LL x2 n y2 w3 (HRL.out w3 (Below.refl _ _))
  rw [show Trees.rootV LL = Trees.root LL from if_pos hL0, hL0, HRL2.out, errv0] at cT
  obtain ⟨H0, H1, H2, H3, HH⟩ : ∃ H0 H1 H2 H3, Hid (logH l 7 0 = ⟨H0, H1, H2, H3⟩) := ⟨_, _, _, _, rfl⟩
  rw [HH.out] at HLg HV HRt
  have HHR : Hid (H1 = RL) := HRt.out
  clear hL0 b3 r2 HB2 h0 hLV lv HRt HR HZ HTs HSy HLL
  go_wp2_with fail
  refine cT.mono ?_
  rintro e w4 ⟨rfl, b4⟩
  have HB4 : Hid (Below w.heap.size w w4) := bt HB3.out b4
  have HB34 : Hid (Below w3.heap.size w3 w4) := b4
  have cN := WalkPeaks.new_any w4
  clear cT b4 g3
  go_wp2_with fail
  refine cN.mono ?_
  rintro e w5 ⟨rfl, p5, b5⟩
  have HB5 : Hid (Below w4.heap.size w4 w5) := b5
  obtain ⟨bp, HBp⟩ : ∃ bp, Hid (w4.heap.size = bp) := ⟨_, rfl⟩
  rw [HBp.out] at p5 ⊢
  have HS5 : Hid (St bp w4 bp w5 (LL.take 0) (.slice none 0 0)) := ⟨p5, Nat.zero_le _, fun x hx => (by cases hx), HBp.out ▸ b5, by rw [← HBp.out]; exact b5.size⟩
  have hTab4 : WalkBits.Tab w4 := HTb.out w4 HB4.out
  clear cN p5 b5
  go_wp2_with fail
  go_loopw [11] (fun kv wr => ∃ (k : Nat) (v : Value), k ≤ n ∧ kv = .int .i64 (k : Int) ∧ Hid (St bp w4 bp wr (LL.take k) v)) (fun kv _ => n - (intOf kv).toNat)
  case atStart => exact ⟨0, _, Nat.zero_le _, rfl, HS5.out⟩
  case round =>
    obtain ⟨k, v, hkn, rfl, HS⟩ := hrel
    have HB4r : Hid (Below w4.heap.size w4 wr) := by show Below _ _ _; rw [HBp.out]; exact HS.out.below
    have HB3r : Hid (Below w3.heap.size w3 wr) := bt HB34.out HB4r.out
    have s0 := HG.out wr HB3r.out
    by_cases hlt : k < n
    · have i1 : (k : Int) < (n : Int) := by omega
      have hrow := HRL.out wr HB3r.out
      obtain ⟨b0, off0, rfl, hc0⟩ := hrow.2.2 (by omega)
      have s1 := hc0 k _ (Lists.ints_at (by omega))
      have hvx : Nums.valid (LL.getD k 0) = true := by
        rw [List.getD_eq_getElem?_getD, List.getElem?_eq_getElem (by omega)]
        exact HLv.out _ (List.getElem_mem _)
      have cA := WalkPeakSt.append_any HS.out (by rw [List.length_take]; omega) hvx hTab4 (by rw [HBp.out]; exact Nat.le_refl _)
      rw [← take_snoc LL k (by omega)] at cA
      generalize LL.getD k 0 = X at s1 cA
      clear hrow hc0 hvx
      go_wp2_with fail
      refine cA.mono ?_
      rintro e w6 ⟨rfl, v6, s6, _, _⟩
      have HS6 : Hid (St bp w4 bp w6 (LL.take (k + 1)) v6) := s6
      clear cA s6 s0 s1
      go_wp2_with fail
      go_roundw
      case rel => exact ⟨k + 1, v6, by omega, by go_num, HS6⟩
      case measure => simp [intOf]; omega
    · have i1 : ¬ (k : Int) < (n : Int) := by omega
      obtain rfl : k = n := by omega
      have hHS := HS.out
      rw [List.take_of_length_le (by omega)] at hHS
      have HBr : Hid (Below w.heap.size w wr) := bt HB4.out HB4r.out
      have HRo : Hid (∀ w', Below wr.heap.size wr w' → Calls Tryz.prog 33 #[.pointer (some ⟨bp, 0, none⟩)] w' fun e w'' => e = .returned (.int .i64 RL) ∧ Below w'.heap.size w' w'') := fun w' b => by
        have h := WalkPeakSt.root_any (WalkPeakSt.st_below hHS b)
        rw [HRL2.out] at h
        exact h
      have cTl := WalkTileGet.root_any 31 #[.pointer (some ⟨gl, 0, none⟩)] enters LL k wr hll HL0.out (fun _ w1 => Below wr.heap.size wr w1) (fun _ _ _ h _ b => h.trans b) (told wr LL gl x2 k y2 (HRL.out wr HB3r.out) s0 HL0.out) (Below.refl _ _)
      rw [HRL2.out] at cTl
      clear hHS
      go_wp2_with fail
      refine cTl.mono ?_
      rintro e w7 ⟨rfl, b7, _⟩
      have HB7 : Hid (Below wr.heap.size wr w7) := b7
      have cH := HLg.out w7 (bt HBr.out b7)
      clear cTl b7 s0 i1
      go_wp2_with fail
      refine cH.mono ?_
      rintro e w8 ⟨rfl, b8⟩
      have HB8 : Hid (Below wr.heap.size wr w8) := bt HB7.out b8
      clear cH b8
      show _
      unfold hv
      have a40 := aggH
      have z40 := sizeH
      go_upto_region 16 with fail
      have b9 : Below w8.heap.size w8 (w8.alloc (.cells #[.int .i64 H0, .int .i64 H1, .int .i64 H2, .int .i64 H3] 31)) := (Below.refl _ _).alloc (Nat.le_refl _) _
      have k0 : (w8.alloc (.cells #[.int .i64 H0, .int .i64 H1, .int .i64 H2, .int .i64 H3] 31)).cell? ⟨w8.heap.size, 0, none⟩ = some (.int .i64 H0) := by simp
      have k1 : (w8.alloc (.cells #[.int .i64 H0, .int .i64 H1, .int .i64 H2, .int .i64 H3] 31)).cell? ⟨w8.heap.size, 1, none⟩ = some (.int .i64 H1) := by simp
      have k2 : (w8.alloc (.cells #[.int .i64 H0, .int .i64 H1, .int .i64 H2, .int .i64 H3] 31)).cell? ⟨w8.heap.size, 2, none⟩ = some (.int .i64 H2) := by simp
      have k3 : (w8.alloc (.cells #[.int .i64 H0, .int .i64 H1, .int .i64 H2, .int .i64 H3] 31)).cell? ⟨w8.heap.size, 3, none⟩ = some (.int .i64 H3) := by simp
      obtain ⟨gh, HGh⟩ : ∃ gh, Hid (w8.heap.size = gh) := ⟨_, rfl⟩
      rw [HGh.out] at k0 k1 k2 k3 ⊢
      generalize w8.alloc (.cells #[.int .i64 H0, .int .i64 H1, .int .i64 H2, .int .i64 H3] 31) = w9 at b9 k0 k1 k2 k3 ⊢
      have HB9 : Hid (Below wr.heap.size wr w9) := bt HB8.out b9
      have HK9 : Hid (∀ w', Below w9.heap.size w9 w' → w'.cell? ⟨gh, 0, none⟩ = some (.int .i64 H0) ∧ w'.cell? ⟨gh, 1, none⟩ = some (.int .i64 H1) ∧ w'.cell? ⟨gh, 2, none⟩ = some (.int .i64 H2) ∧ w'.cell? ⟨gh, 3, none⟩ = some (.int .i64 H3)) := fun w' b => ⟨Lists.cell_below b k0, Lists.cell_below b k1, Lists.cell_below b k2, Lists.cell_below b k3⟩
      have cR := HRo.out w9 HB9.out
      have x1 : (RL != RL) = false := by simp
      have x2' : (H1 != RL) = false := by rw [HHR.out]; simp
      clear k0 k1 k2 k3 b9 HGh
      go_wp2_with fail
      refine cR.mono ?_
      rintro e w10 ⟨rfl, b10⟩
      have HB10 : Hid (Below wr.heap.size wr w10) := bt HB9.out b10
      obtain ⟨k0, k1, k2, k3⟩ := HK9.out w10 b10
      have cV := HV.out w10 (bt HBr.out HB10.out)
      unfold hv at cV
      clear cR b10
      go_wp2_with fail
      refine cV.mono ?_
      rintro e w11 ⟨rfl, b11⟩
      have HB11 : Hid (Below wr.heap.size wr w11) := bt HB10.out b11
      have HBw : Hid (Below w.heap.size w w11) := bt HBr.out HB11.out
      have s0 := HG.out w11 (bt HB3r.out HB11.out)
      clear cV b11 k0 k1 k2 k3 x1 x2' a40 z40 HRo
      by_cases hi0 : i < 0
      · go_wp2_with fail
        go_ret
        exact ⟨rfl, HBw.out⟩
      by_cases hi1 : (k : Int) ≤ i
      · go_wp2_with fail
        go_ret
        exact ⟨rfl, HBw.out⟩
      obtain ⟨Z, rfl⟩ := Int.eq_ofNat_of_zero_le (show 0 ≤ i by omega)
      have hZ : Z < k := by omega
      obtain ⟨m1, m2, m3⟩ := HOne.out Z hZ
      obtain ⟨P, HP⟩ : ∃ P, Hid (WalkMake.makeL LL Z k = P) := ⟨_, rfl⟩
      obtain ⟨X, HX⟩ : ∃ X, Hid (LL.getD Z 0 = X) := ⟨_, rfl⟩
      rw [HP.out, HX.out] at m3
      rw [HP.out] at m2
      have HC : Hid (WalkProofCheck.checkE RL (k : Int) (Z : Int) X P = 0) := m3
      have HP200 : Hid (P.length ≤ 200) := m2
      have HXv : Hid (Nums.valid X = true) := by
        show _ = _
        rw [← HX.out, List.getD_eq_getElem?_getD, List.getElem?_eq_getElem (by omega)]
        exact HLv.out _ (List.getElem_mem _)
      have HMk : Hid (∀ w', Below w3.heap.size w3 w' → Calls Tryz.prog 35 #[.slice x2 k y2, .int .i64 (Z : Int), .int .i64 (k : Int)] w' fun e w'' => ∃ v, e = .returned (.tuple #[v, .nilIface]) ∧ w''.ownsRow w'.heap.size 3 1 v P.length (ints P) ∧ Below w'.heap.size w' w'') := fun w' b => by
        have h := WalkMake.make_any LL x2 k y2 (Z : Int) (k : Int) w' (HRL.out w' b)
        rw [m1, HP.out, errv0] at h
        exact h
      have HXc : Hid (∀ w', Below w3.heap.size w3 w' → ∃ b0 off0, x2 = some ⟨b0, off0, none⟩ ∧ w'.cell? ⟨b0, off0 + Z, none⟩ = some (.int .i64 X)) := fun w' b => by
        obtain ⟨b0, off0, e, hc⟩ := (HRL.out w' b).2.2 (by omega)
        have := hc Z _ (Lists.ints_at (by omega))
        rw [HX.out] at this
        exact ⟨b0, off0, e, this⟩
      have HB3w : Hid (Below w3.heap.size w3 w11) := bt HB3r.out HB11.out
      have cN := WalkPr.new_yes k RL w11 HBw.out.size (by omega) ln hrv
      clear m1 m2 m3
      go_wp2_with fail
      refine cN.mono ?_
      rintro e w12 ⟨g, F, rfl, p12, _, b12⟩
      have HB12 : Hid (Below w.heap.size w w12) := bt HBw.out b12
      have HB3c : Hid (Below w3.heap.size w3 w12) := bt HB3w.out b12
      have HP12 : Hid (Pt w12 w.heap.size g F RL (fresh k)) := p12
      have t0 := HG.out w12 HB3c.out
      clear cN p12 b12 s0
      go_wp2_with fail
      refine (HMk.out w12 HB3c.out).mono ?_
      rintro e w13 ⟨v13, rfl, o13, b13⟩
      have HB13 : Hid (Below w.heap.size w w13) := bt HB12.out b13
      have HB3d : Hid (Below w3.heap.size w3 w13) := bt HB3c.out b13
      obtain ⟨x13, c13, rfl, r13, _⟩ := owns_row o13
      have hP13 := HP12.out.below b13
      have cL := WalkPrLearn.learn_any hP13 (Z : Int) X P x13 P.length c13 r13 (by have := HP200.out; omega)
      rw [fresh_length, HC.out, (one_known X P).1, (one_known X P).2, errv0] at cL
      have HP13 : Hid (Pt w13 w.heap.size g F RL (fresh k)) := hP13
      have t1 := HG.out w13 HB3d.out
      obtain ⟨b0, off0, rfl, u0⟩ := HXc.out w13 HB3d.out
      have q2 : (Z : Int) < (k : Int) := by omega
      clear b13 o13 r13 hP13 t0
      go_wp2_with fail
      refine cL.mono ?_
      rintro e w14 ⟨rfl, F4, p14, k14, _⟩
      have HB14 : Hid (Below w.heap.size w w14) := ends HB13.out HP13.out k14
      have cK := WalkPr.knows_any p14 (Z : Int)
      rw [(one_find hZ X P).1, (one_find hZ X P).2.1, errv0] at cK
      clear cL p14 k14 u0 t1 q2 HP13
      go_wp2_with fail
      refine cK.mono ?_
      rintro e w15 ⟨rfl, b15⟩
      have HB15 : Hid (Below w.heap.size w w15) := bt HB14.out b15
      have cD := WalkHeadRef.digits Z (Z : Int) w15 rfl (by omega)
      clear cK b15
      go_wp2_with fail
      refine cD.mono ?_
      rintro e w16 ⟨rfl, rfl⟩
      have cA := HAn.out Z w16 hZ HB15.out
      rw [HX.out] at cA
      have hdz : (str (dec Z)).size ≤ 4 := by rw [Nums.str_size]; exact Decimals.dec_length 3 Z (by omega)
      have hsz : ¬ (9223372036854775807 < (5 : Nat) + (str (dec Z)).size) := by omega
      generalize str (dec Z) = DZ at cA hdz hsz ⊢
      clear cD
      obtain ⟨TX, HTX⟩ : ∃ TX, Hid (str (text X) = TX) := ⟨_, rfl⟩
      rw [HTX.out] at cA
      have cP := fun w' => WalkHex.print_yes X w' HXv.out
      rw [HTX.out] at cP
      have e9 : (TX.toList == TX.toList) = true := by simp
      go_wp2_with fail
      refine cA.mono ?_
      rintro e w17 ⟨rfl, b17⟩
      have HB17 : Hid (Below w.heap.size w w17) := bt HB15.out b17
      clear cA b17
      go_wp2_with fail
      refine (cP w17).mono ?_
      rintro e w18 ⟨rfl, b18⟩
      have HB18 : Hid (Below w.heap.size w w18) := bt HB17.out b18
      clear cP b18
      go_wp2_with fail
      go_ret
      exact ⟨rfl, HB18.out⟩

end Go.Proofs.YticadkggaanbjaaGreatDoor.WalkTopPieces
