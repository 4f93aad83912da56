/-
  Package audit: the tiles that the tree of entries has and the sums of each (cut), and these sums alone (Tiles).
-/
import Derived.Test.YtigbbhojgajkjaiGreatDoorAuPlain
import Derived.Test.YtigbbhojgajkjaiGreatDoorListRows
import Derived.Test.YtigbbhojgajkjaiGreatDoorErrs
import Derived.Test.YtigbbhojgajkjaiGreatDoorEntAll
import Derived.Test.YtigbbhojgajkjaiGreatDoorWalkTile
import Derived.Deep.CutBlock
import Derived.Laws.OwnMore
import Derived.Test.YtigbbhojgajkjaiGreatDoorTilePlain
import Derived.Test.YtigbbhojgajkjaiGreatDoorHeadRows
import Derived.Test.YtigbbhojgajkjaiGreatDoorWalkHdLib
import Derived.Test.YtigbbhojgajkjaiGreatDoorWalkHdSign
import Derived.Test.YtigbbhojgajkjaiGreatDoorWalkCheck
import Derived.BigQuiet
import Derived.Deep.QuietTactic
import Derived.Deep.DeepMust
import Derived.Lib.QuietBelow
namespace Go.Proofs.YtigbbhojgajkjaiGreatDoor.WalkAu
open Go.RowKit
open Lists (Row ints bt)
open Keeps (Kept owns_kept owns_row owns_base)
open Wides (Wide)
open Entries (Entry entsE leafsOf leafsV)
open EntRows (cells)
open Errs (errv errv0 errv_pos)
open SumRows (Rs)
open Tiles (Tile tiles sumsOf)
open Audits (tilesL want)

/-- the first lists are laid in the row of block g, room for the rest of n behind them -/
def Part (B : Nat) (w : World) (g n : Nat) (ls : List (List Int)) : Prop :=
  ∃ vs : List Value, vs.length = ls.length ∧ w.ownsRow B 28 1 (.slice (some ⟨g, 0, none⟩) n n) n (vs ++ List.replicate (n - ls.length) (.slice none 0 0)) ∧
    ∀ (i : Nat) (l : List Int), ls[i]? = some l → ∃ a c, vs[i]? = some (Value.slice a l.length c) ∧ w.ownsRow B 3 1 (Value.slice a l.length c) l.length (ints l)
theorem Part.kept {B : Nat} {w w' : World} {g n : Nat} {ls : List (List Int)} (h : Part B w g n ls) (b : Below w.heap.size w w') : Part B w' g n ls := by
  obtain ⟨vs, h1, h2, h3⟩ := h
  have k := Kept.of_below (fun _ => False) b
  refine ⟨vs, h1, owns_kept h2 k fun _ _ q => q, fun i l hl => ?_⟩
  obtain ⟨a, c, h4, h5⟩ := h3 i l hl
  exact ⟨a, c, h4, owns_kept h5 k fun _ _ q => q⟩
/-- room is there for one more -/
theorem Part.room {B : Nat} {w : World} {g n : Nat} {ls : List (List Int)} (h : Part B w g n ls) (hk : ls.length < n) : w.cell? ⟨g, ls.length, none⟩ = some (.slice none 0 0) ∧ w.frozen? ⟨g, ls.length, none⟩ = false := by
  obtain ⟨vs, h1, h2, _⟩ := h
  refine ⟨(h2.cellAt _ (by omega)).trans ?_, h2.frozenAt _⟩
  rw [List.getElem?_append_right (by omega), List.getElem?_replicate, if_pos (by omega)]
/-- one more is laid -/
theorem Part.next {B : Nat} {w : World} {g n : Nat} {ls : List (List Int)} {a : Option Addr} {c : Nat} {q : List Int} (h : Part B w g n ls) (hk : ls.length < n) (hq : w.ownsRow B 3 1 (.slice a q.length c) q.length (ints q)) :
    Part B (w.setCell ⟨g, ls.length, none⟩ (.slice a q.length c)) g n (ls ++ [q]) := by
  obtain ⟨vs, h1, h2, h3⟩ := h
  have k : Kept (fun k => k = g) w (w.setCell ⟨g, ls.length, none⟩ (.slice a q.length c)) := (Kept.refl (fun k => k = g) w).setCell (p := ⟨g, ls.length, none⟩) (.inl rfl) _
  have keep : ∀ {x : Value} {m : Nat} {xs : List Value}, w.ownsRow B 3 1 x m xs → (w.setCell ⟨g, ls.length, none⟩ (.slice a q.length c)).ownsRow B 3 1 x m xs := fun hx => owns_kept hx k fun i hi (e : i = g) => SumRows.own_apart hx h2 (by decide) i hi (by rw [e]; rfl)
  refine ⟨vs ++ [.slice a q.length c], by simp [h1], ?_, fun i l hl => ?_⟩
  · have e : vs ++ [Value.slice a q.length c] ++ List.replicate (n - (ls ++ [q]).length) (Value.slice none 0 0) = (vs ++ List.replicate (n - ls.length) (Value.slice none 0 0)).set ls.length (Value.slice a q.length c) := by
      rw [List.set_append_right _ _ (by omega), show ls.length - vs.length = 0 by omega, show n - ls.length = (n - (ls ++ [q]).length) + 1 by simp; omega, List.replicate_succ]
      simp
    rw [e]
    exact (h2.stored _ _).1
  · by_cases hi : i < ls.length
    · rw [List.getElem?_append_left hi] at hl
      obtain ⟨a', c', h4, h5⟩ := h3 i l hl
      exact ⟨a', c', by rw [List.getElem?_append_left (by omega)]; exact h4, keep h5⟩
    · rw [List.getElem?_append_right (by omega)] at hl
      have h0 : i - ls.length = 0 := by
        rcases Nat.eq_zero_or_pos (i - ls.length) with h | h
        · exact h
        · rw [List.getElem?_eq_none (by simp; omega)] at hl
          cases hl
      rw [h0] at hl
      simp only [List.getElem?_cons_zero, Option.some.injEq] at hl
      subst hl
      refine ⟨a, c, ?_, keep hq⟩
      rw [List.getElem?_append_right (by omega), show i - vs.length = 0 by omega]
      rfl
/-- all are laid -/
theorem Part.full {B : Nat} {w : World} {g n : Nat} {ls : List (List Int)} (h : Part B w g n ls) (hn : ls.length = n) : ∃ vs, Rs B w (.slice (some ⟨g, 0, none⟩) n n) vs ls := by
  obtain ⟨vs, h1, h2, h3⟩ := h
  rw [hn, Nat.sub_self, List.replicate_zero, List.append_nil] at h2
  exact ⟨vs, by rw [hn]; exact h2, h3⟩

theorem leafs_fine {l : List Entry} (h : entsE l = 0) : Trees.leafsE (leafsOf l) = 0 := GrowsE.leafs_zero (by simp only [leafsOf, List.length_map]; exact (Entries.ents_ok h).1) (GrowRight.leafs_valid l)
/-- the tiles of entries -/
def tilesN (l : List Entry) : List Tile := if entsE l = 0 then tiles l.length else []
/-- what cut hands back -/
def Cut (l : List Entry) (w : World) (e : Ending) (w' : World) : Prop :=
  ∃ v u vs, e = .returned (.tuple #[v, u, errv (entsE l)]) ∧ w'.ownsRow w.heap.size 39 3 v (tilesN l).length (TileRows.cells (tilesN l)) ∧ Rs w.heap.size w' u vs (tilesL l) ∧ Below w.heap.size w w'

set_option maxHeartbeats 4000000 in
set_option maxRecDepth 100000 in
theorem cut_any (l : List Entry) (a : Option Addr) (n cap : Nat) (w : World) (hr : Wide 2 w a n cap (cells l)) (hz : ∀ e ∈ l, e.2.size ≤ maxLen) : Calls Tryz.prog 40 #[.slice a n cap] w (Cut l w) := by
  have hln := EntRows.len_of hr
  have cL := WalkEnt.leafs_any l a n cap w hr hz
  clear hr hz
  have aT := WalkTile.aggT
  have zT := WalkTile.sizeT
  go_enter Tryz.func40, Tryz.ntmps40
  go_wp2_with fail
  refine cL.mono ?_
  rintro e w1 ⟨v1, rfl, o1, b1⟩
  clear cL
  by_cases h0 : entsE l = 0
  rotate_left
  · have HV : Hid (tilesN l = [] ∧ tilesL l = [] ∧ errv (entsE l) = .iface 70 (.int .i64 (entsE l : Nat))) := ⟨if_neg h0, if_neg h0, errv_pos _ h0⟩
    rw [errv_pos _ h0]
    have HB : Hid (Below w.heap.size w w1) := b1
    clear h0 o1 b1
    generalize ((entsE l : Nat) : Int) = E at HV
    go_wp2_with fail
    go_ret3
    exact ⟨_, _, _, by rw [HV.out.2.2]; rfl, by rw [HV.out.1]; exact World.ownsRow_nil _ _ _ _, by rw [HV.out.2.1]; exact Rs.nil _ _, HB.out⟩
  have hn : n ≤ 200 := by rw [← hln]; exact (Entries.ents_ok h0).1
  have hll : (leafsOf l).length = n := by simp [leafsOf, hln]
  have HF : Hid (Trees.leafsE (leafsOf l) = 0) := leafs_fine h0
  have HE : Hid (errv (entsE l) = .nilIface ∧ tilesN l = tiles n ∧ tilesL l = want l ∧ want l = (tiles n).map (sumsOf (leafsOf l))) := by
    refine ⟨by rw [h0]; rfl, ?_, if_pos h0, ?_⟩
    · unfold tilesN; rw [if_pos h0, hln]
    · unfold Audits.want; rw [hln]
  rw [show leafsV l = leafsOf l from if_pos h0] at o1
  rw [h0, errv0]
  obtain ⟨a1, c1, rfl, r1, _⟩ := owns_row o1
  rw [hll] at r1 ⊢
  have HR1 : Hid (∀ w', Below w1.heap.size w1 w' → Row w' a1 n c1 (ints (leafsOf l))) := fun w' b => r1.below b
  have HB1 : Hid (Below w.heap.size w w1) := b1
  generalize leafsOf l = lf at HR1 HF HE hll
  clear o1 b1 r1 h0
  have cA := WalkTile.all_any (n : Int) w1
  rw [show Tiles.sizeE (n : Int) = 0 from if_neg (by omega), show Tiles.allL (n : Int) = tiles n from (if_neg (by omega)).trans (by rw [Int.toNat_natCast]), WalkCheck.errv0] at cA
  go_wp2_with fail
  refine cA.mono ?_
  rintro e w2 ⟨v2, rfl, o2, b2⟩
  clear cA
  obtain ⟨N, HN⟩ : ∃ N, Hid ((tiles n).length = N) := ⟨_, rfl⟩
  have hN : N ≤ 200 := by rw [← HN.out]; exact Tiles.upto_length n 4 (by omega) hn
  rw [HN.out] at o2
  have HO2 : Hid (w2.ownsRow w.heap.size 39 3 v2 N (TileRows.cells (tiles n))) := owns_base o2 HB1.out.size
  obtain ⟨a2, c2, rfl, r2⟩ := Wides.owns_wide o2
  have HR2 : Hid (∀ w', Below w2.heap.size w2 w' → Wide 3 w' a2 N c2 (TileRows.cells (tiles n))) := fun w' b => r2.below b
  have HB2 : Hid (Below w.heap.size w w2) := bt HB1.out b2
  replace HR1 : Hid (∀ w', Below w2.heap.size w2 w' → Row w' a1 n c1 (ints lf)) := fun w' b => HR1.out w' (bt b2 b)
  clear o2 r2 b2 HB1
  obtain ⟨i0, hi, hz0, hz1, hz2⟩ := info_parts SumRows.infoR
  obtain ⟨w3, hmk, o3, g3⟩ := run_make_full (P := Tryz.prog) w2 w.heap.size 25 28 i0 (.slice none 0 0) 1 Tryz.underlying25 hi hz0 hz1 .i64 .i64 N (by rw [hz2]; omega) (by unfold maxLen; omega) HB2.out.size
  have HP3 : Hid (Part w.heap.size w3 w2.heap.size N []) := by
    refine ⟨[], rfl, ?_, fun i l h => by simp at h⟩
    have e : ([] : List Value) ++ List.replicate (N - ([] : List (List Int)).length) (.slice none 0 0) = (madeCells (Value.slice none 0 0).cells (N * 1)).toList := by
      rw [Nat.mul_one]
      show _ = (madeCells #[.slice none 0 0] N).toList
      rw [toList_madeCells_one]
      simp
    rw [e]
    exact o3
  have HB3 : Hid (Below w2.heap.size w2 w3) := (Below.refl _ _).grown g3 (Nat.le_refl _) (fun k hk => by cases hk)
  have hg : w.heap.size ≤ w2.heap.size := HB2.out.size
  clear o3 g3 hz0 hz1 hz2 hi
  go_upto_region 8 with fail
  clear hmk
  obtain ⟨g, HG⟩ : ∃ g, Hid (w2.heap.size = g) := ⟨_, rfl⟩
  rw [HG.out] at HP3 hg ⊢
  go_wp2_with fail
  go_loopw [2, 3, 4, 30] (fun s2 s3 er iv wr => ∃ k : Nat, k ≤ N ∧ iv = .int .i64 (k : Int) ∧ s2 = .slice a2 N c2 ∧ s3 = .slice (some ⟨g, 0, none⟩) N N ∧ er = .nilIface ∧ Hid (Part w.heap.size wr g N ((want l).take k)) ∧ Hid (Below w2.heap.size w2 wr)) (fun _ _ _ iv _ => N - (intOf iv).toNat)
  case atStart => exact ⟨0, Nat.zero_le _, rfl, rfl, rfl, rfl, HP3, HB3⟩
  case round =>
    clear HP3 HB3
    obtain ⟨k, hk, rfl, rfl, rfl, rfl, HP, HB⟩ := hrel
    have hwl : (want l).length = N := by rw [HE.out.2.2.2, List.length_map, HN.out]
    by_cases hlt : k < N
    · have i1 : (k : Int) < (N : Int) := by omega
      have htl : k < (tiles n).length := by rw [HN.out]; exact hlt
      obtain ⟨g2, f2, rfl, _⟩ := (HR2.out wr HB.out).2.2 (by omega)
      obtain ⟨p0, p1, p2⟩ := TileRows.at_three (HR2.out wr HB.out) k htl
      have HM : Hid ((tiles n)[k] ∈ tiles n) := List.getElem_mem _
      have HT : Hid ((want l).take (k + 1) = (want l).take k ++ [sumsOf lf ((tiles n)[k])]) := by
        show _ = _
        rw [List.take_succ_eq_append_getElem (by omega)]
        congr 2
        simp only [HE.out.2.2.2, List.getElem_map]
      have HK : Hid (((want l).take k).length = k) := by show _ = _; rw [List.length_take]; omega
      generalize (tiles n)[k] = t at p0 p1 p2 HM HT
      obtain ⟨t0, t1, t2⟩ := t
      simp only at p0 p1 p2
      obtain ⟨e1, e2⟩ := Tiles.tile_in hll HF.out HM.out
      have HBa : Hid (Below w2.heap.size w2 (wr.alloc (.cells #[.int .i64 (t0 : Int), .int .i64 (t1 : Int), .int .i64 (t2 : Int)] 39))) := HB.out.alloc HB.out.size _
      have HPa : Hid (Part w.heap.size (wr.alloc (.cells #[.int .i64 (t0 : Int), .int .i64 (t1 : Int), .int .i64 (t2 : Int)] 39)) g N ((want l).take k)) := HP.out.kept ((Below.refl _ _).alloc (Nat.le_refl _) _)
      have cS := fun w' (b : Below w2.heap.size w2 w') => WalkTile.sums_any lf a1 n c1 (t0 : Int) (t1 : Int) (t2 : Int) w' (HR1.out w' b)
      rw [e1, e2, WalkCheck.errv0] at cS
      generalize sumsOf lf (t0, t1, t2) = q at cS HT
      clear e1 e2
      go_wp2_with fail
      refine (cS _ HBa.out).mono ?_
      rintro e w4 ⟨v4, rfl, o4, b4⟩
      obtain ⟨a4, c4, rfl, _, _⟩ := owns_row o4
      have HB4 : Hid (Below w2.heap.size w2 w4) := bt HBa.out b4
      have HP4 : Hid (Part w.heap.size w4 g N ((want l).take k)) := HPa.out.kept b4
      have HO4 : Hid (w4.ownsRow w.heap.size 3 1 (.slice a4 q.length c4) q.length (ints q)) := owns_base o4 (Nat.le_trans HB2.out.size HBa.out.size)
      obtain ⟨x1, x2⟩ := HP4.out.room (by rw [HK.out]; exact hlt)
      have HPn : Hid (Part w.heap.size (w4.setCell ⟨g, k, none⟩ (.slice a4 q.length c4)) g N ((want l).take (k + 1))) := by
        show Part _ _ _ _ _
        rw [HT.out]
        have h := HP4.out.next (by rw [HK.out]; exact hlt) HO4.out
        rw [HK.out] at h
        exact h
      have HBn : Hid (Below w2.heap.size w2 (w4.setCell ⟨g, k, none⟩ (.slice a4 q.length c4))) := HB4.out.setCell (by rw [HG.out]; exact Nat.le_refl _) _
      rw [HK.out] at x1 x2
      clear cS o4 b4 p0 p1 p2 HPa HBa HP HB
      generalize q.length = ql at HPn HBn
      go_wp2_with fail
      go_roundw
      case rel => exact ⟨k + 1, by omega, by go_num, rfl, rfl, rfl, HPn, HBn⟩
      case measure => simp [intOf]; omega
    · have i1 : ¬ (k : Int) < (N : Int) := by omega
      obtain rfl : k = N := by omega
      have hp := HP.out
      rw [List.take_of_length_le (by omega)] at hp
      obtain ⟨vs, hrs⟩ := hp.full hwl
      have HF : Hid (Cut l w (.returned (.tuple #[.slice a2 k c2, .slice (some ⟨g, 0, none⟩) k k, .nilIface])) wr) := by
        refine ⟨_, _, vs, by rw [HE.out.1], ?_, by rw [HE.out.2.2.1]; exact hrs, ?_⟩
        · rw [HE.out.2.1, HN.out]
          exact owns_kept HO2.out (Kept.of_below (fun _ => False) HB.out) fun _ _ q => q
        · exact bt HB2.out HB.out
      clear hp hrs
      go_wp2_with fail
      go_ret3
      exact HF.out

theorem tiles_any (l : List Entry) (a : Option Addr) (n cap : Nat) (w : World) (hr : Wide 2 w a n cap (cells l)) (hz : ∀ e ∈ l, e.2.size ≤ maxLen) : Calls Tryz.prog 13 #[.slice a n cap] w fun e w' => ∃ v vs, e = .returned (.tuple #[v, errv (entsE l)]) ∧ Rs w.heap.size w' v vs (tilesL l) ∧ Below w.heap.size w w' := by
  have cC := cut_any l a n cap w hr hz
  clear hr hz
  go_enter Tryz.func13, Tryz.ntmps13
  go_wp2_with fail
  refine cC.mono ?_
  rintro e w1 ⟨v, u, vs, rfl, _, hrs, b1⟩
  clear cC
  obtain ⟨E, HE⟩ : ∃ E, Hid (errv (entsE l) = E) := ⟨_, rfl⟩
  rw [HE.out]
  go_wp2_with fail
  go_ret2
  exact ⟨_, vs, by rw [HE.out]; rfl, hrs, b1⟩

end Go.Proofs.YtigbbhojgajkjaiGreatDoor.WalkAu

/-
  Package audit: whether a head is that of entries (Whole), and which tiles are not as they are told (Bad).
-/
namespace Go.Proofs.YtigbbhojgajkjaiGreatDoor.WalkAu
open Go.RowKit
open Go.Sort (grow)
open Lists (Row ints bt)
open Keeps (Kept owns_kept owns_row owns_base)
open Wides (Wide)
open Entries (Entry entsE leafsOf leafsV)
open EntRows (cells)
open Heads (Head verifyE)
open HeadVals (hv aggH sizeH At)
open Errs (errv errv0 errv_pos)
open IntRows (Rowss)
open SumRows (Rs)
open Mirrors (rootE)
open Tiles (Tile tiles sumsOf)
open Audits (wholeE tilesL want badE badT badF)
abbrev Asks (w : World) : Prop := WalkHdLib.Tabs w

set_option maxHeartbeats 4000000 in
theorem whole_any (l : List Entry) (a : Option Addr) (n cap : Nat) (h : Head) (key : Int) (w : World) (hr : Wide 2 w a n cap (cells l)) (hz : ∀ e ∈ l, e.2.size ≤ maxLen) (hA : Asks w) : Calls Tryz.prog 10 #[.slice a n cap, hv h, .int .i64 key] w fun e w' => e = .returned (errv (wholeE l h key)) ∧ Below w.heap.size w w' := by
  have hln := EntRows.len_of hr
  have HV : Hid (∀ w', Below w.heap.size w w' → Calls Tryz.prog 36 #[hv h, .int .i64 key] w' fun e w'' => e = .returned (errv (verifyE h key)) ∧ Below w'.heap.size w' w'') := fun w' b => WalkHdSign.verify_any h key w' (hA.below b)
  have HL : Hid (∀ w', Below w.heap.size w w' → Calls Tryz.prog 37 #[.slice a n cap] w' fun e w'' => ∃ v, e = .returned (.tuple #[v, errv (entsE l)]) ∧ w''.ownsRow w'.heap.size 3 1 v (leafsV l).length (ints (leafsV l)) ∧ Below w'.heap.size w' w'') := fun w' b => WalkEnt.leafs_any l a n cap w' (hr.below b) hz
  have H1 : Hid (verifyE h key ≠ 0 → wholeE l h key = verifyE h key) := fun q => if_pos q
  have H2 : Hid (verifyE h key = 0 → entsE l ≠ 0 → wholeE l h key = entsE l) := fun q q2 => by unfold Audits.wholeE; rw [if_neg (by omega), if_pos q2]
  have H3 : Hid (verifyE h key = 0 → entsE l = 0 → (n : Int) ≠ h.size → wholeE l h key = 3) := fun q q2 q3 => by unfold Audits.wholeE; rw [if_neg (by omega), if_neg (by omega), if_pos (by rw [hln]; exact q3)]
  have H4 : Hid (verifyE h key = 0 → entsE l = 0 → (n : Int) = h.size → rootE l ≠ h.root → wholeE l h key = 8) := fun q q2 q3 q4 => by unfold Audits.wholeE; rw [if_neg (by omega), if_neg (by omega), if_neg (by rw [hln]; exact fun z => z q3), if_pos q4]
  have H5 : Hid (verifyE h key = 0 → entsE l = 0 → (n : Int) = h.size → rootE l = h.root → wholeE l h key = 0) := fun q q2 q3 q4 => by unfold Audits.wholeE; rw [if_neg (by omega), if_neg (by omega), if_neg (by rw [hln]; exact fun z => z q3), if_neg (fun z => z q4)]
  obtain ⟨h0, h1, h2, h3⟩ := h
  have aH := aggH
  have zH := sizeH
  have bel : Below w.heap.size w (w.alloc (.cells #[.int .i64 h0, .int .i64 h1, .int .i64 h2, .int .i64 h3] 24)) := (Below.refl _ _).alloc (Nat.le_refl _) _
  have hX : At (w.alloc (.cells #[.int .i64 h0, .int .i64 h1, .int .i64 h2, .int .i64 h3] 24)) w.heap.size ⟨h0, h1, h2, h3⟩ := At.new w h0 h1 h2 h3
  generalize wholeE l ⟨h0, h1, h2, h3⟩ key = C at H1 H2 H3 H4 H5 ⊢
  generalize verifyE ⟨h0, h1, h2, h3⟩ key = E at HV H1 H2 H3 H4 H5
  unfold hv at *
  simp only at HV H3 H4 H5
  clear hA hr hz
  go_enter Tryz.func10, Tryz.ntmps10
  go_upto_region 1 with fail
  generalize w.alloc (.cells #[.int .i64 h0, .int .i64 h1, .int .i64 h2, .int .i64 h3] 24) = w0 at bel hX ⊢
  obtain ⟨p0, p1, p2, p3⟩ := hX
  simp only at p0 p1 p2 p3
  have HX : Hid (At w0 w.heap.size ⟨h0, h1, h2, h3⟩) := ⟨p0, p1, p2, p3⟩
  have HB0 : Hid (Below w.heap.size w w0) := bel
  clear bel
  go_wp2_with fail
  refine (HV.out _ HB0.out).mono ?_
  rintro e w1 ⟨rfl, b1⟩
  have HX1 : Hid (At w1 w.heap.size ⟨h0, h1, h2, h3⟩) := HX.out.below b1
  have HB1 : Hid (Below w.heap.size w w1) := bt HB0.out b1
  clear b1 p0 p1 p2 p3 HV HX HB0
  by_cases hE : E = 0
  rotate_left
  · have HN : Hid (errv C = .iface 70 (.int .i64 E)) := by show errv C = _; rw [H1.out hE]; exact errv_pos _ hE
    rw [errv_pos _ hE]
    clear hE H1 H2 H3 H4 H5 HL
    go_wp2_with fail
    go_ret
    exact ⟨by rw [HN.out]; rfl, HB1.out⟩
  rw [hE, errv0]
  have HE : Hid (E = 0) := hE
  clear hE H1
  go_wp2_with fail
  refine (HL.out _ HB1.out).mono ?_
  rintro e w2 ⟨v, rfl, o2, b2⟩
  have HX2 : Hid (At w2 w.heap.size ⟨h0, h1, h2, h3⟩) := HX1.out.below b2
  have HB2 : Hid (Below w.heap.size w w2) := bt HB1.out b2
  clear b2 HL HX1 HB1
  by_cases hl : entsE l = 0
  rotate_left
  · have HN : Hid (errv C = .iface 70 (.int .i64 (entsE l : Nat))) := by show errv C = _; rw [H2.out HE.out hl]; exact errv_pos _ hl
    rw [errv_pos _ hl]
    clear hl H2 H3 H4 H5 o2
    generalize ((entsE l : Nat) : Int) = F at HN
    go_wp2_with fail
    go_ret
    exact ⟨by rw [HN.out]; rfl, HB2.out⟩
  have hll : (leafsOf l).length = n := by simp [leafsOf, hln]
  have HF : Hid (Trees.leafsE (leafsOf l) = 0) := leafs_fine hl
  have HRt : Hid (Trees.rootV (leafsOf l) = rootE l) := if_pos (leafs_fine hl)
  rw [show leafsV l = leafsOf l from if_pos hl] at o2
  rw [hl, errv0]
  have HL0 : Hid (entsE l = 0) := hl
  obtain ⟨a2, c2, rfl, r2, _⟩ := owns_row o2
  rw [hll] at r2 ⊢
  have cR := WalkCheck.root_any (leafsOf l) a2 n c2 w2 r2
  rw [HF.out, HRt.out, WalkCheck.errv0] at cR
  obtain ⟨p0, p1, p2, p3⟩ := HX2.out
  simp only at p0 p1 p2 p3
  clear hl o2 r2 H2
  by_cases hs : (n : Int) = h0
  rotate_left
  · have HN : Hid (errv C = .iface 70 (.int .i64 3)) := by show errv C = _; rw [H3.out HE.out HL0.out hs]; rfl
    have i1 : ((n : Int) != h0) = true := by simpa using hs
    clear hs H3 H4 H5 cR
    go_wp2_with fail
    go_ret
    exact ⟨by rw [HN.out]; rfl, HB2.out⟩
  have i1 : ((n : Int) != h0) = false := by simpa using hs
  have HS : Hid ((n : Int) = h0) := hs
  clear hs H3
  generalize rootE l = R at H4 H5 cR
  go_wp2_with fail
  refine cR.mono ?_
  rintro e w3 ⟨rfl, b3⟩
  obtain ⟨q0, q1, q2, q3⟩ := HX2.out.below b3
  simp only at q0 q1 q2 q3
  have HB3 : Hid (Below w.heap.size w w3) := bt HB2.out b3
  clear cR b3 p0 p1 p2 p3
  by_cases ht : R = h1
  · have HN : Hid (errv C = .nilIface) := by show errv C = _; rw [H5.out HE.out HL0.out HS.out ht]; rfl
    have i2 : (R != h1) = false := by simpa using ht
    clear ht H4 H5
    go_wp2_with fail
    go_ret
    exact ⟨by rw [HN.out]; rfl, HB3.out⟩
  · have HN : Hid (errv C = .iface 70 (.int .i64 8)) := by show errv C = _; rw [H4.out HE.out HL0.out HS.out ht]; rfl
    have i2 : (R != h1) = true := by simpa using ht
    clear ht H4 H5
    go_wp2_with fail
    go_ret
    exact ⟨by rw [HN.out]; rfl, HB3.out⟩
theorem take_snoc (l : List Int) (k : Nat) (h : k < l.length) : l.take (k + 1) = l.take k ++ [l.getD k 0] := by
  rw [List.take_succ_eq_append_getElem h, List.getD_eq_getElem?_getD, List.getElem?_eq_getElem h]
  rfl
theorem below_drewN {B : Nat} {a w : World} (h : Below B a w) (n : Nat) : Below B a (w.drewN n) := ⟨h.os, h.tape, h.output, h.size, h.block⟩

set_option maxHeartbeats 1000000 in
theorem equal_any (l m : List Int) (a b : Option Addr) (n k cap cap' : Nat) (w : World) (hr : Row w a n cap (ints l)) (hs : Row w b k cap' (ints m)) (hk : k ≤ 200) :
    Calls Tryz.prog 41 #[.slice a n cap, .slice b k cap'] w fun e w' => e = .returned (.bool (decide (l = m))) ∧ Below w.heap.size w w' := by
  have hln : l.length = n := by rw [← hr.1, Lists.ints_length]
  have hmn : m.length = k := by rw [← hs.1, Lists.ints_length]
  have HR : Hid (Row w a n cap (ints l)) := hr
  have HS : Hid (Row w b k cap' (ints m)) := hs
  clear hr hs
  by_cases hnk : n = k
  · subst hnk
    go_enter Tryz.func41, Tryz.ntmps41
    go_wp2_with fail
    go_loopw [13] (fun i wr => ∃ j : Nat, j ≤ n ∧ i = .int .i64 j ∧ Hid (l.take j = m.take j) ∧ Below w.heap.size w wr) (fun i _ => n - (intOf i).toNat)
    case atStart => exact ⟨0, Nat.zero_le _, rfl, rfl, Below.refl _ _⟩
    case round =>
      obtain ⟨j, hj, rfl, HT, hb⟩ := hrel
      by_cases hlt : j < n
      · obtain ⟨b1, off1, rfl, hc1⟩ := (HR.out.below hb).2.2 (by omega)
        obtain ⟨b2, off2, rfl, hc2⟩ := (HS.out.below hb).2.2 (by omega)
        have cell1 := hc1 j _ (Lists.ints_at (by omega))
        have cell2 := hc2 j _ (Lists.ints_at (by omega))
        clear hc1 hc2
        have i1 : (j : Int) < (n : Int) := by omega
        have HL : Hid (l.take (j + 1) = l.take j ++ [l.getD j 0]) := take_snoc l j (by omega)
        have HM : Hid (m.take (j + 1) = m.take j ++ [m.getD j 0]) := take_snoc m j (by omega)
        have HE : Hid (l = m → l.getD j 0 = m.getD j 0) := fun h => by rw [h]
        generalize l.getD j 0 = x at cell1 HL HE
        generalize m.getD j 0 = y at cell2 HM HE
        by_cases hxy : x = y
        · subst hxy
          have hq : (x != x) = false := by simp
          go_wp2_with fail
          go_quiet (fail)
          go_wp2_with fail
          go_roundw
          case rel => exact ⟨j + 1, by omega, by go_num, (show l.take (j + 1) = m.take (j + 1) by rw [HL.out, HM.out, HT.out]), below_drewN hb _⟩
          case measure => simp [intOf]; omega
        · have hq : (x != y) = true := by simpa using hxy
          have HN : Hid (decide (l = m) = false) := decide_eq_false fun h => hxy (HE.out h)
          clear hxy HE
          go_wp2_with fail
          go_quiet (fail)
          go_wp2_with fail
          go_ret
          exact ⟨by rw [HN.out]; rfl, below_drewN hb _⟩
      · have HQ : Hid (l = m) := by
          have h := HT.out
          rw [List.take_of_length_le (by omega), List.take_of_length_le (by omega)] at h
          exact h
        go_wp2_with fail
        go_ret
        exact ⟨by rw [decide_eq_true HQ.out]; rfl, hb⟩
  · have i1 : ((n : Int) != (k : Int)) = true := by rw [bne_iff_ne]; omega
    have HN : Hid (decide (l = m) = false) := decide_eq_false fun h => hnk (by rw [← hln, ← hmn, h])
    go_enter Tryz.func41, Tryz.ntmps41
    go_wp2_with fail
    go_ret
    exact ⟨by rw [HN.out]; rfl, Below.refl _ _⟩

set_option maxHeartbeats 4000000 in
set_option maxRecDepth 100000 in
theorem bad_any (l : List Entry) (a : Option Addr) (n cap : Nat) (g : List (List Int)) (a2 : Option Addr) (n2 cap2 : Nat) (w : World) (hr : Wide 2 w a n cap (cells l)) (hz : ∀ e ∈ l, e.2.size ≤ maxLen) (hg : Rowss w a2 n2 cap2 g) (hn : n2 ≤ 17592186043904) : Calls Tryz.prog 16 #[.slice a n cap, .slice a2 n2 cap2] w fun e w' => ∃ v, e = .returned (.tuple #[v, errv (badE l g)]) ∧ w'.ownsRow w.heap.size 39 3 v (badT l g).length (TileRows.cells (badT l g)) ∧ Below w.heap.size w w' := by
  have hln := EntRows.len_of hr
  have hgl := hg.1
  have cC := cut_any l a n cap w hr hz
  have HG : Hid (∀ w', Below w.heap.size w w' → Rowss w' a2 n2 cap2 g) := fun w' b => hg.below b
  have H0 : Hid (badE l g ≠ 0 → badT l g = []) := fun h => if_neg h
  clear hr hz hg
  have aT := WalkTile.aggT
  have zT := WalkTile.sizeT
  obtain ⟨i0, hi, hz0, hz1, hz2⟩ := info_parts WalkTileAll.infoT
  go_enter Tryz.func16, Tryz.ntmps16
  go_wp2_with fail
  refine cC.mono ?_
  rintro e w1 ⟨v, u, vs, rfl, o1, hrs, b1⟩
  clear cC
  have HB1 : Hid (Below w.heap.size w w1) := b1
  by_cases h0 : entsE l = 0
  rotate_left
  · have hE : badE l g = entsE l := if_pos h0
    have HT : Hid (badT l g = []) := H0.out (by rw [hE]; exact h0)
    have HN : Hid (errv (badE l g) = .iface 70 (.int .i64 (entsE l : Nat))) := by show errv (badE l g) = _; rw [hE]; exact errv_pos _ h0
    rw [errv_pos _ h0]
    clear h0 hE H0 o1 hrs b1
    generalize ((entsE l : Nat) : Int) = E at HN
    go_wp2_with fail
    go_ret2
    exact ⟨_, by rw [HN.out]; rfl, by rw [HT.out]; exact World.ownsRow_nil _ _ _ _, HB1.out⟩
  have hn2 : n ≤ 200 := by rw [← hln]; exact (Entries.ents_ok h0).1
  have HTs : Hid (tilesN l = tiles n ∧ tilesL l = want l) := ⟨by unfold tilesN; rw [if_pos h0, hln], if_pos h0⟩
  rw [HTs.out.1] at o1
  rw [HTs.out.2] at hrs
  have hwl : (want l).length = (tiles n).length := by rw [Audits.want_length, hln]
  have HW4 : Hid (∀ q ∈ want l, q.length ≤ 200) := by
    intro q hq
    unfold Audits.want at hq
    obtain ⟨t, ht, rfl⟩ := List.mem_map.1 hq
    rw [Tiles.sumsOf_length]
    have := Tiles.tiles_le (n := l.length) (by omega) t ht
    omega
  have H1 : Hid (n2 ≠ (tiles n).length → badE l g = 3) := fun h => by unfold Audits.badE; rw [if_neg (by omega), if_pos (by rw [hgl, hln]; exact h)]
  have H2 : Hid (n2 = (tiles n).length → badE l g = 0 ∧ badT l g = badF (tiles n) (want l) g (tiles n).length) := fun h => by
    have hE : badE l g = 0 := by unfold Audits.badE; rw [if_neg (by omega), if_neg (by rw [hgl, hln]; exact fun z => z h)]
    refine ⟨hE, ?_⟩
    unfold Audits.badT
    rw [if_pos hE, hln]
  rw [h0, errv0]
  obtain ⟨a3, c3, rfl, r3⟩ := Wides.owns_wide o1
  obtain ⟨a4, c4, rfl, r4⟩ := hrs.rows
  obtain ⟨N, HN⟩ : ∃ N, Hid ((tiles n).length = N) := ⟨_, rfl⟩
  have hN : N ≤ 200 := by rw [← HN.out]; exact Tiles.upto_length n 4 (by omega) hn2
  rw [hwl] at r4 ⊢
  rw [HN.out] at r3 r4 H1 H2 hwl ⊢
  have HR3 : Hid (∀ w', Below w1.heap.size w1 w' → Wide 3 w' a3 N c3 (TileRows.cells (tiles n))) := fun w' b => r3.below b
  have HR4 : Hid (∀ w', Below w1.heap.size w1 w' → Rowss w' a4 N c4 (want l)) := fun w' b => r4.below b
  have HG1 : Hid (∀ w', Below w1.heap.size w1 w' → Rowss w' a2 n2 cap2 g) := fun w' b => HG.out w' (bt HB1.out b)
  clear o1 hrs b1 r3 r4 HG h0 HTs
  by_cases hne : n2 = N
  rotate_left
  · have i1 : ((n2 : Int) != (N : Int)) = true := by rw [bne_iff_ne]; omega
    have hE := H1.out hne
    have HT : Hid (badT l g = []) := H0.out (by rw [hE]; decide)
    have HN : Hid (errv (badE l g) = .iface 70 (.int .i64 3)) := by show errv (badE l g) = _; rw [hE]; rfl
    clear hE H0 H1 H2 hne
    go_wp2_with fail
    go_ret2
    exact ⟨_, by rw [HN.out]; rfl, by rw [HT.out]; exact World.ownsRow_nil _ _ _ _, HB1.out⟩
  subst hne
  have i0' : ((n2 : Int) != (n2 : Int)) = false := by simp
  obtain ⟨hE, hT⟩ := H2.out rfl
  have HE : Hid (errv (badE l g) = .nilIface) := by show errv (badE l g) = _; rw [hE]; rfl
  have HT : Hid (badT l g = badF (tiles n) (want l) g n2) := hT
  clear H0 H1 H2 hE hT
  go_wp2_with fail
  go_loopw [9, 31] (fun bv iv wr => ∃ k : Nat, k ≤ n2 ∧ iv = .int .i64 (k : Int) ∧ Hid (wr.ownsRow w1.heap.size 39 3 bv (badF (tiles n) (want l) g k).length (TileRows.cells (badF (tiles n) (want l) g k))) ∧ Hid (Below w1.heap.size w1 wr)) (fun _ iv _ => n2 - (intOf iv).toNat)
  case atStart => exact ⟨0, Nat.zero_le _, rfl, World.ownsRow_nil _ _ _ _, Below.refl _ _⟩
  case round =>
    obtain ⟨k, hk, rfl, HO, HB⟩ := hrel
    by_cases hlt : k < n2
    · have i1 : (k : Int) < (n2 : Int) := by omega
      have htl : k < (tiles n).length := by rw [HN.out]; exact hlt
      obtain ⟨g3, f3, rfl, _⟩ := (HR3.out wr HB.out).2.2 (by omega)
      obtain ⟨p0, p1, p2⟩ := TileRows.at_three (HR3.out wr HB.out) k htl
      have HTk : Hid ((tiles n)[k]? = some (tiles n)[k]) := List.getElem?_eq_getElem htl
      generalize (tiles n)[k] = t at p0 p1 p2 HTk
      obtain ⟨t0, t1, t2⟩ := t
      simp only at p0 p1 p2
      obtain ⟨x, hx⟩ : ∃ x, g[k]? = some x := ⟨g[k]'(by omega), List.getElem?_eq_getElem _⟩
      obtain ⟨y, hy⟩ : ∃ y, (want l)[k]? = some y := ⟨(want l)[k]'(by omega), List.getElem?_eq_getElem _⟩
      have HXY : Hid ((x = y → badF (tiles n) (want l) g (k + 1) = badF (tiles n) (want l) g k) ∧ (x ≠ y → badF (tiles n) (want l) g (k + 1) = badF (tiles n) (want l) g k ++ [(t0, t1, t2)])) := ⟨fun h => Audits.badF_same (by rw [hx, hy, h]), fun h => Audits.badF_other (by rw [hx, hy]; exact fun z => h (Option.some.inj z)) HTk.out⟩
      have hbl : (badF (tiles n) (want l) g k).length ≤ k := Audits.badF_length _ _ _ _
      have bA : Below wr.heap.size wr (wr.alloc (.cells #[.int .i64 (t0 : Int), .int .i64 (t1 : Int), .int .i64 (t2 : Int)] 39)) := (Below.refl _ _).alloc (Nat.le_refl _) _
      have HBa : Hid (Below w1.heap.size w1 (wr.alloc (.cells #[.int .i64 (t0 : Int), .int .i64 (t1 : Int), .int .i64 (t2 : Int)] 39))) := bt HB.out bA
      have HOa : Hid ((wr.alloc (.cells #[.int .i64 (t0 : Int), .int .i64 (t1 : Int), .int .i64 (t2 : Int)] 39)).ownsRow w1.heap.size 39 3 u9 (badF (tiles n) (want l) g k).length (TileRows.cells (badF (tiles n) (want l) g k))) := owns_kept HO.out (Kept.of_below (fun _ => False) bA) fun _ _ q => q
      have d0 : (wr.alloc (.cells #[.int .i64 (t0 : Int), .int .i64 (t1 : Int), .int .i64 (t2 : Int)] 39)).cell? ⟨wr.heap.size, 0, none⟩ = some (.int .i64 (t0 : Int)) := by simp
      have d1 : (wr.alloc (.cells #[.int .i64 (t0 : Int), .int .i64 (t1 : Int), .int .i64 (t2 : Int)] 39)).cell? ⟨wr.heap.size, 1, none⟩ = some (.int .i64 (t1 : Int)) := by simp
      have d2 : (wr.alloc (.cells #[.int .i64 (t0 : Int), .int .i64 (t1 : Int), .int .i64 (t2 : Int)] 39)).cell? ⟨wr.heap.size, 2, none⟩ = some (.int .i64 (t2 : Int)) := by simp
      clear bA HO HB
      go_upto_region 10 with fail
      generalize wr.heap.size = gt at d0 d1 d2 ⊢
      generalize wr.alloc (.cells #[.int .i64 (t0 : Int), .int .i64 (t1 : Int), .int .i64 (t2 : Int)] 39) = w3 at HBa HOa d0 d1 d2 ⊢
      clear p0 p1 p2
      obtain ⟨g2, f2, rfl, hc2⟩ := (HG1.out w3 HBa.out).2.2 (by omega)
      obtain ⟨g4, f4, rfl, hc4⟩ := (HR4.out w3 HBa.out).2.2 (by omega)
      obtain ⟨ax, cx, px, rx⟩ := hc2 k x hx
      obtain ⟨ay, cy, py, ry⟩ := hc4 k y hy
      have hy200 := HW4.out y (List.mem_of_getElem? hy)
      have cE : ∀ dd os, Calls Tryz.prog 41 #[.slice ax x.length cx, .slice ay y.length cy] (grow (redrawn w3 dd) os) fun e w'' => e = .returned (.bool (decide (x = y))) ∧ ∃ p : Regrown, w'' = grow (redrawn w3 p.d) p.os := fun dd os => Calls.regrown_of (equal_any x y ax ay x.length y.length cx cy (grow (redrawn w3 dd) os) (rx.below (below_regrown w3 dd os)) (ry.below (below_regrown w3 dd os)) hy200)
      have px' := cell_regrown px
      have py' := cell_regrown py
      obtain ⟨V, HV⟩ : ∃ V, Hid (decide (x = y) = V) := ⟨_, rfl⟩
      rw [HV.out] at cE
      clear hc2 hc4 rx ry hx hy px py hy200
      generalize x.length = xl at cE px'
      generalize y.length = yl at cE py'
      go_wp2_with fail
      refine wp_region_quiet_below (by kernel_rfl) (by kernel_rfl) ?_
      repeat (quiet_step (fail))
      quiet_step (exact cE _ _)
      repeat (quiet_step (fail))
      refine wpQuiet_nil ?_
      intro _ hw'
      obtain ⟨⟨dq, osq⟩, hw''⟩ := hw'
      subst hw''
      have bq := below_regrown w3 dq osq
      have HB4 : Hid (Below w1.heap.size w1 (grow (redrawn w3 dq) osq)) := bt HBa.out bq
      have HO4 : Hid ((grow (redrawn w3 dq) osq).ownsRow w1.heap.size 39 3 u9 (badF (tiles n) (want l) g k).length (TileRows.cells (badF (tiles n) (want l) g k))) := owns_kept HOa.out (Kept.of_below (fun _ => False) bq) fun _ _ q => q
      have e0 := Lists.cell_below bq d0
      have e1 := Lists.cell_below bq d1
      have e2 := Lists.cell_below bq d2
      clear cE px' py' bq d0 d1 d2 HBa HOa
      generalize grow (redrawn w3 dq) osq = w4 at HB4 HO4 e0 e1 e2 ⊢
      cases V with
      | true =>
        have HF : Hid (badF (tiles n) (want l) g (k + 1) = badF (tiles n) (want l) g k) := HXY.out.1 (of_decide_eq_true HV.out)
        clear e0 e1 e2
        go_wp2_with fail
        go_roundw
        case rel => exact ⟨k + 1, by omega, by go_num, by rw [HF.out]; exact HO4, HB4⟩
        case measure => simp [intOf]; omega
      | false =>
        have HF : Hid (badF (tiles n) (want l) g (k + 1) = badF (tiles n) (want l) g k ++ [(t0, t1, t2)]) := HXY.out.2 (of_decide_eq_false HV.out)
        go_upto_region 11 with fail
        go_wp2_with (at_builtin; go_must (refine wpList_append_own _ rfl (.tmp 46) (.tmp 48) 35 rfl w1.heap.size 39 i0 (.agg #[.int .i64 0, .int .i64 0, .int .i64 0]) 3 24 Tryz.underlying35 hi hz0 hz1 hz2 rfl (by decide) _ _ _ rfl (HO4.out.alloc _) ⟨_, 0, none⟩ 1 1 [.int .i64 (t0 : Int), .int .i64 (t1 : Int), .int .i64 (t2 : Int)] rfl rfl (WalkTileAll.cell_three_new _ _ _ _ _) (fun u hu => by simp at hu; rcases hu with rfl | rfl | rfl <;> rfl) (by unfold maxLen; omega) (by omega) (by have := HB4.out.size; simp; omega) ?_); intro v1 wn o1 g1 z1; clear z1)
        have HBN : Hid (Below w1.heap.size w1 wn) := (HB4.out.alloc HB4.out.size _).grown g1 (by have := HB4.out.size; simp; omega) (fun k hk => (HO4.out.lt k hk).1)
        have HON : Hid (wn.ownsRow w1.heap.size 39 3 v1 (badF (tiles n) (want l) g (k + 1)).length (TileRows.cells (badF (tiles n) (want l) g (k + 1)))) := by
          show World.ownsRow _ _ _ _ _ _ _
          rw [HF.out, TileRows.cells_append, List.length_append]
          exact o1
        clear g1 o1 HO4 HB4 e0 e1 e2
        go_wp2_with fail
        go_roundw
        case rel => exact ⟨k + 1, by omega, by go_num, HON, HBN⟩
        case measure => simp [intOf]; omega
    · have i1 : ¬ (k : Int) < (n2 : Int) := by omega
      obtain rfl : k = n2 := by omega
      go_wp2_with fail
      go_ret2
      exact ⟨_, by rw [HE.out]; rfl, by rw [HT.out]; exact owns_base HO.out HB1.out.size, bt HB1.out HB.out⟩
end Go.Proofs.YtigbbhojgajkjaiGreatDoor.WalkAu

