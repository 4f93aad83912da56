/-
  Package audit: the tiles that the tree of entries has and the sums of each (cut), and these sums alone (Tiles).
-/
import Derived.Test.YtigbbhojgajkjaiGreatDoorAudits
import Derived.Test.YtigbbhojgajkjaiGreatDoorSumRows
import Derived.Test.YtigbbhojgajkjaiGreatDoorListRows
import Derived.Test.YtigbbhojgajkjaiGreatDoorErrs
import Derived.Test.YtigbbhojgajkjaiGreatDoorEntAll
import Derived.Test.YtigbbhojgajkjaiGreatDoorWalkTile
import Derived.Deep.CutBlock
import Derived.Laws.OwnMore
namespace Go.Proofs.YtigbbhojgajkjaiGreatDoor.WalkAu
open Go.RowKit
open Lists (Row ints bt)
open Keeps (Kept owns_kept owns_row owns_base)
open Wides (Wide)
open Entries (Entry entsE leafsOf leafsV)
open EntRows (cells)
open Errs (errv errv0 errv_pos)
open SumRows (Rs)
open Tiles (Tile tiles sumsOf)
open Audits (tilesL want)

/-- the first lists are laid in the row of block g, room for the rest of n behind them -/
def Part (B : Nat) (w : World) (g n : Nat) (ls : List (List Int)) : Prop :=
  ∃ vs : List Value, vs.length = ls.length ∧ w.ownsRow B 28 1 (.slice (some ⟨g, 0, none⟩) n n) n (vs ++ List.replicate (n - ls.length) (.slice none 0 0)) ∧
    ∀ (i : Nat) (l : List Int), ls[i]? = some l → ∃ a c, vs[i]? = some (Value.slice a l.length c) ∧ w.ownsRow B 3 1 (Value.slice a l.length c) l.length (ints l)
theorem Part.kept {B : Nat} {w w' : World} {g n : Nat} {ls : List (List Int)} (h : Part B w g n ls) (b : Below w.heap.size w w') : Part B w' g n ls := by
  obtain ⟨vs, h1, h2, h3⟩ := h
  have k := Kept.of_below (fun _ => False) b
  refine ⟨vs, h1, owns_kept h2 k fun _ _ q => q, fun i l hl => ?_⟩
  obtain ⟨a, c, h4, h5⟩ := h3 i l hl
  exact ⟨a, c, h4, owns_kept h5 k fun _ _ q => q⟩
/-- room is there for one more -/
theorem Part.room {B : Nat} {w : World} {g n : Nat} {ls : List (List Int)} (h : Part B w g n ls) (hk : ls.length < n) : w.cell? ⟨g, ls.length, none⟩ = some (.slice none 0 0) ∧ w.frozen? ⟨g, ls.length, none⟩ = false := by
  obtain ⟨vs, h1, h2, _⟩ := h
  refine ⟨(h2.cellAt _ (by omega)).trans ?_, h2.frozenAt _⟩
  rw [List.getElem?_append_right (by omega), List.getElem?_replicate, if_pos (by omega)]
/-- one more is laid -/
theorem Part.next {B : Nat} {w : World} {g n : Nat} {ls : List (List Int)} {a : Option Addr} {c : Nat} {q : List Int} (h : Part B w g n ls) (hk : ls.length < n) (hq : w.ownsRow B 3 1 (.slice a q.length c) q.length (ints q)) :
    Part B (w.setCell ⟨g, ls.length, none⟩ (.slice a q.length c)) g n (ls ++ [q]) := by
  obtain ⟨vs, h1, h2, h3⟩ := h
  have k : Kept (fun k => k = g) w (w.setCell ⟨g, ls.length, none⟩ (.slice a q.length c)) := (Kept.refl (fun k => k = g) w).setCell (p := ⟨g, ls.length, none⟩) (.inl rfl) _
  have keep : ∀ {x : Value} {m : Nat} {xs : List Value}, w.ownsRow B 3 1 x m xs → (w.setCell ⟨g, ls.length, none⟩ (.slice a q.length c)).ownsRow B 3 1 x m xs := fun hx => owns_kept hx k fun i hi (e : i = g) => SumRows.own_apart hx h2 (by decide) i hi (by rw [e]; rfl)
  refine ⟨vs ++ [.slice a q.length c], by simp [h1], ?_, fun i l hl => ?_⟩
  · have e : vs ++ [Value.slice a q.length c] ++ List.replicate (n - (ls ++ [q]).length) (Value.slice none 0 0) = (vs ++ List.replicate (n - ls.length) (Value.slice none 0 0)).set ls.length (Value.slice a q.length c) := by
      rw [List.set_append_right _ _ (by omega), show ls.length - vs.length = 0 by omega, show n - ls.length = (n - (ls ++ [q]).length) + 1 by simp; omega, List.replicate_succ]
      simp
    rw [e]
    exact (h2.stored _ _).1
  · by_cases hi : i < ls.length
    · rw [List.getElem?_append_left hi] at hl
      obtain ⟨a', c', h4, h5⟩ := h3 i l hl
      exact ⟨a', c', by rw [List.getElem?_append_left (by omega)]; exact h4, keep h5⟩
    · rw [List.getElem?_append_right (by omega)] at hl
      have h0 : i - ls.length = 0 := by
        rcases Nat.eq_zero_or_pos (i - ls.length) with h | h
        · exact h
        · rw [List.getElem?_eq_none (by simp; omega)] at hl
          cases hl
      rw [h0] at hl
      simp only [List.getElem?_cons_zero, Option.some.injEq] at hl
      subst hl
      refine ⟨a, c, ?_, keep hq⟩
      rw [List.getElem?_append_right (by omega), show i - vs.length = 0 by omega]
      rfl
/-- all are laid -/
theorem Part.full {B : Nat} {w : World} {g n : Nat} {ls : List (List Int)} (h : Part B w g n ls) (hn : ls.length = n) : ∃ vs, Rs B w (.slice (some ⟨g, 0, none⟩) n n) vs ls := by
  obtain ⟨vs, h1, h2, h3⟩ := h
  rw [hn, Nat.sub_self, List.replicate_zero, List.append_nil] at h2
  exact ⟨vs, by rw [hn]; exact h2, h3⟩

theorem leafs_fine {l : List Entry} (h : entsE l = 0) : Trees.leafsE (leafsOf l) = 0 := GrowsE.leafs_zero (by simp only [leafsOf, List.length_map]; exact (Entries.ents_ok h).1) (GrowRight.leafs_valid l)
/-- the tiles of entries -/
def tilesN (l : List Entry) : List Tile := if entsE l = 0 then tiles l.length else []
/-- what cut hands back -/
def Cut (l : List Entry) (w : World) (e : Ending) (w' : World) : Prop :=
  ∃ v u vs, e = .returned (.tuple #[v, u, errv (entsE l)]) ∧ w'.ownsRow w.heap.size 39 3 v (tilesN l).length (TileRows.cells (tilesN l)) ∧ Rs w.heap.size w' u vs (tilesL l) ∧ Below w.heap.size w w'

set_option maxHeartbeats 4000000 in
set_option maxRecDepth 100000 in
theorem cut_any (l : List Entry) (a : Option Addr) (n cap : Nat) (w : World) (hr : Wide 2 w a n cap (cells l)) (hz : ∀ e ∈ l, e.2.size ≤ maxLen) : Calls Tryz.prog 40 #[.slice a n cap] w (Cut l w) := by
  have hln := EntRows.len_of hr
  have cL := WalkEnt.leafs_any l a n cap w hr hz
  clear hr hz
  have aT := WalkTile.aggT
  have zT := WalkTile.sizeT
  go_enter Tryz.func40, Tryz.ntmps40
  go_wp2_with fail
  refine cL.mono ?_
  rintro e w1 ⟨v1, rfl, o1, b1⟩
  clear cL
  by_cases h0 : entsE l = 0
  rotate_left
  · have HV : Hid (tilesN l = [] ∧ tilesL l = [] ∧ errv (entsE l) = .iface 70 (.int .i64 (entsE l : Nat))) := ⟨if_neg h0, if_neg h0, errv_pos _ h0⟩
    rw [errv_pos _ h0]
    have HB : Hid (Below w.heap.size w w1) := b1
    clear h0 o1 b1
    generalize ((entsE l : Nat) : Int) = E at HV
    go_wp2_with fail
    go_ret3
    exact ⟨_, _, _, by rw [HV.out.2.2]; rfl, by rw [HV.out.1]; exact World.ownsRow_nil _ _ _ _, by rw [HV.out.2.1]; exact Rs.nil _ _, HB.out⟩
  have hn : n ≤ 200 := by rw [← hln]; exact (Entries.ents_ok h0).1
  have hll : (leafsOf l).length = n := by simp [leafsOf, hln]
  have HF : Hid (Trees.leafsE (leafsOf l) = 0) := leafs_fine h0
  have HE : Hid (errv (entsE l) = .nilIface ∧ tilesN l = tiles n ∧ tilesL l = want l ∧ want l = (tiles n).map (sumsOf (leafsOf l))) := by
    refine ⟨by rw [h0]; rfl, ?_, if_pos h0, ?_⟩
    · unfold tilesN; rw [if_pos h0, hln]
    · unfold Audits.want; rw [hln]
  rw [show leafsV l = leafsOf l from if_pos h0] at o1
  rw [h0, errv0]
  obtain ⟨a1, c1, rfl, r1, _⟩ := owns_row o1
  rw [hll] at r1 ⊢
  have HR1 : Hid (∀ w', Below w1.heap.size w1 w' → Row w' a1 n c1 (ints (leafsOf l))) := fun w' b => r1.below b
  have HB1 : Hid (Below w.heap.size w w1) := b1
  generalize leafsOf l = lf at HR1 HF HE hll
  clear o1 b1 r1 h0
  have cA := WalkTile.all_any (n : Int) w1
  rw [show Tiles.sizeE (n : Int) = 0 from if_neg (by omega), show Tiles.allL (n : Int) = tiles n from (if_neg (by omega)).trans (by rw [Int.toNat_natCast]), WalkCheck.errv0] at cA
  go_wp2_with fail
  refine cA.mono ?_
  rintro e w2 ⟨v2, rfl, o2, b2⟩
  clear cA
  obtain ⟨N, HN⟩ : ∃ N, Hid ((tiles n).length = N) := ⟨_, rfl⟩
  have hN : N ≤ 200 := by rw [← HN.out]; exact Tiles.upto_length n 4 (by omega) hn
  rw [HN.out] at o2
  have HO2 : Hid (w2.ownsRow w.heap.size 39 3 v2 N (TileRows.cells (tiles n))) := owns_base o2 HB1.out.size
  obtain ⟨a2, c2, rfl, r2⟩ := Wides.owns_wide o2
  have HR2 : Hid (∀ w', Below w2.heap.size w2 w' → Wide 3 w' a2 N c2 (TileRows.cells (tiles n))) := fun w' b => r2.below b
  have HB2 : Hid (Below w.heap.size w w2) := bt HB1.out b2
  replace HR1 : Hid (∀ w', Below w2.heap.size w2 w' → Row w' a1 n c1 (ints lf)) := fun w' b => HR1.out w' (bt b2 b)
  clear o2 r2 b2 HB1
  obtain ⟨i0, hi, hz0, hz1, hz2⟩ := info_parts SumRows.infoR
  obtain ⟨w3, hmk, o3, g3⟩ := run_make_full (P := Tryz.prog) w2 w.heap.size 25 28 i0 (.slice none 0 0) 1 Tryz.underlying25 hi hz0 hz1 .i64 .i64 N (by rw [hz2]; omega) (by unfold maxLen; omega) HB2.out.size
  have HP3 : Hid (Part w.heap.size w3 w2.heap.size N []) := by
    refine ⟨[], rfl, ?_, fun i l h => by simp at h⟩
    have e : ([] : List Value) ++ List.replicate (N - ([] : List (List Int)).length) (.slice none 0 0) = (madeCells (Value.slice none 0 0).cells (N * 1)).toList := by
      rw [Nat.mul_one]
      show _ = (madeCells #[.slice none 0 0] N).toList
      rw [toList_madeCells_one]
      simp
    rw [e]
    exact o3
  have HB3 : Hid (Below w2.heap.size w2 w3) := (Below.refl _ _).grown g3 (Nat.le_refl _) (fun k hk => by cases hk)
  have hg : w.heap.size ≤ w2.heap.size := HB2.out.size
  clear o3 g3 hz0 hz1 hz2 hi
  go_upto_region 8 with fail
  clear hmk
  obtain ⟨g, HG⟩ : ∃ g, Hid (w2.heap.size = g) := ⟨_, rfl⟩
  rw [HG.out] at HP3 hg ⊢
  go_wp2_with fail
  go_loopw [2, 3, 4, 30] (fun s2 s3 er iv wr => ∃ k : Nat, k ≤ N ∧ iv = .int .i64 (k : Int) ∧ s2 = .slice a2 N c2 ∧ s3 = .slice (some ⟨g, 0, none⟩) N N ∧ er = .nilIface ∧ Hid (Part w.heap.size wr g N ((want l).take k)) ∧ Hid (Below w2.heap.size w2 wr)) (fun _ _ _ iv _ => N - (intOf iv).toNat)
  case atStart => exact ⟨0, Nat.zero_le _, rfl, rfl, rfl, rfl, HP3, HB3⟩
  case round =>
    clear HP3 HB3
    obtain ⟨k, hk, rfl, rfl, rfl, rfl, HP, HB⟩ := hrel
    have hwl : (want l).length = N := by rw [HE.out.2.2.2, List.length_map, HN.out]
    by_cases hlt : k < N
    · have i1 : (k : Int) < (N : Int) := by omega
      have htl : k < (tiles n).length := by rw [HN.out]; exact hlt
      obtain ⟨g2, f2, rfl, _⟩ := (HR2.out wr HB.out).2.2 (by omega)
      obtain ⟨p0, p1, p2⟩ := TileRows.at_three (HR2.out wr HB.out) k htl
      have HM : Hid ((tiles n)[k] ∈ tiles n) := List.getElem_mem _
      have HT : Hid ((want l).take (k + 1) = (want l).take k ++ [sumsOf lf ((tiles n)[k])]) := by
        show _ = _
        rw [List.take_succ_eq_append_getElem (by omega)]
        congr 2
        simp only [HE.out.2.2.2, List.getElem_map]
      have HK : Hid (((want l).take k).length = k) := by show _ = _; rw [List.length_take]; omega
      generalize (tiles n)[k] = t at p0 p1 p2 HM HT
      obtain ⟨t0, t1, t2⟩ := t
      simp only at p0 p1 p2
      obtain ⟨e1, e2⟩ := Tiles.tile_in hll HF.out HM.out
      have HBa : Hid (Below w2.heap.size w2 (wr.alloc (.cells #[.int .i64 (t0 : Int), .int .i64 (t1 : Int), .int .i64 (t2 : Int)] 39))) := HB.out.alloc HB.out.size _
      have HPa : Hid (Part w.heap.size (wr.alloc (.cells #[.int .i64 (t0 : Int), .int .i64 (t1 : Int), .int .i64 (t2 : Int)] 39)) g N ((want l).take k)) := HP.out.kept ((Below.refl _ _).alloc (Nat.le_refl _) _)
      have cS := fun w' (b : Below w2.heap.size w2 w') => WalkTile.sums_any lf a1 n c1 (t0 : Int) (t1 : Int) (t2 : Int) w' (HR1.out w' b)
      rw [e1, e2, WalkCheck.errv0] at cS
      generalize sumsOf lf (t0, t1, t2) = q at cS HT
      clear e1 e2
      go_wp2_with fail
      refine (cS _ HBa.out).mono ?_
      rintro e w4 ⟨v4, rfl, o4, b4⟩
      obtain ⟨a4, c4, rfl, _, _⟩ := owns_row o4
      have HB4 : Hid (Below w2.heap.size w2 w4) := bt HBa.out b4
      have HP4 : Hid (Part w.heap.size w4 g N ((want l).take k)) := HPa.out.kept b4
      have HO4 : Hid (w4.ownsRow w.heap.size 3 1 (.slice a4 q.length c4) q.length (ints q)) := owns_base o4 (Nat.le_trans HB2.out.size HBa.out.size)
      obtain ⟨x1, x2⟩ := HP4.out.room (by rw [HK.out]; exact hlt)
      have HPn : Hid (Part w.heap.size (w4.setCell ⟨g, k, none⟩ (.slice a4 q.length c4)) g N ((want l).take (k + 1))) := by
        show Part _ _ _ _ _
        rw [HT.out]
        have h := HP4.out.next (by rw [HK.out]; exact hlt) HO4.out
        rw [HK.out] at h
        exact h
      have HBn : Hid (Below w2.heap.size w2 (w4.setCell ⟨g, k, none⟩ (.slice a4 q.length c4))) := HB4.out.setCell (by rw [HG.out]; exact Nat.le_refl _) _
      rw [HK.out] at x1 x2
      clear cS o4 b4 p0 p1 p2 HPa HBa HP HB
      generalize q.length = ql at HPn HBn
      go_wp2_with fail
      go_roundw
      case rel => exact ⟨k + 1, by omega, by go_num, rfl, rfl, rfl, HPn, HBn⟩
      case measure => simp [intOf]; omega
    · have i1 : ¬ (k : Int) < (N : Int) := by omega
      obtain rfl : k = N := by omega
      have hp := HP.out
      rw [List.take_of_length_le (by omega)] at hp
      obtain ⟨vs, hrs⟩ := hp.full hwl
      have HF : Hid (Cut l w (.returned (.tuple #[.slice a2 k c2, .slice (some ⟨g, 0, none⟩) k k, .nilIface])) wr) := by
        refine ⟨_, _, vs, by rw [HE.out.1], ?_, by rw [HE.out.2.2.1]; exact hrs, ?_⟩
        · rw [HE.out.2.1, HN.out]
          exact owns_kept HO2.out (Kept.of_below (fun _ => False) HB.out) fun _ _ q => q
        · exact bt HB2.out HB.out
      clear hp hrs
      go_wp2_with fail
      go_ret3
      exact HF.out

theorem tiles_any (l : List Entry) (a : Option Addr) (n cap : Nat) (w : World) (hr : Wide 2 w a n cap (cells l)) (hz : ∀ e ∈ l, e.2.size ≤ maxLen) : Calls Tryz.prog 13 #[.slice a n cap] w fun e w' => ∃ v vs, e = .returned (.tuple #[v, errv (entsE l)]) ∧ Rs w.heap.size w' v vs (tilesL l) ∧ Below w.heap.size w w' := by
  have cC := cut_any l a n cap w hr hz
  clear hr hz
  go_enter Tryz.func13, Tryz.ntmps13
  go_wp2_with fail
  refine cC.mono ?_
  rintro e w1 ⟨v, u, vs, rfl, _, hrs, b1⟩
  clear cC
  obtain ⟨E, HE⟩ : ∃ E, Hid (errv (entsE l) = E) := ⟨_, rfl⟩
  rw [HE.out]
  go_wp2_with fail
  go_ret2
  exact ⟨_, vs, by rw [HE.out]; rfl, hrs, b1⟩

end Go.Proofs.YtigbbhojgajkjaiGreatDoor.WalkAu
