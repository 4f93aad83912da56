/-
  Package audit: the tiles that the tree of entries has and the sums of each (cut), and these sums alone (Tiles).
-/
import Derived.Test.YticadkggaanbjaaGreatDoorAuPlain
import Derived.Test.YticadkggaanbjaaGreatDoorListRows
import Derived.Test.YticadkggaanbjaaGreatDoorErrs
import Derived.Test.YticadkggaanbjaaGreatDoorEntAll
import Derived.Test.YticadkggaanbjaaGreatDoorWalkTile
import Derived.Deep.CutBlock
import Derived.Laws.OwnMore
import Derived.Test.YticadkggaanbjaaGreatDoorTilePlain
import Derived.Test.YticadkggaanbjaaGreatDoorHeadRows
import Derived.Test.YticadkggaanbjaaGreatDoorWalkHdLib
import Derived.Test.YticadkggaanbjaaGreatDoorHdRun
import Derived.Test.YticadkggaanbjaaGreatDoorTreeRun
import Derived.BigQuiet
import Derived.Deep.QuietTactic
import Derived.Deep.DeepMust
import Derived.Lib.QuietBelow
namespace Go.Proofs.YticadkggaanbjaaGreatDoor.WalkAu
open Go.RowKit
open Lists (Row ints bt)
open Keeps (Kept owns_kept owns_row owns_base)
open Wides (Wide)
open Entries (Entry entsE leafsOf leafsV)
open EntRows (cells)
open Errs (errv errv0 errv_pos)
open SumRows (Rs)
open Tiles (Tile tiles sumsOf)
open Audits (tilesL want)

/-- the first lists are laid in the row of block g, room for the rest of n behind them -/
def Part (B : Nat) (w : World) (g n : Nat) (ls : List (List Int)) : Prop :=
  ∃ vs : List Value, vs.length = ls.length ∧ w.ownsRow B 45 1 (.slice (some ⟨g, 0, none⟩) n n) n (vs ++ List.replicate (n - ls.length) (.slice none 0 0)) ∧
    ∀ (i : Nat) (l : List Int), ls[i]? = some l → ∃ a c, vs[i]? = some (Value.slice a l.length c) ∧ w.ownsRow B 3 1 (Value.slice a l.length c) l.length (ints l)
theorem Part.kept {B : Nat} {w w' : World} {g n : Nat} {ls : List (List Int)} (h : Part B w g n ls) (b : Below w.heap.size w w') : Part B w' g n ls := by
  obtain ⟨vs, h1, h2, h3⟩ := h
  have k := Kept.of_below (fun _ => False) b
  refine ⟨vs, h1, owns_kept h2 k fun _ _ q => q, fun i l hl => ?_⟩
  obtain ⟨a, c, h4, h5⟩ := h3 i l hl
  exact ⟨a, c, h4, owns_kept h5 k fun _ _ q => q⟩
/-- room is there for one more -/
theorem Part.room {B : Nat} {w : World} {g n : Nat} {ls : List (List Int)} (h : Part B w g n ls) (hk : ls.length < n) : w.cell? ⟨g, ls.length, none⟩ = some (.slice none 0 0) ∧ w.frozen? ⟨g, ls.length, none⟩ = false := by
  obtain ⟨vs, h1, h2, _⟩ := h
  refine ⟨(h2.cellAt _ (by omega)).trans ?_, h2.frozenAt _⟩
  rw [List.getElem?_append_right (by omega), List.getElem?_replicate, if_pos (by omega)]
/-- one more is laid -/
theorem Part.next {B : Nat} {w : World} {g n : Nat} {ls : List (List Int)} {a : Option Addr} {c : Nat} {q : List Int} (h : Part B w g n ls) (hk : ls.length < n) (hq : w.ownsRow B 3 1 (.slice a q.length c) q.length (ints q)) :
    Part B (w.setCell ⟨g, ls.length, none⟩ (.slice a q.length c)) g n (ls ++ [q]) := by
  obtain ⟨vs, h1, h2, h3⟩ := h
  have k : Kept (fun k => k = g) w (w.setCell ⟨g, ls.length, none⟩ (.slice a q.length c)) := (Kept.refl (fun k => k = g) w).setCell (p := ⟨g, ls.length, none⟩) (.inl rfl) _
  have keep : ∀ {x : Value} {m : Nat} {xs : List Value}, w.ownsRow B 3 1 x m xs → (w.setCell ⟨g, ls.length, none⟩ (.slice a q.length c)).ownsRow B 3 1 x m xs := fun hx => owns_kept hx k fun i hi (e : i = g) => SumRows.own_apart hx h2 (by decide) i hi (by rw [e]; rfl)
  refine ⟨vs ++ [.slice a q.length c], by simp [h1], ?_, fun i l hl => ?_⟩
  · have e : vs ++ [Value.slice a q.length c] ++ List.replicate (n - (ls ++ [q]).length) (Value.slice none 0 0) = (vs ++ List.replicate (n - ls.length) (Value.slice none 0 0)).set ls.length (Value.slice a q.length c) := by
      rw [List.set_append_right _ _ (by omega), show ls.length - vs.length = 0 by omega, show n - ls.length = (n - (ls ++ [q]).length) + 1 by simp; omega, List.replicate_succ]
      simp
    rw [e]
    exact (h2.stored _ _).1
  · by_cases hi : i < ls.length
    · rw [List.getElem?_append_left hi] at hl
      obtain ⟨a', c', h4, h5⟩ := h3 i l hl
      exact ⟨a', c', by rw [List.getElem?_append_left (by omega)]; exact h4, keep h5⟩
    · rw [List.getElem?_append_right (by omega)] at hl
      have h0 : i - ls.length = 0 := by
        rcases Nat.eq_zero_or_pos (i - ls.length) with h | h
        · exact h
        · rw [List.getElem?_eq_none (by simp; omega)] at hl
          cases hl
      rw [h0] at hl
      simp only [List.getElem?_cons_zero, Option.some.injEq] at hl
      subst hl
      refine ⟨a, c, ?_, keep hq⟩
      rw [List.getElem?_append_right (by omega), show i - vs.length = 0 by omega]
      rfl
/-- all are laid -/
theorem Part.full {B : Nat} {w : World} {g n : Nat} {ls : List (List Int)} (h : Part B w g n ls) (hn : ls.length = n) : ∃ vs, Rs B w (.slice (some ⟨g, 0, none⟩) n n) vs ls := by
  obtain ⟨vs, h1, h2, h3⟩ := h
  rw [hn, Nat.sub_self, List.replicate_zero, List.append_nil] at h2
  exact ⟨vs, by rw [hn]; exact h2, h3⟩

theorem leafs_fine {l : List Entry} (h : entsE l = 0) : Trees.leafsE (leafsOf l) = 0 := GrowsE.leafs_zero (by simp only [leafsOf, List.length_map]; exact (Entries.ents_ok h).1) (GrowRight.leafs_valid l)
/-- the tiles of entries -/
def tilesN (l : List Entry) : List Tile := if entsE l = 0 then tiles l.length else []
/-- what cut hands back -/
def Cut (l : List Entry) (w : World) (e : Ending) (w' : World) : Prop :=
  ∃ v u vs, e = .returned (.tuple #[v, u, errv (entsE l)]) ∧ w'.ownsRow w.heap.size 67 3 v (tilesN l).length (TileRows.cells (tilesN l)) ∧ Rs w.heap.size w' u vs (tilesL l) ∧ Below w.heap.size w w'

end Go.Proofs.YticadkggaanbjaaGreatDoor.WalkAu

/-
  Package audit: whether a head is that of entries (Whole), and which tiles are not as they are told (Bad).
-/
namespace Go.Proofs.YticadkggaanbjaaGreatDoor.WalkAu
open Go.RowKit
open Go.Sort (grow)
open Lists (Row ints bt)
open Keeps (Kept owns_kept owns_row owns_base)
open Wides (Wide)
open Entries (Entry entsE leafsOf leafsV)
open EntRows (cells)
open Heads (Head verifyE)
open HeadVals (hv aggH sizeH At)
open Errs (errv errv0 errv_pos)
open IntRows (Rowss)
open SumRows (Rs)
open Mirrors (rootE)
open Tiles (Tile tiles sumsOf)
open Audits (wholeE tilesL want badE badT badF)
abbrev Asks (w : World) : Prop := WalkHdLib.Tabs w

set_option maxHeartbeats 4000000 in
theorem whole_any (l : List Entry) (a : Option Addr) (n cap : Nat) (h : Head) (key : Int) (w : World) (hr : Wide 2 w a n cap (cells l)) (hz : ∀ e ∈ l, e.2.size ≤ maxLen) (hA : Asks w) : Calls Tryz.prog 25 #[.slice a n cap, hv h, .int .i64 key] w fun e w' => e = .returned (errv (wholeE l h key)) ∧ Below w.heap.size w w' := by
  have hln := EntRows.len_of hr
  have HV : Hid (∀ w', Below w.heap.size w w' → Calls Tryz.prog 13 #[hv h, .int .i64 key] w' fun e w'' => e = .returned (errv (verifyE h key)) ∧ Below w'.heap.size w' w'') := fun w' b => WalkHdSign.verify_any h key w' (hA.below b)
  have HL : Hid (∀ w', Below w.heap.size w w' → Calls Tryz.prog 26 #[.slice a n cap] w' fun e w'' => ∃ v, e = .returned (.tuple #[v, errv (entsE l)]) ∧ w''.ownsRow w'.heap.size 3 1 v (leafsV l).length (ints (leafsV l)) ∧ Below w'.heap.size w' w'') := fun w' b => WalkEnt.leafs_any l a n cap w' (hr.below b) hz
  have H1 : Hid (verifyE h key ≠ 0 → wholeE l h key = verifyE h key) := fun q => if_pos q
  have H2 : Hid (verifyE h key = 0 → entsE l ≠ 0 → wholeE l h key = entsE l) := fun q q2 => by unfold Audits.wholeE; rw [if_neg (by omega), if_pos q2]
  have H3 : Hid (verifyE h key = 0 → entsE l = 0 → (n : Int) ≠ h.size → wholeE l h key = 3) := fun q q2 q3 => by unfold Audits.wholeE; rw [if_neg (by omega), if_neg (by omega), if_pos (by rw [hln]; exact q3)]
  have H4 : Hid (verifyE h key = 0 → entsE l = 0 → (n : Int) = h.size → rootE l ≠ h.root → wholeE l h key = 8) := fun q q2 q3 q4 => by unfold Audits.wholeE; rw [if_neg (by omega), if_neg (by omega), if_neg (by rw [hln]; exact fun z => z q3), if_pos q4]
  have H5 : Hid (verifyE h key = 0 → entsE l = 0 → (n : Int) = h.size → rootE l = h.root → wholeE l h key = 0) := fun q q2 q3 q4 => by unfold Audits.wholeE; rw [if_neg (by omega), if_neg (by omega), if_neg (by rw [hln]; exact fun z => z q3), if_neg (fun z => z q4)]
  obtain ⟨h0, h1, h2, h3⟩ := h
  have aH := aggH
  have zH := sizeH
  have bel : Below w.heap.size w (w.alloc (.cells #[.int .i64 h0, .int .i64 h1, .int .i64 h2, .int .i64 h3] 31)) := (Below.refl _ _).alloc (Nat.le_refl _) _
  have hX : At (w.alloc (.cells #[.int .i64 h0, .int .i64 h1, .int .i64 h2, .int .i64 h3] 31)) w.heap.size ⟨h0, h1, h2, h3⟩ := At.new w h0 h1 h2 h3
  generalize wholeE l ⟨h0, h1, h2, h3⟩ key = C at H1 H2 H3 H4 H5 ⊢
  generalize verifyE ⟨h0, h1, h2, h3⟩ key = E at HV H1 H2 H3 H4 H5
  unfold hv at *
  simp only at HV H3 H4 H5
  clear hA hr hz
  go_enter Tryz.func25, Tryz.ntmps25
  go_upto_region 1 with fail
  generalize w.alloc (.cells #[.int .i64 h0, .int .i64 h1, .int .i64 h2, .int .i64 h3] 31) = w0 at bel hX ⊢
  obtain ⟨p0, p1, p2, p3⟩ := hX
  simp only at p0 p1 p2 p3
  have HX : Hid (At w0 w.heap.size ⟨h0, h1, h2, h3⟩) := ⟨p0, p1, p2, p3⟩
  have HB0 : Hid (Below w.heap.size w w0) := bel
  clear bel
  go_wp2_with fail
  refine (HV.out _ HB0.out).mono ?_
  rintro e w1 ⟨rfl, b1⟩
  have HX1 : Hid (At w1 w.heap.size ⟨h0, h1, h2, h3⟩) := HX.out.below b1
  have HB1 : Hid (Below w.heap.size w w1) := bt HB0.out b1
  clear b1 p0 p1 p2 p3 HV HX HB0
  by_cases hE : E = 0
  rotate_left
  · have HN : Hid (errv C = .iface 99 (.int .i64 E)) := by show errv C = _; rw [H1.out hE]; exact errv_pos _ hE
    rw [errv_pos _ hE]
    clear hE H1 H2 H3 H4 H5 HL
    go_wp2_with fail
    go_ret
    exact ⟨by rw [HN.out]; rfl, HB1.out⟩
  rw [hE, errv0]
  have HE : Hid (E = 0) := hE
  clear hE H1
  go_wp2_with fail
  refine (HL.out _ HB1.out).mono ?_
  rintro e w2 ⟨v, rfl, o2, b2⟩
  have HX2 : Hid (At w2 w.heap.size ⟨h0, h1, h2, h3⟩) := HX1.out.below b2
  have HB2 : Hid (Below w.heap.size w w2) := bt HB1.out b2
  clear b2 HL HX1 HB1
  by_cases hl : entsE l = 0
  rotate_left
  · have HN : Hid (errv C = .iface 99 (.int .i64 (entsE l : Nat))) := by show errv C = _; rw [H2.out HE.out hl]; exact errv_pos _ hl
    rw [errv_pos _ hl]
    clear hl H2 H3 H4 H5 o2
    generalize ((entsE l : Nat) : Int) = F at HN
    go_wp2_with fail
    go_ret
    exact ⟨by rw [HN.out]; rfl, HB2.out⟩
  have hll : (leafsOf l).length = n := by simp [leafsOf, hln]
  have HF : Hid (Trees.leafsE (leafsOf l) = 0) := leafs_fine hl
  have HRt : Hid (Trees.rootV (leafsOf l) = rootE l) := if_pos (leafs_fine hl)
  rw [show leafsV l = leafsOf l from if_pos hl] at o2
  rw [hl, errv0]
  have HL0 : Hid (entsE l = 0) := hl
  obtain ⟨a2, c2, rfl, r2, _⟩ := owns_row o2
  rw [hll] at r2 ⊢
  have cR := WalkCheck.root_any (leafsOf l) a2 n c2 w2 r2
  rw [HF.out, HRt.out, WalkCheck.errv0] at cR
  obtain ⟨p0, p1, p2, p3⟩ := HX2.out
  simp only at p0 p1 p2 p3
  clear hl o2 r2 H2
  by_cases hs : (n : Int) = h0
  rotate_left
  · have HN : Hid (errv C = .iface 99 (.int .i64 3)) := by show errv C = _; rw [H3.out HE.out HL0.out hs]; rfl
    have i1 : ((n : Int) != h0) = true := by simpa using hs
    clear hs H3 H4 H5 cR
    go_wp2_with fail
    go_ret
    exact ⟨by rw [HN.out]; rfl, HB2.out⟩
  have i1 : ((n : Int) != h0) = false := by simpa using hs
  have HS : Hid ((n : Int) = h0) := hs
  clear hs H3
  generalize rootE l = R at H4 H5 cR
  go_wp2_with fail
  refine cR.mono ?_
  rintro e w3 ⟨rfl, b3⟩
  obtain ⟨q0, q1, q2, q3⟩ := HX2.out.below b3
  simp only at q0 q1 q2 q3
  have HB3 : Hid (Below w.heap.size w w3) := bt HB2.out b3
  clear cR b3 p0 p1 p2 p3
  by_cases ht : R = h1
  · have HN : Hid (errv C = .nilIface) := by show errv C = _; rw [H5.out HE.out HL0.out HS.out ht]; rfl
    have i2 : (R != h1) = false := by simpa using ht
    clear ht H4 H5
    go_wp2_with fail
    go_ret
    exact ⟨by rw [HN.out]; rfl, HB3.out⟩
  · have HN : Hid (errv C = .iface 99 (.int .i64 8)) := by show errv C = _; rw [H4.out HE.out HL0.out HS.out ht]; rfl
    have i2 : (R != h1) = true := by simpa using ht
    clear ht H4 H5
    go_wp2_with fail
    go_ret
    exact ⟨by rw [HN.out]; rfl, HB3.out⟩
end Go.Proofs.YticadkggaanbjaaGreatDoor.WalkAu

