/-
  The walk of AuditTells: whether a head is that of entries, the sums of all of their tiles, and which tiles are bad, are the document's.
-/
import Derived.Test.YtigbbhojgajkjaiGreatDoorWalkAu
import Derived.Test.YtigbbhojgajkjaiGreatDoorHeadRef
import Derived.Test.YtigbbhojgajkjaiGreatDoorEntRef
import Derived.Test.YtigbbhojgajkjaiGreatDoorWalkRootOf
import Derived.Test.YtigbbhojgajkjaiGreatDoorWalkTileRef
import Derived.Test.YtigbbhojgajkjaiGreatDoorWalkTilesSame
import Derived.Test.YtigbbhojgajkjaiGreatDoorWalkListsSame
import Derived.Test.YtigbbhojgajkjaiGreatDoorWalkTold
import Derived.BigQuiet
import Derived.Deep.QuietTactic
import Derived.Lib.QuietBelow
import Derived.Maps.AppendAt
import Derived.Deep.DeepMust
import Derived.Deep.CutBlock
namespace Go.Proofs.YtigbbhojgajkjaiGreatDoor.WalkAuditTells
open Go.RowKit
open Lists (Row ints bt)
open Keeps (Kept owns_kept owns_row)
open Wides (Wide)
open WalkTold (Laid)
open Entries (Entry entsE leafsOf)
open Heads (Head verifyE)
open HeadVals (hv aggH sizeH At)
open Mirrors (rootE)
open Errs (errv errv0 errv_pos)
open SumRows (Rs)
open IntRows (Rowss)
open Tiles (Tile tiles sumsOf)
open Audits (tilesL want badE badT badF wholeE)
open Go.Sort (grow)

theorem error_same (e : Nat) (w : World) (hg : Laid w) : Calls Tryz.prog 9 #[errv e, .int .i64 (e : Int)] w fun r w' => r = .returned (.bool true) ∧ Below w.heap.size w w' := by
  have h := WalkTold.error_is e (e : Int) w hg
  rw [beq_self_eq_true] at h
  exact h
theorem below_drewN {B : Nat} {a w : World} (h : Below B a w) (n : Nat) : Below B a (w.drewN n) := ⟨h.os, h.tape, h.output, h.size, h.block⟩
theorem cell_one_new (w : World) (a : Value) (t : TypeId) : ∀ j u, [a][j]? = some u → (w.alloc (.cells #[a] t)).cell? ((⟨w.heap.size, 0, none⟩ : Addr).add j) = some u := by
  intro j u hj
  match j, hj with
  | 0, hj => simp at hj; subst hj; simp [Addr.add]
  | j + 1, hj => simp at hj
theorem leafs_fine {l : List Entry} (hf : entsE l = 0) : Trees.leafsE (leafsOf l) = 0 := by
  unfold Trees.leafsE
  rw [if_neg (by have := (Entries.ents_ok hf).1; simp only [leafsOf, List.length_map]; omega)]
  exact if_pos (List.all_eq_true.2 (GrowRight.leafs_valid l))
/-- one of the tiles -/
theorem tile_at {l : List Entry} (hf : entsE l = 0) {k : Nat} {t : Tile} (ht : (tiles l.length)[k]? = some t) : t.1 < 4 ∧ t.2.1 ≤ 50 ∧ t.2.2 ≤ 4 ∧ Tiles.there l.length t = true ∧ (want l)[k]? = some (sumsOf (leafsOf l) t) := by
  obtain ⟨hk, rfl⟩ := List.getElem?_eq_some_iff.1 ht
  have hm := List.getElem_mem hk
  have hln : (leafsOf l).length = l.length := by simp [leafsOf]
  obtain ⟨q1, q2, q3, q4⟩ := Tiles.tiles_le (Entries.ents_ok hf).1 _ hm
  refine ⟨by omega, by omega, q4, ?_, by rw [Audits.want_at, ht]; rfl⟩
  generalize (tiles l.length)[k] = t at hm ⊢
  obtain ⟨x, y, z⟩ := t
  have h := (Tiles.tile_of (Tiles.tile_in hln (leafs_fine hf) hm).1).2.2
  rw [Tiles.asTile_of rfl rfl rfl, hln] at h
  exact h
theorem cell_three_new (w : World) (x y z : Value) (t : TypeId) : ∀ j u, [x, y, z][j]? = some u → (w.alloc (.cells #[x, y, z] t)).cell? ((⟨w.heap.size, 0, none⟩ : Addr).add j) = some u := by
  intro j u hj
  match j, hj with
  | 0, hj | 1, hj | 2, hj => all_goals (simp at hj; subst hj; simp [Addr.add])
  | j + 3, hj => simp at hj
/-- two lists of other lengths -/
theorem ints_far (l m : List Int) (a b : Option Addr) (n k cap cap' : Nat) (w : World) (hr : Row w a n cap (ints l)) (hs : Row w b k cap' (ints m)) (hne : n ≠ k) :
    Calls Tryz.prog 15 #[.slice a n cap, .slice b k cap'] w fun e w' => e = .returned (.bool (decide (l = m))) ∧ Below w.heap.size w w' := by
  have hln : l.length = n := by rw [← hr.1, Lists.ints_length]
  have hmn : m.length = k := by rw [← hs.1, Lists.ints_length]
  have HV : Hid (decide (l = m) = false) := decide_eq_false fun e => hne (by rw [← hln, ← hmn, e])
  have i0 : ((n : Int) != (k : Int)) = true := by simp; omega
  clear hr hs
  go_enter Tryz.func15, Tryz.ntmps15
  go_wp2_with fail
  go_ret
  exact ⟨by rw [HV.out]; rfl, Below.refl _ _⟩
theorem ints_one (l m : List Int) (a b : Option Addr) (n k cap cap' : Nat) (w : World) (hr : Row w a n cap (ints l)) (hs : Row w b k cap' (ints m)) (hk : k ≤ 1000) :
    Calls Tryz.prog 15 #[.slice a n cap, .slice b k cap'] w fun e w' => e = .returned (.bool (decide (l = m))) ∧ Below w.heap.size w w' := by
  by_cases h : n = k
  · exact WalkInts.ints_any l m a b n k cap cap' w hr hs (by omega)
  · exact ints_far l m a b n k cap cap' w hr hs h
theorem cells_snoc (m : List Tile) (t : Tile) : TileRows.cells (m ++ [t]) = TileRows.cells m ++ [.int .i64 (t.1 : Int), .int .i64 (t.2.1 : Int), .int .i64 (t.2.2 : Int)] := by
  rw [TileRows.cells_append]
  obtain ⟨x, y, z⟩ := t
  rfl
theorem rows_nil (w : World) (a : Option Addr) (c : Nat) : Rowss w a 0 c [] := ⟨rfl, Nat.zero_le _, fun h => absurd h (by decide)⟩

set_option maxHeartbeats 16000000 in
set_option maxRecDepth 100000 in
theorem walk (a : Option Addr) (n cap : Nat) (l : List Entry) (_ : l.length * 24 ≤ 140737488351232) (hw : ∀ x ∈ l, (Lit.int .i64 x.1).wf = true ∧ x.2.size ≤ maxLen)
    (h0 : Int) (_ : (Lit.int .i64 h0).wf = true) (h1 : Int) (_ : (Lit.int .i64 h1).wf = true) (h2 : Int) (_ : (Lit.int .i64 h2).wf = true) (h3 : Int) (_ : (Lit.int .i64 h3).wf = true)
    (key : Int) (_ : (Lit.int .i64 key).wf = true) (a2 : Option Addr) (n2 cap2 : Nat) (g : List (List Int)) (hg : g.length * 24 ≤ 140737488351232) (_ : ∀ x ∈ g, ∀ z ∈ x, (Lit.int .i64 z).wf = true)
    (w : World) (r : Wide 2 w a n cap (EntRows.cells l)) (r2 : Rowss w a2 n2 cap2 g) (hL : Laid w) (hK : WalkHdLib.Tabs w) :
    Calls Tryz.prog 3 #[.slice a n cap, .agg #[.int .i64 h0, .int .i64 h1, .int .i64 h2, .int .i64 h3], .int .i64 key, .slice a2 n2 cap2] w fun e w' => e = .returned (.bool true) ∧ Below w.heap.size w w' := by
  have hln := EntRows.len_of r
  have hgn := r2.1
  have HT : Hid (∀ w', Below w.heap.size w w' → WalkHdLib.Tabs w') := fun w' b => hK.below b
  have HLd : Hid (∀ w', Below w.heap.size w w' → Laid w') := fun w' b => hL.below b
  have HR : Hid (∀ w', Below w.heap.size w w' → Wide 2 w' a n cap (EntRows.cells l)) := fun w' b => r.below b
  have HR2 : Hid (∀ w', Below w.heap.size w w' → Rowss w' a2 n2 cap2 g) := fun w' b => r2.below b
  have HZ : Hid (∀ e ∈ l, e.2.size ≤ maxLen) := fun e he => (hw e he).2
  have hn2 : n2 ≤ 17592186043904 := by omega
  have aH := aggH
  have zH := sizeH
  have HErr : Hid (∀ (e : Nat) (w' : World), Below w.heap.size w w' → Calls Tryz.prog 9 #[errv e, .int .i64 (e : Int)] w' fun r w'' => r = .returned (.bool true) ∧ Below w'.heap.size w' w'') := fun e w' b => error_same e w' (HLd.out w' b)
  have cV := fun w' => WalkVerifyRef.verify_any ⟨h0, h1, h2, h3⟩ key w'
  have cE := fun w' (b : Below w.heap.size w w') => WalkEntriesRef.entries_any l a n cap w' (HR.out w' b) HZ.out
  have HWh : Hid (∀ w', Below w.heap.size w w' → Calls Tryz.prog 10 #[.slice a n cap, .agg #[.int .i64 h0, .int .i64 h1, .int .i64 h2, .int .i64 h3], .int .i64 key] w' fun e w'' => e = .returned (errv (wholeE l ⟨h0, h1, h2, h3⟩ key)) ∧ Below w'.heap.size w' w'') := fun w' b => WalkAu.whole_any l a n cap ⟨h0, h1, h2, h3⟩ key w' (HR.out w' b) HZ.out (HT.out w' b)
  have HTl : Hid (∀ w', Below w.heap.size w w' → Calls Tryz.prog 13 #[.slice a n cap] w' fun e w'' => ∃ v vs, e = .returned (.tuple #[v, errv (entsE l)]) ∧ Rs w'.heap.size w'' v vs (tilesL l) ∧ Below w'.heap.size w' w'') := fun w' b => WalkAu.tiles_any l a n cap w' (HR.out w' b) HZ.out
  have HBd : Hid (∀ w', Below w.heap.size w w' → Calls Tryz.prog 16 #[.slice a n cap, .slice a2 n2 cap2] w' fun e w'' => ∃ v, e = .returned (.tuple #[v, errv (badE l g)]) ∧ w''.ownsRow w'.heap.size 39 3 v (badT l g).length (TileRows.cells (badT l g)) ∧ Below w'.heap.size w' w'') := fun w' b => WalkAu.bad_any l a n cap g a2 n2 cap2 w' (HR.out w' b) HZ.out (HR2.out w' b) hn2
  have HW1 : Hid (verifyE ⟨h0, h1, h2, h3⟩ key ≠ 0 → wholeE l ⟨h0, h1, h2, h3⟩ key = verifyE ⟨h0, h1, h2, h3⟩ key) := fun h => if_pos h
  have HW2 : Hid (verifyE ⟨h0, h1, h2, h3⟩ key = 0 → entsE l ≠ 0 → wholeE l ⟨h0, h1, h2, h3⟩ key = entsE l) := fun h h' => (if_neg (by omega)).trans (if_pos h')
  have HW3 : Hid (verifyE ⟨h0, h1, h2, h3⟩ key = 0 → entsE l = 0 → (n : Int) ≠ h0 → wholeE l ⟨h0, h1, h2, h3⟩ key = 3) := fun h h' h'' => by
    unfold Audits.wholeE
    rw [if_neg (by omega), if_neg (by omega), if_pos (by rw [hln]; exact h'')]
  have HW4 : Hid (verifyE ⟨h0, h1, h2, h3⟩ key = 0 → entsE l = 0 → (n : Int) = h0 → rootE l ≠ h1 → wholeE l ⟨h0, h1, h2, h3⟩ key = 8) := fun h h' h'' h4 => by
    unfold Audits.wholeE
    rw [if_neg (by omega), if_neg (by omega), if_neg (by rw [hln, h'']; simp), if_pos h4]
  have HW5 : Hid (verifyE ⟨h0, h1, h2, h3⟩ key = 0 → entsE l = 0 → (n : Int) = h0 → rootE l = h1 → wholeE l ⟨h0, h1, h2, h3⟩ key = 0) := fun h h' h'' h4 => by
    unfold Audits.wholeE
    rw [if_neg (by omega), if_neg (by omega), if_neg (by rw [hln, h'']; simp), if_neg (by rw [h4]; simp)]
  generalize wholeE l ⟨h0, h1, h2, h3⟩ key = E at HWh HW1 HW2 HW3 HW4 HW5
  generalize verifyE ⟨h0, h1, h2, h3⟩ key = V at cV HW1 HW2 HW3 HW4 HW5
  unfold hv at cV
  simp only at cV
  have HCV : Hid (∀ w', Calls Tryz.prog 5 #[.agg #[.int .i64 h0, .int .i64 h1, .int .i64 h2, .int .i64 h3], .int .i64 key] w' fun e w'' => e = .returned (.int .i64 (V : Int)) ∧ Below w'.heap.size w' w'') := cV
  have HCE : Hid (∀ w', Below w.heap.size w w' → Calls Tryz.prog 6 #[.slice a n cap] w' fun e w'' => e = .returned (.int .i64 (entsE l : Nat)) ∧ Below w'.heap.size w' w'') := cE
  clear hL hK r r2 hw cV cE hg
  go_enter Tryz.func3, Tryz.ntmps3
  go_upto_region 1 with fail
  have HB0 : Hid (Below w.heap.size w (w.alloc (.cells #[.int .i64 h0, .int .i64 h1, .int .i64 h2, .int .i64 h3] 24))) := (Below.refl _ _).alloc (Nat.le_refl _) _
  have HA0 : Hid (At (w.alloc (.cells #[.int .i64 h0, .int .i64 h1, .int .i64 h2, .int .i64 h3] 24)) w.heap.size ⟨h0, h1, h2, h3⟩) := At.new w h0 h1 h2 h3
  generalize w.alloc (.cells #[.int .i64 h0, .int .i64 h1, .int .i64 h2, .int .i64 h3] 24) = w0 at HB0 HA0 ⊢
  generalize hgh : w.heap.size = gh at HA0 ⊢
  rw [← hgh] at *
  obtain ⟨p0, p1, p2, p3⟩ := HA0.out
  simp only at p0 p1 p2 p3
  go_wp2_with fail
  refine (HCV.out w0).mono ?_
  rintro e w1 ⟨rfl, b1⟩
  have HB1 : Hid (Below w.heap.size w w1) := bt HB0.out b1
  have HA1 : Hid (At w1 w.heap.size ⟨h0, h1, h2, h3⟩) := HA0.out.below b1
  clear b1 p0 p1 p2 p3
  go_wp2_with fail
  refine (HCE.out w1 HB1.out).mono ?_
  rintro e w2 ⟨rfl, b2⟩
  have HB2 : Hid (Below w.heap.size w w2) := bt HB1.out b2
  have HA2 : Hid (At w2 w.heap.size ⟨h0, h1, h2, h3⟩) := HA1.out.below b2
  clear b2 HCV HCE
  obtain ⟨F, HF⟩ : ∃ F, Hid (entsE l = F) := ⟨_, rfl⟩
  rw [HF.out] at HTl HW2 HW3 HW4 HW5 ⊢
  by_cases hf : F = 0
  rotate_left
  · have hne : entsE l ≠ 0 := by rw [HF.out]; exact hf
    rw [show tilesL l = [] from if_neg hne] at HTl
    have hbE : badE l g = F := (if_pos hne).trans HF.out
    rw [hbE, show badT l g = [] from if_neg (by rw [hbE]; exact hf)] at HBd
    have eF : ((F : Int) == 0) = false := by simp; omega
    have HEn : Hid (E ≠ 0) := by
      by_cases hV : V = 0
      · rw [show (E ≠ 0) = (F ≠ 0) by rw [HW2.out hV hf]]; exact hf
      · rw [show (E ≠ 0) = (V ≠ 0) by rw [HW1.out hV]]; exact hV
    have eE : ((E : Int) == 0) = false := by have := HEn.out; simp; omega
    go_upto_if 33 with fail
    go_cut [9] from 33 to 34 (fun v we => v = .int .i64 (E : Int) ∧ we = w2)
    case first => as_aux_lemma =>
      by_cases hV : V = 0
      · have eV : ((V : Int) == 0) = true := by simp; omega
        have HEF : Hid (E = F) := HW2.out hV hf
        go_wp2_with fail
        go_meet
        case rel => exact ⟨by rw [HEF.out], rfl⟩
      · have eV : ((V : Int) == 0) = false := by simp; omega
        have HEF : Hid (E = V) := HW1.out hV
        go_wp2_with fail
        go_meet
        case rel => exact ⟨by rw [HEF.out], rfl⟩
    obtain ⟨rfl, rfl⟩ := hcut
    obtain ⟨FV, HFV⟩ : ∃ FV, Hid (errv F = FV) := ⟨_, rfl⟩
    obtain ⟨EV, HEV⟩ : ∃ EV, Hid (errv E = EV) := ⟨_, rfl⟩
    have HT0 : Hid (∀ w', Below w.heap.size w w' → Calls Tryz.prog 13 #[.slice a n cap] w' fun e w'' => ∃ x y, e = .returned (.tuple #[.slice x 0 y, FV]) ∧ Below w'.heap.size w' w'') := fun w' b => by
      refine (HTl.out w' b).mono ?_
      rintro e w'' ⟨v, vs, rfl, hrs, b'⟩
      obtain ⟨x, y, rfl, _⟩ := hrs.rows
      exact ⟨x, y, by rw [HFV.out]; rfl, b'⟩
    have HD0 : Hid (∀ w', Below w.heap.size w w' → Calls Tryz.prog 16 #[.slice a n cap, .slice a2 n2 cap2] w' fun e w'' => ∃ x y, e = .returned (.tuple #[.slice x 0 y, FV]) ∧ Below w'.heap.size w' w'') := fun w' b => by
      refine (HBd.out w' b).mono ?_
      rintro e w'' ⟨v, rfl, o, b'⟩
      obtain ⟨x, y, rfl, _⟩ := Wides.owns_wide o
      exact ⟨x, y, by rw [HFV.out]; rfl, b'⟩
    have HEF : Hid (∀ w', Below w.heap.size w w' → Calls Tryz.prog 9 #[FV, .int .i64 (F : Int)] w' fun r w'' => r = .returned (.bool true) ∧ Below w'.heap.size w' w'') := fun w' b => by
      have h := HErr.out F w' b
      rw [HFV.out] at h
      exact h
    have HEE : Hid (∀ w', Below w.heap.size w w' → Calls Tryz.prog 9 #[EV, .int .i64 (E : Int)] w' fun r w'' => r = .returned (.bool true) ∧ Below w'.heap.size w' w'') := fun w' b => by
      have h := HErr.out E w' b
      rw [HEV.out] at h
      exact h
    rw [HEV.out] at HWh
    clear hne hbE HW1 HW2 HW3 HW4 HW5 hf HTl HBd
    go_wp2_with fail
    go_quiet (fail)
    have HB3 : Hid (Below w.heap.size w (wc.drewN nq)) := below_drewN HB2.out nq
    have HA3 : Hid (At (wc.drewN nq) w.heap.size ⟨h0, h1, h2, h3⟩) := by
      obtain ⟨z0, z1, z2, z3⟩ := HA2.out
      exact ⟨z0, z1, z2, z3⟩
    generalize wc.drewN nq = w3 at HB3 HA3 ⊢
    obtain ⟨p0, p1, p2, p3⟩ := HA3.out
    simp only at p0 p1 p2 p3
    go_wp2_with fail
    refine (HWh.out w3 HB3.out).mono ?_
    rintro e w4 ⟨rfl, b4⟩
    have HB4 : Hid (Below w.heap.size w w4) := bt HB3.out b4
    clear b4 p0 p1 p2 p3
    go_wp2_with fail
    refine (HEE.out w4 HB4.out).mono ?_
    rintro e w5 ⟨rfl, b5⟩
    have HB5 : Hid (Below w.heap.size w w5) := bt HB4.out b5
    clear b5
    go_upto_region 18 with fail
    go_loopw [13, 15] (fun v iv wi => v = .slice none 0 0 ∧ iv = .int .i64 0 ∧ wi = w5) (fun _ _ _ => 0)
    case atStart => exact ⟨rfl, rfl, rfl⟩
    case round =>
      obtain ⟨rfl, rfl, rfl⟩ := hrel
      go_wp2_with fail
      refine (HT0.out _ HB5.out).mono ?_
      rintro e w6 ⟨x6, y6, rfl, b6⟩
      have HB6 : Hid (Below w.heap.size w w6) := bt HB5.out b6
      clear b6
      go_wp2_with fail
      refine (HEF.out w6 HB6.out).mono ?_
      rintro e w7 ⟨rfl, b7⟩
      have HB7 : Hid (Below w.heap.size w w7) := bt HB6.out b7
      have cLs := WalkListsSame.lists_same [] x6 none 0 y6 0 w7 (rows_nil _ _ _) (rows_nil _ _ _) (by decide) (fun q hq => by cases hq)
      clear b7
      go_wp2_with fail
      refine cLs.mono ?_
      rintro e w8 ⟨rfl, b8⟩
      have HB8 : Hid (Below w.heap.size w w8) := bt HB7.out b8
      clear b8 cLs
      go_upto_region 29 with fail
      go_loopw [21, 22] (fun v iv wi => v = .slice none 0 0 ∧ iv = .int .i64 0 ∧ wi = w8) (fun _ _ _ => 0)
      case atStart => exact ⟨rfl, rfl, rfl⟩
      case round =>
        obtain ⟨rfl, rfl, rfl⟩ := hrel
        go_wp2_with fail
        refine (HD0.out _ HB8.out).mono ?_
        rintro e w9 ⟨x9, y9, rfl, b9⟩
        have HB9 : Hid (Below w.heap.size w w9) := bt HB8.out b9
        clear b9
        go_wp2_with fail
        refine (HEF.out w9 HB9.out).mono ?_
        rintro e w10 ⟨rfl, b10⟩
        have HB10 : Hid (Below w.heap.size w w10) := bt HB9.out b10
        have cTs := WalkTilesSame.tiles_same [] x9 none 0 y9 0 w10 (Wide.nil _ _ _ _) (Wide.nil _ _ _ _) (by decide)
        clear b10
        go_wp2_with fail
        refine cTs.mono ?_
        rintro e w11 ⟨rfl, b11⟩
        have HB11 : Hid (Below w.heap.size w w11) := bt HB10.out b11
        clear b11 cTs
        go_wp2_with fail
        go_ret
        exact ⟨rfl, HB11.out⟩
  · subst hf
    have hEn : entsE l = 0 := HF.out
    have HEn : Hid (entsE l = 0) := hEn
    have hn200 : n ≤ 200 := by have := (Entries.ents_ok hEn).1; omega
    rw [show tilesL l = want l from if_pos hEn, errv0] at HTl
    have HLf : Hid (∀ w', Below w.heap.size w w' → Calls Tryz.prog 7 #[.slice a n cap] w' fun e w'' => ∃ a' c', e = .returned (.slice a' n c') ∧ w''.ownsRow w'.heap.size 3 1 (.slice a' n c') n (ints (leafsOf l)) ∧ Below w'.heap.size w' w'') := fun w' b => by
      refine (WalkUnpackRef.leafs_any l a n cap w' (HR.out w' b) HEn.out).mono ?_
      rintro e w'' ⟨v', rfl, o', b'⟩
      rw [show (leafsOf l).length = n by simp [leafsOf, hln]] at o'
      obtain ⟨a', c', rfl, _⟩ := owns_row o'
      exact ⟨a', c', rfl, o', b'⟩
    have HRt : Hid (∀ B a' c' w', w'.ownsRow B 3 1 (.slice a' n c') n (ints (leafsOf l)) → Calls Tryz.prog 8 #[.slice a' n c'] w' fun e w'' => e = .returned (.int .i64 (rootE l)) ∧ Below w'.heap.size w' w'') := fun B a' c' w' o' => by
      refine WalkRootOf.root_of l _ w' B ?_ (by omega)
      rw [show (leafsOf l).length = n by simp [leafsOf, hln]]
      exact o'
    generalize rootE l = RL at HRt HW4 HW5
    go_upto_if 33 with fail
    go_cut [9] from 33 to 34 (fun v we => v = .int .i64 (V : Int) ∧ we = w2)
    case first => as_aux_lemma =>
      by_cases hV : V = 0
      · have eV : ((V : Int) == 0) = true := by simp; omega
        go_wp2_with fail
        go_meet
        case rel => exact ⟨by rw [hV]; rfl, rfl⟩
      · have eV : ((V : Int) == 0) = false := by simp; omega
        go_wp2_with fail
        go_meet
        case rel => exact ⟨rfl, rfl⟩
    obtain ⟨rfl, rfl⟩ := hcut
    go_wp2_with fail
    refine (HLf.out _ HB2.out).mono ?_
    rintro e w3 ⟨a3, c3, rfl, o3, b3⟩
    have HB3 : Hid (Below w.heap.size w w3) := bt HB2.out b3
    have HA3 : Hid (At w3 w.heap.size ⟨h0, h1, h2, h3⟩) := HA2.out.below b3
    have HO3 : Hid (∀ w', Below w3.heap.size w3 w' → w'.ownsRow wc.heap.size 3 1 (.slice a3 n c3) n (ints (leafsOf l))) := fun w' b => owns_kept o3 (Kept.of_below (fun _ => False) b) (fun _ _ h => h)
    clear o3 b3 HLf HA2 HA1 HA0 HB1 HB0
    go_upto_region 8 with fail
    go_cut [47] from 39 to 46 (fun v we => v = .bool (decide (V = 0 ∧ (n : Int) ≠ h0)) ∧ we = w3)
    case first => as_aux_lemma =>
      obtain ⟨p0, p1, p2, p3⟩ := HA3.out
      simp only at p0 p1 p2 p3
      by_cases hV : V = 0
      · have eV : ((V : Int) == 0) = true := by simp; omega
        by_cases hn0 : (n : Int) = h0
        · have e0 : ((n : Int) != h0) = false := by simpa using hn0
          have HD : Hid (decide (V = 0 ∧ (n : Int) ≠ h0) = false) := decide_eq_false fun q => q.2 hn0
          go_wp2_with fail
          go_meet
          case rel => exact ⟨by rw [HD.out], rfl⟩
        · have e0 : ((n : Int) != h0) = true := by simpa using hn0
          have HD : Hid (decide (V = 0 ∧ (n : Int) ≠ h0) = true) := decide_eq_true ⟨hV, hn0⟩
          go_wp2_with fail
          go_meet
          case rel => exact ⟨by rw [HD.out], rfl⟩
      · have eV : ((V : Int) == 0) = false := by simp; omega
        have HD : Hid (decide (V = 0 ∧ (n : Int) ≠ h0) = false) := decide_eq_false fun q => hV q.1
        go_wp2_with fail
        go_meet
        case rel => exact ⟨by rw [HD.out], rfl⟩
    obtain ⟨rfl, rfl⟩ := hcut
    go_upto_if 47 with fail
    go_cut [9] from 47 to 56 (fun v we => v = .int .i64 (E : Int) ∧ Hid (Below wc.heap.size wc we))
    case first => as_aux_lemma =>
      obtain ⟨p0, p1, p2, p3⟩ := HA3.out
      simp only at p0 p1 p2 p3
      by_cases hV : V = 0
      · have eV : ((V : Int) == 0) = true := by simp; omega
        by_cases hn0 : (n : Int) = h0
        · rw [show decide (V = 0 ∧ (n : Int) ≠ h0) = false from decide_eq_false fun q => q.2 hn0]
          have c1 : ∀ q os, Calls Tryz.prog 8 #[.slice a3 n c3] (grow (redrawn wc q) os) fun e w'' => e = .returned (.int .i64 RL) ∧ ∃ p : Regrown, w'' = grow (redrawn wc p.d) p.os := fun q os => Calls.regrown_of (HRt.out _ a3 c3 _ (HO3.out _ (below_regrown wc q os)))
          have f1 := cell_regrown p1
          by_cases hr : RL = h1
          · have e1 : (RL != h1) = false := by simpa using hr
            have HE : Hid (E = V) := (HW5.out hV (by first | exact rfl | trivial) hn0 hr).trans hV.symm
            clear hV hr hn0
            go_wp2_with fail
            refine wp_region_quiet_below (by kernel_rfl) (by kernel_rfl) ?_
            repeat (quiet_step (fail))
            quiet_step (exact c1 _ _)
            repeat (quiet_step (fail))
            refine wpQuiet_nil ?_
            intro _ hw'
            obtain ⟨⟨dq, osq⟩, hw''⟩ := hw'
            subst hw''
            go_wp2_with fail
            go_meet
            case rel => exact ⟨by rw [HE.out], below_regrown _ dq osq⟩
          · have e1 : (RL != h1) = true := by simpa using hr
            have HE : Hid (E = 8) := HW4.out hV (by first | exact rfl | trivial) hn0 hr
            clear hV hr hn0
            go_wp2_with fail
            refine wp_region_quiet_below (by kernel_rfl) (by kernel_rfl) ?_
            repeat (quiet_step (fail))
            quiet_step (exact c1 _ _)
            repeat (quiet_step (fail))
            refine wpQuiet_nil ?_
            intro _ hw'
            obtain ⟨⟨dq, osq⟩, hw''⟩ := hw'
            subst hw''
            go_wp2_with fail
            go_meet
            case rel => exact ⟨by rw [HE.out]; rfl, below_regrown _ dq osq⟩
        · rw [show decide (V = 0 ∧ (n : Int) ≠ h0) = true from decide_eq_true ⟨hV, hn0⟩]
          have HE : Hid (E = 3) := HW3.out hV (by first | exact rfl | trivial) hn0
          clear hV hn0
          go_wp2_with fail
          go_meet
          case rel => exact ⟨by rw [HE.out]; rfl, Below.refl _ _⟩
      · rw [show decide (V = 0 ∧ (n : Int) ≠ h0) = false from decide_eq_false fun q => hV q.1]
        have eV : ((V : Int) == 0) = false := by simp; omega
        have HE : Hid (E = V) := HW1.out hV
        go_wp2_with fail
        go_quiet (fail)
        go_wp2_with fail
        go_meet
        case rel => exact ⟨by rw [HE.out], below_drewN (Below.refl _ _) _⟩
    obtain ⟨rfl, HC4⟩ := hcut
    have HB4 : Hid (Below w.heap.size w wc) := bt HB3.out HC4.out
    have HA4 : Hid (At wc w.heap.size ⟨h0, h1, h2, h3⟩) := HA3.out.below HC4.out
    have HO4 : Hid (∃ B, ∀ w', Below wc.heap.size wc w' → w'.ownsRow B 3 1 (.slice a3 n c3) n (ints (leafsOf l))) := ⟨_, fun w' b => HO3.out w' (bt HC4.out b)⟩
    obtain ⟨EV, HEV⟩ : ∃ EV, Hid (errv E = EV) := ⟨_, rfl⟩
    have HEE : Hid (∀ w', Below w.heap.size w w' → Calls Tryz.prog 9 #[EV, .int .i64 (E : Int)] w' fun r w'' => r = .returned (.bool true) ∧ Below w'.heap.size w' w'') := fun w' b => by
      have h := HErr.out E w' b
      rw [HEV.out] at h
      exact h
    have HE0 : Hid (∀ w', Below w.heap.size w w' → Calls Tryz.prog 9 #[.nilIface, .int .i64 0] w' fun r w'' => r = .returned (.bool true) ∧ Below w'.heap.size w' w'') := fun w' b => HErr.out 0 w' b
    rw [HEV.out] at HWh
    clear HW1 HW2 HW3 HW4 HW5 HRt HO3 HC4 HA3 HB3
    obtain ⟨p0, p1, p2, p3⟩ := HA4.out
    simp only at p0 p1 p2 p3
    go_wp2_with fail
    refine (HWh.out wc HB4.out).mono ?_
    rintro e w5 ⟨rfl, b5⟩
    have HC5 : Hid (Below wc.heap.size wc w5) := b5
    clear b5 p0 p1 p2 p3
    go_wp2_with fail
    refine (HEE.out w5 (bt HB4.out HC5.out)).mono ?_
    rintro e w6 ⟨rfl, b6⟩
    have HC6 : Hid (Below wc.heap.size wc w6) := bt HC5.out b6
    clear b6 HC5 HWh HEE
    obtain ⟨M, HM⟩ : ∃ M, Hid ((tiles n).length = M) := ⟨_, rfl⟩
    have hM200 : M ≤ 200 := by rw [← HM.out]; exact Tiles.upto_length n 4 (by omega) hn200
    have HMw : Hid ((want l).length = M) := by show (want l).length = M; rw [Audits.want_length, hln]; exact HM.out
    have cTi := fun w' => WalkTileRef.tiles_any n w' hn200
    rw [HM.out] at cTi
    have HTi : Hid (∀ w', Calls Tryz.prog 11 #[.int .i64 (n : Int)] w' fun e w'' => ∃ a' c', e = .returned (.slice a' M c') ∧ Wide 3 w'' a' M c' (TileRows.cells (tiles n)) ∧ Below w'.heap.size w' w'') := fun w' => by
      refine (cTi w').mono ?_
      rintro e w'' ⟨v', rfl, o', b'⟩
      obtain ⟨a', c', rfl, r'⟩ := Wides.owns_wide o'
      exact ⟨a', c', rfl, r', b'⟩
    clear cTi
    go_wp2_with fail
    refine (HTi.out w6).mono ?_
    rintro e w7 ⟨a7, c7, rfl, r7, b7⟩
    have HC7 : Hid (Below wc.heap.size wc w7) := bt HC6.out b7
    have HT7 : Hid (∀ w', Below w7.heap.size w7 w' → Wide 3 w' a7 M c7 (TileRows.cells (tiles n))) := fun w' b => r7.below b
    have HL7 : Hid (∀ w', Below w7.heap.size w7 w' → Row w' a3 n c3 (ints (leafsOf l))) := fun w' b => by
      obtain ⟨B, h⟩ := HO4.out
      exact (Lists.Row.of_owns (h w' (bt HC7.out b))).2
    have HB7 : Hid (∀ w', Below w7.heap.size w7 w' → Below w.heap.size w w') := fun w' b => bt HB4.out (bt HC7.out b)
    have HVl : Hid (∀ x ∈ leafsOf l, Nums.valid x = true) := GrowRight.leafs_valid l
    clear r7 b7 HTi HC6 HO4
    go_upto_region 18 with fail
    go_loopw [13, 15] (fun v iv wr => ∃ (i : Nat) (vs : List Value), i ≤ M ∧ iv = .int .i64 (i : Int) ∧ Hid (Rs w7.heap.size wr v vs ((want l).take i)) ∧ Hid (Below w7.heap.size w7 wr)) (fun _ iv _ => M - (intOf iv).toNat)
    case atStart => exact ⟨0, [], Nat.zero_le _, rfl, (by rw [List.take_zero]; exact Rs.nil _ _), Below.refl _ _⟩
    case round =>
      obtain ⟨i, vs, hi, rfl, HRs, HBr⟩ := hrel
      by_cases hlt : i < M
      · have i1 : (i : Int) < (M : Int) := by omega
        have hil : i < (tiles n).length := by rw [HM.out]; exact hlt
        obtain ⟨g7, f7, rfl, _⟩ := (HT7.out wr HBr.out).2.2 (by omega)
        obtain ⟨p0, p1, p2⟩ := TileRows.at_three (HT7.out wr HBr.out) i hil
        have hta := tile_at (l := l) (k := i) HEn.out (t := (tiles n)[i]) (by rw [hln]; exact List.getElem?_eq_getElem hil)
        generalize (tiles n)[i] = t at p0 p1 p2 hta
        obtain ⟨t0, t1, t2⟩ := t
        simp only at p0 p1 p2 hta
        obtain ⟨k1, k2, k3, k4, k5⟩ := hta
        rw [hln] at k4
        have cS := WalkTileRef.sums_any (leafsOf l) a3 n c3 t0 t1 t2 wr hn200 (HL7.out wr HBr.out) HVl.out k1 k2 k3 k4
        have HNx : Hid ((want l).take (i + 1) = (want l).take i ++ [sumsOf (leafsOf l) (t0, t1, t2)]) := by
          obtain ⟨z1, z2⟩ := List.getElem?_eq_some_iff.1 k5
          show _ = _
          rw [List.take_succ_eq_append_getElem z1, z2]
        have HLn : Hid (((want l).take i).length = i) := by show _ = _; rw [List.length_take, HMw.out]; omega
        generalize sumsOf (leafsOf l) (t0, t1, t2) = q at cS HNx
        obtain ⟨L, HLe⟩ : ∃ L, Hid (q.length = L) := ⟨_, rfl⟩
        clear k1 k2 k3 k4 k5 hil
        go_wp2_with fail
        refine cS.mono ?_
        rintro e w8 ⟨v8, rfl, o8, b8⟩
        obtain ⟨a8, c8, rfl, _⟩ := owns_row o8
        have HB8 : Hid (Below wr.heap.size wr w8) := b8
        have HR8 : Hid (Rs w7.heap.size w8 u13 vs ((want l).take i)) := HRs.out.below b8
        have HO8 : Hid (w8.ownsRow w7.heap.size 3 1 (.slice a8 q.length c8) q.length (ints q)) := Keeps.owns_base o8 HBr.out.size
        have HW8 : Hid (Below w7.heap.size w7 w8) := bt HBr.out b8
        have HS8 : Hid (w7.heap.size ≤ w8.heap.size) := HW8.out.size
        clear o8 b8 cS p0 p1 p2
        obtain ⟨r0, hr0, hr1, hr2, hr3⟩ := info_parts SumRows.infoR
        have HOw : Hid (w8.ownsRow w7.heap.size 28 1 u13 i vs) := by
          have h := HR8.out.own
          rw [HLn.out] at h
          exact h
        have HFF : Hid (∀ v1 wn, wn.ownsRow w7.heap.size 28 1 v1 (i + 1) (vs ++ [.slice a8 q.length c8]) → (w8.alloc (.cells #[.slice a8 q.length c8] 28)).grownBy wn u13.ownBlock → Below w7.heap.size w7 wn ∧ Rs w7.heap.size wn v1 (vs ++ [.slice a8 q.length c8]) ((want l).take (i + 1))) := fun v1 wn o1 g1 => by
          have bA : Below w8.heap.size w8 (w8.alloc (.cells #[.slice a8 q.length c8] 28)) := (Below.refl _ _).alloc (Nat.le_refl _) _
          refine ⟨(HW8.out.alloc HS8.out _).grown g1 (by have := HS8.out; simp; omega) (fun k hk => (HOw.out.lt k hk).1), ?_⟩
          rw [HNx.out]
          exact (HR8.out.below bA).next (owns_kept HO8.out (Kept.of_below (fun _ => False) bA) (fun _ _ h => h)) (by rw [HLn.out]; exact o1) g1
        generalize q.length = ql at HFF HO8 ⊢
        go_wp2_with (at_builtin; go_must (refine wpList_append_own _ rfl (.tmp 80) (.tmp 82) 25 rfl w7.heap.size 28 r0 (.slice none 0 0) 1 24 Tryz.underlying25 hr0 hr1 hr2 hr3 rfl (by decide) _ _ _ rfl (HOw.out.alloc _) ⟨_, 0, none⟩ 1 1 [.slice a8 ql c8] rfl rfl (cell_one_new _ _ _) (fun u hu => by rw [List.mem_singleton.1 hu]; rfl) (by unfold maxLen; omega) (by omega) (by have := HS8.out; simp; omega) ?_); intro v1 wn o1 g1 z1; clear z1; have HG1 : Hid (Below w7.heap.size w7 wn ∧ Rs w7.heap.size wn v1 (vs ++ [.slice a8 ql c8]) ((want l).take (i + 1))) := HFF.out v1 wn o1 g1; clear o1 g1)
        go_roundw
        case rel => exact ⟨i + 1, vs ++ [Value.slice a8 ql c8], by omega, by go_num, HG1.out.2, HG1.out.1⟩
        case measure => simp [intOf]; omega
      · have i1 : ¬ (i : Int) < (M : Int) := by omega
        obtain rfl : i = M := by omega
        have htk : (want l).take i = want l := List.take_of_length_le (by rw [HMw.out]; exact Nat.le_refl _)
        have hrs := HRs.out
        rw [htk] at hrs
        obtain ⟨aw, cw, hvw, hrw⟩ := hrs.rows
        rw [HMw.out] at hvw hrw
        subst hvw
        have HW8 : Hid (∀ w', Below wr.heap.size wr w' → Rowss w' aw i cw (want l)) := fun w' b => hrw.below b
        have HT8 : Hid (∀ w', Below wr.heap.size wr w' → Wide 3 w' a7 i c7 (TileRows.cells (tiles n))) := fun w' b => HT7.out w' (bt HBr.out b)
        have HB8 : Hid (∀ w', Below wr.heap.size wr w' → Below w.heap.size w w') := fun w' b => HB7.out w' (bt HBr.out b)
        have HQ4 : Hid (∀ q ∈ want l, q.length ≤ 4) := fun q hq => by
          obtain ⟨k, hk, rfl⟩ := List.mem_iff_getElem.1 hq
          have hk2 : k < (tiles l.length).length := by rw [← Audits.want_length]; exact hk
          have h := tile_at (l := l) (k := k) HEn.out (List.getElem?_eq_getElem hk2)
          rw [List.getElem?_eq_getElem hk] at h
          rw [Option.some.inj h.2.2.2.2, Tiles.sumsOf_length]
          exact h.2.2.1
        have HTl2 : Hid (∀ w', Below w.heap.size w w' → Calls Tryz.prog 13 #[.slice a n cap] w' fun e w'' => ∃ x y, e = .returned (.tuple #[.slice x i y, .nilIface]) ∧ Rowss w'' x i y (want l) ∧ Below w'.heap.size w' w'') := fun w' b => by
          refine (HTl.out w' b).mono ?_
          rintro e w'' ⟨v, vs', rfl, hrs', b'⟩
          obtain ⟨x, y, rfl, hrow⟩ := hrs'.rows
          rw [HMw.out] at hrow ⊢
          exact ⟨x, y, rfl, hrow, b'⟩
        obtain ⟨G, HG⟩ : ∃ G, Hid (badE l g = G) := ⟨_, rfl⟩
        have HG3 : Hid (n2 ≠ i → G = 3) := fun h => by
          rw [← HG.out]
          unfold Audits.badE
          rw [if_neg (by rw [HEn.out]; decide), if_pos (by rw [hgn, hln, HM.out]; exact h)]
        have HG0 : Hid (n2 = i → G = 0) := fun h => by
          rw [← HG.out]
          unfold Audits.badE
          rw [if_neg (by rw [HEn.out]; decide), if_neg (by rw [hgn, hln, HM.out, h]; simp)]
        have HG1 : Hid (G ≠ 0 → badT l g = []) := fun h => if_neg (by rw [HG.out]; exact h)
        have HG2 : Hid (G = 0 → badT l g = badF (tiles n) (want l) g i) := fun h => by
          unfold Audits.badT
          rw [if_pos (by rw [HG.out]; exact h), hln, HM.out]
        rw [HG.out] at HBd
        clear hrs hrw htk HRs HTl HT7 HL7
        go_wp2_with fail
        refine (HTl2.out wr (HB8.out wr (Below.refl _ _))).mono ?_
        rintro e w8 ⟨x8, y8, rfl, r8, b8⟩
        have HC8 : Hid (Below wr.heap.size wr w8) := b8
        have HR8 : Hid (∀ w', Below w8.heap.size w8 w' → Rowss w' x8 i y8 (want l)) := fun w' b => r8.below b
        clear r8 b8 HTl2
        go_wp2_with fail
        refine (HE0.out w8 (HB8.out _ HC8.out)).mono ?_
        rintro e w9 ⟨rfl, b9⟩
        have HC9 : Hid (Below wr.heap.size wr w9) := bt HC8.out b9
        have cLs := WalkListsSame.lists_same (want l) x8 aw i y8 cw w9 (HR8.out w9 b9) (HW8.out w9 HC9.out) (by omega) (fun q hq => by have := HQ4.out q hq; omega)
        clear b9
        go_wp2_with fail
        refine cLs.mono ?_
        rintro e w10 ⟨rfl, b10⟩
        have HC10 : Hid (Below wr.heap.size wr w10) := bt HC9.out b10
        clear b10 cLs HR8 HC8 HC9
        go_upto_region 25 with fail
        go_cut [103] from 95 to 102 (fun v we => v = .bool (decide (n2 ≠ i)) ∧ we = w10)
        case first => as_aux_lemma =>
          by_cases h : n2 = i
          · have e1 : ((n2 : Int) != (i : Int)) = false := by simp; omega
            have HD : Hid (decide (n2 ≠ i) = false) := decide_eq_false fun q => q h
            clear h
            go_wp2_with fail
            go_meet
            case rel => exact ⟨by rw [HD.out], rfl⟩
          · have e1 : ((n2 : Int) != (i : Int)) = true := by simp; omega
            have HD : Hid (decide (n2 ≠ i) = true) := decide_eq_true h
            go_wp2_with fail
            go_meet
            case rel => exact ⟨by rw [HD.out], rfl⟩
        obtain ⟨rfl, rfl⟩ := hcut
        go_upto_if 103 with fail
        go_cut [10] from 103 to 103 (fun v we => v = .int .i64 (G : Int) ∧ we = wc)
        case first => as_aux_lemma =>
          by_cases h : n2 = i
          · have HD : Hid (G = 0) := HG0.out h
            rw [show decide (n2 ≠ i) = false from decide_eq_false fun q => q h]
            clear h
            go_wp2_with fail
            go_meet
            case rel => exact ⟨by rw [HD.out]; rfl, rfl⟩
          · have HD : Hid (G = 3) := HG3.out h
            rw [show decide (n2 ≠ i) = true from decide_eq_true h]
            go_wp2_with fail
            go_meet
            case rel => exact ⟨by rw [HD.out]; rfl, rfl⟩
        obtain ⟨rfl, rfl⟩ := hcut
        have HGl : Hid (G = 0 → n2 = i) := fun h => Decidable.byContradiction fun q => by have := HG3.out q; omega
        obtain ⟨wb, rfl⟩ : ∃ wb, wb = wc := ⟨_, rfl⟩
        have HWb : Hid (∀ w', Below wb.heap.size wb w' → Rowss w' aw i cw (want l)) := fun w' b => HW8.out w' (bt HC10.out b)
        have HTb : Hid (∀ w', Below wb.heap.size wb w' → Wide 3 w' a7 i c7 (TileRows.cells (tiles n))) := fun w' b => HT8.out w' (bt HC10.out b)
        have HBb : Hid (∀ w', Below wb.heap.size wb w' → Below w.heap.size w w') := fun w' b => HB8.out w' (bt HC10.out b)
        clear HW8 HT8 HB8 HC10 HB7
        go_upto_region 29 with fail
        go_loopw [21, 22] (fun v iv wk => ∃ k : Nat, k ≤ i ∧ iv = .int .i64 (k : Int) ∧ Hid (G = 0 ∨ k = 0) ∧ Hid (wk.ownsRow wb.heap.size 39 3 v (badF (tiles n) (want l) g k).length (TileRows.cells (badF (tiles n) (want l) g k))) ∧ Hid (Below wb.heap.size wb wk)) (fun _ iv _ => i - (intOf iv).toNat)
        case atStart => exact ⟨0, Nat.zero_le _, rfl, .inr rfl, World.ownsRow_nil _ _ _ _, Below.refl _ _⟩
        case round =>
          obtain ⟨k, hk, rfl, HGk, HOk, HBk⟩ := hrel
          go_upto_region 29 with fail
          go_cut [111] from 104 to 110 (fun v we => v = .bool (decide (k < i ∧ G = 0)) ∧ we = wr)
          case first => as_aux_lemma =>
            by_cases h1 : k < i
            · have j1 : (k : Int) < (i : Int) := by omega
              by_cases h2 : G = 0
              · have j2 : ((G : Int) == 0) = true := by simp; omega
                have HD : Hid (decide (k < i ∧ G = 0) = true) := decide_eq_true ⟨h1, h2⟩
                clear h2
                go_wp2_with fail
                go_meet
                case rel => exact ⟨by rw [HD.out], rfl⟩
              · have j2 : ((G : Int) == 0) = false := by simp; omega
                have HD : Hid (decide (k < i ∧ G = 0) = false) := decide_eq_false fun q => h2 q.2
                go_wp2_with fail
                go_meet
                case rel => exact ⟨by rw [HD.out], rfl⟩
            · have j1 : ¬ (k : Int) < (i : Int) := by omega
              have HD : Hid (decide (k < i ∧ G = 0) = false) := decide_eq_false fun q => h1 q.1
              go_wp2_with fail
              go_meet
              case rel => exact ⟨by rw [HD.out], rfl⟩
          obtain ⟨rfl, rfl⟩ := hcut
          by_cases hgo : k < i ∧ G = 0
          rotate_left
          · rw [show decide (k < i ∧ G = 0) = false from decide_eq_false hgo]
            have HBt : Hid (badT l g = badF (tiles n) (want l) g k) := by
              by_cases h2 : G = 0
              · obtain rfl : k = i := by omega
                exact HG2.out h2
              · have h3 : k = 0 := HGk.out.resolve_left h2
                show badT l g = _
                rw [HG1.out h2, h3]
                rfl
            obtain ⟨GV, HGV⟩ : ∃ GV, Hid (errv G = GV) := ⟨_, rfl⟩
            obtain ⟨BL, HBL⟩ : ∃ BL, Hid ((badT l g).length = BL) := ⟨_, rfl⟩
            have HBLb : Hid (BL ≤ 200) := by
              show BL ≤ 200
              rw [← HBL.out, HBt.out]
              have := Audits.badF_length (tiles n) (want l) g k
              omega
            have hBLb := HBLb.out
            have HEG : Hid (∀ w', Below w.heap.size w w' → Calls Tryz.prog 9 #[GV, .int .i64 (G : Int)] w' fun r w'' => r = .returned (.bool true) ∧ Below w'.heap.size w' w'') := fun w' b => by
              have h := HErr.out G w' b
              rw [HGV.out] at h
              exact h
            have HD2 : Hid (∀ w', Below w.heap.size w w' → Calls Tryz.prog 16 #[.slice a n cap, .slice a2 n2 cap2] w' fun e w'' => ∃ x y, e = .returned (.tuple #[.slice x BL y, GV]) ∧ Wide 3 w'' x BL y (TileRows.cells (badT l g)) ∧ Below w'.heap.size w' w'') := fun w' b => by
              refine (HBd.out w' b).mono ?_
              rintro e w'' ⟨v, rfl, o, b'⟩
              rw [HBL.out] at o
              obtain ⟨x, y, rfl, r⟩ := Wides.owns_wide o
              exact ⟨x, y, by rw [HGV.out], r, b'⟩
            obtain ⟨xb, yb, hvb, rb⟩ := Wides.owns_wide HOk.out
            rw [← HBt.out, HBL.out] at hvb rb
            have HRb : Hid (∀ w', Below wc.heap.size wc w' → Wide 3 w' xb BL yb (TileRows.cells (badT l g))) := fun w' b => rb.below b
            subst hvb
            have HB11 : Hid (Below w.heap.size w wc) := HBb.out _ HBk.out
            clear rb hgo HOk HBd HG0 HG1 HG2 HG3 HGk
            go_wp2_with fail
            refine (HD2.out _ HB11.out).mono ?_
            rintro e w11 ⟨x11, y11, rfl, r11, b11⟩
            have HR11 : Hid (∀ w', Below w11.heap.size w11 w' → Wide 3 w' x11 BL y11 (TileRows.cells (badT l g))) := fun w' b => r11.below b
            have HC11 : Hid (Below wc.heap.size wc w11) := b11
            clear r11 b11 HD2
            go_wp2_with fail
            refine (HEG.out w11 (bt HB11.out HC11.out)).mono ?_
            rintro e w12 ⟨rfl, b12⟩
            have HB12 : Hid (Below w.heap.size w w12) := bt (bt HB11.out HC11.out) b12
            have cTs := WalkTilesSame.tiles_same (badT l g) x11 xb BL y11 yb w12 (HR11.out w12 b12) (HRb.out w12 (bt HC11.out b12)) (by omega)
            clear b12
            go_wp2_with fail
            refine cTs.mono ?_
            rintro e w13 ⟨rfl, b13⟩
            have HB13 : Hid (Below w.heap.size w w13) := bt HB12.out b13
            clear b13 cTs
            go_wp2_with fail
            go_ret
            exact ⟨rfl, HB13.out⟩
          rw [show decide (k < i ∧ G = 0) = true from decide_eq_true hgo]
          have hki := hgo.1
          have hn2i : n2 = i := HGl.out hgo.2
          have HGz : Hid (G = 0) := hgo.2
          clear hgo
          have j1 : (k : Int) < (i : Int) := by omega
          have j2 : (k : Int) < (n2 : Int) := by omega
          have hkl : k < (tiles n).length := by rw [HM.out]; exact hki
          obtain ⟨gq, hgq⟩ : ∃ q, g[k]? = some q := ⟨g[k]'(by omega), List.getElem?_eq_getElem _⟩
          have hta := tile_at (l := l) (k := k) HEn.out (t := (tiles n)[k]) (by rw [hln]; exact List.getElem?_eq_getElem hkl)
          have hwq := hta.2.2.2.2
          have HTk : Hid ((tiles n)[k]? = some (tiles n)[k]) := List.getElem?_eq_getElem hkl
          obtain ⟨wq, hwe⟩ : ∃ q, sumsOf (leafsOf l) (tiles n)[k] = q := ⟨_, rfl⟩
          have HWl : Hid (wq.length ≤ 4) := by show wq.length ≤ 4; rw [← hwe, Tiles.sumsOf_length]; exact hta.2.2.1
          rw [hwe] at hwq
          clear hwe
          have HCp : Hid (Below w.heap.size w wc) := HBb.out _ HBk.out
          obtain ⟨g2, f2, rfl, hc2⟩ := (HR2.out wc HCp.out).2.2 (by omega)
          obtain ⟨gw, fw, rfl, hcw⟩ := (HWb.out wc HBk.out).2.2 (by omega)
          obtain ⟨a7', f7', rfl, _⟩ := (HTb.out wc HBk.out).2.2 (by omega)
          obtain ⟨ag, cg, q1, q2⟩ := hc2 k gq hgq
          obtain ⟨aq, cq, q3, q4⟩ := hcw k wq hwq
          have cI : ∀ d os, Calls Tryz.prog 15 #[.slice ag gq.length cg, .slice aq wq.length cq] (grow (redrawn wc d) os) fun e w'' => e = .returned (.bool (decide (gq = wq))) ∧ ∃ p : Regrown, w'' = grow (redrawn wc p.d) p.os := fun d os => Calls.regrown_of (ints_one gq wq ag aq gq.length wq.length cg cq (grow (redrawn wc d) os) (q2.below (below_regrown wc d os)) (q4.below (below_regrown wc d os)) (by have := HWl.out; omega))
          have q1' := cell_regrown q1
          have q3' := cell_regrown q3
          have HSe : Hid (gq = wq → badF (tiles n) (want l) g (k + 1) = badF (tiles n) (want l) g k) := fun h => Audits.badF_same (by rw [hgq, hwq, h])
          have HOt : Hid (gq ≠ wq → badF (tiles n) (want l) g (k + 1) = badF (tiles n) (want l) g k ++ [(tiles n)[k]]) := fun h => Audits.badF_other (by rw [hgq, hwq]; simpa using h) HTk.out
          have HTc : Hid (∀ w', Below wb.heap.size wb w' → w'.cell? ⟨a7', f7' + k * 3, none⟩ = some (.int .i64 ((tiles n)[k].1 : Int)) ∧ w'.cell? ⟨a7', f7' + k * 3 + 1, none⟩ = some (.int .i64 ((tiles n)[k].2.1 : Int)) ∧ w'.cell? ⟨a7', f7' + k * 3 + 2, none⟩ = some (.int .i64 ((tiles n)[k].2.2 : Int))) := fun w' b => TileRows.at_three (HTb.out w' b) k hkl
          generalize (tiles n)[k] = t at HOt HTc
          obtain ⟨t0, t1, t2⟩ := t
          simp only at HTc
          clear hc2 hcw q1 q2 q3 q4 hta hwq hgq HTk hkl hn2i
          generalize gq.length = gql at cI q1'
          generalize wq.length = wql at cI q3' HWl
          go_wp2_with fail
          refine wp_region_quiet_below (by kernel_rfl) (by kernel_rfl) ?_
          repeat (quiet_step (fail))
          quiet_step (exact cI _ _)
          repeat (quiet_step (fail))
          refine wpQuiet_nil ?_
          intro _ hw'
          obtain ⟨⟨dq, osq⟩, hw''⟩ := hw'
          subst hw''
          have HBq : Hid (Below wb.heap.size wb (grow (redrawn wc dq) osq)) := bt HBk.out (below_regrown _ dq osq)
          have HOq : Hid ((grow (redrawn wc dq) osq).ownsRow wb.heap.size 39 3 u21 (badF (tiles n) (want l) g k).length (TileRows.cells (badF (tiles n) (want l) g k))) := owns_kept HOk.out (Kept.of_below (fun _ => False) (below_regrown wc dq osq)) (fun _ _ h => h)
          generalize grow (redrawn wc dq) osq = w14 at HBq HOq ⊢
          clear cI q1' q3'
          by_cases hB : gq = wq
          · rw [show decide (gq = wq) = true from decide_eq_true hB]
            have HN : Hid (badF (tiles n) (want l) g (k + 1) = badF (tiles n) (want l) g k) := HSe.out hB
            clear hB
            go_wp2_with fail
            go_roundw
            case rel => exact ⟨k + 1, by omega, by go_num, .inl HGz.out, (by rw [HN.out]; exact HOq.out), HBq⟩
            case measure => simp [intOf]; omega
          · rw [show decide (gq = wq) = false from decide_eq_false hB]
            have HN : Hid (badF (tiles n) (want l) g (k + 1) = badF (tiles n) (want l) g k ++ [(t0, t1, t2)]) := HOt.out hB
            obtain ⟨m0, m1, m2⟩ := HTc.out w14 HBq.out
            obtain ⟨BK, HBK⟩ : ∃ BK, Hid ((badF (tiles n) (want l) g k).length = BK) := ⟨_, rfl⟩
            have HBKb : Hid (BK ≤ 200) := by
              show BK ≤ 200
              rw [← HBK.out]
              have := Audits.badF_length (tiles n) (want l) g k
              omega
            have hBKb := HBKb.out
            have HOp : Hid (w14.ownsRow wb.heap.size 39 3 u21 BK (TileRows.cells (badF (tiles n) (want l) g k))) := by
              have h := HOq.out
              rw [HBK.out] at h
              exact h
            have HS14 : Hid (wb.heap.size ≤ w14.heap.size) := HBq.out.size
            obtain ⟨r0, hr0, hr1, hr2, hr3⟩ := info_parts WalkTileRef.infoT
            have HFF : Hid (∀ v1 wn, wn.ownsRow wb.heap.size 39 3 v1 (BK + 1) (TileRows.cells (badF (tiles n) (want l) g k) ++ [.int .i64 (t0 : Int), .int .i64 (t1 : Int), .int .i64 (t2 : Int)]) → (w14.alloc (.cells #[.int .i64 (t0 : Int), .int .i64 (t1 : Int), .int .i64 (t2 : Int)] 39)).grownBy wn u21.ownBlock → Below wb.heap.size wb wn ∧ wn.ownsRow wb.heap.size 39 3 v1 (badF (tiles n) (want l) g (k + 1)).length (TileRows.cells (badF (tiles n) (want l) g (k + 1)))) := fun v1 wn o1 g1 => by
              refine ⟨(HBq.out.alloc HS14.out _).grown g1 (by have := HS14.out; simp; omega) (fun j hj => (HOp.out.lt j hj).1), ?_⟩
              rw [HN.out, cells_snoc, List.length_append, HBK.out]
              exact o1
            clear hB HSe HOt HTc
            go_wp2_with (at_builtin; go_must (refine wpList_append_own _ rfl (.tmp 125) (.tmp 130) 35 rfl wb.heap.size 39 r0 (.agg #[.int .i64 0, .int .i64 0, .int .i64 0]) 3 24 Tryz.underlying35 hr0 hr1 hr2 hr3 rfl (by decide) _ _ _ rfl (HOp.out.alloc _) ⟨_, 0, none⟩ 1 1 [.int .i64 (t0 : Int), .int .i64 (t1 : Int), .int .i64 (t2 : Int)] rfl rfl (cell_three_new _ _ _ _ _) (fun u hu => by simp at hu; rcases hu with rfl | rfl | rfl <;> rfl) (by unfold maxLen; omega) (by omega) (by have := HS14.out; simp; omega) ?_); intro v1 wn o1 g1 z1; clear z1; have HG5 : Hid (Below wb.heap.size wb wn ∧ wn.ownsRow wb.heap.size 39 3 v1 (badF (tiles n) (want l) g (k + 1)).length (TileRows.cells (badF (tiles n) (want l) g (k + 1)))) := HFF.out v1 wn o1 g1; clear o1 g1)
            go_roundw
            case rel => exact ⟨k + 1, by omega, by go_num, .inl HGz.out, HG5.out.2, HG5.out.1⟩
            case measure => simp [intOf]; omega

end Go.Proofs.YtigbbhojgajkjaiGreatDoor.WalkAuditTells
