/-
  The walk of TileRoot: from the tiles of a tree its root comes; and each sum is where it is said to be.
-/
import Derived.Test.YtibmgmadoaencacWalkTileGet
import Derived.Deep.CutBlock
namespace Go.Proofs.Ytibmgmadoaencac.WalkTileRoot
open Go.RowKit
open Lists (Row ints bt)
open Keeps (Kept owns_kept owns_row owns_base owns_open)
open WalkCheck (errv errv0 errv_pos)
open Wides (Wide owns_wide)
open TileRows (cells)
open Tiles (Tile tiles sumsOf tileE tileL)

theorem aggT (w : World) : (isAgg 28).run Try.prog w = .ok true w := by kernel_rfl
theorem sizeT (w : World) : (sizeOf 28).run Try.prog w = .ok 3 w := by kernel_rfl

/-- how often was it asked? -/
structure Inv (w : World) (a : Option Addr) (n cap : Nat) (q : Nat) (ps : List Tile) (w1 : World) : Prop where
  leafs : w1.cell? ⟨w.heap.size, 0, none⟩ = some (.slice a n cap)
  asked : w1.cell? ⟨q, 0, none⟩ = some (.int .i64 (ps.length : Int))
  free : w1.frozen? ⟨q, 0, none⟩ = false
  below : Below w.heap.size w w1

theorem enters : Enters Try.prog 7 := enters_of Try.func7 (by kernel_rfl) rfl

theorem Inv.later {w : World} {a : Option Addr} {n cap q : Nat} {ps : List Tile} {w1 w2 : World} {B : Nat} (h : Inv w a n cap q ps w1) (hq : w.heap.size < q) (hB : q < B) (b : Below B w1 w2) : Inv w a n cap q ps w2 := by
  refine ⟨?_, ?_, ?_, ?_⟩
  · exact (b.cell (p := ⟨w.heap.size, 0, none⟩) (by show w.heap.size < B; omega)).trans h.leafs
  · exact (b.cell (p := ⟨q, 0, none⟩) hB).trans h.asked
  · exact (b.frozen (p := ⟨q, 0, none⟩) hB).trans h.free
  · exact h.below.trans (b.mono (by omega))

set_option maxHeartbeats 1000000 in
set_option maxRecDepth 100000 in
theorem told (w : World) (l : List Int) (a : Option Addr) (n cap q B : Nat) (hr : Row w a n cap (ints l)) (h0 : Trees.leafsE l = 0) (hn : n ≤ 200) (hq : w.heap.size < q) (hB : q < B) :
    ∀ ps (x y z : Nat) w1, B ≤ w1.heap.size → (ps ++ [(x, y, z)]) <+: tiles n → Inv w a n cap q ps w1 →
      Calls Try.prog 7 (#[.agg #[.int .i64 (x : Int), .int .i64 (y : Int), .int .i64 (z : Int)]] ++ #[.pointer (some ⟨q, 0, none⟩), .pointer (some ⟨w.heap.size, 0, none⟩)]) w1 fun e w2 =>
        ∃ v, e = .returned (.tuple #[v, .nilIface]) ∧ w2.ownsRow w1.heap.size 3 1 v (sumsOf l (x, y, z)).length (ints (sumsOf l (x, y, z))) ∧ Inv w a n cap q (ps ++ [(x, y, z)]) w2 ∧ Kept (fun k => k < B) w1 w2 := by
  intro ps x y z w1 hs hp hI
  have hln : l.length = n := by rw [← hr.1, Lists.ints_length]
  have hl2 := hp.length_le
  have hlT := Tiles.upto_length n 4 (by omega) hn
  change (tiles n).length ≤ 200 at hlT
  rw [List.length_append] at hl2
  have pl : ps.length ≤ 200 := by omega
  obtain ⟨e1, e2⟩ := Tiles.tile_in (a := x) (b := y) (c := z) hln h0 (hp.subset (by simp))
  have cS := fun w2 (b : Below w.heap.size w w2) => WalkTile.sums_any l a n cap x y z w2 (hr.below b)
  rw [e1, e2, errv0] at cS
  have c0 := hI.leafs
  have c1 := hI.asked
  have f1 := hI.free
  have HI : Hid (Inv w a n cap q ps w1) := hI
  have a28 := aggT
  have z28 := sizeT
  have q1 : q ≠ w1.heap.size := by omega
  show Calls Try.prog 7 #[.agg #[.int .i64 (x : Int), .int .i64 (y : Int), .int .i64 (z : Int)], .pointer (some ⟨q, 0, none⟩), .pointer (some ⟨w.heap.size, 0, none⟩)] w1 _
  clear hp hl2 hlT e1 e2 hr h0 hI
  go_enter Try.func7, Try.ntmps7
  go_upto_region 1 with fail
  have b1 : Below w1.heap.size w1 (w1.alloc (.cells #[.int .i64 (x : Int), .int .i64 (y : Int), .int .i64 (z : Int)] 28)) := (Below.refl _ _).alloc (Nat.le_refl _) _
  have n0 : (w1.alloc (.cells #[.int .i64 (x : Int), .int .i64 (y : Int), .int .i64 (z : Int)] 28)).cell? ⟨w1.heap.size, 0, none⟩ = some (.int .i64 (x : Int)) := by simp
  have n1 : (w1.alloc (.cells #[.int .i64 (x : Int), .int .i64 (y : Int), .int .i64 (z : Int)] 28)).cell? ⟨w1.heap.size, 1, none⟩ = some (.int .i64 (y : Int)) := by simp
  have n2 : (w1.alloc (.cells #[.int .i64 (x : Int), .int .i64 (y : Int), .int .i64 (z : Int)] 28)).cell? ⟨w1.heap.size, 2, none⟩ = some (.int .i64 (z : Int)) := by simp
  have sz : w1.heap.size + 1 ≤ (w1.alloc (.cells #[.int .i64 (x : Int), .int .i64 (y : Int), .int .i64 (z : Int)] 28)).heap.size := by simp
  generalize w1.alloc (.cells #[.int .i64 (x : Int), .int .i64 (y : Int), .int .i64 (z : Int)] 28) = w2 at b1 n0 n1 n2 sz ⊢
  replace c0 := Lists.cell_below b1 c0
  replace c1 := Lists.cell_below b1 c1
  replace f1 := (b1.frozen (p := ⟨q, 0, none⟩) (by show q < _; omega)).trans f1
  go_upto_region 2 with fail
  have ne0 : (⟨q, 0, none⟩ : Addr) ≠ ⟨w.heap.size, 0, none⟩ := by intro h; simp at h <;> omega
  have neB : ∀ j, (⟨q, 0, none⟩ : Addr) ≠ ⟨w1.heap.size, j, none⟩ := by intro j h; simp at h <;> omega
  have k0 := (World.cell?_setCell_other w2 ⟨q, 0, none⟩ ⟨w.heap.size, 0, none⟩ (.int .i64 ((ps.length : Int) + 1)) ne0).trans c0
  have k1 := World.cell?_setCell_same w2 ⟨q, 0, none⟩ (.int .i64 ((ps.length : Int) + 1)) c1
  have kf : (w2.setCell ⟨q, 0, none⟩ (.int .i64 ((ps.length : Int) + 1))).frozen? ⟨q, 0, none⟩ = false := (World.frozen?_setCell _ _ _ _).trans f1
  replace n0 := (World.cell?_setCell_other w2 ⟨q, 0, none⟩ ⟨w1.heap.size, 0, none⟩ (.int .i64 ((ps.length : Int) + 1)) (neB 0)).trans n0
  replace n1 := (World.cell?_setCell_other w2 ⟨q, 0, none⟩ ⟨w1.heap.size, 1, none⟩ (.int .i64 ((ps.length : Int) + 1)) (neB 1)).trans n1
  replace n2 := (World.cell?_setCell_other w2 ⟨q, 0, none⟩ ⟨w1.heap.size, 2, none⟩ (.int .i64 ((ps.length : Int) + 1)) (neB 2)).trans n2
  have bb : Below w.heap.size w (w2.setCell ⟨q, 0, none⟩ (.int .i64 ((ps.length : Int) + 1))) := (bt HI.out.below b1).setCell (by show w.heap.size ≤ q; omega) _
  have kk : Kept (fun k => k < B) w1 (w2.setCell ⟨q, 0, none⟩ (.int .i64 ((ps.length : Int) + 1))) := ((Kept.of_below _ b1).setCell (p := ⟨q, 0, none⟩) (Or.inl hB) _)
  have s3 : w1.heap.size ≤ (w2.setCell ⟨q, 0, none⟩ (.int .i64 ((ps.length : Int) + 1))).heap.size := kk.size
  generalize w2.setCell ⟨q, 0, none⟩ (.int .i64 ((ps.length : Int) + 1)) = w3 at k0 k1 kf n0 n1 n2 bb kk s3 ⊢
  have cT := cS w3 bb
  have HB : Hid (Below w.heap.size w w3) := bb
  have HK : Hid (Kept (fun k => k < B) w1 w3) := kk
  clear cS c0 c1 f1 b1 bb kk HI
  go_wp2_with fail
  refine cT.mono ?_
  rintro e w4 ⟨v, rfl, o4, b4⟩
  go_wp2_with fail
  go_ret2
  refine ⟨v, rfl, owns_base o4 s3, ⟨Lists.cell_below b4 k0, ?_, ?_, bt HB.out b4⟩, HK.out.then b4⟩
  · rw [Lists.cell_below b4 k1, List.length_append]
    rfl
  · exact (b4.frozen (p := ⟨q, 0, none⟩) (by show q < _; omega)).trans kf

theorem row_five (w : World) : Row (w.alloc (.cells #[.int .i64 5, .int .i64 6, .int .i64 7, .int .i64 8, .int .i64 9] 3)) (some ⟨w.heap.size, 0, none⟩) 5 5 (ints [5, 6, 7, 8, 9]) := by
  refine ⟨rfl, Nat.le_refl _, fun _ => ⟨w.heap.size, 0, rfl, fun j u hj => ?_⟩⟩
  match j, hj with
  | 0, hj => simp [ints] at hj; subst hj; simp
  | 1, hj => simp [ints] at hj; subst hj; simp
  | 2, hj => simp [ints] at hj; subst hj; simp
  | 3, hj => simp [ints] at hj; subst hj; simp
  | 4, hj => simp [ints] at hj; subst hj; simp
theorem fact_ok : tileE [5, 6, 7, 8, 9] 0 1 1 = 0 := by decide +kernel
theorem fact_is : tileL [5, 6, 7, 8, 9] 0 1 1 = [9] := by
  unfold tileL
  rw [if_pos fact_ok]
  show [Tiles.sumAt [5, 6, 7, 8, 9] 0 4] = [9]
  rw [Tiles.sumAt, Climbs.rootAt, Trees.root_one _ (by decide)]
  rfl

theorem at_part {l : List Int} {fr tt : Nat} (h0 : Trees.leafsE l = 0) (h1 : fr ≤ tt) (h2 : tt ≤ l.length) : Trees.atE l fr tt = 0 ∧ Trees.atV l fr tt = Climbs.rootAt l (fr, tt) := by
  have e : Trees.atE l fr tt = 0 := by
    unfold Trees.atE
    rw [if_pos h0, show Trees.atBad l.length fr tt = false from decide_eq_false (by omega)]
    rfl
  refine ⟨e, ?_⟩
  unfold Trees.atV Climbs.rootAt
  rw [if_pos e, Int.toNat_natCast, Int.toNat_natCast]

/-- the sum at its place of its tile is that of its part -/
theorem sum_at {l : List Int} {n A j : Nat} (hln : l.length = n) (h : tileE l (A : Int) ((j : Int) / 4) ((j : Int) % 4 + 1) = 0) :
    tileL l (A : Int) ((j : Int) / 4) ((j : Int) % 4 + 1) = sumsOf l (A, j / 4, j % 4 + 1) ∧ j * 4 ^ A + 4 ^ A ≤ n ∧ (sumsOf l (A, j / 4, j % 4 + 1)).length = j % 4 + 1 ∧ (sumsOf l (A, j / 4, j % 4 + 1))[j % 4]? = some (Climbs.rootAt l (j * 4 ^ A, j * 4 ^ A + 4 ^ A)) := by
  have e : Tiles.asTile (A : Int) ((j : Int) / 4) ((j : Int) % 4 + 1) = (A, j / 4, j % 4 + 1) := Tiles.asTile_of rfl (by omega) (by omega)
  obtain ⟨_, _, ht⟩ := Tiles.tile_of h
  rw [e, hln] at ht
  have hin := Tiles.there_in ht (k := j % 4) (by omega)
  rw [show 4 * (j / 4) + j % 4 = j by omega] at hin
  refine ⟨?_, hin, ?_, ?_⟩
  · unfold tileL
    rw [if_pos h, e]
  · rw [Tiles.sumsOf_length]
  · have hl : j % 4 < (sumsOf l (A, j / 4, j % 4 + 1)).length := by rw [Tiles.sumsOf_length]; simp only; omega
    rw [List.getElem?_eq_getElem hl]
    simp only [sumsOf, List.getElem_map, List.getElem_range, Tiles.sumAt]
    rw [show 4 * (j / 4) + j % 4 = j by omega]

set_option maxHeartbeats 16000000 in
set_option maxRecDepth 100000 in
theorem walk (a : Option Addr) (n cap : Nat) (l : List Int) (_hz : l.length * 8 ≤ 140737488351232) (_ : ∀ x ∈ l, (Lit.int .i64 x).wf = true)
    (lev : Int) (_ : (Lit.int .i64 lev).wf = true) (i : Int) (_ : (Lit.int .i64 i).wf = true) (w : World) (hr : Row w a n cap (ints l)) :
    Calls Try.prog 3 #[.slice a n cap, .int .i64 lev, .int .i64 i] w fun e w' => e = .returned (.bool true) ∧ Below w.heap.size w w' := by
  have hln : l.length = n := by rw [← hr.1, Lists.ints_length]
  have HR : Hid (Row w a n cap (ints l)) := hr
  have b0 : Below w.heap.size w (w.alloc (.cells #[.slice a n cap] 22)) := (Below.refl _ _).alloc (Nat.le_refl _) _
  have k0 : (w.alloc (.cells #[.slice a n cap] 22)).cell? ⟨w.heap.size, 0, none⟩ = some (.slice a n cap) := by simp
  have sz0 : w.heap.size < (w.alloc (.cells #[.slice a n cap] 22)).heap.size := by simp
  clear hr _hz
  go_enter Try.func3, Try.ntmps3
  go_upto_region 1 with fail
  generalize w.alloc (.cells #[.slice a n cap] 22) = w0 at b0 k0 sz0 ⊢
  have c0 := WalkTile.sums_any [5, 6, 7, 8, 9] _ 5 5 0 1 1 _ (row_five w0)
  rw [fact_ok, fact_is, errv0] at c0
  have b1 : Below w0.heap.size w0 (w0.alloc (.cells #[.int .i64 5, .int .i64 6, .int .i64 7, .int .i64 8, .int .i64 9] 3)) := (Below.refl _ _).alloc (Nat.le_refl _) _
  go_wp2_with fail
  refine c0.mono ?_
  rintro e w1 ⟨v1, rfl, o1, b1'⟩
  obtain ⟨g1, cp1, rfl, z1, z2, z3, z4, z5, hc1, z6⟩ := owns_open o1 (by decide)
  have k1 : w1.cell? ⟨g1, 0, none⟩ = some (.int .i64 9) := hc1 0 _ rfl
  have bb := bt b1 b1'
  replace k0 := Lists.cell_below bb k0
  replace sz0 : w.heap.size < w1.heap.size := Nat.lt_of_lt_of_le sz0 bb.size
  replace b0 := bt b0 bb
  have hlen : ([9] : List Int).length = 1 := rfl
  rw [hlen]
  clear c0 o1 b1 b1' hc1 hlen z1 z2 z3 z4 z5 z6 bb
  go_wp2_with fail
  refine (WalkCheck.check_any l a n cap _ (HR.out.below b0)).mono ?_
  rintro e w2 ⟨rfl, rfl⟩
  by_cases hE : Trees.leafsE l = 0
  · rw [hE, errv0]
    obtain ⟨hn, hv⟩ : n ≤ 200 ∧ ∀ x ∈ l, Nums.valid x = true := by
      have h := hE
      unfold Trees.leafsE at h
      rw [hln] at h
      split at h
      · cases h
      · split at h
        · exact ⟨by omega, Trees.allOk_mem (by assumption)⟩
        · cases h
    have HIn : Inv w a n cap w2.heap.size [] (w2.alloc (.cells #[.int .i64 0] 3)) := by
      have bA : Below w2.heap.size w2 (w2.alloc (.cells #[.int .i64 0] 3)) := (Below.refl _ _).alloc (Nat.le_refl _) _
      exact ⟨Lists.cell_below bA k0, by simp, by simp, bt b0 bA⟩
    have szA : w2.heap.size < (w2.alloc (.cells #[.int .i64 0] 3)).heap.size := by simp
    have HRo : Hid (Trees.rootV l = Trees.root l) := if_pos hE
    have HE : Hid (Trees.leafsE l = 0) := hE
    have HSz : Hid (Tiles.sizeE (n : Int) = 0 ∧ Tiles.allL (n : Int) = tiles n) := ⟨if_neg (by omega), if_neg (by omega)⟩
    have hlT := Tiles.upto_length n 4 (by omega) hn
    change (tiles n).length ≤ 200 at hlT
    clear hE hv
    go_wp2_with fail
    generalize w2.alloc (.cells #[.int .i64 0] 3) = w3 at HIn szA ⊢
    refine (WalkTileGet.root_any 7 _ enters l n w3 hln HE.out (Inv w a n cap w2.heap.size) (fun ps wa wb h _ b => h.later sz0 szA b) (told w l a n cap w2.heap.size w3.heap.size HR.out HE.out hn sz0 szA) HIn).mono ?_
    rintro e w4 ⟨rfl, J, sz4⟩
    have k4 := J.leafs
    have q4 := J.asked
    have b4 := J.below
    have q5 : w2.heap.size < w4.heap.size := Nat.lt_of_lt_of_le szA sz4
    clear J HIn k0 k1 b0
    go_wp2_with fail
    refine (WalkCheck.root_any l a n cap _ (HR.out.below b4)).mono ?_
    rintro e w5 ⟨rfl, b5⟩
    rw [HRo.out, HE.out, errv0]
    replace k4 := Lists.cell_below b5 k4
    replace q4 := Lists.cell_below b5 q4
    replace b4 := bt b4 b5
    clear b5
    go_wp2_with fail
    refine (WalkTile.all_any (n : Int) _).mono ?_
    rintro e w6 ⟨v6, rfl, o6, b6⟩
    rw [HSz.out.1, errv0]
    rw [HSz.out.2] at o6
    obtain ⟨a6, c6, rfl, _⟩ := owns_wide o6
    replace k4 := Lists.cell_below b6 k4
    replace q4 := Lists.cell_below b6 q4
    replace b4 := bt b4 b6
    clear b6 o6
    have t1 : (Trees.root l != Trees.root l) = false := by simp
    have t2 : (((tiles n).length : Int) != ((tiles n).length : Int)) = false := by simp
    generalize Trees.root l = RT at t1
    generalize (tiles n).length = LT at t2 q4 hlT
    go_wp2_with fail
    refine (WalkTile.where_any lev i _).mono ?_
    rintro e w7 ⟨rfl, b7⟩
    replace k4 := Lists.cell_below b7 k4
    replace b4 := bt b4 b7
    clear b7 q4 t1 t2 hlT HRo HSz
    have a28 := aggT
    have z28 := sizeT
    cases hw : Tiles.whereBad lev i
    · have hh := of_decide_eq_false hw
      rw [show Tiles.whereE lev i = 0 by unfold Tiles.whereE; rw [if_neg (by rw [hw]; decide)], show Tiles.whereT lev i = (lev, i / 4, i % 4 + 1) by unfold Tiles.whereT; rw [if_neg (by rw [hw]; decide)], show Tiles.whereK lev i = i % 4 by unfold Tiles.whereK; rw [if_neg (by rw [hw]; decide)], errv0]
      obtain ⟨A, rfl⟩ := Int.eq_ofNat_of_zero_le (show 0 ≤ lev by omega)
      obtain ⟨j, rfl⟩ := Int.eq_ofNat_of_zero_le (show 0 ≤ i by omega)
      have hA : A < 4 := by omega
      have hj : j ≤ 199 := by omega
      clear hw hh
      have bA : Below w7.heap.size w7 (w7.alloc (.cells #[.int .i64 (A : Int), .int .i64 ((j : Int) / 4), .int .i64 ((j : Int) % 4 + 1)] 28)) := (Below.refl _ _).alloc (Nat.le_refl _) _
      have n0 : (w7.alloc (.cells #[.int .i64 (A : Int), .int .i64 ((j : Int) / 4), .int .i64 ((j : Int) % 4 + 1)] 28)).cell? ⟨w7.heap.size, 0, none⟩ = some (.int .i64 (A : Int)) := by simp
      have n1 : (w7.alloc (.cells #[.int .i64 (A : Int), .int .i64 ((j : Int) / 4), .int .i64 ((j : Int) % 4 + 1)] 28)).cell? ⟨w7.heap.size, 1, none⟩ = some (.int .i64 ((j : Int) / 4)) := by simp
      have n2 : (w7.alloc (.cells #[.int .i64 (A : Int), .int .i64 ((j : Int) / 4), .int .i64 ((j : Int) % 4 + 1)] 28)).cell? ⟨w7.heap.size, 2, none⟩ = some (.int .i64 ((j : Int) % 4 + 1)) := by simp
      go_upto_region 15 with fail
      generalize w7.alloc (.cells #[.int .i64 (A : Int), .int .i64 ((j : Int) / 4), .int .i64 ((j : Int) % 4 + 1)] 28) = w8 at bA n0 n1 n2 ⊢
      replace k4 := Lists.cell_below bA k4
      replace b4 := bt b4 bA
      clear bA
      have cS := WalkTile.sums_any l a n cap (A : Int) ((j : Int) / 4) ((j : Int) % 4 + 1) w8 (HR.out.below b4)
      go_wp2_with fail
      refine cS.mono ?_
      rintro e w9 ⟨v9, rfl, o9, b9⟩
      replace k4 := Lists.cell_below b9 k4
      replace b4 := bt b4 b9
      clear cS b9 n0 n1 n2
      by_cases hT : tileE l (A : Int) ((j : Int) / 4) ((j : Int) % 4 + 1) = 0
      · rw [hT, errv0]
        obtain ⟨s1, s2, s3, s4⟩ := sum_at hln hT
        rw [s1] at o9
        have hp := Tiles.pow_four A hA
        obtain ⟨D, hD⟩ : ∃ D, 4 ^ A = D := ⟨_, rfl⟩
        rw [hD] at s2 s4 hp
        obtain ⟨g9, c9, rfl, z1, z2, z3, z4, z5, hc9, z6⟩ := owns_open o9 (by omega)
        have k9 := hc9 (j % 4) (.int .i64 (Climbs.rootAt l (j * D, j * D + D))) (by rw [ints, List.getElem?_map, s4]; rfl)
        have HD : Hid (D = 4 ^ A) := hD.symm
        rw [s3]
        clear hT s1 s3 s4 o9 z1 z2 z3 z4 z5 z6 hc9 hD
        have HB : Hid (Below w.heap.size w w9) := b4
        clear b4
        go_wp2_with fail
        go_loop [19, 20] (fun m c => ∃ k d : Nat, k ≤ A ∧ c = .int .i64 (k : Int) ∧ m = .int .i64 (d : Int) ∧ Hid (d = 4 ^ k) ∧ d ≤ 64) (fun _ c => A - (intOf c).toNat)
        case atStart => exact ⟨0, 1, Nat.zero_le _, rfl, rfl, rfl, by omega⟩
        case round =>
          obtain ⟨k, d, hk, rfl, rfl, HK, hd⟩ := hrel
          by_cases hlt : k < A
          · have i1 : (k : Int) < (A : Int) := by omega
            have hd2 : d ≤ 16 := by
              rw [HK.out]
              have : k ≤ 2 := by omega
              exact Nat.le_trans (Nat.pow_le_pow_right (by omega) this) (by decide)
            go_wp2_with fail
            go_round
            case rel => exact ⟨k + 1, d * 4, by omega, by go_num, by go_num, by show _ = _; rw [HK.out, Nat.pow_succ], by omega⟩
            case measure => simp [intOf]; omega
          · have i1 : ¬ (k : Int) < (A : Int) := by omega
            obtain rfl : k = A := by omega
            obtain rfl : d = D := HK.out.trans HD.out.symm
            have HQ : Hid (wrap64 ((j : Int) * (d : Int)) = ((j * d : Nat) : Int)) := by
              show _ = _
              have e : ((j * d : Nat) : Int) = (j : Int) * (d : Int) := by push_cast; rfl
              rw [← e]
              simp only [wrap64]
              omega
            obtain ⟨e1, e2⟩ := at_part (l := l) (fr := j * d) (tt := j * d + d) HE.out (by omega) (by omega)
            have cA := WalkCheck.at_any l a n cap ((j * d : Nat) : Int) ((j * d + d : Nat) : Int) w9 (HR.out.below HB.out)
            rw [e1, e2, errv0] at cA
            have HS2 : Hid (j * d + d ≤ n) := s2
            clear HK HD e1 e2 hp s2
            generalize Climbs.rootAt l (j * d, j * d + d) = X at k9 cA
            have HQ2 : Hid (wrap64 (((j * d : Nat) : Int) + (d : Int)) = ((j * d + d : Nat) : Int)) := by
              show _ = _
              have := HS2.out
              simp only [wrap64]
              omega
            go_upto_region 23 with fail
            go_wp2_with fail
            rw [HQ.out, HQ2.out]
            refine cA.mono ?_
            rintro e w10 ⟨rfl, b10⟩
            have m9 := Lists.cell_below b10 k9
            have HBE : Hid (Below w.heap.size w w10) := bt HB.out b10
            clear cA b10 k9 HB HQ HQ2 HS2
            have t1 : ((j % 4 : Nat) : Int) = (j : Int) % 4 := by omega
            have t2 : (j : Int) % 4 < ((j % 4 + 1 : Nat) : Int) := by omega
            have t3 : (((j % 4 + 1 : Nat) : Int) == (j : Int) % 4 + 1) = true := by rw [beq_iff_eq]; omega
            have t4 : (X == X) = true := by simp
            go_wp2_with fail
            go_ret
            exact ⟨rfl, HBE.out⟩
      · rw [errv_pos _ hT]
        clear hT o9
        go_wp2_with fail
        go_ret
        exact ⟨rfl, b4⟩
    · rw [show Tiles.whereE lev i = 1 by unfold Tiles.whereE; rw [if_pos hw], errv_pos 1 (by decide)]
      clear hw
      have HB : Hid (Below w.heap.size w w7) := b4
      go_wp2_with fail
      go_ret
      exact ⟨rfl, HB.out.alloc HB.out.size _⟩
  · rw [errv_pos _ hE]
    clear hE
    go_wp2_with fail
    go_ret
    exact ⟨rfl, b0⟩

end Go.Proofs.Ytibmgmadoaencac.WalkTileRoot
