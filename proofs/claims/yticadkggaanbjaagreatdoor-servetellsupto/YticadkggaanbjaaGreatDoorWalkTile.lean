/-
  What the program's tile.Sums and Where return, for every argument.
-/
import Derived.Test.YticadkggaanbjaaGreatDoorTilePlain
import Derived.Test.YticadkggaanbjaaGreatDoorWalkTileAll
import Derived.Test.YticadkggaanbjaaGreatDoorTreeRun
import Derived.Deep.DeepMust
import Derived.Deep.CutBlock
import Derived.Deep.OwnRows
import Derived.Deep.MidRow
import Derived.Lib.QuietBelow
import Derived.Laws.ResultCell
namespace Go.Proofs.YticadkggaanbjaaGreatDoor.WalkTile
open Go.RowKit
open Go.Sort (grow)
open Lists (Row ints bt)
open Keeps (Kept owns_kept owns_row owns_base)
open Wides (Wide)
open Tiles (Tile row upto tiles)
open TileRows (cells cells_append)
open WalkCheck (errv errv0 errv_pos)

theorem wrap_small (m : Nat) (h : m ≤ 200) : wrap64 (m : Int) = (m : Int) := by
  simp only [wrap64]
  omega

theorem all_any (n : Int) (w : World) :
    Calls Tryz.prog 91 #[.int .i64 n] w fun e w' => ∃ v, e = .returned (.tuple #[v, errv (Tiles.sizeE n)]) ∧ w'.ownsRow w.heap.size 67 3 v (Tiles.allL n).length (cells (Tiles.allL n)) ∧ Below w.heap.size w w' := WalkTileAll.all_any n w

theorem aggT (w : World) : (isAgg 67).run Tryz.prog w = .ok true w := by kernel_rfl
theorem sizeT (w : World) : (sizeOf 67).run Tryz.prog w = .ok 3 w := by kernel_rfl
def lvl (L : Int) : Bool := decide (0 ≤ L ∧ L ≤ 3)
theorem isLevel_any (L : Int) (w : World) :
    Calls Tryz.prog 95 #[.int .i64 L] w fun e w' => e = .returned (.bool (lvl L)) ∧ w' = w := by
  by_cases h0 : 0 ≤ L
  · by_cases h1 : L ≤ 3
    · rw [show lvl L = true from decide_eq_true ⟨h0, h1⟩]
      go_enter Tryz.func95, Tryz.ntmps95
      go_wp2_with fail
      go_ret
      exact ⟨rfl, rfl⟩
    · rw [show lvl L = false from decide_eq_false fun h => h1 h.2]
      go_enter Tryz.func95, Tryz.ntmps95
      go_wp2_with fail
      go_ret
      exact ⟨rfl, rfl⟩
  · rw [show lvl L = false from decide_eq_false fun h => h0 h.1]
    go_enter Tryz.func95, Tryz.ntmps95
    go_wp2_with fail
    go_ret
    exact ⟨rfl, rfl⟩

theorem leafsOfOne_any (L D : Nat) (w : World) (h : L ≤ 3) (hD : D = 4 ^ L) :
    Calls Tryz.prog 96 #[.int .i64 (L : Int)] w fun e w' => e = .returned (.int .i64 (D : Int)) ∧ w' = w := by
  have HD : Hid (D = 4 ^ L) := hD
  clear hD
  go_enter Tryz.func96, Tryz.ntmps96
  go_wp2_with fail
  go_loop [3, 5] (fun n i => ∃ k d : Nat, k ≤ L ∧ i = .int .i64 (k : Int) ∧ n = .int .i64 (d : Int) ∧ Hid (d = 4 ^ k) ∧ d ≤ 64) (fun _ i => L - (intOf i).toNat)
  case atStart => exact ⟨0, 1, Nat.zero_le _, rfl, rfl, rfl, by omega⟩
  case round =>
    obtain ⟨k, d, hk, rfl, rfl, HE, hd⟩ := hrel
    by_cases hlt : k < L
    · have i1 : (k : Int) < (L : Int) := by omega
      have hd2 : d ≤ 16 := by
        rw [HE.out]
        have : k ≤ 2 := by omega
        exact Nat.le_trans (Nat.pow_le_pow_right (by omega) this) (by decide)
      go_wp2_with fail
      go_round
      case rel => exact ⟨k + 1, d * 4, by omega, by go_num, by go_num, by show _ = _; rw [HE.out, Nat.pow_succ], by omega⟩
      case measure => simp [intOf]; omega
    · have i1 : ¬ (k : Int) < (L : Int) := by omega
      obtain rfl : k = L := by omega
      go_wp2_with fail
      go_ret
      exact ⟨by rw [show D = d from HD.out.trans HE.out.symm]; rfl, rfl⟩

def reach (s B C : Nat) : Bool := decide (4 * B + C ≤ s)
theorem reaches_any (s A B C : Nat) (w : World) (hs : s ≤ 200) (h1 : 1 ≤ C) (h4 : C ≤ 4) :
    Calls Tryz.prog 97 #[.int .i64 (s : Int), .agg #[.int .i64 (A : Int), .int .i64 (B : Int), .int .i64 (C : Int)]] w fun e w' => e = .returned (.bool (reach s B C)) ∧ Below w.heap.size w w' := by
  have q : (reach s B C) = decide ((B : Int) * 4 + (C : Int) ≤ (s : Int)) := by
    unfold reach
    by_cases h : 4 * B + C ≤ s
    · rw [decide_eq_true h, decide_eq_true (by omega)]
    · rw [decide_eq_false h, decide_eq_false (by omega)]
  have HQ : Hid (reach s B C = decide ((B : Int) * 4 + (C : Int) ≤ (s : Int))) := q
  by_cases hB : B ≤ s / 4
  · clear q
    go_enter Tryz.func97, Tryz.ntmps97
    go_wp2_with fail
    go_ret
    exact ⟨by rw [HQ.out]; rfl, (Below.refl _ _).alloc (Nat.le_refl _) _⟩
  · rw [show reach s B C = false from decide_eq_false (by omega)]
    clear q HQ
    go_enter Tryz.func97, Tryz.ntmps97
    go_wp2_with fail
    go_ret
    exact ⟨rfl, (Below.refl _ _).alloc (Nat.le_refl _) _⟩

theorem info3 : (Tryz.prog.info? 3).map (fun i => (i.zero, i.size, i.bytes)) = some (some (.int .i64 0), 1, 8) := by kernel_rfl
/-- the row of sums, the first j of them laid -/
def laid (xs : List Int) (j i : Nat) : Value := if i < j then .int .i64 (xs.getD i 0) else .int .i64 0
theorem owns_of_row {w : World} {B g n : Nat} {e : TypeId} {f : Nat → Value} {xs : List Value} (h : w.rowIs g e n f) (hB : B ≤ g) (hm : n ≤ maxLen) (hl : xs.length = n) (hx : ∀ i, i < n → xs[i]? = some (f i)) : w.ownsRow B e 1 (.slice (some ⟨g, 0, none⟩) n n) n xs := by
  obtain ⟨c, hc, hs, hf⟩ := h
  refine ⟨by omega, .inr ⟨g, n, c, rfl, hB, hc, Nat.le_refl _, hm, by omega, ?_⟩⟩
  apply List.ext_getElem?
  intro i
  by_cases hi : i < n
  · rw [List.getElem?_take_of_lt (by omega), hx i hi, ← hf i hi]
    simp
  · rw [List.getElem?_eq_none (by simp; omega), List.getElem?_eq_none (by omega)]

theorem sums_leafs (l : List Int) (a : Option Addr) (n cap : Nat) (L I W : Int) (w : World) (hr : Row w a n cap (ints l)) (h : Trees.leafsE l ≠ 0) :
    Calls Tryz.prog 32 #[.slice a n cap, .agg #[.int .i64 L, .int .i64 I, .int .i64 W]] w fun e w' => e = .returned (.tuple #[.slice none 0 0, errv (Trees.leafsE l)]) ∧ Below w.heap.size w w' := by
  have b0 : Below w.heap.size w (w.alloc (.cells #[.int .i64 L, .int .i64 I, .int .i64 W] 67)) := (Below.refl _ _).alloc (Nat.le_refl _) _
  have cC := WalkCheck.check_any l a n cap _ (hr.below b0)
  rw [errv_pos _ h] at cC ⊢
  clear hr h
  go_enter Tryz.func32, Tryz.ntmps32
  go_wp2_with fail
  refine cC.mono ?_
  rintro e w1 ⟨rfl, rfl⟩
  go_wp2_with fail
  go_ret2
  exact ⟨rfl, b0⟩

set_option maxHeartbeats 1000000 in
theorem sums_range (l : List Int) (a : Option Addr) (n cap : Nat) (L I W : Int) (w : World) (hr : Row w a n cap (ints l)) (h0 : Trees.leafsE l = 0) (h : Tiles.bad L I W = true) :
    Calls Tryz.prog 32 #[.slice a n cap, .agg #[.int .i64 L, .int .i64 I, .int .i64 W]] w fun e w' => e = .returned (.tuple #[.slice none 0 0, errv 1]) ∧ Below w.heap.size w w' := by
  have b0 : Below w.heap.size w (w.alloc (.cells #[.int .i64 L, .int .i64 I, .int .i64 W] 67)) := (Below.refl _ _).alloc (Nat.le_refl _) _
  have cC := WalkCheck.check_any l a n cap _ (hr.below b0)
  rw [h0, errv0] at cC
  have h' := of_decide_eq_true h
  clear hr h0 h
  cases hl : lvl L
  · clear h'
    go_enter Tryz.func32, Tryz.ntmps32
    go_wp2_with fail
    refine cC.mono ?_
    rintro e w1 ⟨rfl, rfl⟩
    go_wp2_with fail
    refine (isLevel_any L _).mono ?_
    rintro e w1 ⟨rfl, rfl⟩
    rw [hl]
    go_wp2_with fail
    go_ret2
    exact ⟨rfl, b0⟩
  · have hl' := of_decide_eq_true hl
    by_cases h1 : I < 0
    · clear h' hl'
      go_enter Tryz.func32, Tryz.ntmps32
      go_wp2_with fail
      refine cC.mono ?_
      rintro e w1 ⟨rfl, rfl⟩
      go_wp2_with fail
      refine (isLevel_any L _).mono ?_
      rintro e w1 ⟨rfl, rfl⟩
      rw [hl]
      go_wp2_with fail
      go_ret2
      exact ⟨rfl, b0⟩
    · by_cases h2 : W < 1
      · clear h' hl'
        go_enter Tryz.func32, Tryz.ntmps32
        go_wp2_with fail
        refine cC.mono ?_
        rintro e w1 ⟨rfl, rfl⟩
        go_wp2_with fail
        refine (isLevel_any L _).mono ?_
        rintro e w1 ⟨rfl, rfl⟩
        rw [hl]
        go_wp2_with fail
        go_ret2
        exact ⟨rfl, b0⟩
      · have h3 : 4 < W := by omega
        clear h' hl'
        go_enter Tryz.func32, Tryz.ntmps32
        go_wp2_with fail
        refine cC.mono ?_
        rintro e w1 ⟨rfl, rfl⟩
        go_wp2_with fail
        refine (isLevel_any L _).mono ?_
        rintro e w1 ⟨rfl, rfl⟩
        rw [hl]
        go_wp2_with fail
        go_ret2
        exact ⟨rfl, b0⟩

theorem div_cast (n d : Nat) : ((n / d : Nat) : Int) = (n : Int) / (d : Int) := by first | exact Int.natCast_ediv n d | rfl

set_option maxHeartbeats 4000000 in
set_option maxRecDepth 100000 in
theorem sums_none (l : List Int) (a : Option Addr) (n cap : Nat) (A B C : Nat) (w : World) (hr : Row w a n cap (ints l)) (h0 : Trees.leafsE l = 0) (hA : A < 4) (h1 : 1 ≤ C) (h4 : C ≤ 4) (ht : Tiles.there n (A, B, C) = false) :
    Calls Tryz.prog 32 #[.slice a n cap, .agg #[.int .i64 (A : Int), .int .i64 (B : Int), .int .i64 (C : Int)]] w fun e w' => e = .returned (.tuple #[.slice none 0 0, errv 5]) ∧ Below w.heap.size w w' := by
  have hln : l.length = n := by rw [← hr.1, Lists.ints_length]
  have hn : n ≤ 200 := by
    unfold Trees.leafsE at h0
    rw [hln] at h0
    split at h0
    · cases h0
    · omega
  have hp := Tiles.pow_four A hA
  have b0 : Below w.heap.size w (w.alloc (.cells #[.int .i64 (A : Int), .int .i64 (B : Int), .int .i64 (C : Int)] 67)) := (Below.refl _ _).alloc (Nat.le_refl _) _
  have HB0 : Hid (Below w.heap.size w (w.alloc (.cells #[.int .i64 (A : Int), .int .i64 (B : Int), .int .i64 (C : Int)] 67))) := b0
  have HR : Hid (Row (w.alloc (.cells #[.int .i64 (A : Int), .int .i64 (B : Int), .int .i64 (C : Int)] 67)) a n cap (ints l)) := hr.below b0
  have c0 : (w.alloc (.cells #[.int .i64 (A : Int), .int .i64 (B : Int), .int .i64 (C : Int)] 67)).cell? ⟨w.heap.size, 0, none⟩ = some (.int .i64 (A : Int)) := by simp
  have c1 : (w.alloc (.cells #[.int .i64 (A : Int), .int .i64 (B : Int), .int .i64 (C : Int)] 67)).cell? ⟨w.heap.size, 1, none⟩ = some (.int .i64 (B : Int)) := by simp
  have c2 : (w.alloc (.cells #[.int .i64 (A : Int), .int .i64 (B : Int), .int .i64 (C : Int)] 67)).cell? ⟨w.heap.size, 2, none⟩ = some (.int .i64 (C : Int)) := by simp
  have sz0 : w.heap.size < (w.alloc (.cells #[.int .i64 (A : Int), .int .i64 (B : Int), .int .i64 (C : Int)] 67)).heap.size := by simp
  have cC := WalkCheck.check_any l a n cap _ HR.out
  rw [h0, errv0] at cC
  have HT : Hid (reach (n / 4 ^ A) B C = false) := ht
  have HL : Hid (Trees.leafsE l = 0) := h0
  have hl : lvl (A : Int) = true := decide_eq_true (by omega)
  have i1 : ¬ (B : Int) < 0 := by omega
  have i2 : ¬ (C : Int) < 1 := by omega
  have i3 : ¬ (C : Int) > 4 := by omega
  have hm : n / 4 ^ A ≤ 200 := Nat.le_trans (Nat.div_le_self _ _) hn
  have a1 := aggT
  have z1 := sizeT
  clear hr b0 h0 ht
  go_enter Tryz.func32, Tryz.ntmps32
  go_upto_region 1 with fail
  generalize w.alloc (.cells #[.int .i64 (A : Int), .int .i64 (B : Int), .int .i64 (C : Int)] 67) = w0 at HB0 HR c0 c1 c2 cC sz0 ⊢
  generalize hd : 4 ^ A = D at hp HT hm
  have d0 : ((D : Int) == 0) = false := by rw [beq_eq_false_iff_ne]; omega
  go_wp2_with fail
  refine cC.mono ?_
  rintro e w1 ⟨rfl, rfl⟩
  go_wp2_with fail
  refine (isLevel_any (A : Int) _).mono ?_
  rintro e w2 ⟨rfl, rfl⟩
  rw [hl]
  go_wp2_with fail
  refine (leafsOfOne_any A D _ (by omega) hd.symm).mono ?_
  rintro e w3 ⟨rfl, rfl⟩
  have d1 : ¬ D = 0 := by omega
  have q : IntKind.i64.wrap ((n : Int) / (D : Int)) = ((n / D : Nat) : Int) := by
    rw [← div_cast n D, IntKind.wrap_i64]
    generalize n / D = m at hm
    omega
  have r0 := fun dd os => cell_regrown c0 dd os
  have r1 := fun dd os => cell_regrown c1 dd os
  have r2 := fun dd os => cell_regrown c2 dd os
  have cR : ∀ dd os, Calls Tryz.prog 97 #[.int .i64 ((n : Int) / (D : Int)), .agg #[.int .i64 (A : Int), .int .i64 (B : Int), .int .i64 (C : Int)]] (grow (redrawn w3 dd) os) fun e w'' => e = .returned (.bool false) ∧ ∃ p : Regrown, w'' = grow (redrawn w3 p.d) p.os :=
    fun dd os => by rw [← div_cast n D, ← HT.out]; exact Calls.regrown_of (reaches_any (n / D) A B C _ hm h1 h4)
  clear cC
  go_upto_region 7 with fail
  refine wp_region_quiet_below (by kernel_rfl) (by kernel_rfl) ?_
  repeat (quiet_step (fail))
  quiet_step (exact cR _ _)
  repeat (quiet_step (fail))
  refine wpQuiet_nil ?_
  intro _ hw'
  obtain ⟨⟨dq, osq⟩, hw''⟩ := hw'
  subst hw''
  have b3 := below_regrown w3 dq osq
  replace HB0 : Hid (Below w.heap.size w (grow (redrawn w3 dq) osq)) := bt HB0.out b3
  replace HR : Hid (Row (grow (redrawn w3 dq) osq) a n cap (ints l)) := HR.out.below b3
  replace c1 := Lists.cell_below b3 c1
  replace c2 := Lists.cell_below b3 c2
  have szT : w.heap.size < (grow (redrawn w3 dq) osq).heap.size := Nat.lt_of_lt_of_le sz0 b3.size
  clear b3 r0 r1 r2 cR c0 q sz0 HT
  generalize grow (redrawn w3 dq) osq = w4 at HB0 HR c1 c2 szT ⊢
  go_wp2_with fail
  go_ret2
  exact ⟨rfl, HB0.out⟩

theorem index_le {B k D n : Nat} (h : (4 * B + k) * D + D ≤ n) (hd : 1 ≤ D) (hn : n ≤ 200) : B ≤ 50 := by
  have : 4 * B + k ≤ (4 * B + k) * D := Nat.le_mul_of_pos_right _ hd
  omega
theorem at_part {l : List Int} {fr tt : Nat} (h0 : Trees.leafsE l = 0) (h1 : fr ≤ tt) (h2 : tt ≤ l.length) : Trees.atE l fr tt = 0 ∧ Trees.atV l fr tt = Climbs.rootAt l (fr, tt) := by
  have e : Trees.atE l fr tt = 0 := by
    unfold Trees.atE
    rw [if_pos h0, show Trees.atBad l.length fr tt = false from decide_eq_false (by omega)]
    rfl
  refine ⟨e, ?_⟩
  unfold Trees.atV Climbs.rootAt
  rw [if_pos e, Int.toNat_natCast, Int.toNat_natCast]

set_option maxHeartbeats 4000000 in
set_option maxRecDepth 100000 in
theorem sums_yes (l : List Int) (a : Option Addr) (n cap : Nat) (A B C : Nat) (w : World) (hr : Row w a n cap (ints l)) (h0 : Trees.leafsE l = 0) (hA : A < 4) (h1 : 1 ≤ C) (h4 : C ≤ 4) (ht : Tiles.there n (A, B, C) = true) :
    Calls Tryz.prog 32 #[.slice a n cap, .agg #[.int .i64 (A : Int), .int .i64 (B : Int), .int .i64 (C : Int)]] w fun e w' => ∃ v, e = .returned (.tuple #[v, .nilIface]) ∧ w'.ownsRow w.heap.size 3 1 v (Tiles.sumsOf l (A, B, C)).length (ints (Tiles.sumsOf l (A, B, C))) ∧ Below w.heap.size w w' := by
  have hln : l.length = n := by rw [← hr.1, Lists.ints_length]
  have hn : n ≤ 200 := by
    unfold Trees.leafsE at h0
    rw [hln] at h0
    split at h0
    · cases h0
    · omega
  have hp := Tiles.pow_four A hA
  have b0 : Below w.heap.size w (w.alloc (.cells #[.int .i64 (A : Int), .int .i64 (B : Int), .int .i64 (C : Int)] 67)) := (Below.refl _ _).alloc (Nat.le_refl _) _
  have HB0 : Hid (Below w.heap.size w (w.alloc (.cells #[.int .i64 (A : Int), .int .i64 (B : Int), .int .i64 (C : Int)] 67))) := b0
  have HR : Hid (Row (w.alloc (.cells #[.int .i64 (A : Int), .int .i64 (B : Int), .int .i64 (C : Int)] 67)) a n cap (ints l)) := hr.below b0
  have c0 : (w.alloc (.cells #[.int .i64 (A : Int), .int .i64 (B : Int), .int .i64 (C : Int)] 67)).cell? ⟨w.heap.size, 0, none⟩ = some (.int .i64 (A : Int)) := by simp
  have c1 : (w.alloc (.cells #[.int .i64 (A : Int), .int .i64 (B : Int), .int .i64 (C : Int)] 67)).cell? ⟨w.heap.size, 1, none⟩ = some (.int .i64 (B : Int)) := by simp
  have c2 : (w.alloc (.cells #[.int .i64 (A : Int), .int .i64 (B : Int), .int .i64 (C : Int)] 67)).cell? ⟨w.heap.size, 2, none⟩ = some (.int .i64 (C : Int)) := by simp
  have sz0 : w.heap.size < (w.alloc (.cells #[.int .i64 (A : Int), .int .i64 (B : Int), .int .i64 (C : Int)] 67)).heap.size := by simp
  have cC := WalkCheck.check_any l a n cap _ HR.out
  rw [h0, errv0] at cC
  have HT : Hid (reach (n / 4 ^ A) B C = true) := ht
  have HN : Hid (∀ k, k < C → (4 * B + k) * 4 ^ A + 4 ^ A ≤ n) := fun k hk => Tiles.there_in ht hk
  have HL : Hid (Trees.leafsE l = 0) := h0
  have hl : lvl (A : Int) = true := decide_eq_true (by omega)
  have i1 : ¬ (B : Int) < 0 := by omega
  have i2 : ¬ (C : Int) < 1 := by omega
  have i3 : ¬ (C : Int) > 4 := by omega
  have hm : n / 4 ^ A ≤ 200 := Nat.le_trans (Nat.div_le_self _ _) hn
  have a1 := aggT
  have z1 := sizeT
  clear hr b0 h0 ht
  go_enter Tryz.func32, Tryz.ntmps32
  go_upto_region 1 with fail
  generalize w.alloc (.cells #[.int .i64 (A : Int), .int .i64 (B : Int), .int .i64 (C : Int)] 67) = w0 at HB0 HR c0 c1 c2 cC sz0 ⊢
  generalize hd : 4 ^ A = D at hp HN HT hm
  have d0 : ((D : Int) == 0) = false := by rw [beq_eq_false_iff_ne]; omega
  go_wp2_with fail
  refine cC.mono ?_
  rintro e w1 ⟨rfl, rfl⟩
  go_wp2_with fail
  refine (isLevel_any (A : Int) _).mono ?_
  rintro e w2 ⟨rfl, rfl⟩
  rw [hl]
  go_wp2_with fail
  refine (leafsOfOne_any A D _ (by omega) hd.symm).mono ?_
  rintro e w3 ⟨rfl, rfl⟩
  have d1 : ¬ D = 0 := by omega
  have q : IntKind.i64.wrap ((n : Int) / (D : Int)) = ((n / D : Nat) : Int) := by
    rw [← div_cast n D, IntKind.wrap_i64]
    generalize n / D = m at hm
    omega
  have r0 := fun dd os => cell_regrown c0 dd os
  have r1 := fun dd os => cell_regrown c1 dd os
  have r2 := fun dd os => cell_regrown c2 dd os
  have cR : ∀ dd os, Calls Tryz.prog 97 #[.int .i64 ((n : Int) / (D : Int)), .agg #[.int .i64 (A : Int), .int .i64 (B : Int), .int .i64 (C : Int)]] (grow (redrawn w3 dd) os) fun e w'' => e = .returned (.bool true) ∧ ∃ p : Regrown, w'' = grow (redrawn w3 p.d) p.os :=
    fun dd os => by rw [← div_cast n D, ← HT.out]; exact Calls.regrown_of (reaches_any (n / D) A B C _ hm h1 h4)
  clear cC
  go_upto_region 7 with fail
  refine wp_region_quiet_below (by kernel_rfl) (by kernel_rfl) ?_
  repeat (quiet_step (fail))
  quiet_step (exact cR _ _)
  repeat (quiet_step (fail))
  refine wpQuiet_nil ?_
  intro _ hw'
  obtain ⟨⟨dq, osq⟩, hw''⟩ := hw'
  subst hw''
  have b3 := below_regrown w3 dq osq
  replace HB0 : Hid (Below w.heap.size w (grow (redrawn w3 dq) osq)) := bt HB0.out b3
  replace HR : Hid (Row (grow (redrawn w3 dq) osq) a n cap (ints l)) := HR.out.below b3
  replace c1 := Lists.cell_below b3 c1
  replace c2 := Lists.cell_below b3 c2
  have szT : w.heap.size < (grow (redrawn w3 dq) osq).heap.size := Nat.lt_of_lt_of_le sz0 b3.size
  clear b3 r0 r1 r2 cR c0 q sz0 HT
  generalize grow (redrawn w3 dq) osq = w4 at HB0 HR c1 c2 szT ⊢
  have hmk := run_make_row' (P := Tryz.prog) 45 3 (.int .i64 0) 8 Tryz.underlying45 info3 rfl .i64 .i64 C (by omega) (by omega)
  have hB := index_le (HN.out 0 (by omega)) (by omega) hn
  have HD : Hid (4 ^ A = D) := hd
  have HP : Hid (D = 1 ∨ D = 4 ∨ D = 16 ∨ D = 64) := hp
  clear d0 d1 hm hd hp
  go_upto_region 10 with fail
  clear hmk
  have HW0 : Hid ((w4.alloc (.cells (madeCells #[.int .i64 0] C) 3)).rowIs w4.heap.size 3 C (laid (Tiles.sumsOf l (A, B, C)) 0)) := (World.rowIs_made w4 _ C _).congr (fun i _ => by simp [laid])
  have bM : Below w4.heap.size w4 (w4.alloc (.cells (madeCells #[.int .i64 0] C) 3)) := (Below.refl _ _).alloc (Nat.le_refl _) _
  go_wp2_with fail
  go_loopw [9, 10, 52] (fun _ _ i wr => ∃ k : Nat, k ≤ C ∧ i = .int .i64 (k : Int) ∧ wr.rowIs w4.heap.size 3 C (laid (Tiles.sumsOf l (A, B, C)) k) ∧ Below w4.heap.size w4 wr) (fun _ _ i _ => C - (intOf i).toNat)
  case atStart => exact ⟨0, by omega, rfl, HW0.out, bM⟩
  case round =>
    obtain ⟨k, hk, rfl, hrow, hb⟩ := hrel
    have HW : Hid (wr.rowIs w4.heap.size 3 C (laid (Tiles.sumsOf l (A, B, C)) k)) := hrow
    have k1 := Lists.cell_below hb c1
    have HB : Hid (Below w4.heap.size w4 wr) := hb
    clear hrow hb HW0 bM
    by_cases hlt : k < C
    · have i5 : (k : Int) < (C : Int) := by omega
      have hF := HN.out k hlt
      have HX : Hid ((Tiles.sumsOf l (A, B, C)).getD k 0 = Climbs.rootAt l ((4 * B + k) * D, (4 * B + k) * D + D)) := by
        show _ = _
        rw [List.getD_eq_getElem?_getD, List.getElem?_eq_getElem (by rw [Tiles.sumsOf_length]; exact hlt)]
        simp only [Tiles.sumsOf, List.getElem_map, List.getElem_range, Option.getD_some, Tiles.sumAt]
        rw [HD.out]
      have q : wrap64 (((B : Int) * 4 + (k : Int)) * (D : Int)) = (((4 * B + k) * D : Nat) : Int) := by
        have e : (((4 * B + k) * D : Nat) : Int) = ((B : Int) * 4 + (k : Int)) * (D : Int) := by push_cast; rw [Int.mul_comm 4]
        rw [← e]
        exact wrap_small _ (by omega)
      go_upto_region 14 with fail
      rw [q]
      clear q
      generalize (4 * B + k) * D = F at hF HX
      obtain ⟨e1, e2⟩ := at_part (fr := F) (tt := F + D) HL.out (by omega) (by omega)
      have cA := WalkCheck.at_any l a n cap (F : Int) ((F + D : Nat) : Int) wr (HR.out.below HB.out)
      rw [e1, e2, errv0, ← HX.out, Int.natCast_add] at cA
      have HE : Hid ((Tiles.sumsOf l (A, B, C)).getD k 0 = (Tiles.sumsOf l (A, B, C)).getD k 0) := rfl
      clear e1 e2
      generalize hX : (Tiles.sumsOf l (A, B, C)).getD k 0 = X at cA
      have HX2 : Hid ((Tiles.sumsOf l (A, B, C)).getD k 0 = X) := hX
      clear hX HX HE
      go_wp2_with fail
      refine cA.mono ?_
      rintro e w5 ⟨rfl, b5⟩
      have HW5 : Hid (w5.rowIs w4.heap.size 3 C (laid (Tiles.sumsOf l (A, B, C)) k)) := HW.out.of_block (b5.block _ HW.out.lt)
      have HB5 : Hid (Below w4.heap.size w4 w5) := bt HB.out b5
      have c5 := HW5.out.cell hlt
      have f5 := HW5.out.frozen k
      generalize laid (Tiles.sumsOf l (A, B, C)) k k = old at c5
      clear cA b5 HW HB
      go_wp2_with fail
      go_roundw
      case rel =>
        refine ⟨k + 1, by omega, by go_num, (HW5.out.set k _).congr (fun i _ => ?_), HB5.out.setCell (Nat.le_refl _) _⟩
        unfold laid
        rcases Nat.lt_trichotomy i k with h | h | h
        · rw [if_neg (by omega), if_pos h, if_pos (by omega)]
        · subst h
          rw [if_pos rfl, if_pos (by omega), HX2.out]
        · rw [if_neg (by omega), if_neg (by omega), if_neg (by omega)]
      case measure => simp [intOf]; omega
    · have i5 : ¬ (k : Int) < (C : Int) := by omega
      obtain rfl : k = C := by omega
      have HF : Hid (wr.ownsRow w.heap.size 3 1 (.slice (some ⟨w4.heap.size, 0, none⟩) k k) (Tiles.sumsOf l (A, B, k)).length (ints (Tiles.sumsOf l (A, B, k)))) := by
        rw [Tiles.sumsOf_length]
        refine owns_of_row HW.out (by omega) (by unfold maxLen; omega) (by rw [Lists.ints_length, Tiles.sumsOf_length]) (fun i hi => ?_)
        rw [Lists.ints_at (by rw [Tiles.sumsOf_length]; exact hi)]
        unfold laid
        rw [if_pos hi]
      go_wp2_with fail
      go_ret2
      exact ⟨_, rfl, HF.out, bt HB0.out HB.out⟩

theorem sums_any (l : List Int) (a : Option Addr) (n cap : Nat) (L I W : Int) (w : World) (hr : Row w a n cap (ints l)) :
    Calls Tryz.prog 32 #[.slice a n cap, .agg #[.int .i64 L, .int .i64 I, .int .i64 W]] w fun e w' =>
      ∃ v, e = .returned (.tuple #[v, errv (Tiles.tileE l L I W)]) ∧ w'.ownsRow w.heap.size 3 1 v (Tiles.tileL l L I W).length (ints (Tiles.tileL l L I W)) ∧ Below w.heap.size w w' := by
  have hln : l.length = n := by rw [← hr.1, Lists.ints_length]
  by_cases h0 : Trees.leafsE l = 0
  · cases hb : Tiles.bad L I W
    · obtain ⟨A, B, C, rfl, rfl, rfl, hA, h1, h4⟩ := Tiles.bad_of hb
      cases ht : Tiles.there n (A, B, C)
      · have e : Tiles.tileE l A B C = 5 := by
          unfold Tiles.tileE
          rw [if_pos h0, if_neg (by rw [hb]; decide), if_neg (by rw [hln]; show ¬ Tiles.there n (A, B, C) = true; rw [ht]; decide)]
        unfold Tiles.tileL
        rw [e, if_neg (by decide)]
        refine (sums_none l a n cap A B C w hr h0 hA h1 h4 ht).mono ?_
        rintro e w' ⟨rfl, b⟩
        exact ⟨_, rfl, World.ownsRow_nil _ _ _ _, b⟩
      · have e : Tiles.tileE l A B C = 0 := by
          unfold Tiles.tileE
          rw [if_pos h0, if_neg (by rw [hb]; decide), if_pos (by rw [hln]; exact ht)]
        unfold Tiles.tileL
        rw [e, if_pos rfl, errv0]
        exact sums_yes l a n cap A B C w hr h0 hA h1 h4 ht
    · have e : Tiles.tileE l L I W = 1 := by
        unfold Tiles.tileE
        rw [if_pos h0, if_pos hb]
      unfold Tiles.tileL
      rw [e, if_neg (by decide)]
      refine (sums_range l a n cap L I W w hr h0 hb).mono ?_
      rintro e w' ⟨rfl, b⟩
      exact ⟨_, rfl, World.ownsRow_nil _ _ _ _, b⟩
  · have e : Tiles.tileE l L I W = Trees.leafsE l := if_neg h0
    unfold Tiles.tileL
    rw [e, if_neg h0]
    refine (sums_leafs l a n cap L I W w hr h0).mono ?_
    rintro e w' ⟨rfl, b⟩
    exact ⟨_, rfl, World.ownsRow_nil _ _ _ _, b⟩

end Go.Proofs.YticadkggaanbjaaGreatDoor.WalkTile
