/-
  The walk of BatchAll: of all leafs at once there is nothing to prove but them.
-/
import Derived.Test.YtndhbimgicnhkaaWalkBa
import Derived.Test.YtndhbimgicnhkaaBatchFaults
import Derived.Test.YtndhbimgicnhkaaWalkCheck
import Derived.Test.YtndhbimgicnhkaaKeeps
import Derived.Test.YtndhbimgicnhkaaErrs
import Derived.Deep.CutBlock
import Derived.Deep.DeepMust
namespace Go.Proofs.Ytndhbimgicnhkaa.WalkBatchAll
open Go.RowKit
open Lists (Row ints bt)
open Keeps (Kept owns_kept owns_row owns_base)
open Errs (errv errv0 errv_pos)
open Batches BatchSets BatchFaults

/-- the places of so many leafs -/
def allOf (n : Nat) : List Int := (List.range n).map fun (i : Nat) => (i : Int)
theorem allOf_length (n : Nat) : (allOf n).length = n := by simp [allOf]
theorem allOf_snoc (n : Nat) : allOf (n + 1) = allOf n ++ [(n : Int)] := by unfold allOf; rw [List.range_succ, List.map_append]; rfl
theorem allOf_getD {n i : Nat} (h : i < n) : (allOf n).getD i 0 = (i : Int) := by
  unfold allOf
  rw [List.getD_eq_getElem?_getD, List.getElem?_map, List.getElem?_range h]
  rfl
theorem allOf_places {n : Nat} (h : n ≤ 200) : placesE (n : Int) (allOf n) = 0 := by
  unfold placesE
  rw [if_neg (by rw [allOf_length]; omega), if_neg, if_neg]
  · rw [Bool.not_eq_false]
    refine rises_at.2 fun i hi => ?_
    rw [allOf_length] at hi
    rw [allOf_getD (by omega), allOf_getD hi]
    omega
  · rw [Bool.not_eq_false]
    refine inside_iff.2 fun x hx => ?_
    obtain ⟨i, hi, rfl⟩ := List.mem_map.1 hx
    have := List.mem_range.1 hi
    omega
theorem sums_same (l : List Int) : sumsAt l (allOf l.length) = l := by
  apply List.ext_getElem?
  intro i
  unfold sumsAt allOf
  rw [List.map_map, List.getElem?_map]
  by_cases h : i < l.length
  · rw [List.getElem?_range h]
    simp only [Option.map_some, Function.comp, Int.toNat_natCast]
    rw [List.getD_eq_getElem?_getD, List.getElem?_eq_getElem h]
    rfl
  · rw [List.getElem?_eq_none (by simpa using h), List.getElem?_eq_none (by omega)]
    rfl
theorem make_allOf {l : List Int} (h0 : Trees.leafsE l = 0) (h1 : 1 ≤ l.length) (h2 : l.length ≤ 200) : makeE l (allOf l.length) = 0 ∧ makeL l (allOf l.length) = [] ∧ checkE (Trees.root l) l.length (allOf l.length) l [] = 0 := by
  have hE : makeE l (allOf l.length) = 0 := by
    unfold makeE
    rw [if_neg (fun z => z h0), if_neg (fun z => z (allOf_places h2)), if_neg (by omega)]
  have hM : makeL l (allOf l.length) = [] := make_all hE (by rw [allOf_length]; exact Nat.le_refl _)
  refine ⟨hE, hM, ?_⟩
  have := (make_right hE).2.2
  rw [sums_same, hM] at this
  exact this
theorem fact_is : makeE [5, 6, 7] [0] = 0 ∧ makeL [5, 6, 7] [0] = [6, 7] := by decide +kernel
theorem infoI : (Try.prog.info? 3).map (fun i => (i.zero, i.size, i.bytes)) = some (some (.int .i64 0), 1, 8) := by kernel_rfl
theorem one_at (w : World) (v : Value) (t : TypeId) : ∀ j u, [v][j]? = some u → (w.alloc (.cells #[v] t)).cell? ((⟨w.heap.size, 0, none⟩ : Addr).add j) = some u := by
  intro j u hj
  match j, hj with
  | 0, hj => simp at hj; subst hj; simp [Addr.add]
theorem one_cell (k : IntKind) (n : Int) : ∀ u ∈ [Value.int k n], u.oneCell' = true := by
  intro u hu
  simp at hu
  subst hu
  rfl
theorem row_three (w : World) (t : TypeId) (a b c : Int) : Row (w.alloc (.cells #[.int .i64 a, .int .i64 b, .int .i64 c] t)) (some ⟨w.heap.size, 0, none⟩) 3 3 (ints [a, b, c]) := by
  refine ⟨rfl, Nat.le_refl _, fun _ => ⟨_, _, rfl, fun j u hj => ?_⟩⟩
  match j, hj with
  | 0, h | 1, h | 2, h => rw [← h]; simp [ints]
  | j + 3, h => simp [ints] at h
theorem row_one (w : World) (t : TypeId) (a : Int) : Row (w.alloc (.cells #[.int .i64 a] t)) (some ⟨w.heap.size, 0, none⟩) 1 1 (ints [a]) := by
  refine ⟨rfl, Nat.le_refl _, fun _ => ⟨_, _, rfl, fun j u hj => ?_⟩⟩
  match j, hj with
  | 0, h => rw [← h]; simp [ints]
  | j + 1, h => simp [ints] at h

set_option maxHeartbeats 4000000 in
set_option maxRecDepth 100000 in
theorem walk (a : Option Addr) (n cap : Nat) (l : List Int) (_ : l.length * 8 ≤ 140737488351232) (_ : ∀ x ∈ l, (Lit.int .i64 x).wf = true) (w : World) (hr : Row w a n cap (ints l)) :
    Calls Try.prog 4 #[.slice a n cap] w fun e w' => e = .returned (.bool true) ∧ Below w.heap.size w w' := by
  have hln : l.length = n := by rw [← hr.1, Lists.ints_length]
  have HR : Hid (∀ w', Below w.heap.size w w' → Row w' a n cap (ints l)) := fun w' b => hr.below b
  obtain ⟨i0, hi, hz0, hz1, hz2⟩ := info_parts infoI
  have bA : Below w.heap.size w (w.alloc (.cells #[.int .i64 5, .int .i64 6, .int .i64 7] 3)) := (Below.refl _ _).alloc (Nat.le_refl _) _
  have r3 := row_three w 3 5 6 7
  have r1 := row_one (w.alloc (.cells #[.int .i64 5, .int .i64 6, .int .i64 7] 3)) 3 0
  have bB : Below w.heap.size w ((w.alloc (.cells #[.int .i64 5, .int .i64 6, .int .i64 7] 3)).alloc (.cells #[.int .i64 0] 3)) := bA.alloc (by simp) _
  have cF := WalkBa.make_any [5, 6, 7] _ 3 3 [0] _ 1 1 ((w.alloc (.cells #[.int .i64 5, .int .i64 6, .int .i64 7] 3)).alloc (.cells #[.int .i64 0] 3)) (r3.below ((Below.refl _ _).alloc (Nat.le_refl _) _)) r1 (by decide)
  rw [fact_is.1, fact_is.2, errv0] at cF
  have HB0 : Hid (Below w.heap.size w ((w.alloc (.cells #[.int .i64 5, .int .i64 6, .int .i64 7] 3)).alloc (.cells #[.int .i64 0] 3))) := bB
  have hsz : (w.alloc (.cells #[.int .i64 5, .int .i64 6, .int .i64 7] 3)).heap.size = w.heap.size + 1 := by simp
  rw [hsz] at cF
  clear hr bA bB r3 r1 hsz
  go_enter Try.func4, Try.ntmps4
  go_wp2_with fail
  refine cF.mono ?_
  rintro e w1 ⟨v1, rfl, o1, b1⟩
  obtain ⟨g1, c1, rfl, _, _, _, _, _, hc, _⟩ := Keeps.owns_open o1 (by simp)
  have p0 := hc 0 _ rfl
  have p1 := hc 1 _ rfl
  have HB1 : Hid (Below w.heap.size w w1) := bt HB0.out b1
  clear cF o1 b1 hc HB0
  have cT := fun w' b => WalkCheck.root_any l a n cap w' (HR.out w' b)
  go_wp2_with fail
  refine (cT _ HB1.out).mono ?_
  rintro e w2 ⟨rfl, b2⟩
  have HB2 : Hid (Below w.heap.size w w2) := bt HB1.out b2
  clear cT b2 p0 p1 HB1
  by_cases h0 : Trees.leafsE l = 0
  rotate_left
  · rw [WalkCheck.errv_pos _ h0]
    generalize ((Trees.leafsE l : Nat) : Int) = E
    generalize Trees.rootV l = RV
    clear h0
    go_wp2_with fail
    go_ret
    exact ⟨rfl, HB2.out⟩
  have hn2 : n ≤ 200 := by
    unfold Trees.leafsE at h0
    split at h0
    · contradiction
    · omega
  rw [show Trees.rootV l = Trees.root l from if_pos h0, h0, WalkCheck.errv0]
  by_cases hn0 : n = 0
  · have i1 : ((n : Int) == 0) = true := by rw [hn0]; rfl
    generalize Trees.root l = RL
    clear h0 hn0
    go_wp2_with fail
    go_ret
    exact ⟨rfl, HB2.out⟩
  have i1 : ((n : Int) == 0) = false := by simp; omega
  obtain ⟨m1, m2, m3⟩ := make_allOf h0 (by omega) (by omega)
  rw [hln] at m1 m2 m3
  obtain ⟨RL, HRL⟩ : ∃ RL, Hid (Trees.root l = RL) := ⟨_, rfl⟩
  rw [HRL.out] at m3 ⊢
  have HM : Hid (makeE l (allOf n) = 0 ∧ makeL l (allOf n) = [] ∧ checkE RL (n : Int) (allOf n) l [] = 0) := ⟨m1, m2, m3⟩
  clear h0 hn0 m1 m2 m3
  go_wp2_with fail
  clear i1
  go_loopw [7, 8] (fun v iv wr => ∃ i : Nat, i ≤ n ∧ iv = .int .i64 (i : Int) ∧ Hid (wr.ownsRow w2.heap.size 3 1 v i (ints (allOf i))) ∧ Hid (Below w2.heap.size w2 wr)) (fun _ iv _ => n - (intOf iv).toNat)
  case atStart => exact ⟨0, Nat.zero_le _, rfl, World.ownsRow_nil _ _ _ _, Below.refl _ _⟩
  case round =>
    obtain ⟨i, hi2, rfl, HO, HB⟩ := hrel
    by_cases hlt : i < n
    · have i2 : (i : Int) < (n : Int) := by omega
      go_wp2_with (at_builtin; go_must (refine wpList_append_own _ rfl (.tmp 54) (.tmp 56) 22 rfl w2.heap.size 3 i0 (.int .i64 0) 1 8 Try.underlying22 hi hz0 hz1 hz2 rfl (by decide) _ _ _ rfl (HO.out.alloc _) ⟨_, 0, none⟩ 1 1 [.int .i64 (i : Int)] rfl rfl (one_at _ _ _) (one_cell _ _) (by unfold maxLen; omega) (by omega) (by have := HB.out.size; simp; omega) ?_); intro v1 wn o1 g1 z1; clear z1)
      have HBN : Hid (Below w2.heap.size w2 wn) := (HB.out.alloc HB.out.size _).grown g1 (by have := HB.out.size; simp; omega) (fun k hk => (HO.out.lt k hk).1)
      have HON : Hid (wn.ownsRow w2.heap.size 3 1 v1 (i + 1) (ints (allOf (i + 1)))) := by
        show World.ownsRow _ _ _ _ _ _ _
        rw [allOf_snoc, show ints (allOf i ++ [(i : Int)]) = ints (allOf i) ++ [.int .i64 (i : Int)] from List.map_append]
        exact o1
      clear g1 o1 HO HB
      go_roundw
      case rel => exact ⟨i + 1, by omega, by go_num, HON, HBN⟩
      case measure => simp [intOf]; omega
    · have i2 : ¬ (i : Int) < (n : Int) := by omega
      obtain rfl : i = n := by omega
      obtain ⟨x3, c3, rfl, r3, _⟩ := owns_row HO.out
      have HBw : Hid (Below w.heap.size w wr) := bt HB2.out HB.out
      have cM := WalkBa.make_any l a i cap (allOf i) x3 i c3 wr (HR.out _ HBw.out) r3 (by omega)
      rw [HM.out.1, HM.out.2.1, errv0] at cM
      have HR3 : Hid (∀ w', Below wr.heap.size wr w' → Row w' x3 i c3 (ints (allOf i))) := fun w' b => r3.below b
      clear r3 HO
      go_wp2_with fail
      refine cM.mono ?_
      rintro e w4 ⟨v4, rfl, o4, b4⟩
      obtain ⟨x4, c4, rfl, r4, _⟩ := owns_row o4
      have HB4 : Hid (Below w.heap.size w w4) := bt HBw.out b4
      have cC := WalkBa.check_any RL (i : Int) (allOf i) x3 i c3 l a i cap [] x4 0 c4 w4 (HR3.out _ b4) (HR.out _ HB4.out) r4 (by omega) (by omega) (by decide)
      rw [HM.out.2.2, errv0] at cC
      clear cM o4 b4 r4 HBw HR3
      go_wp2_with fail
      refine cC.mono ?_
      rintro e w5 ⟨rfl, b5⟩
      have HB5 : Hid (Below w.heap.size w w5) := bt HB4.out b5
      clear cC b5
      go_wp2_with fail
      go_ret
      exact ⟨rfl, HB5.out⟩

end Go.Proofs.Ytndhbimgicnhkaa.WalkBatchAll
