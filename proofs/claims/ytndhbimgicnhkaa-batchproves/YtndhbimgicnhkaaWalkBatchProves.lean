/-
  The walk of BatchProves: what is proved at once is there, and no longer than one by one; of no places it is the root alone, of all there is nothing more.
-/
import Derived.Test.YtndhbimgicnhkaaWalkBatchAll
import Derived.Test.YtndhbimgicnhkaaWalkMake
import Derived.Test.YtndhbimgicnhkaaWalkProofCheck
import Derived.BigQuiet
import Derived.Deep.QuietTactic
import Derived.Lib.QuietBelow
namespace Go.Proofs.Ytndhbimgicnhkaa.WalkBatchProves
open Go.RowKit
open Go.Sort (grow)
open Lists (Row ints bt)
open Keeps (Kept owns_kept owns_row owns_base)
open Errs (errv errv0 errv_pos)
open Batches BatchSets BatchFaults
open WalkBatchAll (infoI one_at one_cell row_three)

theorem row_two (w : World) (t : TypeId) (a b : Int) : Row (w.alloc (.cells #[.int .i64 a, .int .i64 b] t)) (some ⟨w.heap.size, 0, none⟩) 2 2 (ints [a, b]) := by
  refine ⟨rfl, Nat.le_refl _, fun _ => ⟨_, _, rfl, fun j u hj => ?_⟩⟩
  match j, hj with
  | 0, h | 1, h => rw [← h]; simp [ints]
  | j + 2, h => simp [ints] at h
theorem fact_is : makeE [5, 6, 7] [0, 2] = 0 ∧ makeL [5, 6, 7] [0, 2] = [6] := by decide +kernel
theorem leafs_ok {l : List Int} (h : Trees.leafsE l = 0) : l.length ≤ 200 ∧ ∀ x ∈ l, Nums.valid x = true := by
  unfold Trees.leafsE at h
  split at h
  · contradiction
  split at h
  · rename_i a b
    exact ⟨by omega, List.all_eq_true.1 b⟩
  · contradiction
/-- one leaf by its own proof -/
theorem one_proof {l : List Int} (h : Trees.leafsE l = 0) {Z : Nat} (hZ : Z < l.length) : WalkMake.makeE l Z l.length = 0 ∧ (WalkMake.makeL l Z l.length).length = Ways.steps Z l.length ∧ WalkProofCheck.checkE (Trees.root l) l.length Z (l.getD Z 0) (WalkMake.makeL l Z l.length) = 0 := by
  obtain ⟨h1, h2⟩ := leafs_ok h
  have e1 : WalkMake.makeE l Z l.length = 0 := by
    unfold WalkMake.makeE
    rw [if_pos h, if_pos (show WalkSteps.inside _ _ _ = true from decide_eq_true ⟨by omega, by omega, Int.le_refl _⟩)]
  have e2 : WalkMake.makeL l Z l.length = Ways.way l Z := by
    unfold WalkMake.makeL
    rw [if_pos e1, Int.toNat_natCast, Int.toNat_natCast, List.take_of_length_le (Nat.le_refl _)]
  have hv : Nums.valid (l.getD Z 0) = true := by
    rw [List.getD_eq_getElem?_getD, List.getElem?_eq_getElem hZ]
    exact h2 _ (List.getElem_mem _)
  refine ⟨e1, by rw [e2, Ways.way_len], ?_⟩
  unfold WalkProofCheck.checkE WalkProofCheck.upE
  rw [if_pos (show WalkSteps.inside _ _ _ = true from decide_eq_true ⟨by omega, by omega, by omega⟩), if_pos ⟨Trees.root_valid l h2, hv, List.all_eq_true.2 (by rw [e2]; exact Ways.way_valid _ l Z (Nat.le_refl _) h2)⟩, Int.toNat_natCast, Int.toNat_natCast, if_pos (by rw [e2, Ways.way_len]), e2, if_pos (Ways.up_way l Z hZ)]
def far (l a : List Int) : Nat := (a.map fun x => Ways.steps x.toNat l.length).sum
theorem far_snoc (l a : List Int) (x : Int) : far l (a ++ [x]) = far l a + Ways.steps x.toNat l.length := by
  unfold far
  rw [List.map_append, List.sum_append]
  simp
theorem far_le (l : List Int) : ∀ a : List Int, far l a ≤ a.length * l.length
  | [] => by simp [far]
  | x :: a => by
    have := far_le l a
    have h := Ways.steps_le l.length x.toNat l.length (Nat.le_refl _)
    unfold far at this ⊢
    rw [List.map_cons, List.sum_cons, List.length_cons, Nat.succ_mul]
    omega
theorem sums_snoc (l a : List Int) (x : Int) : sumsAt l (a ++ [x]) = sumsAt l a ++ [l.getD x.toNat 0] := by unfold sumsAt; rw [List.map_append]; rfl
theorem take_snoc (l : List Int) (k : Nat) (h : k < l.length) : l.take (k + 1) = l.take k ++ [l.getD k 0] := by
  rw [List.take_succ_eq_append_getElem h, List.getD_eq_getElem?_getD, List.getElem?_eq_getElem h]
  rfl

set_option maxHeartbeats 8000000 in
set_option maxRecDepth 100000 in
theorem walk (a : Option Addr) (n cap : Nat) (l : List Int) (_ : l.length * 8 ≤ 140737488351232) (_ : ∀ x ∈ l, (Lit.int .i64 x).wf = true) (a2 : Option Addr) (n2 cap2 : Nat) (ats : List Int) (hz2 : ats.length * 8 ≤ 140737488351232) (_ : ∀ x ∈ ats, (Lit.int .i64 x).wf = true) (w : World) (hr : Row w a n cap (ints l)) (hr2 : Row w a2 n2 cap2 (ints ats)) :
    Calls Try.prog 3 #[.slice a n cap, .slice a2 n2 cap2] w fun e w' => e = .returned (.bool true) ∧ Below w.heap.size w w' := by
  have hln : l.length = n := by rw [← hr.1, Lists.ints_length]
  have hln2 : ats.length = n2 := by rw [← hr2.1, Lists.ints_length]
  have hn2 : n2 ≤ 17592186043904 := by omega
  have HR : Hid (∀ w', Below w.heap.size w w' → Row w' a n cap (ints l)) := fun w' b => hr.below b
  have HR2 : Hid (∀ w', Below w.heap.size w w' → Row w' a2 n2 cap2 (ints ats)) := fun w' b => hr2.below b
  obtain ⟨i0, hi, hz0, hz1, hz3⟩ := info_parts infoI
  have bA : Below w.heap.size w (w.alloc (.cells #[.int .i64 5, .int .i64 6, .int .i64 7] 3)) := (Below.refl _ _).alloc (Nat.le_refl _) _
  have r3 := row_three w 3 5 6 7
  have r1 := row_two (w.alloc (.cells #[.int .i64 5, .int .i64 6, .int .i64 7] 3)) 3 0 2
  have HB0 : Hid (Below w.heap.size w ((w.alloc (.cells #[.int .i64 5, .int .i64 6, .int .i64 7] 3)).alloc (.cells #[.int .i64 0, .int .i64 2] 3))) := bA.alloc (by simp) _
  have cF := WalkBa.make_any [5, 6, 7] _ 3 3 [0, 2] _ 2 2 ((w.alloc (.cells #[.int .i64 5, .int .i64 6, .int .i64 7] 3)).alloc (.cells #[.int .i64 0, .int .i64 2] 3)) (r3.below ((Below.refl _ _).alloc (Nat.le_refl _) _)) r1 (by decide)
  rw [fact_is.1, fact_is.2, errv0] at cF
  have hsz : (w.alloc (.cells #[.int .i64 5, .int .i64 6, .int .i64 7] 3)).heap.size = w.heap.size + 1 := by simp
  rw [hsz] at cF
  clear hr hr2 bA r3 r1 hsz
  go_enter Try.func3, Try.ntmps3
  go_wp2_with fail
  refine cF.mono ?_
  rintro e w1 ⟨v1, rfl, o1, b1⟩
  obtain ⟨g1, c1, rfl, _, _, _, _, _, hc, _⟩ := Keeps.owns_open o1 (by simp)
  have p0 := hc 0 _ rfl
  have HB1 : Hid (Below w.heap.size w w1) := bt HB0.out b1
  have cM := fun w' b => WalkBa.make_any l a n cap ats a2 n2 cap2 w' (HR.out w' b) (HR2.out w' b) hn2
  clear cF o1 b1 hc HB0
  go_wp2_with fail
  refine (cM _ HB1.out).mono ?_
  rintro e w2 ⟨v2, rfl, o2, b2⟩
  have HB2 : Hid (Below w.heap.size w w2) := bt HB1.out b2
  clear cM p0 HB1 b2
  by_cases hE : makeE l ats = 0
  rotate_left
  · rw [errv_pos _ hE]
    generalize ((makeE l ats : Nat) : Int) = E
    clear hE o2
    go_wp2_with fail
    go_ret
    exact ⟨rfl, HB2.out⟩
  obtain ⟨k1, k2, k3⟩ := makeE_ok hE
  obtain ⟨q1, q2, q3⟩ := placesE_ok k2
  obtain ⟨t1, t2, t3⟩ := make_right hE
  obtain ⟨l1, _⟩ := leafs_ok k1
  have hPl : (makeL l ats).length ≤ 200 := by
    rw [show makeL l ats = several l ats 0 l.length from if_pos hE, several_length _ _ _ _ k3]
    have := long_le ats 0 l.length k3
    omega
  rw [hE, errv0]
  obtain ⟨x2, c2, rfl, r2, _⟩ := owns_row o2
  have HRp : Hid (∀ w', Below w2.heap.size w2 w' → Row w' x2 (makeL l ats).length c2 (ints (makeL l ats))) := fun w' b => r2.below b
  have HLong : Hid (0 < ats.length → (makeL l ats).length ≤ far l ats) := fun h => make_long hE h
  have HNone : Hid (ats.length = 0 → makeL l ats = [Trees.root l]) := fun h => by
    have e : ats = [] := List.length_eq_zero_iff.1 h
    subst e
    exact make_none hE
  have HAll : Hid (l.length ≤ ats.length → (makeL l ats).length = 0) := fun h => by rw [make_all hE h]; rfl
  have HOne : Hid (∀ Z, Z < l.length → WalkMake.makeE l Z l.length = 0 ∧ (WalkMake.makeL l Z l.length).length = Ways.steps Z l.length ∧ WalkProofCheck.checkE (Trees.root l) l.length Z (l.getD Z 0) (WalkMake.makeL l Z l.length) = 0) := fun Z h => one_proof k1 h
  have HIn : Hid (∀ x ∈ ats, 0 ≤ x ∧ x < (n : Int)) := by rw [← hln]; exact q2
  have h400 : n2 ≤ 400 := by omega
  have h200 : n ≤ 200 := by omega
  have hn1 : 1 ≤ n := by omega
  have cT := fun w' b => WalkCheck.root_any l a n cap w' (HR.out w' b)
  rw [k1, WalkCheck.errv0, show Trees.rootV l = Trees.root l from if_pos k1] at cT
  have cL := fun w' b => WalkBa.long_any (n : Int) ats a2 n2 cap2 w' (HR2.out w' b) hn2
  rw [hln] at t1 t2 t3 HOne HAll
  rw [t1, t2, errv0] at cL
  have HCk : Hid (checkE (Trees.root l) (n : Int) ats (sumsAt l ats) (makeL l ats) = 0) := t3
  obtain ⟨RL, HRL⟩ : ∃ RL, Hid (Trees.root l = RL) := ⟨_, rfl⟩
  rw [HRL.out] at cT HCk HOne HNone
  obtain ⟨PL, HPL⟩ : ∃ PL, Hid ((makeL l ats).length = PL) := ⟨_, rfl⟩
  rw [HPL.out] at cL HRp HLong HAll hPl ⊢
  clear hE k1 k2 k3 q1 q2 q3 t1 t2 t3 l1 o2 r2
  go_wp2_with fail
  refine (cT _ HB2.out).mono ?_
  rintro e w3 ⟨rfl, b3⟩
  have HB3 : Hid (Below w.heap.size w w3) := bt HB2.out b3
  have HBp : Hid (Below w2.heap.size w2 w3) := b3
  clear cT b3
  go_wp2_with fail
  refine (cL _ HB3.out).mono ?_
  rintro e w4 ⟨rfl, b4⟩
  have HB4 : Hid (Below w.heap.size w w4) := bt HB3.out b4
  have HBq : Hid (Below w2.heap.size w2 w4) := bt HBp.out b4
  have e0 : ((PL : Int) != (PL : Int)) = false := by simp
  clear cL b4 HB3 HBp
  go_wp2_with fail
  clear e0
  go_loopw [13, 14, 15] (fun v sv iv wr => ∃ i T : Nat, i ≤ n2 ∧ sv = .int .i64 (T : Int) ∧ iv = .int .i64 (i : Int) ∧ Hid (far l (ats.take i) = T) ∧ Hid (wr.ownsRow w4.heap.size 3 1 v i (ints (sumsAt l (ats.take i)))) ∧ Hid (Below w4.heap.size w4 wr)) (fun _ _ iv _ => n2 - (intOf iv).toNat)
  case atStart => exact ⟨0, 0, Nat.zero_le _, rfl, rfl, rfl, World.ownsRow_nil _ _ _ _, Below.refl _ _⟩
  case round =>
    obtain ⟨i, T, hi2, rfl, rfl, HT, HO, HB⟩ := hrel
    have HBw : Hid (Below w.heap.size w wr) := bt HB4.out HB.out
    have hT : T ≤ 80000 := by
      rw [← HT.out]
      have := far_le l (ats.take i)
      have h2 : (ats.take i).length ≤ 400 := by rw [List.length_take]; omega
      have h3 : (ats.take i).length * l.length ≤ 400 * 200 := Nat.mul_le_mul h2 (by omega)
      omega
    by_cases hlt : i < n2
    · have i1 : (i : Int) < (n2 : Int) := by omega
      obtain ⟨b2, off2, rfl, _⟩ := (HR2.out w (Below.refl _ _)).2.2 (by omega)
      obtain ⟨b0, off0, rfl, _⟩ := (HR.out w (Below.refl _ _)).2.2 (by omega)
      have HS : Hid (ats.take (i + 1) = ats.take i ++ [ats.getD i 0]) := take_snoc ats i (by omega)
      have hz := HIn.out (ats.getD i 0) (by rw [List.getD_eq_getElem?_getD, List.getElem?_eq_getElem (by omega)]; exact List.getElem_mem _)
      have HC2 : Hid (∀ w', Below w.heap.size w w' → w'.cell? ⟨b2, off2 + i, none⟩ = some (.int .i64 (ats.getD i 0))) := fun w' b => (HR2.out w' b).at i _ (Lists.ints_at (by omega))
      generalize ats.getD i 0 = z at HS hz HC2
      obtain ⟨Z, rfl⟩ := Int.eq_ofNat_of_zero_le hz.1
      have hZ : Z < n := by omega
      have HC0 : Hid (∀ w', Below w.heap.size w w' → w'.cell? ⟨b0, off0 + Z, none⟩ = some (.int .i64 (l.getD Z 0))) := fun w' b => (HR.out w' b).at Z _ (Lists.ints_at (by omega))
      have HSm : Hid (sumsAt l (ats.take (i + 1)) = sumsAt l (ats.take i) ++ [l.getD Z 0]) := by show _ = _; rw [HS.out, sums_snoc, Int.toNat_natCast]
      have HFr : Hid (far l (ats.take (i + 1)) = T + Ways.steps Z n) := by show _ = _; rw [HS.out, far_snoc, Int.toNat_natCast, HT.out, hln]
      obtain ⟨o1, o2, o3⟩ := HOne.out Z (by omega)
      have hst := Ways.steps_le n Z n (Nat.le_refl _)
      have cP := fun w' b => WalkMake.make_any l _ n cap (Z : Int) (n : Int) w' (HR.out w' b)
      rw [o1, o2, WalkCheck.errv0] at cP
      have HCk2 : Hid (WalkProofCheck.checkE RL (n : Int) (Z : Int) (l.getD Z 0) (WalkMake.makeL l Z n) = 0) := o3
      have HMl : Hid (∀ w' x' c' m', Row w' x' m' c' (ints (WalkMake.makeL l Z n)) → m' ≤ 17592186043904 → Calls Try.prog 9 #[.int .i64 RL, .int .i64 (n : Int), .int .i64 (Z : Int), .int .i64 (l.getD Z 0), .slice x' m' c'] w' fun e w'' => e = .returned .nilIface ∧ Below w'.heap.size w' w'') := fun w' x' c' m' r hm => by
        have h := WalkProofCheck.check_any RL (n : Int) (Z : Int) (l.getD Z 0) _ x' m' c' w' r hm
        rw [HCk2.out, WalkCheck.errv0] at h
        exact h
      generalize l.getD Z 0 = Y at HC0 HSm HMl
      generalize Ways.steps Z n = ST at HFr cP hst
      clear o1 o2 o3 HCk2 hz
      have u0 := HC2.out _ HBw.out
      have u1 := HC0.out _ HBw.out
      have g0 : ¬ (Z : Int) < 0 := by omega
      have g1 : ¬ (Z : Int) ≥ (n : Int) := by omega
      have g2 : (Z : Int) < (n : Int) := by omega
      go_upto_region 18 with fail
      go_upto_region 19 with (at_builtin; go_must (refine wpList_append_own _ rfl (.tmp 89) (.tmp 97) 22 rfl w4.heap.size 3 i0 (.int .i64 0) 1 8 Try.underlying22 hi hz0 hz1 hz3 rfl (by decide) _ _ _ rfl (HO.out.alloc _) ⟨_, 0, none⟩ 1 1 [.int .i64 Y] rfl rfl (one_at _ _ _) (one_cell _ _) (by unfold maxLen; omega) (by omega) (by have := HB.out.size; simp; omega) ?_); intro v1 wn o1 g1' z1; clear z1)
      have HBN : Hid (Below w4.heap.size w4 wn) := (HB.out.alloc HB.out.size _).grown g1' (by have := HB.out.size; simp; omega) (fun k hk => (HO.out.lt k hk).1)
      have HON : Hid (wn.ownsRow w4.heap.size 3 1 v1 (i + 1) (ints (sumsAt l (ats.take (i + 1))))) := by
        show World.ownsRow _ _ _ _ _ _ _
        rw [HSm.out, show ints (sumsAt l (ats.take i) ++ [Y]) = ints (sumsAt l (ats.take i)) ++ [.int .i64 Y] from List.map_append]
        exact o1
      have HBn : Hid (Below w.heap.size w wn) := bt HB4.out HBN.out
      have u2 := HC2.out _ HBn.out
      clear g1' o1 HO HB u0 u1 HBw
      go_wp2_with fail
      refine (cP _ HBn.out).mono ?_
      rintro e w5 ⟨v5, rfl, o5, b5⟩
      obtain ⟨x5, c5, rfl, r5, _⟩ := owns_row o5
      have HB5 : Hid (Below w.heap.size w w5) := bt HBn.out b5
      have HB5' : Hid (Below w4.heap.size w4 w5) := bt HBN.out b5
      have HO5 : Hid (w5.ownsRow w4.heap.size 3 1 v1 (i + 1) (ints (sumsAt l (ats.take (i + 1))))) := owns_kept HON.out (Kept.of_below (fun _ => False) b5) fun _ _ q => q
      have cC : ∀ dd os, Calls Try.prog 9 #[.int .i64 RL, .int .i64 (n : Int), .int .i64 (Z : Int), .int .i64 Y, .slice x5 ST c5] (grow (redrawn w5 dd) os) fun e w'' => e = .returned .nilIface ∧ ∃ p : Regrown, w'' = grow (redrawn w5 p.d) p.os := fun dd os => Calls.regrown_of (HMl.out (grow (redrawn w5 dd) os) x5 c5 ST (r5.below (below_regrown w5 dd os)) (by omega))
      have u3 := cell_regrown (HC2.out _ HB5.out)
      have u4 := cell_regrown (HC0.out _ HB5.out)
      clear cP o5 b5 r5 u2 HON HBN HBn
      go_upto_region 20 with fail
      refine wp_region_quiet_below (by kernel_rfl) (by kernel_rfl) ?_
      repeat (quiet_step (fail))
      quiet_step (exact cC _ _)
      repeat (quiet_step (fail))
      refine wpQuiet_nil ?_
      intro _ hw'
      obtain ⟨⟨dq, osq⟩, hw''⟩ := hw'
      subst hw''
      have HB6 : Hid (Below w4.heap.size w4 (grow (redrawn w5 dq) osq)) := bt HB5'.out (below_regrown w5 dq osq)
      have HO6 : Hid ((grow (redrawn w5 dq) osq).ownsRow w4.heap.size 3 1 v1 (i + 1) (ints (sumsAt l (ats.take (i + 1))))) := owns_kept HO5.out (Kept.of_below (fun _ => False) (below_regrown w5 dq osq)) fun _ _ q => q
      generalize grow (redrawn w5 dq) osq = w6 at HB6 HO6 ⊢
      clear cC u3 u4 HB5 HB5' HO5
      go_wp2_with fail
      go_roundw
      case rel => exact ⟨i + 1, T + ST, by omega, by go_num, by go_num, HFr, HO6, HB6⟩
      case measure => simp [intOf]; omega
    · have i1 : ¬ (i : Int) < (n2 : Int) := by omega
      obtain rfl : i = n2 := by omega
      rw [List.take_of_length_le (by omega)] at HT HO
      obtain ⟨x5, c5, rfl, r5, _⟩ := owns_row HO.out
      have HBz : Hid (Below w2.heap.size w2 wr) := bt HBq.out HB.out
      have cC := WalkBa.check_any RL (n : Int) ats a2 i cap2 (sumsAt l ats) x5 i c5 (makeL l ats) x2 PL c2 wr (HR2.out _ HBw.out) r5 (HRp.out _ HBz.out) hn2 (by omega) (by omega)
      rw [HCk.out, errv0] at cC
      clear r5 HO HB
      by_cases h0 : i = 0
      · have hP := HNone.out (by omega)
        have hPL1 : PL = 1 := by rw [← HPL.out, hP]; rfl
        have hrow := HRp.out
        rw [hP, hPL1] at hrow
        have j0 : ((i : Int) == 0) = true := by rw [h0]; rfl
        have j1 : decide (0 < i) = false := decide_eq_false (by omega)
        have j2 : ((PL : Int) != 1) = false := by rw [hPL1]; rfl
        have j3 : (i : Int) < (n : Int) := by omega
        have j4 : (RL != RL) = false := by simp
        have j5 : 0 < PL := by omega
        have HRw : Hid (∀ w', Below w2.heap.size w2 w' → Row w' x2 1 c2 (ints [RL])) := hrow
        clear h0 hP hPL1 hrow
        go_wp2_with fail
        refine cC.mono ?_
        rintro e w7 ⟨rfl, b7⟩
        have HB7 : Hid (Below w.heap.size w w7) := bt HBw.out b7
        obtain ⟨b9, off9, rfl, hc9⟩ := (HRw.out _ (bt HBz.out b7)).2.2 (by decide)
        have u9 := hc9 0 _ rfl
        rw [Nat.add_zero] at u9
        clear cC b7 hc9
        go_wp2_with fail
        go_ret
        exact ⟨rfl, HB7.out⟩
      · have hle := HLong.out (by omega)
        rw [HT.out] at hle
        have j0 : ((i : Int) == 0) = false := by simp; omega
        have j1 : decide (0 < i) = true := decide_eq_true (by omega)
        have j2 : ¬ (PL : Int) > (T : Int) := by omega
        have HAl := HAll.out
        by_cases hlt2 : i < n
        · have j3 : (i : Int) < (n : Int) := by omega
          clear h0 hle hlt2 HAl
          go_wp2_with fail
          refine cC.mono ?_
          rintro e w7 ⟨rfl, b7⟩
          have HB7 : Hid (Below w.heap.size w w7) := bt HBw.out b7
          clear cC b7
          go_wp2_with fail
          go_ret
          exact ⟨rfl, HB7.out⟩
        · have hP0 := HAl (by omega)
          have j3 : ¬ (i : Int) < (n : Int) := by omega
          have j4 : ((PL : Int) == 0) = true := by rw [hP0]; rfl
          clear h0 hle hlt2 HAl hP0
          go_wp2_with fail
          refine cC.mono ?_
          rintro e w7 ⟨rfl, b7⟩
          have HB7 : Hid (Below w.heap.size w w7) := bt HBw.out b7
          clear cC b7
          go_wp2_with fail
          go_ret
          exact ⟨rfl, HB7.out⟩

end Go.Proofs.Ytndhbimgicnhkaa.WalkBatchProves
