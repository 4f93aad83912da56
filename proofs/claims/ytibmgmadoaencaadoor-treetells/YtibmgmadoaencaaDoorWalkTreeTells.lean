/-
  The walk of TreeTells: what is wrong with any leafs, their root, of any of them; where any number is parted; and which two texts clash, are the document's.
-/
import Derived.Test.YtibmgmadoaencaaDoorWalkClashRef
import Derived.Deep.CutBlock
namespace Go.Proofs.YtibmgmadoaencaaDoor.WalkTreeTells
open Go.RowKit
open Lists (Row ints strs bt)
open WalkTold (Laid)
open WalkData (beq_yes beq_no below_drewN take_snoc)
open WalkCheck (errv)
open Go.Sort (grow)

theorem error_same (e : Nat) (w : World) (hg : Laid w) : Calls Tryd.prog 10 #[errv e, .int .i64 (e : Int)] w fun r w' => r = .returned (.bool true) ∧ Below w.heap.size w w' := by
  have h := WalkTold.error_is e (e : Int) w hg
  rw [beq_self_eq_true] at h
  exact h

theorem leafs_ok {l : List Int} {n : Nat} (hln : l.length = n) (h : Trees.leafsE l = 0) : n ≤ 200 ∧ ∀ x ∈ l, Nums.valid x = true := by
  unfold Trees.leafsE at h
  rw [hln] at h
  split at h
  · cases h
  · split at h
    · exact ⟨by omega, Trees.allOk_mem (by assumption)⟩
    · cases h

def splitE (k : Int) : Nat := if 2 ≤ k ∧ k ≤ 200 then 0 else 1
def splitV (k : Int) : Int := if 2 ≤ k ∧ k ≤ 200 then (Trees.half k.toNat : Nat) else 0
def inRange (k : Int) : Bool := decide (2 ≤ k ∧ k ≤ 200)
theorem split_t (k : Int) (w : World) : Calls Tryd.prog 25 #[.int .i64 k] w fun e w' => e = .returned (.tuple #[.int .i64 (splitV k), errv (splitE k)]) ∧ w' = w := by
  unfold splitV splitE
  by_cases h : 2 ≤ k ∧ k ≤ 200
  · rw [if_pos h, if_pos h]
    obtain ⟨m, rfl⟩ := Int.eq_ofNat_of_zero_le (show 0 ≤ k by omega)
    exact WalkCheck.split_yes m w (by omega) (by omega)
  · rw [if_neg h, if_neg h]
    exact WalkCheck.split_no k w h

def dataE2 (x y : List ByteArray) : Int := if (Trees.dataOk x && Trees.dataOk y) = true then 0 else 4

set_option maxHeartbeats 16000000 in
set_option maxRecDepth 100000 in
theorem walk (a : Option Addr) (n cap : Nat) (l : List Int) (_hz : l.length * 8 ≤ 140737488351232) (_ : ∀ x ∈ l, (Lit.int .i64 x).wf = true)
    (fr : Int) (_ : (Lit.int .i64 fr).wf = true) (tt : Int) (_ : (Lit.int .i64 tt).wf = true) (k : Int) (_ : (Lit.int .i64 k).wf = true)
    (a4 : Option Addr) (n4 cap4 : Nat) (x : List ByteArray) (hz4 : x.length * 16 ≤ 140737488351232) (_ : ∀ s ∈ x, s.size ≤ maxLen)
    (a5 : Option Addr) (n5 cap5 : Nat) (y : List ByteArray) (_hz5 : y.length * 16 ≤ 140737488351232) (_ : ∀ s ∈ y, s.size ≤ maxLen)
    (w : World) (hr : Row w a n cap (ints l)) (hr4 : Row w a4 n4 cap4 (strs x)) (hr5 : Row w a5 n5 cap5 (strs y)) (hL : Laid w) :
    Calls Tryd.prog 4 #[.slice a n cap, .int .i64 fr, .int .i64 tt, .int .i64 k, .slice a4 n4 cap4, .slice a5 n5 cap5] w fun e w' => e = .returned (.bool true) ∧ Below w.heap.size w w' := by
  have hln : l.length = n := by rw [← hr.1, Lists.ints_length]
  have hlx : x.length = n4 := by rw [← hr4.1, Lists.strs_length]
  have hly : y.length = n5 := by rw [← hr5.1, Lists.strs_length]
  have HR : Hid (Row w a n cap (ints l)) := hr
  have HX : Hid (Row w a4 n4 cap4 (strs x)) := hr4
  have HY : Hid (Row w a5 n5 cap5 (strs y)) := hr5
  have HL : Hid (Laid w) := hL
  have HN4 : Hid (n4 ≤ 8796093022208) := by show n4 ≤ 8796093022208; omega
  clear hr hr4 hr5 hL _hz hz4 _hz5
  have cErr := fun (e : Nat) (w1 : World) (b : Below w.heap.size w w1) => error_same e w1 (HL.out.below b)
  go_enter Tryd.func4, Tryd.ntmps4
  go_wp2_with fail
  refine (WalkTreeRef.leafs_any l a n cap _ HR.out).mono ?_
  rintro e w ⟨rfl, rfl⟩
  go_wp2_with fail
  refine (WalkCheck.check_any l a n cap _ HR.out).mono ?_
  rintro e w ⟨rfl, rfl⟩
  go_wp2_with fail
  refine (cErr _ _ (Below.refl _ _)).mono ?_
  rintro e w3 ⟨rfl, bw⟩
  obtain ⟨E, HE⟩ : ∃ E : Nat, Hid (Trees.leafsE l = E) := ⟨_, rfl⟩
  rw [HE.out]
  -- what is wanted of all leafs
  go_upto_if 37 with fail
  go_cut [15] from 30 to 39 (fun v wc => v = .int .i64 (Trees.rootV l) ∧ Below w.heap.size w wc)
  case first => as_aux_lemma =>
    by_cases h0 : E = 0
    · have hd : (((E : Nat) : Int) == 0) = true := by rw [h0]; rfl
      have HV : Hid (Trees.rootV l = Trees.root l) := if_pos (by rw [HE.out]; exact h0)
      have HA : Hid (n ≤ 200 ∧ ∀ x ∈ l, Nums.valid x = true) := leafs_ok hln (by rw [HE.out]; exact h0)
      clear h0
      go_wp2_with (go_at_call 21; refine (WalkTreeRef.root_le l a n cap _ (Nat.le_trans HA.out.1 (by decide)) (HR.out.below bw) HA.out.2).mono ?_; rintro e w4 ⟨rfl, b4⟩)
      go_meet
      case rel => exact ⟨by rw [HV.out], bt bw b4⟩
    · have hd : (((E : Nat) : Int) == 0) = false := by rw [beq_eq_false_iff_ne]; omega
      have HV : Hid (Trees.rootV l = 0) := if_neg (by rw [HE.out]; exact h0)
      clear h0
      go_wp2_with fail
      go_meet
      case rel => exact ⟨by rw [HV.out], bw⟩
  obtain ⟨rfl, bc⟩ := hcut
  clear bw
  go_wp2_with fail
  refine (WalkCheck.root_any l a n cap _ (HR.out.below bc)).mono ?_
  rintro e w4 ⟨rfl, b4⟩
  replace bc := bt bc b4
  clear b4
  rw [HE.out]
  go_wp2_with fail
  refine (cErr _ _ bc).mono ?_
  rintro e w5 ⟨rfl, b5⟩
  replace bc := bt bc b5
  clear b5
  -- what is wrong with a part
  obtain ⟨F, HF⟩ : ∃ F : Nat, Hid (Trees.atE l fr tt = F) := ⟨_, rfl⟩
  go_upto_region 9 with fail
  go_cut [64] from 40 to 64 (fun v wc => v = .bool (decide (E = 0) && Trees.atBad n fr tt) ∧ Below w.heap.size w wc)
  case first => as_aux_lemma =>
    by_cases h0 : E = 0
    · have hd : (((E : Nat) : Int) == 0) = true := by rw [h0]; rfl
      have HD : Hid (decide (E = 0) = true) := decide_eq_true h0
      clear h0
      by_cases h1 : fr < 0
      · have HB : Hid (Trees.atBad n fr tt = true) := decide_eq_true (.inl h1)
        go_wp2_with fail
        go_meet
        case rel => exact ⟨by rw [HD.out, HB.out]; rfl, bc⟩
      · by_cases h2 : tt < fr
        · have HB : Hid (Trees.atBad n fr tt = true) := decide_eq_true (.inr (.inl h2))
          go_wp2_with fail
          go_meet
          case rel => exact ⟨by rw [HD.out, HB.out]; rfl, bc⟩
        · by_cases h3 : (n : Int) < tt
          · have HB : Hid (Trees.atBad n fr tt = true) := decide_eq_true (.inr (.inr h3))
            go_wp2_with fail
            go_meet
            case rel => exact ⟨by rw [HD.out, HB.out]; rfl, bc⟩
          · have HB : Hid (Trees.atBad n fr tt = false) := decide_eq_false (by omega)
            go_wp2_with fail
            go_meet
            case rel => exact ⟨by rw [HD.out, HB.out]; rfl, bc⟩
    · have hd : (((E : Nat) : Int) == 0) = false := by rw [beq_eq_false_iff_ne]; omega
      have HD : Hid (decide (E = 0) = false) := decide_eq_false h0
      clear h0
      go_wp2_with fail
      go_meet
      case rel => exact ⟨by rw [HD.out]; rfl, bc⟩
  obtain ⟨rfl, bd⟩ := hcut
  clear bc
  obtain ⟨B, HB⟩ : ∃ B : Bool, Hid ((decide (E = 0) && Trees.atBad n fr tt) = B) := ⟨_, rfl⟩
  rw [HB.out]
  go_upto_if 64 with fail
  go_cut [13] from 48 to 66 (fun v wc => v = .int .i64 (F : Nat) ∧ Below w.heap.size w wc)
  case first => as_aux_lemma =>
    cases B
    · have HV : Hid ((E : Int) = (F : Int)) := by
        have h := HB.out
        show (E : Int) = (F : Int)
        rw [← HF.out, ← HE.out]
        unfold Trees.atE
        rw [hln]
        rw [← HE.out] at h
        by_cases h0 : Trees.leafsE l = 0
        · rw [if_pos h0]
          rw [decide_eq_true h0, Bool.true_and] at h
          rw [h, h0]; rfl
        · rw [if_neg h0]
      go_wp2_with fail
      go_meet
      case rel => exact ⟨by rw [HV.out], bd⟩
    · have HV : Hid (((1 : Nat) : Int) = (F : Int)) := by
        have h := HB.out
        show ((1 : Nat) : Int) = (F : Int)
        rw [← HF.out]
        unfold Trees.atE
        rw [hln]
        rw [← HE.out, Bool.and_eq_true, decide_eq_true_eq] at h
        rw [if_pos h.1, if_pos h.2]
      go_wp2_with fail
      go_meet
      case rel => exact ⟨congrArg (Value.int .i64) HV.out, bd⟩
  obtain ⟨rfl, be⟩ := hcut
  clear bd
  -- the root of a part
  go_upto_if 66 with fail
  go_cut [19] from 65 to 71 (fun v wc => v = .int .i64 (Trees.atV l fr tt) ∧ Below w.heap.size w wc)
  case first => as_aux_lemma =>
    by_cases h0 : F = 0
    · have hd : (((F : Nat) : Int) == 0) = true := by rw [h0]; rfl
      have h0' : Trees.atE l fr tt = 0 := by rw [HF.out]; exact h0
      have HV : Hid (Trees.atV l fr tt = Trees.root ((l.take tt.toNat).drop fr.toNat)) := if_pos h0'
      have hq : Trees.leafsE l = 0 ∧ Trees.atBad n fr tt = false := by
        unfold Trees.atE at h0'
        rw [hln] at h0'
        split at h0'
        · split at h0'
          · cases h0'
          · rename_i h1 h2
            exact ⟨h1, by simpa using h2⟩
        · rename_i h1
          exact absurd h0' h1
      have HA : Hid (n ≤ 200 ∧ ∀ x ∈ l, Nums.valid x = true) := leafs_ok hln hq.1
      have hb := of_decide_eq_false hq.2
      clear h0 h0' hq
      obtain ⟨lo, rfl⟩ := Int.eq_ofNat_of_zero_le (show 0 ≤ fr by omega)
      obtain ⟨hi, rfl⟩ := Int.eq_ofNat_of_zero_le (show 0 ≤ tt by omega)
      rw [Int.toNat_natCast, Int.toNat_natCast] at HV
      have h1 : ¬ (lo : Int) < 0 := by omega
      have h4 : (lo : Int) ≤ (hi : Int) := by omega
      have h5 : (hi : Int) ≤ (cap : Int) := by have := HR.out.2.1; omega
      have HC : Hid (Row wc (if cap = lo then a else a.map (·.add lo)) (hi - lo) (cap - lo) (ints ((l.take hi).drop lo))) := by
        rw [Lists.ints_drop, Lists.ints_take]; exact (HR.out.below be).cut lo hi (by omega) (by omega)
      have HW : Hid (∀ x ∈ (l.take hi).drop lo, Nums.valid x = true) := fun x hx => HA.out.2 x (List.mem_of_mem_take (List.mem_of_mem_drop hx))
      have HM : Hid (hi - lo ≤ 1000000) := by have := HA.out.1; show hi - lo ≤ 1000000; omega
      clear hb
      by_cases hcl : cap = lo
      · have HC' : Hid (Row wc a (hi - lo) 0 (ints ((l.take hi).drop lo))) := by
          have h := HC.out
          rw [if_pos hcl, show cap - lo = 0 by omega] at h
          exact h
        clear HC
        subst hcl
        go_wp2_with (go_at_call 21; refine (WalkTreeRef.root_le _ _ _ _ _ HM.out HC'.out HW.out).mono ?_; rintro e w1 ⟨rfl, b1⟩)
        go_meet
        case rel => exact ⟨by rw [HV.out], bt be b1⟩
      · have HC' : Hid (Row wc (a.map (·.add lo)) (hi - lo) (cap - lo) (ints ((l.take hi).drop lo))) := by
          have h := HC.out
          rw [if_neg hcl] at h
          exact h
        clear HC
        go_wp2_with (go_at_call 21; refine (WalkTreeRef.root_le _ _ _ _ _ HM.out HC'.out HW.out).mono ?_; rintro e w1 ⟨rfl, b1⟩)
        go_meet
        case rel => exact ⟨by rw [HV.out], bt be b1⟩
    · have hd : (((F : Nat) : Int) == 0) = false := by rw [beq_eq_false_iff_ne]; omega
      have HV : Hid (Trees.atV l fr tt = 0) := if_neg (by rw [HF.out]; exact h0)
      clear h0
      go_wp2_with fail
      go_meet
      case rel => exact ⟨by rw [HV.out], be⟩
  obtain ⟨rfl, bf⟩ := hcut
  clear be
  go_wp2_with fail
  refine (WalkCheck.at_any l a n cap fr tt _ (HR.out.below bf)).mono ?_
  rintro e w6 ⟨rfl, b6⟩
  replace bf := bt bf b6
  clear b6
  rw [HF.out]
  go_wp2_with fail
  refine (cErr _ _ bf).mono ?_
  rintro e w7 ⟨rfl, b7⟩
  replace bf := bt bf b7
  clear b7 HB HF HE
  -- where a number is parted
  obtain ⟨B2, HB2⟩ : ∃ B2 : Bool, Hid (inRange k = B2) := ⟨_, rfl⟩
  go_upto_region 17 with fail
  go_cut [87] from 82 to 87 (fun v wc => v = .bool B2 ∧ Below w.heap.size w wc)
  case first => as_aux_lemma =>
    by_cases h1 : 2 ≤ k
    · by_cases h2 : k ≤ 200
      · have HV : Hid (inRange k = true) := decide_eq_true ⟨h1, h2⟩
        go_wp2_with fail
        go_meet
        case rel => exact ⟨by rw [← HB2.out, HV.out], bf⟩
      · have HV : Hid (inRange k = false) := decide_eq_false (by omega)
        go_wp2_with fail
        go_meet
        case rel => exact ⟨by rw [← HB2.out, HV.out], bf⟩
    · have HV : Hid (inRange k = false) := decide_eq_false (by omega)
      go_wp2_with fail
      go_meet
      case rel => exact ⟨by rw [← HB2.out, HV.out], bf⟩
  obtain ⟨rfl, bg⟩ := hcut
  clear bf
  go_upto_if 87 with fail
  go_cut [13, 22] from 82 to 89 (fun v u wc => v = .int .i64 (splitE k : Nat) ∧ u = .int .i64 (splitV k) ∧ Below w.heap.size w wc)
  case first => as_aux_lemma =>
    cases B2
    · have hq : ¬ (2 ≤ k ∧ k ≤ 200) := of_decide_eq_false HB2.out
      have HV : Hid (splitE k = 1 ∧ splitV k = 0) := ⟨if_neg hq, if_neg hq⟩
      clear hq
      go_wp2_with fail
      go_meet
      case rel => exact ⟨by rw [HV.out.1]; rfl, by rw [HV.out.2], bg⟩
    · have hq : 2 ≤ k ∧ k ≤ 200 := of_decide_eq_true HB2.out
      obtain ⟨m, rfl⟩ := Int.eq_ofNat_of_zero_le (show 0 ≤ k by omega)
      have HV : Hid (splitE (m : Int) = 0 ∧ splitV (m : Int) = (Trees.half m : Nat)) := ⟨if_pos hq, (if_pos hq).trans (by rw [Int.toNat_natCast])⟩
      have HQ : Hid (2 ≤ m ∧ m ≤ 1000000) := by show 2 ≤ m ∧ m ≤ 1000000; omega
      clear hq
      go_wp2_with (go_at_call 24; refine (WalkTreeRef.half_any _ _ HQ.out.1 HQ.out.2).mono ?_; rintro e w1 ⟨rfl, rfl⟩)
      go_meet
      case rel => exact ⟨by rw [HV.out.1]; rfl, by rw [HV.out.2], bg⟩
  obtain ⟨rfl, rfl, bh⟩ := hcut
  clear bg HB2
  go_wp2_with fail
  refine (split_t k _).mono ?_
  rintro e w8 ⟨rfl, rfl⟩
  go_wp2_with fail
  refine (cErr _ _ bh).mono ?_
  rintro e w9 ⟨rfl, b9⟩
  replace bh := bt bh b9
  clear b9
  -- what is wrong with the data
  go_wp2_with fail
  refine (WalkDataRef.data_any x a4 n4 cap4 _ (HX.out.below bh)).mono ?_
  rintro e w9 ⟨rfl, rfl⟩
  go_upto_if 101 with fail
  go_cut [13] from 98 to 103 (fun v wc => v = .int .i64 (dataE2 x y) ∧ Below w.heap.size w wc)
  case first => as_aux_lemma =>
    cases hd0 : Trees.dataOk x
    · have HV : Hid (dataE2 x y = WalkDataRef.dataE x) := by
        show _ = _
        unfold dataE2 WalkDataRef.dataE
        rw [hd0]; rfl
      have hd : (WalkDataRef.dataE x == 0) = false := by unfold WalkDataRef.dataE; rw [hd0]; rfl
      clear hd0
      go_wp2_with fail
      go_meet
      case rel => exact ⟨by rw [HV.out], bh⟩
    · have HV : Hid (dataE2 x y = WalkDataRef.dataE y) := by
        show _ = _
        unfold dataE2 WalkDataRef.dataE
        rw [hd0, Bool.true_and]
      have hd : (WalkDataRef.dataE x == 0) = true := by unfold WalkDataRef.dataE; rw [hd0]; rfl
      clear hd0
      go_wp2_with (go_at_call 26; refine (WalkDataRef.data_any y a5 n5 cap5 _ (HY.out.below bh)).mono ?_; rintro e w1 ⟨rfl, rfl⟩)
      go_meet
      case rel => exact ⟨by rw [HV.out], bh⟩
  obtain ⟨rfl, bi⟩ := hcut
  clear bh
  -- are the lists the same?
  go_upto_block 0 with fail
  go_cut [25] from 104 to 126 (fun v wc => v = .bool (decide (x = y)) ∧ Below w.heap.size w wc)
  case first => as_aux_lemma =>
    go_wp2_with fail
    go_loopw [25, 26] (fun v i wr => ∃ (j : Nat) (B : Bool), j ≤ n4 ∧ i = .int .i64 j ∧ v = .bool B ∧ Hid (decide (n4 = n5 ∧ x.take j = y.take j) = B) ∧ Below w.heap.size w wr) (fun _ i _ => n4 - (intOf i).toNat)
    case atStart =>
      refine ⟨0, _, Nat.zero_le _, rfl, rfl, ?_, bi⟩
      show decide (n4 = n5 ∧ x.take 0 = y.take 0) = ((n4 : Int) == (n5 : Int))
      rw [List.take_zero, List.take_zero, Bool.eq_iff_iff, decide_eq_true_eq, beq_iff_eq]
      exact ⟨fun h => by omega, fun h => ⟨by omega, rfl⟩⟩
    case round =>
      obtain ⟨j, B, hj, rfl, rfl, HB, hb⟩ := hrel
      have hn4 := HN4.out
      by_cases hlt : j < n4
      · have i1 : (j : Int) < (n4 : Int) := by omega
        cases B
        · have HQ : Hid (decide (x = y) = false) := decide_eq_false fun h => of_decide_eq_false HB.out ⟨by rw [← hlx, ← hly, h], by rw [h]⟩
          go_wp2_with fail
          go_meet
          case rel => exact ⟨by rw [HQ.out], hb⟩
        · obtain ⟨hnn, htk⟩ := of_decide_eq_true HB.out
          have HNN : Hid (n4 = n5) := hnn
          have i5 : (j : Int) < (n5 : Int) := by omega
          have l5 : j < n5 := by omega
          clear hnn
          obtain ⟨b1, off1, rfl, hc1⟩ := (HX.out.below hb).2.2 (by omega)
          obtain ⟨b2, off2, rfl, hc2⟩ := (HY.out.below hb).2.2 (by omega)
          have cell1 := hc1 j _ (Lists.strs_at (by omega))
          have cell2 := hc2 j _ (Lists.strs_at (by omega))
          clear hc1 hc2
          have HL1 : Hid (x.take (j + 1) = x.take j ++ [x.getD j ByteArray.empty]) := take_snoc x j (by omega)
          have HM1 : Hid (y.take (j + 1) = y.take j ++ [y.getD j ByteArray.empty]) := take_snoc y j (by omega)
          have HT : Hid (x.take j = y.take j) := htk
          clear htk
          generalize x.getD j ByteArray.empty = s at cell1 HL1
          generalize y.getD j ByteArray.empty = t at cell2 HM1
          by_cases hst : s = t
          · subst hst
            have hq := beq_yes s
            go_wp2_with fail
            go_quiet (fail)
            go_wp2_with fail
            go_roundw
            case rel => exact ⟨j + 1, true, by omega, by go_num, rfl, decide_eq_true ⟨HNN.out, by rw [HL1.out, HM1.out, HT.out]⟩, below_drewN hb _⟩
            case measure => simp [intOf]; omega
          · have hq := beq_no hst
            have HN : Hid (decide (n4 = n5 ∧ x.take (j + 1) = y.take (j + 1)) = false) := decide_eq_false fun h => by
              have h2 := h.2
              rw [HL1.out, HM1.out, HT.out] at h2
              exact hst (by simpa using h2)
            clear hst
            go_wp2_with fail
            go_quiet (fail)
            go_wp2_with fail
            go_roundw
            case rel => exact ⟨j + 1, false, by omega, by go_num, rfl, HN.out, below_drewN hb _⟩
            case measure => simp [intOf]; omega
      · have i1 : ¬ (j : Int) < (n4 : Int) := by omega
        have HQ : Hid (decide (x = y) = B) := by
          have h := HB.out
          show decide (x = y) = B
          rw [← h, List.take_of_length_le (by omega), Bool.eq_iff_iff, decide_eq_true_eq, decide_eq_true_eq]
          constructor
          · intro h; subst h; exact ⟨by omega, (List.take_of_length_le (by omega)).symm⟩
          · rintro ⟨h1, h2⟩; rw [h2]; exact List.take_of_length_le (by omega)
        go_wp2_with fail
        go_meet
        case rel => exact ⟨by rw [HQ.out], hb⟩
  obtain ⟨rfl, bj⟩ := hcut
  clear bi
  -- which two texts clash
  obtain ⟨B3, HB3⟩ : ∃ B3 : Bool, Hid (decide (x = y) = B3) := ⟨_, rfl⟩
  rw [HB3.out]
  have bk : Below w.heap.size w (wc.alloc (.cells #[.string ⟨#[]⟩, .string ⟨#[]⟩] 48)) := bj.alloc bj.size _
  have HG : Hid ((wc.alloc (.cells #[.string ⟨#[]⟩, .string ⟨#[]⟩] 48)).rowIs wc.heap.size 48 2 (fun _ => .string ⟨#[]⟩)) := World.rowIs_alloc wc #[.string ⟨#[]⟩, .string ⟨#[]⟩] _ _ (fun i hi => by match i, hi with | 0, _ | 1, _ => rfl | i + 2, h => simp at h; omega)
  have hG : w.heap.size ≤ wc.heap.size := bj.size
  obtain ⟨D, HD⟩ : ∃ D : Bool, Hid ((Trees.dataOk x && Trees.dataOk y) = D) := ⟨_, rfl⟩
  obtain ⟨C, HC⟩ : ∃ C : Bool, Hid ((D && !decide (n4 = n5)) = C) := ⟨_, rfl⟩
  go_upto_region 31 with fail
  generalize wc.alloc (.cells #[.string ⟨#[]⟩, .string ⟨#[]⟩] 48) = wd at bk HG ⊢
  generalize wc.heap.size = G at HG hG ⊢
  clear bj
  go_cut [135] from 127 to 135 (fun v we => v = .bool C ∧ we = wd)
  case first => as_aux_lemma =>
    cases D
    · have hd : (dataE2 x y == 0) = false := by unfold dataE2; rw [HD.out]; decide
      have HV : Hid (C = false) := HC.out.symm
      go_wp2_with fail
      go_meet
      case rel => exact ⟨by rw [HV.out], rfl⟩
    · have hd : (dataE2 x y == 0) = true := by unfold dataE2; rw [HD.out]; decide
      by_cases hnn : n4 = n5
      · have i1 : ((n4 : Int) != (n5 : Int)) = false := by rw [bne_eq_false_iff_eq]; omega
        have HV : Hid (C = false) := by rw [← HC.out, decide_eq_true hnn]; rfl
        clear hnn
        go_wp2_with fail
        go_meet
        case rel => exact ⟨by rw [HV.out], rfl⟩
      · have i1 : ((n4 : Int) != (n5 : Int)) = true := by rw [bne_iff_ne]; omega
        have HV : Hid (C = true) := by rw [← HC.out, decide_eq_false hnn]; rfl
        clear hnn
        go_wp2_with fail
        go_meet
        case rel => exact ⟨by rw [HV.out], rfl⟩
  obtain ⟨rfl, rfl⟩ := hcut
  go_upto_if 135 with fail
  go_cut [13] from 127 to 156 (fun v we => v = .int .i64 (Trees.collideE x y : Nat) ∧ we.heap[G]? = some (.cells #[.string (Trees.collideV x y).1, .string (Trees.collideV x y).2] 48 (0, 0)) ∧ Below w.heap.size w we)
  case first => as_aux_lemma =>
    cases D
    · have hd : (dataE2 x y == 0) = false := by unfold dataE2; rw [HD.out]; decide
      have HV : Hid (dataE2 x y = ((Trees.collideE x y : Nat) : Int) ∧ Trees.collideV x y = (⟨#[]⟩, ⟨#[]⟩)) := by
        obtain ⟨h1, h2⟩ := Trees.collide_4 HD.out
        refine ⟨?_, h2⟩
        rw [h1]; unfold dataE2; rw [HD.out]; rfl
      obtain rfl : C = false := HC.out.symm
      clear HC
      go_wp2_with fail
      go_meet
      case rel => exact ⟨congrArg (Value.int .i64) HV.out.1, by rw [HV.out.2]; exact WalkClash.row_two HG.out, bk⟩
    have hd : (dataE2 x y == 0) = true := by unfold dataE2; rw [HD.out]; decide
    by_cases hnn : n4 = n5
    case neg =>
      have HV : Hid (Trees.collideE x y = 3 ∧ Trees.collideV x y = (⟨#[]⟩, ⟨#[]⟩)) := Trees.collide_3 HD.out (by omega)
      obtain rfl : C = true := by rw [← HC.out, decide_eq_false hnn]; rfl
      clear HC hnn
      go_wp2_with fail
      go_meet
      case rel => exact ⟨by rw [HV.out.1]; rfl, by rw [HV.out.2]; exact WalkClash.row_two HG.out, bk⟩
    obtain rfl : C = false := by rw [← HC.out, decide_eq_true hnn]; rfl
    clear HC
    cases B3
    case true =>
      have HV : Hid (Trees.collideE x y = 7 ∧ Trees.collideV x y = (⟨#[]⟩, ⟨#[]⟩)) := Trees.collide_7 HD.out (of_decide_eq_true HB3.out)
      clear hnn
      go_wp2_with fail
      go_meet
      case rel => exact ⟨by rw [HV.out.1]; rfl, by rw [HV.out.2]; exact WalkClash.row_two HG.out, bk⟩
    have HD0 : Hid (dataE2 x y = 0) := by show dataE2 x y = 0; unfold dataE2; rw [HD.out]; rfl
    have hne : x ≠ y := of_decide_eq_false HB3.out
    have hdd := HD.out
    rw [Bool.and_eq_true] at hdd
    have p1 := Trees.dataOk_parts hdd.1
    have p2 := Trees.dataOk_parts hdd.2
    have n1 : 1 ≤ n4 := by
      rcases Nat.eq_zero_or_pos n4 with h | h
      · exact absurd (by rw [List.length_eq_zero_iff.1 (hlx.trans h), List.length_eq_zero_iff.1 (hly.trans (hnn ▸ h))]) hne
      · exact h
    have HNN : Hid (n4 = n5) := hnn
    have HNE : Hid (x ≠ y) := hne
    have P1 : Hid (n4 ≤ 200 ∧ ∀ s ∈ x, s.size ≤ 200) := ⟨by omega, p1.2⟩
    have P2 : Hid (n5 ≤ 200 ∧ ∀ s ∈ y, s.size ≤ 200) := ⟨by omega, p2.2⟩
    have N1 : Hid (1 ≤ n4) := n1
    clear hnn hne hdd p1 p2 n1
    go_wp2_with fail
    refine (WalkDataRef.sums_any x a4 n4 cap4 _ (Nat.le_trans P1.out.1 (by decide)) (HX.out.below bk) (fun s h => Nat.le_trans (P1.out.2 s h) (by decide))).mono ?_
    rintro e w10 ⟨q1, c1, rfl, hq1, bb⟩
    replace HG : Hid (w10.rowIs G 48 2 (fun _ => .string ⟨#[]⟩)) := HG.out.of_block (bb.block _ HG.out.lt)
    replace bk := bt bk bb
    have HQ1 : Hid (Row w10 q1 n4 c1 (ints (Trees.leafs x))) := hq1
    clear bb hq1
    go_wp2_with fail
    refine (WalkTreeRef.root_le _ q1 n4 c1 _ (Nat.le_trans P1.out.1 (by decide)) HQ1.out (Trees.leafs_valid x)).mono ?_
    rintro e w11 ⟨rfl, bb⟩
    replace HG : Hid (w11.rowIs G 48 2 (fun _ => .string ⟨#[]⟩)) := HG.out.of_block (bb.block _ HG.out.lt)
    replace bk := bt bk bb
    clear bb HQ1
    go_wp2_with fail
    refine (WalkDataRef.sums_any y a5 n5 cap5 _ (Nat.le_trans P2.out.1 (by decide)) (HY.out.below bk) (fun s h => Nat.le_trans (P2.out.2 s h) (by decide))).mono ?_
    rintro e w12 ⟨q2, c2, rfl, hq2, bb⟩
    replace HG : Hid (w12.rowIs G 48 2 (fun _ => .string ⟨#[]⟩)) := HG.out.of_block (bb.block _ HG.out.lt)
    replace bk := bt bk bb
    have HQ2 : Hid (Row w12 q2 n5 c2 (ints (Trees.leafs y))) := hq2
    clear bb hq2
    go_wp2_with fail
    refine (WalkTreeRef.root_le _ q2 n5 c2 _ (Nat.le_trans P2.out.1 (by decide)) HQ2.out (Trees.leafs_valid y)).mono ?_
    rintro e w13 ⟨rfl, bb⟩
    replace HG : Hid (w13.rowIs G 48 2 (fun _ => .string ⟨#[]⟩)) := HG.out.of_block (bb.block _ HG.out.lt)
    replace bk := bt bk bb
    clear bb HQ2
    by_cases h5 : Trees.root (Trees.leafs x) = Trees.root (Trees.leafs y)
    case neg =>
      have HV : Hid (Trees.collideE x y = 5 ∧ Trees.collideV x y = (⟨#[]⟩, ⟨#[]⟩)) := Trees.collide_5 HD.out (by have := HNN.out; omega) HNE.out h5
      have i2 : (Trees.root (Trees.leafs x) != Trees.root (Trees.leafs y)) = true := by rw [bne_iff_ne]; exact h5
      clear h5
      go_wp2_with fail
      go_meet
      case rel => exact ⟨by rw [HV.out.1]; rfl, by rw [HV.out.2]; exact WalkClash.row_two HG.out, bk⟩
    have HV : Hid (Trees.collideE x y = 0 ∧ Trees.collideV x y = Trees.clash x y) := Trees.collide_0 HD.out (by have := HNN.out; omega) HNE.out h5
    have i2 : (Trees.root (Trees.leafs x) != Trees.root (Trees.leafs y)) = false := by rw [bne_eq_false_iff_eq]; exact h5
    clear h5
    have cC : Calls Tryd.prog 28 #[.slice a4 n4 cap4, .slice a5 n5 cap5] w13 fun e w' => e = .returned (.agg #[.string (Trees.clash x y).1, .string (Trees.clash x y).2]) ∧ Below w13.heap.size w13 w' := by
      have hy5 := HY.out.below bk
      rw [← HNN.out] at hy5 ⊢
      exact WalkClashRef.clash_any (n4 + 1) x y a4 a5 n4 cap4 cap5 w13 (Nat.lt_succ_self _) P1.out.1 N1.out (HX.out.below bk) hy5 P1.out.2 P2.out.2
    go_wp2_with fail
    refine cC.mono ?_
    rintro e w14 ⟨rfl, bb⟩
    replace HG : Hid (w14.rowIs G 48 2 (fun _ => .string ⟨#[]⟩)) := HG.out.of_block (bb.block _ HG.out.lt)
    replace bk := bt bk bb
    clear bb cC
    have r0 := HG.out.cell (i := 0) (by omega)
    have r1 := HG.out.cell (i := 1) (by omega)
    have f0 := HG.out.frozen 0
    have f1 := HG.out.frozen 1
    have HZ : Hid (((w14.setCell ⟨G, 0, none⟩ (.string (Trees.clash x y).1)).setCell ⟨G, 1, none⟩ (.string (Trees.clash x y).2)).heap[G]? = some (.cells #[.string (Trees.clash x y).1, .string (Trees.clash x y).2] 48 (0, 0))) := WalkClash.row_two ((HG.out.set 0 _).set 1 _)
    go_wp2_with fail
    go_meet
    case rel => exact ⟨by rw [HV.out.1, HD0.out]; rfl, by rw [HV.out.2]; exact HZ.out, (bk.setCell hG _).setCell hG _⟩
  obtain ⟨rfl, hg, bl⟩ := hcut
  have HGG : Hid (wc.heap[G]? = some (.cells #[.string (Trees.collideV x y).1, .string (Trees.collideV x y).2] 48 (0, 0))) := hg
  clear hg HG HC HD HB3 bk
  go_wp2_with fail
  refine (WalkCollide.collide_any x y a4 a5 n4 n5 cap4 cap5 _ (HX.out.below bl) (HY.out.below bl)).mono ?_
  rintro e w10 ⟨rfl, b10⟩
  replace HGG : Hid (w10.heap[G]? = some (.cells #[.string (Trees.collideV x y).1, .string (Trees.collideV x y).2] 48 (0, 0))) := by
    have h := HGG.out
    have hlt : G < wc.heap.size := by
      rcases Nat.lt_or_ge G wc.heap.size with g | g
      · exact g
      · rw [Array.getElem?_eq_none g] at h; cases h
    show w10.heap[G]? = _
    rw [b10.block G hlt]; exact h
  replace bl := bt bl b10
  clear b10
  generalize (Trees.collideV x y).1 = V1 at HGG ⊢
  generalize (Trees.collideV x y).2 = V2 at HGG ⊢
  have ba : Below w10.heap.size w10 (w10.alloc (.cells #[.string V1, .string V2] 48)) := (Below.refl _ _).alloc (Nat.le_refl _) _
  have c0 : (w10.alloc (.cells #[.string V1, .string V2] 48)).cell? ⟨w10.heap.size, 0, none⟩ = some (.string V1) := by simp
  have c1 : (w10.alloc (.cells #[.string V1, .string V2] 48)).cell? ⟨w10.heap.size, 1, none⟩ = some (.string V2) := by simp
  have d0 : w10.cell? ⟨G, 0, none⟩ = some (.string V1) := by rw [cell_of_row _ _ _ _ _ _ HGG.out]; rfl
  have d1 : w10.cell? ⟨G, 1, none⟩ = some (.string V2) := by rw [cell_of_row _ _ _ _ _ _ HGG.out]; rfl
  replace d0 := Lists.cell_below ba d0
  replace d1 := Lists.cell_below ba d1
  replace bl := bt bl ba
  clear ba HGG
  have H4 : Hid (_ ∧ _ ∧ _ ∧ _) := ⟨c0, c1, d0, d1⟩
  clear c0 c1 d0 d1
  go_wp2_with fail
  generalize w10.alloc (.cells #[.string V1, .string V2] 48) = w11 at bl H4 ⊢
  generalize w10.heap.size = N at H4 ⊢
  refine (cErr _ _ bl).mono ?_
  rintro e w12 ⟨rfl, b12⟩
  have c0 := Lists.cell_below b12 H4.out.1
  have c1 := Lists.cell_below b12 H4.out.2.1
  have d0 := Lists.cell_below b12 H4.out.2.2.1
  have d1 := Lists.cell_below b12 H4.out.2.2.2
  replace bl := bt bl b12
  clear b12 H4 cErr
  go_wp2_with fail
  go_ret
  exact ⟨rfl, bl⟩

end Go.Proofs.YtibmgmadoaencaaDoor.WalkTreeTells
