/-
  The walk of StoreFull: sixty keys and no more; what is there can be put anew, and dropped.
-/
import Derived.Test.YtibmgmadoaencaeDoorWalkSto
import Derived.Test.YtibmgmadoaencaeDoorLetters
import Derived.Test.YtibmgmadoaencaeDoorWalkTold
import Derived.BigQuiet
import Derived.Deep.QuietTactic
import Derived.Deep.CutBlock
namespace Go.Proofs.YtibmgmadoaencaeDoor.WalkStoreFull
open Go.RowKit
open Lists (bt)
open Keeps (Kept)
open Stores (Pair putE putL getE getV Rising)
open WalkTold (Laid)
open WalkSto (St)
open Errs (errv errv0 errv_pos)
open Letters (ltr ex why L)

def abc : ByteArray := ⟨#[97, 98, 99, 100, 101, 102, 103, 104, 105, 106, 107, 108, 109, 110, 111, 112, 113, 114, 115, 116, 117, 118, 119, 120, 121, 122]⟩
theorem cut_one (k : Nat) (h : k < 26) : (abc.extract k (k + 1)).data = #[UInt8.ofNat (97 + k)] := by
  have hd : ∀ k : Fin 26, (abc.extract k.val (k.val + 1)).data = #[UInt8.ofNat (97 + k.val)] := by decide +kernel
  exact hd ⟨k, h⟩
theorem two (i : Nat) : abc.extract (i / 26 % 26) (i / 26 % 26 + 1) ++ abc.extract (i % 26) (i % 26 + 1) = ltr i := by
  apply ByteArray.ext
  rw [ByteArray.data_append, cut_one _ (Nat.mod_lt _ (by decide)), cut_one _ (Nat.mod_lt _ (by decide))]
  rfl
theorem below_drewN {B : Nat} {a w : World} (h : Below B a w) (n : Nat) : Below B a (w.drewN n) := ⟨h.os, h.tape, h.output, h.size, h.block⟩

set_option maxHeartbeats 1000000 in
theorem letters_any (i : Nat) (w : World) (hi : i < 70) : Calls Tryd.prog 7 #[.int .i64 (i : Int)] w fun e w' => e = .returned (.string (ltr i)) ∧ Below w.heap.size w w' := by
  have HV : Hid (abc.extract (i / 26 % 26) (i / 26 % 26 + 1) ++ abc.extract (i % 26) (i % 26 + 1) = ltr i) := two i
  obtain ⟨K, HK⟩ : ∃ K : Nat, Hid (i / 26 % 26 = K) := ⟨_, rfl⟩
  obtain ⟨M, HM⟩ : ∃ M : Nat, Hid (i % 26 = M) := ⟨_, rfl⟩
  have k1 : (i : Int) / 26 % 26 = (K : Int) := by have := HK.out; omega
  have k2 : (i : Int) % 26 = (M : Int) := by have := HM.out; omega
  have l1 : K < 26 := by rw [← HK.out]; exact Nat.mod_lt _ (by decide)
  have l2 : M < 26 := by rw [← HM.out]; exact Nat.mod_lt _ (by decide)
  rw [HK.out, HM.out] at HV
  unfold abc at HV
  have i3 : (K : Int) ≤ (K : Int) + 1 := by omega
  have i4 : (K : Int) + 1 ≤ 26 := by omega
  have i5 : (M : Int) ≤ (M : Int) + 1 := by omega
  have i6 : (M : Int) + 1 ≤ 26 := by omega
  go_enter Tryd.func7, Tryd.ntmps7
  go_wp2_with fail
  go_quiet (fail)
  go_wp2_with fail
  go_ret
  exact ⟨congrArg Ending.returned (congrArg Value.string HV.out), below_drewN (Below.refl _ _) _⟩

theorem st_below {w w' : World} {B b : Nat} {F : Nat → Prop} {l : List Pair} (h : St w B b F l) (k : Below w.heap.size w w') : St w' B b F l := h.kept (Kept.of_below (fun _ => False) k) fun _ _ q => q
theorem error_is (e : Nat) (k : Int) (r : Bool) (w : World) (hg : Laid w) (h : ((e : Int) == k) = r) : Calls Tryd.prog 8 #[errv e, .int .i64 k] w fun x w' => x = .returned (.bool r) ∧ Below w.heap.size w w' := by
  have h2 := WalkTold.error_is e k w hg
  rw [h] at h2
  exact h2

set_option maxHeartbeats 16000000 in
set_option maxRecDepth 100000 in
theorem walk (n : Int) (_ : (Lit.int .i64 n).wf = true) (at_ : Int) (_ : (Lit.int .i64 at_).wf = true) (w : World) (hL : Laid w) :
    Calls Tryd.prog 3 #[.int .i64 n, .int .i64 at_] w fun e w' => e = .returned (.bool true) ∧ Below w.heap.size w w' := by
  have HL : Hid (Laid w) := hL
  clear hL
  by_cases h0 : n < 0
  · go_enter Tryd.func3, Tryd.ntmps3
    go_wp2_with fail
    go_ret
    exact ⟨rfl, Below.refl _ _⟩
  by_cases h1 : 70 < n
  · go_enter Tryd.func3, Tryd.ntmps3
    go_wp2_with fail
    go_ret
    exact ⟨rfl, Below.refl _ _⟩
  obtain ⟨N, rfl⟩ := Int.eq_ofNat_of_zero_le (show 0 ≤ n by omega)
  have hN : N ≤ 70 := by omega
  go_enter Tryd.func3, Tryd.ntmps3
  go_wp2_with fail
  refine (WalkSto.new_any w w.heap.size (Nat.le_refl _)).mono ?_
  rintro e w1 ⟨b, F0, rfl, hSt, hF0, hb1⟩
  clear hF0
  go_wp2_with fail
  go_loopw [6, 7, 8] (fun i _ _ wr => ∃ (j : Nat) (F : Nat → Prop), j ≤ N ∧ i = .int .i64 (j : Int) ∧ Hid (St wr w.heap.size b F (L (min j 60))) ∧ Hid (Below w.heap.size w wr)) (fun i _ _ _ => N - (intOf i).toNat)
  case atStart => exact ⟨0, F0, Nat.zero_le _, rfl, hSt, hb1⟩
  case round =>
    obtain ⟨j, F, hj, rfl, HS, HB⟩ := hrel
    clear hSt hb1
    by_cases hlt : j < N
    · have i1 : (j : Int) < (N : Int) := by omega
      have j70 : j < 70 := by omega
      obtain ⟨e1, e2⟩ := Letters.put_step j70
      have cP := fun w2 (hs : St w2 w.heap.size b F (L (min j 60))) => WalkSto.put_any hs (ltr j) ⟨#[120]⟩ (by rw [Letters.ltr_size]; unfold maxLen; omega) (by show 1 ≤ maxLen; unfold maxLen; omega)
      have e1' : putE (L (min j 60)) ⟨ltr j, ⟨#[120]⟩, false⟩ = if j < 60 then 0 else 4 := e1
      have e2' : putL (L (min j 60)) ⟨ltr j, ⟨#[120]⟩, false⟩ = L (min (j + 1) 60) := e2
      rw [e1', e2'] at cP
      clear e1 e2 e1' e2'
      by_cases h60 : j < 60
      · rw [if_pos h60, errv0] at cP
        have i2 : (j : Int) < 60 := by omega
        have i3 : ¬ (j : Int) ≥ 60 := by omega
        go_wp2_with fail
        refine (letters_any j _ j70).mono ?_
        rintro e w2 ⟨rfl, b2⟩
        have hs2 := st_below HS.out b2
        have hb2 := HB.out.trans (b2.mono HB.out.size)
        clear b2 HS HB
        go_wp2_with fail
        refine (cP _ hs2).mono ?_
        rintro e w3 ⟨rfl, F', hs3, hk3, _⟩
        have hb3 := hb2.trans (hk3.below (fun k q => (hs2.foot k q).1) hb2.size)
        clear hs2 hb2 hk3 cP
        go_wp2_with fail
        refine (error_is 0 4 false _ (HL.out.below hb3) rfl).mono ?_
        rintro e w4 ⟨rfl, b4⟩
        have HS4 : Hid (St w4 w.heap.size b F' (L (min (j + 1) 60))) := st_below hs3 b4
        have HB4 : Hid (Below w.heap.size w w4) := hb3.trans (b4.mono hb3.size)
        clear b4 hs3 hb3
        go_wp2_with fail
        go_roundw
        case rel => exact ⟨j + 1, F', by omega, by go_num, HS4, HB4⟩
        case measure => simp [intOf]; omega
      · rw [if_neg h60, errv_pos 4 (by decide)] at cP
        have i2 : ¬ (j : Int) < 60 := by omega
        have i3 : (j : Int) ≥ 60 := by omega
        go_wp2_with fail
        refine (letters_any j _ j70).mono ?_
        rintro e w2 ⟨rfl, b2⟩
        have hs2 := st_below HS.out b2
        have hb2 := HB.out.trans (b2.mono HB.out.size)
        clear b2 HS HB
        go_wp2_with fail
        refine (cP _ hs2).mono ?_
        rintro e w3 ⟨rfl, F', hs3, hk3, _⟩
        have hb3 := hb2.trans (hk3.below (fun k q => (hs2.foot k q).1) hb2.size)
        clear hs2 hb2 hk3 cP
        go_wp2_with fail
        refine (error_is 4 4 true _ (HL.out.below hb3) rfl).mono ?_
        rintro e w4 ⟨rfl, b4⟩
        have HS4 : Hid (St w4 w.heap.size b F' (L (min (j + 1) 60))) := st_below hs3 b4
        have HB4 : Hid (Below w.heap.size w w4) := hb3.trans (b4.mono hb3.size)
        clear b4 hs3 hb3
        go_wp2_with fail
        go_roundw
        case rel => exact ⟨j + 1, F', by omega, by go_num, HS4, HB4⟩
        case measure => simp [intOf]; omega
    · have i1 : ¬ (j : Int) < (N : Int) := by omega
      obtain rfl : j = N := by omega
      obtain ⟨K, hK⟩ : ∃ K, min j 60 = K := ⟨_, rfl⟩
      rw [hK] at HS
      have hK60 : K ≤ 60 := by omega
      have cN := fun w2 (hs : St w2 w.heap.size b F (L K)) => WalkSto.len_any hs
      rw [Letters.L_length] at cN
      go_wp2_with fail
      refine (cN _ HS.out).mono ?_
      rintro e w2 ⟨rfl, b2⟩
      have hs2 := st_below HS.out b2
      have hb2 := HB.out.trans (b2.mono HB.out.size)
      clear b2 HS HB cN
      by_cases hA : at_ < 0 ∨ (K : Int) ≤ at_
      · have HB2 : Hid (Below w.heap.size w w2) := hb2
        have hres : (((K : Int) == (j : Int)) || (decide (60 < (j : Int)) && ((K : Int) == 60))) = true := by
          by_cases h : j ≤ 60
          · rw [show ((K : Int) == (j : Int)) = true by rw [beq_iff_eq]; omega]; rfl
          · rw [show ((K : Int) == 60) = true by rw [beq_iff_eq]; omega, decide_eq_true (by omega)]
            simp
        clear hs2 hb2
        by_cases h60 : j ≤ 60
        · have q1 : ((K : Int) == (j : Int)) = true := by rw [beq_iff_eq]; omega
          clear hres
          by_cases hA0 : at_ < 0
          · clear hA
            go_wp2_with fail
            go_ret
            exact ⟨rfl, HB2.out⟩
          · have hA1 : (K : Int) ≤ at_ := by omega
            clear hA
            go_wp2_with fail
            go_ret
            exact ⟨rfl, HB2.out⟩
        · have q1 : ((K : Int) == (j : Int)) = false := by rw [beq_eq_false_iff_ne]; omega
          have q2 : (60 : Int) < (j : Int) := by omega
          have q3 : ((K : Int) == 60) = true := by rw [beq_iff_eq]; omega
          clear hres
          by_cases hA0 : at_ < 0
          · clear hA
            go_wp2_with fail
            go_ret
            exact ⟨rfl, HB2.out⟩
          · have hA1 : (K : Int) ≤ at_ := by omega
            clear hA
            go_wp2_with fail
            go_ret
            exact ⟨rfl, HB2.out⟩
      · obtain ⟨A, rfl⟩ := Int.eq_ofNat_of_zero_le (show 0 ≤ at_ by omega)
        have a0 : ¬ (A : Int) < 0 := by omega
        have a1 : ¬ (K : Int) ≤ (A : Int) := by omega
        have aK : A < K := by omega
        have a70 : A < 70 := by omega
        obtain ⟨e1, hr, hlen, hf⟩ := Letters.put_again aK hK60
        have cP := fun w2 (hs : St w2 w.heap.size b F (L K)) => WalkSto.put_any hs (ltr A) ⟨#[121]⟩ (by rw [Letters.ltr_size]; unfold maxLen; omega) (by show 1 ≤ maxLen; unfold maxLen; omega)
        have e1' : putE (L K) ⟨ltr A, ⟨#[121]⟩, false⟩ = 0 := e1
        rw [e1', errv0] at cP
        have hr' : Rising (putL (L K) ⟨ltr A, ⟨#[121]⟩, false⟩) := hr
        have hlen' : (putL (L K) ⟨ltr A, ⟨#[121]⟩, false⟩).length = K := hlen
        have hf' : Stores.find (putL (L K) ⟨ltr A, ⟨#[121]⟩, false⟩) (ltr A) ≠ none := hf
        clear e1 hr hlen hf e1'
        generalize putL (L K) ⟨ltr A, ⟨#[121]⟩, false⟩ = M at cP hr' hlen' hf'
        obtain ⟨d1, d2, d3⟩ := Letters.drop_again (i := A) hr' hf'
        rw [hlen'] at d2
        clear hA hr' hf' hlen'
        go_wp2_with fail
        refine (letters_any A _ a70).mono ?_
        rintro e w3 ⟨rfl, b3⟩
        replace hs2 := st_below hs2 b3
        replace hb2 := hb2.trans (b3.mono hb2.size)
        clear b3
        go_wp2_with fail
        refine (cP _ hs2).mono ?_
        rintro e w4 ⟨rfl, F', hs4, hk4, _⟩
        have hb4 := hb2.trans (hk4.below (fun k q => (hs2.foot k q).1) hb2.size)
        clear hs2 hb2 hk4 cP
        go_wp2_with fail
        refine (letters_any A _ a70).mono ?_
        rintro e w5 ⟨rfl, b5⟩
        replace hs4 := st_below hs4 b5
        replace hb4 := hb4.trans (b5.mono hb4.size)
        clear b5
        have cD := WalkSto.drop_any hs4 (ltr A) (by rw [Letters.ltr_size]; unfold maxLen; omega)
        rw [d1, errv0] at cD
        go_wp2_with fail
        refine cD.mono ?_
        rintro e w6 ⟨rfl, F6, hs6, hk6, _⟩
        have hb6 := hb4.trans (hk6.below (fun k q => (hs4.foot k q).1) hb4.size)
        clear hs4 hb4 hk6 cD d1
        generalize putL M ⟨ltr A, ⟨#[]⟩, true⟩ = M2 at hs6 d2 d3
        go_wp2_with fail
        refine (letters_any A _ a70).mono ?_
        rintro e w7 ⟨rfl, b7⟩
        replace hs6 := st_below hs6 b7
        replace hb6 := hb6.trans (b7.mono hb6.size)
        clear b7
        have cG := WalkSto.get_any hs6 (ltr A) (by rw [Letters.ltr_size]; unfold maxLen; omega)
        rw [d3, errv_pos 5 (by decide)] at cG
        generalize getV M2 (ltr A) = V at cG
        go_wp2_with fail
        refine cG.mono ?_
        rintro e w8 ⟨rfl, b8⟩
        replace hs6 := st_below hs6 b8
        replace hb6 := hb6.trans (b8.mono hb6.size)
        clear b8 cG
        go_wp2_with fail
        refine (error_is 5 5 true _ (HL.out.below hb6) rfl).mono ?_
        rintro e w9 ⟨rfl, b9⟩
        replace hs6 := st_below hs6 b9
        replace hb6 := hb6.trans (b9.mono hb6.size)
        clear b9
        have cN := WalkSto.len_any hs6
        rw [d2] at cN
        have q1 : ((K : Int) == (K : Int)) = true := by rw [beq_iff_eq]
        go_wp2_with fail
        refine cN.mono ?_
        rintro e w10 ⟨rfl, b10⟩
        have HBE : Hid (Below w.heap.size w w10) := hb6.trans (b10.mono hb6.size)
        clear hs6 hb6 b10 cN
        go_wp2_with fail
        go_ret
        exact ⟨rfl, HBE.out⟩

end Go.Proofs.YtibmgmadoaencaeDoor.WalkStoreFull
