/-
  The walk of TileTells: which tiles any tree has, the sums of any of them, and where any sum is, are the document's.
-/
import Derived.Test.YtibmgmadoaencacDoorWalkTile
import Derived.Test.YtibmgmadoaencacDoorWalkTileRef
import Derived.Test.YtibmgmadoaencacDoorWalkTilesSame
import Derived.Test.YtibmgmadoaencacDoorWalkInts
import Derived.Test.YtibmgmadoaencacDoorWalkTold
import Derived.Deep.CutBlock
import Derived.BigQuiet
import Derived.Deep.QuietTactic
namespace Go.Proofs.YtibmgmadoaencacDoor.WalkTileTells
open Go.RowKit
open Lists (Row ints bt)
open Keeps (Kept owns_kept owns_row owns_base)
open WalkTold (Laid)
open WalkCheck (errv errv0 errv_pos)
open Wides (Wide owns_wide)
open TileRows (cells)
open WalkTilesSame (aggT sizeT)
open Tiles (sizeE allL tileE tileL bad there asTile sumsOf)

theorem error_same (e : Nat) (w : World) (hg : Laid w) : Calls Tryd.prog 9 #[errv e, .int .i64 (e : Int)] w fun r w' => r = .returned (.bool true) ∧ Below w.heap.size w w' := by
  have h := WalkTold.error_is e (e : Int) w hg
  rw [beq_self_eq_true] at h
  exact h
theorem leafs_ok {l : List Int} {n : Nat} (hln : l.length = n) (h : Trees.leafsE l = 0) : n ≤ 200 ∧ ∀ x ∈ l, Nums.valid x = true := by
  unfold Trees.leafsE at h
  rw [hln] at h
  split at h
  · cases h
  · split at h
    · exact ⟨by omega, Trees.allOk_mem (by assumption)⟩
    · cases h

theorem below_drewN {B : Nat} {a w : World} (h : Below B a w) (n : Nat) : Below B a (w.drewN n) := ⟨h.os, h.tape, h.output, h.size, h.block⟩
theorem asked_ok {E F : Nat} {b B : Bool} (h : (decide (E = 0) && b) = B) (hF : F = if B then 1 else E) (h0 : F = 0) : E = 0 ∧ b = false := by
  subst h
  by_cases h1 : E = 0
  · subst h1
    cases b
    · exact ⟨rfl, rfl⟩
    · simp at hF; omega
  · rw [decide_eq_false h1] at hF
    simp at hF
    omega
theorem asked_bad {l : List Int} {L I W : Int} {E F : Nat} {B : Bool} (hE : Trees.leafsE l = E) (h : (decide (E = 0) && bad L I W) = B) (hF : F = if B then 1 else E) (h0 : F ≠ 0) : tileE l L I W = F ∧ tileL l L I W = [] := by
  have e : tileE l L I W = F := by
    unfold tileE
    rw [hE]
    by_cases h1 : E = 0
    · rw [if_pos h1]
      rw [decide_eq_true h1, Bool.true_and] at h
      rw [h]
      cases B
      · simp at hF; omega
      · simp at hF; rw [if_pos rfl]; exact hF.symm
    · rw [if_neg h1]
      rw [decide_eq_false h1, Bool.false_and] at h
      rw [← h] at hF
      simp at hF
      exact hF.symm
  refine ⟨e, ?_⟩
  unfold tileL
  rw [e, if_neg h0]

set_option maxHeartbeats 16000000 in
set_option maxRecDepth 100000 in
theorem walk (a : Option Addr) (n cap : Nat) (l : List Int) (_hz : l.length * 8 ≤ 140737488351232) (_ : ∀ x ∈ l, (Lit.int .i64 x).wf = true)
    (N : Int) (_ : (Lit.int .i64 N).wf = true) (L : Int) (_ : (Lit.int .i64 L).wf = true) (I : Int) (_ : (Lit.int .i64 I).wf = true) (W : Int) (_ : (Lit.int .i64 W).wf = true) (lev : Int) (_ : (Lit.int .i64 lev).wf = true) (i : Int) (_ : (Lit.int .i64 i).wf = true)
    (w : World) (hr : Row w a n cap (ints l)) (hL : Laid w) :
    Calls Tryd.prog 7 #[.slice a n cap, .int .i64 N, .agg #[.int .i64 L, .int .i64 I, .int .i64 W], .int .i64 lev, .int .i64 i] w fun e w' => e = .returned (.bool true) ∧ Below w.heap.size w w' := by
  have hln : l.length = n := by rw [← hr.1, Lists.ints_length]
  have b0 : Below w.heap.size w (w.alloc (.cells #[.int .i64 L, .int .i64 I, .int .i64 W] 42)) := (Below.refl _ _).alloc (Nat.le_refl _) _
  have HB0 : Hid (Below w.heap.size w (w.alloc (.cells #[.int .i64 L, .int .i64 I, .int .i64 W] 42))) := b0
  have HR : Hid (Row (w.alloc (.cells #[.int .i64 L, .int .i64 I, .int .i64 W] 42)) a n cap (ints l)) := hr.below b0
  have HL : Hid (Laid (w.alloc (.cells #[.int .i64 L, .int .i64 I, .int .i64 W] 42))) := hL.below b0
  have HC : Hid ((w.alloc (.cells #[.int .i64 L, .int .i64 I, .int .i64 W] 42)).cell? ⟨w.heap.size, 0, none⟩ = some (.int .i64 L) ∧ (w.alloc (.cells #[.int .i64 L, .int .i64 I, .int .i64 W] 42)).cell? ⟨w.heap.size, 1, none⟩ = some (.int .i64 I) ∧ (w.alloc (.cells #[.int .i64 L, .int .i64 I, .int .i64 W] 42)).cell? ⟨w.heap.size, 2, none⟩ = some (.int .i64 W)) := ⟨by simp, by simp, by simp⟩
  clear hr hL _hz b0
  go_enter Tryd.func7, Tryd.ntmps7
  go_upto_region 3 with fail
  generalize w.alloc (.cells #[.int .i64 L, .int .i64 I, .int .i64 W] 42) = w0 at HB0 HR HL HC ⊢
  have cErr := fun (e : Nat) (w1 : World) (b : Below w0.heap.size w0 w1) => error_same e w1 (HL.out.below b)
  -- the tiles of a size
  obtain ⟨B1, HB1⟩ : ∃ B1 : Bool, Hid (decide (N < 0 ∨ 200 < N) = B1) := ⟨_, rfl⟩
  go_cut [33] from 28 to 33 (fun v wc => v = .bool B1 ∧ w0 = wc)
  case first => as_aux_lemma =>
    by_cases h0 : N < 0
    · have HV : Hid (decide (N < 0 ∨ 200 < N) = true) := decide_eq_true (.inl h0)
      go_wp2_with fail
      go_meet
      case rel => exact ⟨by rw [← HB1.out, HV.out], rfl⟩
    · by_cases h1 : 200 < N
      · have HV : Hid (decide (N < 0 ∨ 200 < N) = true) := decide_eq_true (.inr h1)
        go_wp2_with fail
        go_meet
        case rel => exact ⟨by rw [← HB1.out, HV.out], rfl⟩
      · have HV : Hid (decide (N < 0 ∨ 200 < N) = false) := decide_eq_false (by omega)
        go_wp2_with fail
        go_meet
        case rel => exact ⟨by rw [← HB1.out, HV.out], rfl⟩
  obtain ⟨rfl, rfl⟩ := hcut
  go_upto_if 33 with fail
  go_cut [11, 12] from 34 to 35 (fun e v wc => e = .int .i64 (sizeE N : Nat) ∧ wc.ownsRow w0.heap.size 42 3 v (allL N).length (cells (allL N)) ∧ Below w0.heap.size w0 wc)
  case first => as_aux_lemma =>
    cases B1
    · have h := of_decide_eq_false HB1.out
      have HV : Hid (sizeE N = 0 ∧ allL N = Tiles.tiles N.toNat) := ⟨if_neg h, if_neg h⟩
      obtain ⟨m, rfl⟩ := Int.eq_ofNat_of_zero_le (show 0 ≤ N by omega)
      rw [Int.toNat_natCast] at HV
      go_wp2_with fail
      refine (WalkTileRef.tiles_any m _ (by omega)).mono ?_
      rintro e w1 ⟨v, rfl, ho, b1⟩
      go_wp2_with fail
      go_meet
      case rel => exact ⟨by rw [HV.out.1]; rfl, by rw [HV.out.2]; exact ho, b1⟩
    · have h := of_decide_eq_true HB1.out
      have HV : Hid (sizeE N = 1 ∧ allL N = []) := ⟨if_pos h, if_pos h⟩
      clear h
      go_wp2_with fail
      go_meet
      case rel => exact ⟨by rw [HV.out.1]; rfl, by rw [HV.out.2]; exact World.ownsRow_nil _ _ _ _, Below.refl _ _⟩
  obtain ⟨rfl, ho, bc⟩ := hcut
  obtain ⟨a1, c1, rfl, hw1⟩ := owns_wide ho
  have HW1 : Hid (Wide 3 wc a1 (allL N).length c1 (cells (allL N))) := hw1
  have hlN : (allL N).length ≤ 200 := by
    unfold allL
    split
    · exact Nat.zero_le _
    · exact Tiles.upto_length N.toNat 4 (by omega) (by omega)
  clear ho hw1 HB1
  go_wp2_with fail
  refine (WalkTile.all_any N _).mono ?_
  rintro e w2 ⟨v, rfl, ho, b2⟩
  obtain ⟨a2, c2, rfl, hw2⟩ := owns_wide ho
  have HW2 : Hid (Wide 3 w2 a2 (allL N).length c2 (cells (allL N))) := hw2
  replace HW1 : Hid (Wide 3 w2 a1 (allL N).length c1 (cells (allL N))) := HW1.out.below b2
  replace bc := bt bc b2
  clear ho hw2 b2
  generalize allL N = AL at HW1 HW2 hlN
  go_wp2_with fail
  refine (cErr _ _ bc).mono ?_
  rintro e w3 ⟨rfl, b3⟩
  replace HW2 : Hid (Wide 3 w3 a2 AL.length c2 (cells AL)) := HW2.out.below b3
  replace HW1 : Hid (Wide 3 w3 a1 AL.length c1 (cells AL)) := HW1.out.below b3
  replace bc := bt bc b3
  clear b3
  go_wp2_with fail
  refine (WalkTilesSame.tiles_same AL a2 a1 AL.length c2 c1 _ HW2.out HW1.out (by omega)).mono ?_
  rintro e w4 ⟨rfl, b4⟩
  replace bc := bt bc b4
  clear b4 HW1 HW2
  go_wp2_with fail
  refine (WalkTreeRef.leafs_any l a n cap _ (HR.out.below bc)).mono ?_
  rintro e w5 ⟨rfl, rfl⟩
  obtain ⟨E, HE⟩ : ∃ E : Nat, Hid (Trees.leafsE l = E) := ⟨_, rfl⟩
  rw [HE.out]
  go_upto_region 10 with fail
  obtain ⟨k0, k1, k2⟩ : w5.cell? ⟨w.heap.size, 0, none⟩ = some (.int .i64 L) ∧ w5.cell? ⟨w.heap.size, 1, none⟩ = some (.int .i64 I) ∧ w5.cell? ⟨w.heap.size, 2, none⟩ = some (.int .i64 W) := ⟨Lists.cell_below bc HC.out.1, Lists.cell_below bc HC.out.2.1, Lists.cell_below bc HC.out.2.2⟩
  go_cut [75] from 49 to 75 (fun v wc => v = .bool (decide (E = 0) && bad L I W) ∧ w5 = wc)
  case first => as_aux_lemma =>
    by_cases h0 : E = 0
    · have hd : (((E : Nat) : Int) == 0) = true := by rw [h0]; rfl
      have HD : Hid (decide (E = 0) = true) := decide_eq_true h0
      clear h0
      by_cases h1 : L < 0
      · have HV : Hid (bad L I W = true) := decide_eq_true (.inl h1)
        go_wp2_with fail
        go_meet
        case rel => exact ⟨by rw [HD.out, HV.out]; rfl, rfl⟩
      · by_cases h2 : 3 < L
        · have HV : Hid (bad L I W = true) := decide_eq_true (.inr (.inl h2))
          go_wp2_with fail
          go_meet
          case rel => exact ⟨by rw [HD.out, HV.out]; rfl, rfl⟩
        · by_cases h3 : I < 0
          · have HV : Hid (bad L I W = true) := decide_eq_true (.inr (.inr (.inl h3)))
            go_wp2_with fail
            go_meet
            case rel => exact ⟨by rw [HD.out, HV.out]; rfl, rfl⟩
          · by_cases h4 : W < 1
            · have HV : Hid (bad L I W = true) := decide_eq_true (.inr (.inr (.inr (.inl h4))))
              go_wp2_with fail
              go_meet
              case rel => exact ⟨by rw [HD.out, HV.out]; rfl, rfl⟩
            · by_cases h5 : 4 < W
              · have HV : Hid (bad L I W = true) := decide_eq_true (.inr (.inr (.inr (.inr h5))))
                go_wp2_with fail
                go_meet
                case rel => exact ⟨by rw [HD.out, HV.out]; rfl, rfl⟩
              · have HV : Hid (bad L I W = false) := decide_eq_false (by omega)
                go_wp2_with fail
                go_meet
                case rel => exact ⟨by rw [HD.out, HV.out]; rfl, rfl⟩
    · have hd : (((E : Nat) : Int) == 0) = false := by rw [beq_eq_false_iff_ne]; omega
      have HD : Hid (decide (E = 0) = false) := decide_eq_false h0
      clear h0
      go_wp2_with fail
      go_meet
      case rel => exact ⟨by rw [HD.out]; rfl, rfl⟩
  obtain ⟨rfl, rfl⟩ := hcut
  obtain ⟨B2, HB2⟩ : ∃ B2 : Bool, Hid ((decide (E = 0) && bad L I W) = B2) := ⟨_, rfl⟩
  obtain ⟨F, HF⟩ : ∃ F : Nat, Hid (F = if B2 then 1 else E) := ⟨_, rfl⟩
  rw [HB2.out]
  go_upto_if 75 with fail
  go_cut [11] from 49 to 75 (fun v wc => v = .int .i64 (F : Nat) ∧ w5 = wc)
  case first => as_aux_lemma =>
    cases B2
    · go_wp2_with fail
      go_meet
      case rel => exact ⟨by rw [HF.out]; rfl, rfl⟩
    · go_wp2_with fail
      go_meet
      case rel => exact ⟨by rw [HF.out]; rfl, rfl⟩
  obtain ⟨rfl, rfl⟩ := hcut
  go_upto_if 77 with fail
  go_cut [11, 17, 18, 19] from 76 to 117 (fun e v _ _ wc => e = .int .i64 (tileE l L I W : Nat) ∧ wc.ownsRow w0.heap.size 3 1 v (tileL l L I W).length (ints (tileL l L I W)) ∧ Below w0.heap.size w0 wc)
  case first => as_aux_lemma =>
    by_cases h0 : F = 0
    · have hd : (((F : Nat) : Int) == 0) = true := by rw [h0]; rfl
      obtain ⟨e1, e2⟩ := asked_ok HB2.out HF.out h0
      have h0' : Trees.leafsE l = 0 := HE.out.trans e1
      obtain ⟨hn, hv⟩ := leafs_ok hln h0'
      obtain ⟨A, B, C, rfl, rfl, rfl, hA, hC1, hC⟩ := Tiles.bad_of e2
      have HTE : Hid (tileE l A B C = if there n (A, B, C) = true then 0 else 5) := by
        show _ = _
        unfold tileE
        rw [if_pos h0', if_neg (by rw [e2]; decide), hln]
        rfl
      have HTL : Hid (tileL l A B C = if there n (A, B, C) = true then sumsOf l (A, B, C) else []) := by
        show _ = _
        unfold tileL
        rw [HTE.out]
        by_cases ht : there n (A, B, C) = true
        · rw [if_pos ht, if_pos rfl, if_pos ht]; rfl
        · rw [if_neg ht, if_neg (by decide), if_neg ht]
      have HV : Hid (∀ x ∈ l, Nums.valid x = true) := hv
      clear hv e2 h0' e1 h0 cErr
      go_wp2_with fail
      refine (WalkTileRef.tiles_any n _ hn).mono ?_
      rintro e w6 ⟨v, rfl, ho, b6⟩
      obtain ⟨a3, c3, rfl, hw3⟩ := owns_wide ho
      have HW3 : Hid (Wide 3 w6 a3 (Tiles.tiles n).length c3 (cells (Tiles.tiles n))) := hw3
      have HIF : Hid (there n (A, B, C) = true ↔ ∃ d, (A, B, d) ∈ Tiles.tiles n ∧ C ≤ d) := Tiles.there_iff hA hC1 hC
      have HM : Hid (∀ t ∈ Tiles.tiles n, t.1 ≤ 3 ∧ t.2.1 ≤ 49 ∧ 1 ≤ t.2.2 ∧ t.2.2 ≤ 4) := Tiles.tiles_le hn
      have hlT := Tiles.upto_length n 4 (by omega) hn
      change (Tiles.tiles n).length ≤ 200 at hlT
      have b6' := bt bc b6
      replace k0 := Lists.cell_below b6 k0
      replace k1 := Lists.cell_below b6 k1
      replace k2 := Lists.cell_below b6 k2
      have HB6 : Hid (Below w0.heap.size w0 w6) := b6'
      clear ho hw3 b6 b6'
      generalize Tiles.tiles n = T at HW3 HIF HM hlT
      go_wp2_with fail
      go_loopw [11, 17, 19] (fun e v i wr => ∃ k : Nat, k ≤ T.length ∧ i = .int .i64 (k : Int) ∧ Below w6.heap.size w6 wr ∧ ((e = .int .i64 0 ∧ wr.ownsRow w6.heap.size 3 1 v (sumsOf l (A, B, C)).length (ints (sumsOf l (A, B, C))) ∧ there n (A, B, C) = true) ∨ (e = .int .i64 5 ∧ v = .slice none 0 0 ∧ ∀ t ∈ T.take k, ¬ (t.1 = A ∧ t.2.1 = B ∧ C ≤ t.2.2)))) (fun _ _ i _ => T.length - (intOf i).toNat)
      case atStart => exact ⟨0, Nat.zero_le _, rfl, Below.refl _ _, .inr ⟨rfl, rfl, by intro t ht; simp at ht⟩⟩
      case round =>
        obtain ⟨k, hk, rfl, hb, hst⟩ := hrel
        have HS : Hid ((u11 = .int .i64 0 ∧ wr.ownsRow w6.heap.size 3 1 u17 (sumsOf l (A, B, C)).length (ints (sumsOf l (A, B, C))) ∧ there n (A, B, C) = true) ∨ (u11 = .int .i64 5 ∧ u17 = .slice none 0 0 ∧ ∀ t ∈ T.take k, ¬ (t.1 = A ∧ t.2.1 = B ∧ C ≤ t.2.2))) := hst
        clear hst
        by_cases hlt : k < T.length
        · have i1 : (k : Int) < (T.length : Int) := by omega
          obtain ⟨b3, off3, rfl, _⟩ := (HW3.out.below hb).2.2 (by omega)
          obtain ⟨p0, p1, p2⟩ := TileRows.at_three (HW3.out.below hb) k hlt
          have HT : Hid (T.take (k + 1) = T.take k ++ [T[k]]) := List.take_succ_eq_append_getElem hlt
          have HMem : Hid (T[k] ∈ T) := List.getElem_mem hlt
          generalize T[k] = t at p0 p1 p2 HT HMem
          obtain ⟨x, y, z⟩ := t
          simp only at p0 p1 p2
          have m0 := Lists.cell_below hb k0
          have m1 := Lists.cell_below hb k1
          have m2 := Lists.cell_below hb k2
          have HNo : Hid (¬ (x = A ∧ y = B ∧ C ≤ z) → ((u11 = .int .i64 0 ∧ wr.ownsRow w6.heap.size 3 1 u17 (sumsOf l (A, B, C)).length (ints (sumsOf l (A, B, C))) ∧ there n (A, B, C) = true) ∨ (u11 = .int .i64 5 ∧ u17 = .slice none 0 0 ∧ ∀ t ∈ T.take (k + 1), ¬ (t.1 = A ∧ t.2.1 = B ∧ C ≤ t.2.2)))) := fun hne => HS.out.imp (fun h => h) fun h => ⟨h.1, h.2.1, by
            rw [HT.out]
            intro t ht
            rcases List.mem_append.1 ht with ht | ht
            · exact h.2.2 t ht
            · rw [List.mem_singleton.1 ht]; exact hne⟩
          have HBk : Hid (Below w6.heap.size w6 wr) := hb
          by_cases q0 : x = A
          · have g0 : ((x : Int) == (A : Int)) = true := by rw [q0]; simp
            by_cases q1 : y = B
            · have g1 : ((y : Int) == (B : Int)) = true := by rw [q1]; simp
              by_cases q2 : C ≤ z
              · have g2 : (C : Int) ≤ (z : Int) := by omega
                have HTh : Hid (there n (A, B, C) = true) := HIF.out.2 ⟨z, by rw [← q0, ← q1]; exact HMem.out, q2⟩
                have hB : B ≤ 50 := by have := (HM.out _ HMem.out).2.1; simp only at this; omega
                have a24 := aggT
                have z24 := sizeT
                go_wp2_with fail
                go_quiet (fail)
                go_wp2_with fail
                refine (WalkTileRef.sums_any l a n cap A B C _ hn (HR.out.below (below_drewN (bt HB6.out HBk.out) _)) HV.out hA hB hC HTh.out).mono ?_
                rintro e w7 ⟨v7, rfl, o7, b7⟩
                go_wp2_with fail
                go_roundw
                case rel => exact ⟨k + 1, by omega, by go_num, (below_drewN HBk.out _).trans (b7.mono (below_drewN HBk.out _).size), .inl ⟨rfl, owns_base o7 (below_drewN HBk.out _).size, HTh.out⟩⟩
                case measure => simp [intOf]; omega
              · have g2 : ¬ (C : Int) ≤ (z : Int) := by omega
                have HNN := HNo.out (fun h => q2 h.2.2)
                go_wp2_with fail
                go_quiet (fail)
                go_wp2_with fail
                go_roundw
                case rel => exact ⟨k + 1, by omega, by go_num, below_drewN hb _, HNN.imp (fun h => ⟨h.1, owns_kept h.2.1 (Kept.of_below (fun _ => False) (below_drewN (Below.refl _ _) _)) (fun _ _ q => q), h.2.2⟩) (fun h => h)⟩
                case measure => simp [intOf]; omega
            · have g1 : ((y : Int) == (B : Int)) = false := by rw [beq_eq_false_iff_ne]; omega
              have HNN := HNo.out (fun h => q1 h.2.1)
              go_wp2_with fail
              go_quiet (fail)
              go_wp2_with fail
              go_roundw
              case rel => exact ⟨k + 1, by omega, by go_num, below_drewN hb _, HNN.imp (fun h => ⟨h.1, owns_kept h.2.1 (Kept.of_below (fun _ => False) (below_drewN (Below.refl _ _) _)) (fun _ _ q => q), h.2.2⟩) (fun h => h)⟩
              case measure => simp [intOf]; omega
          · have g0 : ((x : Int) == (A : Int)) = false := by rw [beq_eq_false_iff_ne]; omega
            have HNN := HNo.out (fun h => q0 h.1)
            go_wp2_with fail
            go_quiet (fail)
            go_wp2_with fail
            go_roundw
            case rel => exact ⟨k + 1, by omega, by go_num, below_drewN hb _, HNN.imp (fun h => ⟨h.1, owns_kept h.2.1 (Kept.of_below (fun _ => False) (below_drewN (Below.refl _ _) _)) (fun _ _ q => q), h.2.2⟩) (fun h => h)⟩
            case measure => simp [intOf]; omega
        · have i1 : ¬ (k : Int) < (T.length : Int) := by omega
          obtain rfl : k = T.length := by omega
          rw [List.take_length] at HS
          have HX : Hid (u11 = .int .i64 (tileE l A B C : Nat) ∧ wr.ownsRow w0.heap.size 3 1 u17 (tileL l A B C).length (ints (tileL l A B C))) := by
            rcases HS.out with ⟨h1, h2, h3⟩ | ⟨h1, h2, h3⟩
            · have e1 := HTE.out
              have e2 := HTL.out
              rw [if_pos h3] at e1 e2
              rw [e1, e2]
              exact ⟨h1, owns_base h2 HB6.out.size⟩
            · have hno : ¬ there n (A, B, C) = true := fun ht => by
                obtain ⟨d, hd1, hd2⟩ := HIF.out.1 ht
                exact h3 _ hd1 ⟨rfl, rfl, hd2⟩
              have e1 := HTE.out
              have e2 := HTL.out
              rw [if_neg hno] at e1 e2
              rw [e1, e2, h2]
              exact ⟨h1, World.ownsRow_nil _ _ _ _⟩
          have HY : Hid (Below w0.heap.size w0 wr) := bt HB6.out hb
          clear HS
          go_wp2_with fail
          go_meet
          case rel => exact ⟨HX.out.1, HX.out.2, HY.out⟩
    · have hd : (((F : Nat) : Int) == 0) = false := by rw [beq_eq_false_iff_ne]; omega
      have HV : Hid (tileE l L I W = F ∧ tileL l L I W = []) := asked_bad HE.out HB2.out HF.out h0
      clear h0
      go_wp2_with fail
      go_meet
      case rel => exact ⟨by rw [HV.out.1], by rw [HV.out.2]; exact World.ownsRow_nil _ _ _ _, bc⟩
  obtain ⟨rfl, ho, bd⟩ := hcut
  obtain ⟨a5, c5, rfl, r5, _⟩ := owns_row ho
  have HR5 : Hid (Row wc a5 (tileL l L I W).length c5 (ints (tileL l L I W))) := r5
  clear ho r5 k0 k1 k2 bc HB2 HF HE
  have k0 := Lists.cell_below bd HC.out.1
  have k1 := Lists.cell_below bd HC.out.2.1
  have k2 := Lists.cell_below bd HC.out.2.2
  have a24 := aggT
  have z24 := sizeT
  -- the sums of a tile
  go_wp2_with fail
  refine (WalkTile.sums_any l a n cap L I W _ (HR.out.below bd)).mono ?_
  rintro e w6 ⟨v6, rfl, o6, b6⟩
  obtain ⟨a6, c6, rfl, r6, _⟩ := owns_row o6
  have HR6 : Hid (Row w6 a6 (tileL l L I W).length c6 (ints (tileL l L I W))) := r6
  replace HR5 : Hid (Row w6 a5 (tileL l L I W).length c5 (ints (tileL l L I W))) := HR5.out.below b6
  replace bd := bt bd b6
  have hl4 := Tiles.tileL_len l L I W
  clear o6 r6 b6 k0 k1 k2
  go_wp2_with fail
  refine (cErr _ _ bd).mono ?_
  rintro e w7 ⟨rfl, b7⟩
  replace HR6 : Hid (Row w7 a6 (tileL l L I W).length c6 (ints (tileL l L I W))) := HR6.out.below b7
  replace HR5 : Hid (Row w7 a5 (tileL l L I W).length c5 (ints (tileL l L I W))) := HR5.out.below b7
  replace bd := bt bd b7
  clear b7
  go_wp2_with fail
  refine (WalkInts.ints_any _ _ a6 a5 _ _ c6 c5 _ HR6.out HR5.out (by omega)).mono ?_
  rintro e w8 ⟨rfl, b8⟩
  replace bd := bt bd b8
  clear b8 HR5 HR6
  rw [decide_eq_true rfl]
  -- where a sum is
  go_upto_region 28 with fail
  obtain ⟨B3, HB3⟩ : ∃ B3 : Bool, Hid (Tiles.whereBad lev i = B3) := ⟨_, rfl⟩
  have HRW : Hid ((w8.alloc (.cells #[.int .i64 0, .int .i64 0, .int .i64 0] 42)).rowIs w8.heap.size 42 3 (fun _ => .int .i64 0)) := World.rowIs_alloc _ _ _ _ (fun j hj => by match j, hj with | 0, _ | 1, _ | 2, _ => rfl | j + 3, h => simp at h; omega)
  have HB8 : Hid (Below w8.heap.size w8 (w8.alloc (.cells #[.int .i64 0, .int .i64 0, .int .i64 0] 42))) := (Below.refl _ _).alloc (Nat.le_refl _) _
  generalize w8.alloc (.cells #[.int .i64 0, .int .i64 0, .int .i64 0] 42) = w9 at HRW HB8 ⊢
  go_cut [143] from 130 to 143 (fun v wc => v = .bool B3 ∧ w9 = wc)
  case first => as_aux_lemma =>
    by_cases h1 : lev < 0
    · have HV : Hid (Tiles.whereBad lev i = true) := decide_eq_true (.inl h1)
      go_wp2_with fail
      go_meet
      case rel => exact ⟨by rw [← HB3.out, HV.out], rfl⟩
    · by_cases h2 : 3 < lev
      · have HV : Hid (Tiles.whereBad lev i = true) := decide_eq_true (.inr (.inl h2))
        go_wp2_with fail
        go_meet
        case rel => exact ⟨by rw [← HB3.out, HV.out], rfl⟩
      · by_cases h3 : i < 0
        · have HV : Hid (Tiles.whereBad lev i = true) := decide_eq_true (.inr (.inr (.inl h3)))
          go_wp2_with fail
          go_meet
          case rel => exact ⟨by rw [← HB3.out, HV.out], rfl⟩
        · by_cases h4 : 199 < i
          · have HV : Hid (Tiles.whereBad lev i = true) := decide_eq_true (.inr (.inr (.inr h4)))
            go_wp2_with fail
            go_meet
            case rel => exact ⟨by rw [← HB3.out, HV.out], rfl⟩
          · have HV : Hid (Tiles.whereBad lev i = false) := decide_eq_false (by omega)
            go_wp2_with fail
            go_meet
            case rel => exact ⟨by rw [← HB3.out, HV.out], rfl⟩
  obtain ⟨rfl, rfl⟩ := hcut
  go_upto_if 143 with fail
  go_cut [11, 24] from 144 to 151 (fun e v wc => e = .int .i64 (Tiles.whereE lev i : Nat) ∧ v = .int .i64 (Tiles.whereK lev i) ∧ wc.rowIs w8.heap.size 42 3 (fun j => if j = 0 then .int .i64 (Tiles.whereT lev i).1 else if j = 1 then .int .i64 (Tiles.whereT lev i).2.1 else .int .i64 (Tiles.whereT lev i).2.2) ∧ Below w8.heap.size w8 wc)
  case first => as_aux_lemma =>
    cases B3
    · have HV : Hid (Tiles.whereE lev i = 0 ∧ Tiles.whereT lev i = (lev, i / 4, i % 4 + 1) ∧ Tiles.whereK lev i = i % 4) := by
        refine ⟨?_, ?_, ?_⟩
        · unfold Tiles.whereE; rw [if_neg (by rw [HB3.out]; decide)]
        · unfold Tiles.whereT; rw [if_neg (by rw [HB3.out]; decide)]
        · unfold Tiles.whereK; rw [if_neg (by rw [HB3.out]; decide)]
      have h := of_decide_eq_false HB3.out
      have h1 : 0 ≤ i := by omega
      have h2 : i ≤ 199 := by omega
      have r0 := HRW.out.cell (i := 0) (by omega)
      have r1 := HRW.out.cell (i := 1) (by omega)
      have r2 := HRW.out.cell (i := 2) (by omega)
      have f0 := HRW.out.frozen 0
      have f1 := HRW.out.frozen 1
      have f2 := HRW.out.frozen 2
      clear h
      go_wp2_with fail
      go_meet
      case rel => exact ⟨by rw [HV.out.1]; rfl, by rw [HV.out.2.2], (((HRW.out.set 0 _).set 1 _).set 2 _).congr (fun j hj => by rw [HV.out.2.1]; match j, hj with | 0, _ | 1, _ | 2, _ => rfl | j + 3, h => omega), ((HB8.out.setCell (Nat.le_refl _) _).setCell (Nat.le_refl _) _).setCell (Nat.le_refl _) _⟩
    · have HV : Hid (Tiles.whereE lev i = 1 ∧ Tiles.whereT lev i = (0, 0, 0) ∧ Tiles.whereK lev i = 0) := by
        refine ⟨?_, ?_, ?_⟩
        · unfold Tiles.whereE; rw [if_pos HB3.out]
        · unfold Tiles.whereT; rw [if_pos HB3.out]
        · unfold Tiles.whereK; rw [if_pos HB3.out]
      go_wp2_with fail
      go_meet
      case rel => exact ⟨by rw [HV.out.1]; rfl, by rw [HV.out.2.2], HRW.out.congr (fun j hj => by rw [HV.out.2.1]; simp), HB8.out⟩
  obtain ⟨rfl, rfl, hrow, be⟩ := hcut
  have HRo := hrow
  clear HRW HB8 HB3
  replace bd := bt bd be
  go_wp2_with fail
  refine (WalkTile.where_any lev i _).mono ?_
  rintro e w10 ⟨rfl, b10⟩
  replace HRo := HRo.of_block (b10.block _ HRo.lt)
  replace bd := bt bd b10
  clear hrow be b10
  go_wp2_with fail
  have bw : Below w10.heap.size w10 (w10.alloc (.cells #[.int .i64 (Tiles.whereT lev i).1, .int .i64 (Tiles.whereT lev i).2.1, .int .i64 (Tiles.whereT lev i).2.2] 42)) := (Below.refl _ _).alloc (Nat.le_refl _) _
  have n0 : (w10.alloc (.cells #[.int .i64 (Tiles.whereT lev i).1, .int .i64 (Tiles.whereT lev i).2.1, .int .i64 (Tiles.whereT lev i).2.2] 42)).cell? ⟨w10.heap.size, 0, none⟩ = some (.int .i64 (Tiles.whereT lev i).1) := by simp
  have n1 : (w10.alloc (.cells #[.int .i64 (Tiles.whereT lev i).1, .int .i64 (Tiles.whereT lev i).2.1, .int .i64 (Tiles.whereT lev i).2.2] 42)).cell? ⟨w10.heap.size, 1, none⟩ = some (.int .i64 (Tiles.whereT lev i).2.1) := by simp
  have n2 : (w10.alloc (.cells #[.int .i64 (Tiles.whereT lev i).1, .int .i64 (Tiles.whereT lev i).2.1, .int .i64 (Tiles.whereT lev i).2.2] 42)).cell? ⟨w10.heap.size, 2, none⟩ = some (.int .i64 (Tiles.whereT lev i).2.2) := by simp
  replace HRo := HRo.of_block (bw.block _ HRo.lt)
  replace bd := bt bd bw
  clear bw
  generalize w10.alloc (.cells #[.int .i64 (Tiles.whereT lev i).1, .int .i64 (Tiles.whereT lev i).2.1, .int .i64 (Tiles.whereT lev i).2.2] 42) = w11 at bd n0 n1 n2 HRo ⊢
  refine (cErr _ _ bd).mono ?_
  rintro e w12 ⟨rfl, b12⟩
  replace n0 := Lists.cell_below b12 n0
  replace n1 := Lists.cell_below b12 n1
  replace n2 := Lists.cell_below b12 n2
  replace HRo := HRo.of_block (b12.block _ HRo.lt)
  have r0 := HRo.cell (i := 0) (by omega)
  have r1 := HRo.cell (i := 1) (by omega)
  have r2 := HRo.cell (i := 2) (by omega)
  rw [if_pos rfl] at r0
  rw [if_neg (by decide), if_pos rfl] at r1
  rw [if_neg (by decide), if_neg (by decide)] at r2
  have HBE : Hid (Below w.heap.size w w12) := bt HB0.out (bt bd b12)
  clear bd b12 HRo cErr
  generalize (Tiles.whereT lev i).1 = X at n0 r0
  generalize (Tiles.whereT lev i).2.1 = Y at n1 r1
  generalize (Tiles.whereT lev i).2.2 = Z at n2 r2
  have e0 : (Tiles.whereK lev i == Tiles.whereK lev i) = true := by simp
  generalize Tiles.whereK lev i = K at e0
  go_wp2_with fail
  go_ret
  exact ⟨rfl, HBE.out⟩

end Go.Proofs.YtibmgmadoaencacDoor.WalkTileTells
