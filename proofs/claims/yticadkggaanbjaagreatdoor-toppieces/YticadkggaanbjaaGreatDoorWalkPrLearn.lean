/-
  What package prune's Learn does to a tree of the call's own, for every argument.
-/
import Derived.Test.YticadkggaanbjaaGreatDoorWalkPr
set_option maxRecDepth 100000
namespace Go.Proofs.YticadkggaanbjaaGreatDoor.WalkPrLearn
open Go.RowKit
open Lists (Row ints bt)
open Keeps (Kept owns_row owns_base)
open WalkCheck (errv errv0 errv_pos)
open WalkPrObj
open WalkPr (aggL sizeL anew_any err_cmp)
open Prunes

theorem check_in {root i sum : Int} {n : Nat} {p : List Int} (h : WalkProofCheck.checkE root n i sum p = 0) : ∃ Z : Nat, i = (Z : Int) ∧ Z < n := by
  unfold WalkProofCheck.checkE at h
  split at h
  · rename_i q
    obtain ⟨q0, q1, _⟩ := of_decide_eq_true q
    obtain ⟨Z, rfl⟩ := Int.eq_ofNat_of_zero_le q0
    exact ⟨Z, rfl, by omega⟩
  · cases h

set_option maxHeartbeats 2000000 in
theorem learn_any {w : World} {B b : Nat} {F : Nat → Prop} {root : Int} {k : Known} (h : Pt w B b F root k) (i sum : Int) (p : List Int) (a : Option Addr) (n cap : Nat) (hr : Row w a n cap (ints p)) (hn : n ≤ 17592186043904) :
    Calls Tryz.prog 36 #[.pointer (some ⟨b, 0, none⟩), .int .i64 i, .int .i64 sum, .slice a n cap] w fun e w' => e = .returned (errv (learnE (WalkProofCheck.checkE root k.length i sum p) k i sum)) ∧ ∃ F', Pt w' B b F' root (learned (WalkProofCheck.checkE root k.length i sum p) k i sum p) ∧ Kept F w w' ∧ ∀ j, F' j → F j ∨ w.heap.size ≤ j := by
  obtain ⟨m0, G0, hb0, _⟩ := h.core
  have c0 : w.cell? ⟨b, 0, none⟩ = some (.int .i64 (k.length : Int)) := hb0.cell (i := 0) (by omega)
  have c1 : w.cell? ⟨b, 1, none⟩ = some (.int .i64 root) := hb0.cell (i := 1) (by omega)
  have hbl := hb0.lt
  have cC := fun w' (q : Below w.heap.size w w') => WalkProofCheck.check_any root k.length i sum p a n cap w' (hr.below q) hn
  have HK : Hid (∀ w', Below w.heap.size w w' → w'.cell? ⟨b, 1, none⟩ = some (.int .i64 root) ∧ w'.cell? ⟨b, 0, none⟩ = some (.int .i64 (k.length : Int))) := fun w' q => ⟨Lists.cell_below q c1, Lists.cell_below q c0⟩
  obtain ⟨C, HC⟩ : ∃ C, Hid (WalkProofCheck.checkE root k.length i sum p = C) := ⟨_, rfl⟩
  rw [HC.out] at cC ⊢
  have HP : Hid (Pt w B b F root k) := h
  have HR : Hid (Row w a n cap (ints p)) := hr
  have HCk : Hid (∀ w', Below w.heap.size w w' → Calls Tryz.prog 16 #[.int .i64 root, .int .i64 (k.length : Int), .int .i64 i, .int .i64 sum, .slice a n cap] w' fun e w'' => e = .returned (errv C) ∧ Below w'.heap.size w' w'') := cC
  have ec := err_cmp
  obtain ⟨N, HN⟩ : ∃ N : Int, Hid ((k.length : Int) = N) := ⟨_, rfl⟩
  rw [HN.out] at c0 HK HCk
  clear h hr hb0 cC
  go_enter Tryz.func36, Tryz.ntmps36
  go_upto_region 1 with fail
  go_region_held3 (fun w' => w'.cell? ⟨b, 1, none⟩ = some (.int .i64 root) ∧ w'.cell? ⟨b, 0, none⟩ = some (.int .i64 N)) (first | exact ⟨c1, c0⟩ | exact ⟨s0, s1⟩ | go_keep) (first | (go_at_call 16; refine (HCk.out _ (Below.refl _ w).drew).mono ?_; rintro e w1 ⟨rfl, b1⟩; have HB1 : Hid (Below w.heap.size w w1) := bt (Below.refl _ w).drew b1; obtain ⟨s0, s1⟩ := HK.out w1 HB1.out; clear b1))
  by_cases hC : C = 0
  rotate_left
  · have HL : Hid (learnE C k i sum = C ∧ learned C k i sum p = k) := by
      have e : learnE C k i sum = C := if_pos hC
      exact ⟨e, by unfold learned; rw [e, if_neg hC]⟩
    have HE : Hid (∃ F', Pt w1 B b F' root k ∧ Kept F w w1 ∧ ∀ j, F' j → F j ∨ w.heap.size ≤ j) := ⟨F, HP.out.below HB1.out, Kept.of_below F HB1.out, fun _ q => .inl q⟩
    rw [errv_pos _ hC]
    have HCp : Hid (C ≠ 0) := hC
    clear hC
    go_wp2_with fail
    go_ret
    exact ⟨by rw [HL.out.1, errv_pos _ HCp.out]; rfl, by rw [HL.out.2]; exact HE.out⟩
  · subst hC
    obtain ⟨Z, rfl, hZ⟩ := check_in HC.out
    rw [errv0]
    have h1 := HP.out.below HB1.out
    obtain ⟨m, G, hb, hm, _, _, f3⟩ := h1.core
    have c2 : w1.cell? ⟨b, 2, none⟩ = some (.map (some m)) := hb.cell (i := 2) (by omega)
    obtain ⟨v, hl0, hno, hyes⟩ := holds_look hm (i := Z) hZ h1.size.2
    have hl := hl0 w1 rfl
    have a49 := aggL
    have z49 := sizeL
    have HZ : Hid (Z < k.length) := hZ
    clear hl0 hb hm f3 h1 ec
    cases hh : Prunes.has k Z
    · obtain ⟨s, x, y, z, rfl⟩ := hno hh
      rw [hh] at hl
      unfold lv at hl
      have HL : Hid (learnE 0 k Z sum = 0 ∧ learned 0 k Z sum p = k.set Z (some (sum, p))) := by
        have e : learnE 0 k Z sum = 0 := by
          unfold learnE
          rw [if_neg (fun q => q rfl), if_neg (fun q => by rw [Int.toNat_natCast, hh] at q; cases q.1)]
        exact ⟨e, by unfold learned; rw [if_pos e, Int.toNat_natCast]⟩
      have b2 : Below w1.heap.size w1 (w1.alloc (.cells #[.int .i64 s, .slice x y z] 149)) := (Below.refl _ _).alloc (Nat.le_refl _) _
      clear hno hyes hh hZ
      go_upto_region 5 with fail
      generalize w1.alloc (.cells #[.int .i64 s, .slice x y z] 149) = w2 at b2 ⊢
      have HB2 : Hid (Below w.heap.size w w2) := bt HB1.out b2
      clear b2 hl c2
      have h2 := HP.out.below HB2.out
      obtain ⟨m2, G2, hb2, hm2, f1, f2, f3⟩ := h2.core
      have c3 : w2.cell? ⟨b, 2, none⟩ = some (.map (some m2)) := hb2.cell (i := 2) (by omega)
      have cA := anew_any p a n cap w2.drew hn (HR.out.below (bt HB2.out (Below.refl _ w2).drew))
      have HPut : Hid (∀ v w3, Below w2.heap.size w2 w3 → w3.ownsRow w2.heap.size 3 1 v p.length (ints p) → ∃ x y, v = .slice x p.length y ∧ ∃ w4, (Instr.mapUpdate 143 (.map (some m2)) (.int .i64 (Z : Int)) (.agg #[.int .i64 sum, .slice x p.length y])).run Tryz.prog w3 = .ok () w4 ∧ w4.cell? ⟨b, 2, none⟩ = some (.map (some m2)) ∧ ∃ F', Pt w4 B b F' root (k.set Z (some (sum, p))) ∧ Kept F w2 w4 ∧ ∀ j, F' j → F j ∨ w2.heap.size ≤ j) := fun v w3 q o => put_next h2 hb2 hm2 f1 f2 f3 q HZ.out sum o
      have HK2 : Hid (∀ w', Below w2.heap.size w2 w' → w'.cell? ⟨b, 2, none⟩ = some (.map (some m2))) := fun w' q => Lists.cell_below q c3
      clear h2 hb2 hm2 f1 f2 f3 s0 s1
      go_upto_region 7 with fail
      go_region_held3 (fun w' => w'.cell? ⟨b, 2, none⟩ = some (.map (some m2))) (first | exact c3 | exact s2 | exact s4 | go_keep) (first | (go_at_call 103; refine cA.mono ?_; rintro e w3 ⟨v3, rfl, o3, b3⟩; have HB3 : Hid (Below w2.heap.size w2 w3) := bt (Below.refl _ w2).drew b3; have s2 : w3.cell? ⟨b, 2, none⟩ = some (.map (some m2)) := HK2.out w3 HB3.out; obtain ⟨x3, y3, rfl, w4, hput, s4, hpt⟩ := HPut.out v3 w3 HB3.out o3; have HPt : Hid (∃ F', Pt w4 B b F' root (k.set Z (some (sum, p))) ∧ Kept F w2 w4 ∧ ∀ j, F' j → F j ∨ w2.heap.size ≤ j) := hpt; clear b3 o3 hpt))
      go_wp2_with fail
      go_ret
      refine ⟨by rw [HL.out.1]; rfl, ?_⟩
      obtain ⟨F', q1, q2, q3⟩ := HPt.out
      rw [HL.out.2]
      exact ⟨F', q1, (Kept.of_below F HB2.out).trans q2 (fun _ q => .inl q), fun j hj => (q3 j hj).imp (fun q => q) fun q => Nat.le_trans HB2.out.size q⟩
    · obtain ⟨s, p0, e⟩ := has_iff.1 hh
      obtain ⟨x, z, hv, _⟩ := (hyes s p0 e).core
      injection hv with hv
      subst hv
      generalize p0.length = y at *
      rw [hh] at hl
      unfold lv at hl
      have hs := (sum_of e).1
      obtain ⟨l0, l1⟩ := WalkPr.leaf_new w1 s x y z
      have b2 : Below w1.heap.size w1 (w1.alloc (.cells #[.int .i64 s, .slice x y z] 149)) := (Below.refl _ _).alloc (Nat.le_refl _) _
      by_cases hq : s = sum
      · have HL : Hid (learnE 0 k Z sum = 0 ∧ learned 0 k Z sum p = k.set Z (some (sum, p))) := by
          have e : learnE 0 k Z sum = 0 := by
            unfold learnE
            rw [if_neg (fun q => q rfl), if_neg (fun q => by rw [Int.toNat_natCast, hs] at q; exact q.2 hq)]
          exact ⟨e, by unfold learned; rw [if_pos e, Int.toNat_natCast]⟩
        have hne : (s != sum) = false := by rw [hq]; simp
        clear hno hyes hh hZ hs e hq
        go_upto_region 5 with fail
        generalize w1.alloc (.cells #[.int .i64 s, .slice x y z] 149) = w2 at b2 l0 l1 ⊢
        have HB2 : Hid (Below w.heap.size w w2) := bt HB1.out b2
        clear b2 hl c2
        go_upto_region 7 with fail
        have h2 := HP.out.below HB2.out
        obtain ⟨m2, G2, hb2, hm2, f1, f2, f3⟩ := h2.core
        have c3 : w2.cell? ⟨b, 2, none⟩ = some (.map (some m2)) := hb2.cell (i := 2) (by omega)
        have cA := anew_any p a n cap w2.drew hn (HR.out.below (bt HB2.out (Below.refl _ w2).drew))
        have HPut : Hid (∀ v w3, Below w2.heap.size w2 w3 → w3.ownsRow w2.heap.size 3 1 v p.length (ints p) → ∃ x y, v = .slice x p.length y ∧ ∃ w4, (Instr.mapUpdate 143 (.map (some m2)) (.int .i64 (Z : Int)) (.agg #[.int .i64 sum, .slice x p.length y])).run Tryz.prog w3 = .ok () w4 ∧ w4.cell? ⟨b, 2, none⟩ = some (.map (some m2)) ∧ ∃ F', Pt w4 B b F' root (k.set Z (some (sum, p))) ∧ Kept F w2 w4 ∧ ∀ j, F' j → F j ∨ w2.heap.size ≤ j) := fun v w3 q o => put_next h2 hb2 hm2 f1 f2 f3 q HZ.out sum o
        have HK2 : Hid (∀ w', Below w2.heap.size w2 w' → w'.cell? ⟨b, 2, none⟩ = some (.map (some m2))) := fun w' q => Lists.cell_below q c3
        clear h2 hb2 hm2 f1 f2 f3 s0 s1
        go_upto_region 7 with fail
        go_region_held3 (fun w' => w'.cell? ⟨b, 2, none⟩ = some (.map (some m2))) (first | exact c3 | exact s2 | exact s4 | go_keep) (first | (go_at_call 103; refine cA.mono ?_; rintro e w3 ⟨v3, rfl, o3, b3⟩; have HB3 : Hid (Below w2.heap.size w2 w3) := bt (Below.refl _ w2).drew b3; have s2 : w3.cell? ⟨b, 2, none⟩ = some (.map (some m2)) := HK2.out w3 HB3.out; obtain ⟨x3, y3, rfl, w4, hput, s4, hpt⟩ := HPut.out v3 w3 HB3.out o3; have HPt : Hid (∃ F', Pt w4 B b F' root (k.set Z (some (sum, p))) ∧ Kept F w2 w4 ∧ ∀ j, F' j → F j ∨ w2.heap.size ≤ j) := hpt; clear b3 o3 hpt))
        go_wp2_with fail
        go_ret
        refine ⟨by rw [HL.out.1]; rfl, ?_⟩
        obtain ⟨F', q1, q2, q3⟩ := HPt.out
        rw [HL.out.2]
        exact ⟨F', q1, (Kept.of_below F HB2.out).trans q2 (fun _ q => .inl q), fun j hj => (q3 j hj).imp (fun q => q) fun q => Nat.le_trans HB2.out.size q⟩
      · have HL : Hid (learnE 0 k Z sum = 7 ∧ learned 0 k Z sum p = k) := by
          have e : learnE 0 k Z sum = 7 := by
            unfold learnE
            rw [if_neg (fun q => q rfl), if_pos ⟨by rw [Int.toNat_natCast, hh], by rw [Int.toNat_natCast, hs]; exact hq⟩]
          exact ⟨e, by unfold learned; rw [e, if_neg (by decide)]⟩
        have hne : (s != sum) = true := by rw [bne_iff_ne]; exact hq
        clear hno hyes hh hZ hs e hq
        go_upto_region 5 with fail
        generalize w1.alloc (.cells #[.int .i64 s, .slice x y z] 149) = w2 at b2 l0 l1 ⊢
        have HB2 : Hid (Below w.heap.size w w2) := bt HB1.out b2
        clear b2 hl c2
        go_wp2_with fail
        go_ret
        exact ⟨by rw [HL.out.1]; rfl, by rw [HL.out.2]; exact ⟨F, HP.out.below HB2.out, Kept.of_below F HB2.out, fun _ q => .inl q⟩⟩

end Go.Proofs.YticadkggaanbjaaGreatDoor.WalkPrLearn
