/-
  The walk of TreeHalves: the root of leafs is the node of both halves' roots; of one it is itself, of none the sum of no bytes.
-/
import Derived.Test.YtibmgmadoaencabWalkCheck
namespace Go.Proofs.Ytibmgmadoaencab.WalkHalves
open Go.RowKit
open Lists (Row ints bt)
open WalkCheck (errv errv0 errv_pos)

theorem split_five (w : World) : Calls Try.prog 5 #[.int .i64 5] w fun e w' => e = .returned (.tuple #[.int .i64 4, .nilIface]) ∧ w' = w := by
  have h := WalkCheck.split_yes 5 w (by decide) (by decide)
  rwa [show Trees.half 5 = 4 by decide +kernel] at h

theorem at_ok (l : List Int) (lo hi : Nat) (h0 : Trees.leafsE l = 0) (h1 : lo ≤ hi) (h2 : hi ≤ l.length) : Trees.atE l (lo : Int) (hi : Int) = 0 ∧ Trees.atV l (lo : Int) (hi : Int) = Trees.root ((l.take hi).drop lo) := by
  have hb : Trees.atBad l.length (lo : Int) (hi : Int) = false := by unfold Trees.atBad; exact decide_eq_false (by omega)
  have e : Trees.atE l (lo : Int) (hi : Int) = 0 := by unfold Trees.atE; rw [if_pos h0, hb]; rfl
  refine ⟨e, ?_⟩
  rw [Trees.atV, if_pos e, Int.toNat_natCast, Int.toNat_natCast]

set_option maxHeartbeats 1000000 in
theorem walk (a : Option Addr) (n cap : Nat) (l : List Int) (hz : l.length * 8 ≤ 140737488351232) (_ : ∀ x ∈ l, (Lit.int .i64 x).wf = true) (w : World) (hr : Row w a n cap (ints l)) :
    Calls Try.prog 3 #[.slice a n cap] w fun e w' => e = .returned (.bool true) ∧ Below w.heap.size w w' := by
  have hln : l.length = n := by rw [← hr.1, Lists.ints_length]
  have c5 := split_five
  have cR := WalkCheck.root_any l a n cap w hr
  have HR : Hid (Row w a n cap (ints l)) := hr
  clear hr
  by_cases h0 : Trees.leafsE l = 0
  · have hn : n ≤ 200 := by
      have h := h0
      unfold Trees.leafsE at h
      rw [hln] at h
      split at h
      · cases h
      · omega
    have ha : Hid (Trees.allOk l = true) := by
      have h := h0
      unfold Trees.leafsE at h
      rw [hln, if_neg (by omega)] at h
      split at h
      · assumption
      · cases h
    rw [h0, errv0, show Trees.rootV l = Trees.root l from if_pos h0] at cR
    by_cases e0 : n = 0
    · rw [Trees.root_none l (by omega)] at cR
      subst e0
      go_enter Try.func3, Try.ntmps3
      go_wp2_with (first
        | (go_at_call 5; refine (c5 _).mono ?_; rintro e w' ⟨rfl, rfl⟩)
        | (go_at_call 6; refine cR.mono ?_; rintro e w1 ⟨rfl, b1⟩)
        | (go_at_call 7; refine (WalkSum.sum_any _ _ (by decide)).mono ?_; rintro e w' ⟨rfl, rfl⟩))
      go_ret
      exact ⟨rfl, b1⟩
    by_cases e1 : n = 1
    · rw [Trees.root_one l (by omega)] at cR
      obtain ⟨b, off, rfl, hc⟩ := HR.out.2.2 (by omega)
      have hc0 : w.cell? ⟨b, off, none⟩ = some (.int .i64 (l.getD 0 0)) := by
        have := hc 0 _ (Lists.ints_at (by omega))
        simpa using this
      have HC : Hid (w.cell? ⟨b, off, none⟩ = some (.int .i64 (l.getD 0 0))) := hc0
      clear hc hc0
      subst e1
      go_enter Try.func3, Try.ntmps3
      go_wp2_with (first
        | (go_at_call 5; refine (c5 _).mono ?_; rintro e w' ⟨rfl, rfl⟩)
        | (go_at_call 6; refine cR.mono ?_; rintro e w1 ⟨rfl, b1⟩; have hc1 := Lists.cell_below b1 HC.out))
      go_ret
      exact ⟨rfl, b1⟩
    have h2 : 2 ≤ n := by omega
    have kl := Trees.half_lt n h2
    have kg := Trees.half_ge n h2
    have cS := fun w => WalkCheck.split_yes n w h2 hn
    have e := Trees.root_more l (by omega)
    rw [hln] at e
    generalize Trees.half n = k at kl kg cS e
    have cA1 : ∀ w1, Below w.heap.size w w1 → Calls Try.prog 8 #[.slice a n cap, .int .i64 0, .int .i64 (k : Int)] w1 fun e w' => e = .returned (.tuple #[.int .i64 (Trees.root (l.take k)), .nilIface]) ∧ Below w1.heap.size w1 w' := by
      intro w1 b1
      have h := WalkCheck.at_any l a n cap ((0 : Nat) : Int) (k : Int) w1 (HR.out.below b1)
      obtain ⟨q1, q2⟩ := at_ok l 0 k h0 (by omega) (by omega)
      rw [q1, q2, errv0] at h
      exact h
    have cA2 : ∀ w1, Below w.heap.size w w1 → Calls Try.prog 8 #[.slice a n cap, .int .i64 (k : Int), .int .i64 (n : Int)] w1 fun e w' => e = .returned (.tuple #[.int .i64 (Trees.root (l.drop k)), .nilIface]) ∧ Below w1.heap.size w1 w' := by
      intro w1 b1
      have h := WalkCheck.at_any l a n cap (k : Int) (n : Int) w1 (HR.out.below b1)
      obtain ⟨q1, q2⟩ := at_ok l k n h0 (by omega) (by omega)
      rw [q1, q2, errv0, List.take_of_length_le (by omega)] at h
      exact h
    have cN : ∀ w1, Calls Try.prog 9 #[.int .i64 (Trees.root (l.take k)), .int .i64 (Trees.root (l.drop k))] w1 fun e w' => e = .returned (.tuple #[.int .i64 (Trees.root l), .nilIface]) ∧ Below w1.heap.size w1 w' := by
      intro w1
      have v1 : ∀ x ∈ l.take k, Nums.valid x = true := fun x hx => Trees.allOk_mem ha.out x (List.mem_of_mem_take hx)
      have v2 : ∀ x ∈ l.drop k, Nums.valid x = true := fun x hx => Trees.allOk_mem ha.out x (List.mem_of_mem_drop hx)
      rw [e]
      exact WalkMix.node_yes _ _ _ (Trees.root_valid _ v1) (Trees.root_valid _ v2)
    generalize Trees.root l = X at cR cN
    generalize Trees.root (l.take k) = Y at cA1 cN
    generalize Trees.root (l.drop k) = Z at cA2 cN
    have i0 : ¬ (n : Int) = 0 := by omega
    have i1 : ¬ (n : Int) = 1 := by omega
    clear e h0 ha
    go_enter Try.func3, Try.ntmps3
    go_wp2_with fail
    refine (c5 _).mono ?_
    rintro e w' ⟨rfl, rfl⟩
    go_wp2_with fail
    refine cR.mono ?_
    rintro e w1 ⟨rfl, b1⟩
    go_wp2_with fail
    refine (cS _).mono ?_
    rintro e w2 ⟨rfl, rfl⟩
    go_wp2_with fail
    refine (cA1 _ b1).mono ?_
    rintro e w2 ⟨rfl, b2⟩
    replace b1 := bt b1 b2
    clear b2 cA1
    go_wp2_with fail
    refine (cA2 _ b1).mono ?_
    rintro e w3 ⟨rfl, b2⟩
    replace b1 := bt b1 b2
    clear b2 cA2
    go_wp2_with fail
    refine (cN _).mono ?_
    rintro e w4 ⟨rfl, b2⟩
    replace b1 := bt b1 b2
    clear b2 cN cR cS
    go_wp2_with fail
    go_ret
    exact ⟨congrArg Ending.returned (congrArg Value.bool (decide_eq_true (by omega))), b1⟩
  · rw [errv_pos _ h0] at cR
    clear h0
    go_enter Try.func3, Try.ntmps3
    go_wp2_with (first
      | (go_at_call 5; refine (c5 _).mono ?_; rintro e w' ⟨rfl, rfl⟩)
      | (go_at_call 6; refine cR.mono ?_; rintro e w1 ⟨rfl, b1⟩))
    go_ret
    exact ⟨rfl, b1⟩

end Go.Proofs.Ytibmgmadoaencab.WalkHalves
