/-
  The walk of GrowSame: from one size to itself there is nothing to prove; of another root it is none.
-/
import Derived.Test.YtibmgmadoaencacDoorWalkGrow
import Derived.Test.YtibmgmadoaencacDoorWalkTold
namespace Go.Proofs.YtibmgmadoaencacDoor.WalkGrowSame
open Go.RowKit
open Lists (Row ints bt)
open WalkTold (Laid)
open WalkCheck (errv errv0 errv_pos)
open GrowsE (inGrow inGrow_of inGrow_no growE growE_is)

theorem row_one (w : World) : Row (w.alloc (.cells #[.int .i64 1] 3)) (some ⟨w.heap.size, 0, none⟩) 1 1 (ints [1]) := by
  refine ⟨rfl, Nat.le_refl _, fun _ => ⟨w.heap.size, 0, rfl, fun j u hj => ?_⟩⟩
  match j, hj with
  | 0, hj => simp [ints] at hj; subst hj; simp
theorem same_none {ra rb N : Int} {n : Nat} (hN : N = n) (h1 : 1 ≤ n) (hn : n ≤ 200) (va : Nums.valid ra = true) (vb : Nums.valid rb = true) : growE ra N rb N [] = if ra = rb then 0 else 8 := by
  rw [growE_is hN hN h1 (Nat.le_refl _) hn va vb (by intro x hx; cases hx)]
  unfold Grows.grownE
  obtain ⟨q1, q2⟩ := Grows.of_same ra n [] true (by rw [Grows.gsteps_same]; rfl)
  rw [if_pos (by rw [Grows.gsteps_same]; rfl), q1, q2]
  by_cases h : ra = rb
  · rw [if_pos ⟨rfl, h⟩, if_pos h]
  · rw [if_neg (fun k => h k.2), if_neg h]
theorem same_more {ra N : Int} {n : Nat} (hN : N = n) (h1 : 1 ≤ n) (hn : n ≤ 200) (va : Nums.valid ra = true) : growE ra N ra N [1] = 3 := by
  rw [growE_is hN hN h1 (Nat.le_refl _) hn va va (by intro x hx; simp at hx; rw [hx]; decide)]
  unfold Grows.grownE
  rw [if_neg (by rw [Grows.gsteps_same]; decide)]

set_option maxHeartbeats 4000000 in
set_option maxRecDepth 100000 in
theorem walk (ra : Int) (_ : (Lit.int .i64 ra).wf = true) (rb : Int) (_ : (Lit.int .i64 rb).wf = true) (N : Int) (_ : (Lit.int .i64 N).wf = true) (w : World) (hL : Laid w) :
    Calls Tryd.prog 6 #[.int .i64 ra, .int .i64 rb, .int .i64 N] w fun e w' => e = .returned (.bool true) ∧ Below w.heap.size w w' := by
  have HL : Hid (Laid w) := hL
  clear hL
  by_cases h0 : ra < 0
  · go_enter Tryd.func6, Tryd.ntmps6
    go_wp2_with fail
    go_ret
    exact ⟨rfl, Below.refl _ _⟩
  by_cases h1 : 2147483647 ≤ ra
  · go_enter Tryd.func6, Tryd.ntmps6
    go_wp2_with fail
    go_ret
    exact ⟨rfl, Below.refl _ _⟩
  by_cases h2 : rb < 0
  · go_enter Tryd.func6, Tryd.ntmps6
    go_wp2_with fail
    go_ret
    exact ⟨rfl, Below.refl _ _⟩
  by_cases h3 : 2147483647 ≤ rb
  · go_enter Tryd.func6, Tryd.ntmps6
    go_wp2_with fail
    go_ret
    exact ⟨rfl, Below.refl _ _⟩
  have va : Nums.valid ra = true := Nums.valid_iff.2 ⟨by omega, by omega⟩
  have vb : Nums.valid rb = true := Nums.valid_iff.2 ⟨by omega, by omega⟩
  have c1 := WalkGrow.check_any ra N rb N [] none 0 0 w (Row.nil _ _ _) (by omega)
  cases hg : inGrow N N 200
  · rw [show growE ra N rb N [] = 1 by unfold growE; rw [if_neg (fun h => by rw [hg] at h; cases h.1)], errv_pos 1 (by decide)] at c1
    have hex := inGrow_no hg
    have cE : ∀ w1, Laid w1 → Calls Tryd.prog 9 #[.iface 53 (.int .i64 1), .int .i64 1] w1 fun r w' => r = .returned (.bool true) ∧ Below w1.heap.size w1 w' := fun w1 h => WalkTold.error_is 1 1 w1 h
    clear hg va vb
    rcases hex with q1 | ⟨q1, q2⟩ | ⟨q1, q2, q3⟩
    · go_enter Tryd.func6, Tryd.ntmps6
      go_wp2_with fail
      refine c1.mono ?_
      rintro e w1 ⟨rfl, b1⟩
      have c2 := cE w1 (HL.out.below b1)
      clear c1 cE
      go_wp2_with fail
      refine c2.mono ?_
      rintro e w2 ⟨rfl, b2⟩
      clear c2
      go_wp2_with fail
      go_ret
      exact ⟨rfl, bt b1 b2⟩
    · omega
    · go_enter Tryd.func6, Tryd.ntmps6
      go_wp2_with fail
      refine c1.mono ?_
      rintro e w1 ⟨rfl, b1⟩
      have c2 := cE w1 (HL.out.below b1)
      clear c1 cE
      go_wp2_with fail
      refine c2.mono ?_
      rintro e w2 ⟨rfl, b2⟩
      clear c2
      go_wp2_with fail
      go_ret
      exact ⟨rfl, bt b1 b2⟩
  · obtain ⟨n, n', hN, hN', hn1, _, hn2⟩ := inGrow_of hg
    have q1 : ¬ N < 1 := by omega
    have q2 : ¬ (200 : Int) < N := by omega
    rw [same_none hN hn1 (by omega) va vb] at c1
    have c3 := fun w1 => WalkGrow.check_any ra N ra N [1] _ 1 1 _ (row_one w1) (by omega)
    rw [same_more hN hn1 (by omega) va, errv_pos 3 (by decide)] at c3
    have cE3 : ∀ w1, Laid w1 → Calls Tryd.prog 9 #[.iface 53 (.int .i64 3), .int .i64 3] w1 fun r w' => r = .returned (.bool true) ∧ Below w1.heap.size w1 w' := fun w1 h => WalkTold.error_is 3 3 w1 h
    have cE8 : ∀ w1, Laid w1 → Calls Tryd.prog 9 #[.iface 53 (.int .i64 8), .int .i64 8] w1 fun r w' => r = .returned (.bool true) ∧ Below w1.heap.size w1 w' := fun w1 h => WalkTold.error_is 8 8 w1 h
    clear hg hN hN' va vb
    by_cases he : ra = rb
    · rw [if_pos he, errv0] at c1
      have x1 : (ra == rb) = true := by rw [he]; simp
      have x2 : (ra != rb) = false := by rw [he]; simp
      clear he
      go_enter Tryd.func6, Tryd.ntmps6
      go_wp2_with fail
      refine c1.mono ?_
      rintro e w1 ⟨rfl, b1⟩
      clear c1
      go_wp2_with fail
      refine (c3 _).mono ?_
      rintro e w2 ⟨rfl, b2⟩
      have b2' : Below w.heap.size w w2 := bt (b1.alloc b1.size _) b2
      have c4 := cE3 w2 (HL.out.below b2')
      clear c3 b2
      go_wp2_with fail
      refine c4.mono ?_
      rintro e w3 ⟨rfl, b3⟩
      clear c4
      go_wp2_with fail
      go_ret
      exact ⟨rfl, bt b2' b3⟩
    · rw [if_neg he, errv_pos 8 (by decide)] at c1
      have x1 : (ra == rb) = false := by rw [beq_eq_false_iff_ne]; exact he
      have x2 : (ra != rb) = true := by rw [bne_iff_ne]; exact he
      clear he
      go_enter Tryd.func6, Tryd.ntmps6
      go_wp2_with fail
      refine c1.mono ?_
      rintro e w1 ⟨rfl, b1⟩
      clear c1
      go_wp2_with fail
      refine (c3 _).mono ?_
      rintro e w2 ⟨rfl, b2⟩
      have b2' : Below w.heap.size w w2 := bt (b1.alloc b1.size _) b2
      have c4 := cE3 w2 (HL.out.below b2')
      clear c3 b2
      go_wp2_with fail
      refine c4.mono ?_
      rintro e w3 ⟨rfl, b3⟩
      have b3' : Below w.heap.size w w3 := bt b2' b3
      have c5 := cE8 w3 (HL.out.below b3')
      clear c4
      go_wp2_with fail
      refine c5.mono ?_
      rintro e w4 ⟨rfl, b4⟩
      clear c5
      go_wp2_with fail
      go_ret
      exact ⟨rfl, bt b3' b4⟩

end Go.Proofs.YtibmgmadoaencacDoor.WalkGrowSame
