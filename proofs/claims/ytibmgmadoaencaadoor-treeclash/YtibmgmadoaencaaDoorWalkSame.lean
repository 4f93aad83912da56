/-
  What witsame.Texts returns on two lists of texts that are not too long; and small facts for the statements on trees.
-/
import Derived.Test.YtibmgmadoaencaaDoorWalkCollide
import Derived.Test.YtibmgmadoaencaaDoorWalkTold
namespace Go.Proofs.YtibmgmadoaencaaDoor.WalkSame
open Go.RowKit
open Lists (Row ints strs bt)
open WalkData (beq_yes beq_no below_drewN take_snoc)

/-- what the call owns, as a slice -/
theorem owns_slice {w : World} {base : Nat} {e : TypeId} {v : Value} {n : Nat} {xs : List Value} (h : w.ownsRow base e 1 v n xs) : ∃ a cap, v = .slice a n cap ∧ Row w a n cap xs := by
  have h' := h
  rcases h.2 with ⟨rfl, rfl⟩ | ⟨g, cap, cur, rfl, _⟩
  · exact ⟨_, _, rfl, (Row.of_owns h').2⟩
  · exact ⟨_, _, rfl, (Row.of_owns h').2⟩

set_option maxHeartbeats 1000000 in
theorem texts_any (l m : List ByteArray) (a b : Option Addr) (n k cap cap' : Nat) (w : World) (hr : Row w a n cap (strs l)) (hs : Row w b k cap' (strs m)) (hn : n ≤ 1000) :
    Calls Tryd.prog 30 #[.slice a n cap, .slice b k cap'] w fun e w' => e = .returned (.bool (decide (l = m))) ∧ Below w.heap.size w w' := by
  have hln : l.length = n := by rw [← hr.1, Lists.strs_length]
  have hmn : m.length = k := by rw [← hs.1, Lists.strs_length]
  have HR : Hid (Row w a n cap (strs l)) := hr
  have HS : Hid (Row w b k cap' (strs m)) := hs
  clear hr hs
  by_cases hnk : n = k
  · subst hnk
    go_enter Tryd.func30, Tryd.ntmps30
    go_wp2_with fail
    go_loopw [5] (fun i wr => ∃ j : Nat, j ≤ n ∧ i = .int .i64 j ∧ Hid (l.take j = m.take j) ∧ Below w.heap.size w wr) (fun i _ => n - (intOf i).toNat)
    case atStart => exact ⟨0, Nat.zero_le _, rfl, rfl, Below.refl _ _⟩
    case round =>
      obtain ⟨j, hj, rfl, HT, hb⟩ := hrel
      by_cases hlt : j < n
      · obtain ⟨b1, off1, rfl, hc1⟩ := (HR.out.below hb).2.2 (by omega)
        obtain ⟨b2, off2, rfl, hc2⟩ := (HS.out.below hb).2.2 (by omega)
        have cell1 := hc1 j _ (Lists.strs_at (by omega))
        have cell2 := hc2 j _ (Lists.strs_at (by omega))
        clear hc1 hc2
        have i1 : (j : Int) < (n : Int) := by omega
        have HL : Hid (l.take (j + 1) = l.take j ++ [l.getD j ByteArray.empty]) := take_snoc l j (by omega)
        have HM : Hid (m.take (j + 1) = m.take j ++ [m.getD j ByteArray.empty]) := take_snoc m j (by omega)
        have HE : Hid (l = m → l.getD j ByteArray.empty = m.getD j ByteArray.empty) := fun h => by rw [h]
        generalize l.getD j ByteArray.empty = x at cell1 HL HE
        generalize m.getD j ByteArray.empty = y at cell2 HM HE
        by_cases hxy : x = y
        · subst hxy
          have hq := beq_yes x
          go_wp2_with fail
          go_quiet (fail)
          go_wp2_with fail
          go_roundw
          case rel => exact ⟨j + 1, by omega, by go_num, (show l.take (j + 1) = m.take (j + 1) by rw [HL.out, HM.out, HT.out]), below_drewN hb _⟩
          case measure => simp [intOf]; omega
        · have hq := beq_no hxy
          have HN : Hid (decide (l = m) = false) := decide_eq_false fun h => hxy (HE.out h)
          clear hxy HE
          go_wp2_with fail
          go_quiet (fail)
          go_wp2_with fail
          go_ret
          exact ⟨by rw [HN.out]; rfl, below_drewN hb _⟩
      · have HQ : Hid (l = m) := by
          have h := HT.out
          rw [List.take_of_length_le (by omega), List.take_of_length_le (by omega)] at h
          exact h
        go_wp2_with fail
        go_ret
        exact ⟨by rw [decide_eq_true HQ.out]; rfl, hb⟩
  · have i1 : ((n : Int) != (k : Int)) = true := by rw [bne_iff_ne]; omega
    have HN : Hid (decide (l = m) = false) := decide_eq_false fun h => hnk (by rw [← hln, ← hmn, h])
    go_enter Tryd.func30, Tryd.ntmps30
    go_wp2_with fail
    go_ret
    exact ⟨by rw [HN.out]; rfl, Below.refl _ _⟩

theorem root_123 : Trees.rootV [1, 2, 3] = Sums.sum (Nums.nodeBytes (Sums.sum (Nums.nodeBytes 1 2)) 3) := by decide +kernel
theorem leafsE_123 : Trees.leafsE [1, 2, 3] = 0 := by decide +kernel

theorem root_three (w : World) : Calls Tryd.prog 22 #[.slice (some ⟨w.heap.size, 0, none⟩) 3 3] (w.alloc (.cells #[.int .i64 1, .int .i64 2, .int .i64 3] 3)) fun e w' =>
    e = .returned (.tuple #[.int .i64 (Sums.sum (Nums.nodeBytes (Sums.sum (Nums.nodeBytes 1 2)) 3)), .nilIface]) ∧ Below w.heap.size w w' := by
  have hr : Row (w.alloc (.cells #[.int .i64 1, .int .i64 2, .int .i64 3] 3)) (some ⟨w.heap.size, 0, none⟩) 3 3 (ints [1, 2, 3]) := by
    refine ⟨rfl, by omega, fun _ => ⟨_, _, rfl, fun j u hj => ?_⟩⟩
    rw [cell_of_row _ _ _ #[.int .i64 1, .int .i64 2, .int .i64 3] _ (0, 0) (heap_alloc_new w _)]
    rw [Nat.zero_add]
    simpa [ints] using hj
  have h := WalkCheck.root_any [1, 2, 3] _ 3 3 _ hr
  rw [root_123, leafsE_123] at h
  exact h.mono fun e w' ⟨he, hb⟩ => ⟨he, bt ((Below.refl _ _).alloc (Nat.le_refl _) _) hb⟩

end Go.Proofs.YtibmgmadoaencaaDoor.WalkSame
