/-
  What the document's own answers (package witref1) return on data: Data, Sums, same and Clash.
-/
import Derived.Test.YtibmgmadoaencaaDoorWalkTreeRef
import Derived.Test.YtibmgmadoaencaaDoorWalkSame
import Derived.StillTailTactics
namespace Go.Proofs.YtibmgmadoaencaaDoor.WalkDataRef
open Go.RowKit
open Lists (Row ints strs bt)
open WalkData (beq_yes beq_no below_drewN take_snoc)
open WalkSame (owns_slice)
open Go.Sort (grow)

/-- what the call owns stays, while nothing old turns -/
theorem owns_below {w w' : World} {base : Nat} {e : TypeId} {v : Value} {n : Nat} {xs : List Value} (h : w.ownsRow base e 1 v n xs) (b : Below w.heap.size w w') : w'.ownsRow base e 1 v n xs := by
  refine ⟨h.1, ?_⟩
  rcases h.2 with h2 | ⟨g, cap, cur, hv, hg, hh, r⟩
  · exact .inl h2
  · exact .inr ⟨g, cap, cur, hv, hg, by rw [b.block g (by rcases Nat.lt_or_ge g w.heap.size with k | k; exact k; rw [Array.getElem?_eq_none k] at hh; cases hh)]; exact hh, r⟩

/-- what is wrong with data: 4 too much, 0 nothing -/
def dataE (l : List ByteArray) : Int := if Trees.dataOk l = true then 0 else 4

set_option maxHeartbeats 1000000 in
theorem data_any (l : List ByteArray) (a : Option Addr) (n cap : Nat) (w : World) (hr : Row w a n cap (strs l)) :
    Calls Tryd.prog 26 #[.slice a n cap] w fun e w' => e = .returned (.int .i64 (dataE l)) ∧ w' = w := by
  have hln : l.length = n := by rw [← hr.1, Lists.strs_length]
  have HR : Hid (Row w a n cap (strs l)) := hr
  clear hr
  by_cases h4 : n ≤ 200
  · have e4 : Hid (Trees.dataOk l = Trees.shortOk l) := by
      show _ = _
      unfold Trees.dataOk
      rw [decide_eq_true (by omega : l.length ≤ 200), Bool.true_and]
    have i4 : ¬ (200 : Int) < (n : Int) := by omega
    go_enter Tryd.func26, Tryd.ntmps26
    go_wp2_with fail
    go_loop [3] (fun i => ∃ k : Nat, k ≤ n ∧ i = .int .i64 k ∧ Hid (Trees.shortOk (l.take k) = true)) (fun i => n - (intOf i).toNat)
    case atStart => exact ⟨0, Nat.zero_le _, rfl, rfl⟩
    case round =>
      obtain ⟨k, hk, rfl, HA⟩ := hrel
      by_cases hlt : k < n
      · obtain ⟨b, off, rfl, hc⟩ := HR.out.2.2 (by omega)
        have hcell := hc k _ (Lists.strs_at (by omega))
        clear hc
        have i1 : (k : Int) < (n : Int) := by omega
        have HS : Hid (Trees.shortOk (l.take (k + 1)) = (Trees.shortOk (l.take k) && decide ((l.getD k ByteArray.empty).size ≤ 200))) := Trees.shortOk_snoc l k (by omega)
        have HN : Hid (decide ((l.getD k ByteArray.empty).size ≤ 200) = false → Trees.shortOk l = false) := Trees.shortOk_no l k (by omega)
        generalize l.getD k ByteArray.empty = x at hcell HS HN
        by_cases hx : x.size ≤ 200
        · have i2 : ¬ (200 : Int) < (x.size : Int) := by omega
          have HX : Hid (decide (x.size ≤ 200) = true) := decide_eq_true hx
          clear hx
          go_wp2_with fail
          go_round
          case rel => exact ⟨k + 1, by omega, by go_num, (show Trees.shortOk (l.take (k + 1)) = true by rw [HS.out, HA.out, HX.out]; rfl)⟩
          case measure => simp [intOf]; omega
        · have i2 : (200 : Int) < (x.size : Int) := by omega
          have HX : Hid (decide (x.size ≤ 200) = false) := decide_eq_false hx
          clear hx
          go_wp2_with fail
          go_ret
          exact ⟨by rw [dataE, e4.out, HN.out HX.out]; rfl, rfl⟩
      · have i1 : ¬ (k : Int) < (n : Int) := by omega
        have HT : Hid (Trees.shortOk l = true) := by have h := HA.out; rw [List.take_of_length_le (by omega)] at h; exact h
        go_wp2_with fail
        go_ret
        exact ⟨by rw [dataE, e4.out, HT.out]; rfl, rfl⟩
  · have e4 : Hid (Trees.dataOk l = false) := by
      show _ = _
      unfold Trees.dataOk
      rw [decide_eq_false (by omega : ¬ l.length ≤ 200), Bool.false_and]
    have i4 : (200 : Int) < (n : Int) := by omega
    go_enter Tryd.func26, Tryd.ntmps26
    go_wp2_with fail
    go_ret
    exact ⟨by rw [dataE, e4.out]; rfl, rfl⟩

set_option maxHeartbeats 1000000 in
theorem sums_any (d : List ByteArray) (a : Option Addr) (n cap : Nat) (w : World) (hn : n ≤ 1000000) (hr : Row w a n cap (strs d)) (hd : ∀ s ∈ d, s.size ≤ 140737488351232) :
    Calls Tryd.prog 27 #[.slice a n cap] w fun e w' => ∃ p c, e = .returned (.slice p n c) ∧ Row w' p n c (ints (Trees.leafs d)) ∧ Below w.heap.size w w' := by
  have hln : d.length = n := by rw [← hr.1, Lists.strs_length]
  have HR : Hid (Row w a n cap (strs d)) := hr
  have HD : Hid (∀ s ∈ d, s.size ≤ 140737488351232) := hd
  clear hr hd
  obtain ⟨i0, hi, hz0, hz1, hz2⟩ := info_parts WalkData.info3
  go_enter Tryd.func27, Tryd.ntmps27
  go_wp2_with fail
  go_loopw [3, 4] (fun v i wr => ∃ j : Nat, j ≤ n ∧ i = .int .i64 j ∧ wr.ownsRow w.heap.size 3 1 v j (ints (Trees.leafs (d.take j))) ∧ Below w.heap.size w wr) (fun _ i _ => n - (intOf i).toNat)
  case atStart => exact ⟨0, Nat.zero_le _, rfl, World.ownsRow_nil _ _ _ _, Below.refl _ _⟩
  case round =>
    obtain ⟨j, hj, rfl, hown, hb⟩ := hrel
    by_cases h1 : j < n
    · have i1 : (j : Int) < (n : Int) := by omega
      obtain ⟨b1, off1, rfl, hc1⟩ := (HR.out.below hb).2.2 (by omega)
      have cell1 := hc1 j _ (Lists.strs_at (by omega))
      clear hc1
      have HT : Hid (ints (Trees.leafs (d.take (j + 1))) = ints (Trees.leafs (d.take j)) ++ [.int .i64 (Trees.leaf (d.getD j ByteArray.empty))]) := by
        show _ = _
        rw [take_snoc d j (by omega)]
        simp [ints, Trees.leafs]
      have HS : Hid ((d.getD j ByteArray.empty).size ≤ 140737488351232) := HD.out _ (by rw [List.getD_eq_getElem?_getD, List.getElem?_eq_getElem (by omega)]; exact List.getElem_mem _)
      generalize d.getD j ByteArray.empty = s at cell1 HT HS
      have HO : Hid (wr.ownsRow w.heap.size 3 1 u3 j (ints (Trees.leafs (d.take j)))) := hown
      clear hown
      go_wp2_with fail
      refine (WalkRef.leaf_any s _ HS.out).mono ?_
      rintro e w1 ⟨rfl, b1⟩
      have hown : w1.ownsRow w.heap.size 3 1 u3 j (ints (Trees.leafs (d.take j))) := owns_below HO.out b1
      replace hb := bt hb b1
      clear b1 HO cell1
      go_wp2_with (first
        | (at_builtin; refine wpList_append_own _ rfl (.tmp 17) (.tmp 19) 38 rfl w.heap.size 3 i0 (.int .i64 0) 1 8 Tryd.underlying38 hi hz0 hz1 hz2 rfl (by decide) _ _ _ rfl (hown.alloc _) ⟨_, 0, none⟩ 1 1 [.int .i64 (Sums.sum (0 :: s.data.toList))] rfl rfl (WalkRef.one_at _ _ _) (WalkRef.one_cell _ _) (by unfold maxLen; omega) (by omega) (by have := hb.size; simp; omega) ?_; intro v1 wn o1 g1 _))
      have o2 : wn.ownsRow w.heap.size 3 1 v1 (j + 1) (ints (Trees.leafs (d.take (j + 1)))) := by rw [HT.out]; exact o1
      have bn1 : Below w.heap.size w wn := (hb.alloc hb.size _).grown g1 (by have := hb.size; simp; omega) (fun k hk => (hown.lt k hk).1)
      clear o1 g1 HT hown
      go_wp2_with fail
      go_roundw
      case rel => exact ⟨j + 1, by omega, by go_num, o2, bn1⟩
      case measure => simp [intOf]; omega
    · obtain ⟨p, c, rfl, hrow⟩ := owns_slice hown
      obtain rfl : j = n := by omega
      have i1 : ¬ (j : Int) < (j : Int) := by omega
      have HO : Hid (Row wr p j c (ints (Trees.leafs d))) := by rw [List.take_of_length_le (by omega)] at hrow; exact hrow
      clear hown hrow
      go_wp2_with fail
      go_ret
      exact ⟨_, _, rfl, HO.out, hb⟩

set_option maxHeartbeats 1000000 in
theorem same_any (l m : List ByteArray) (a b : Option Addr) (n cap cap' : Nat) (w : World) (hr : Row w a n cap (strs l)) (hs : Row w b n cap' (strs m)) (hn : n ≤ 1000) :
    Calls Tryd.prog 43 #[.slice a n cap, .slice b n cap'] w fun e w' => e = .returned (.bool (decide (l = m))) ∧ Below w.heap.size w w' := by
  have hln : l.length = n := by rw [← hr.1, Lists.strs_length]
  have hmn : m.length = n := by rw [← hs.1, Lists.strs_length]
  have HR : Hid (Row w a n cap (strs l)) := hr
  have HS : Hid (Row w b n cap' (strs m)) := hs
  clear hr hs
  go_enter Tryd.func43, Tryd.ntmps43
  go_wp2_with fail
  go_loopw [5] (fun i wr => ∃ j : Nat, j ≤ n ∧ i = .int .i64 j ∧ Hid (l.take j = m.take j) ∧ Below w.heap.size w wr) (fun i _ => n - (intOf i).toNat)
  case atStart => exact ⟨0, Nat.zero_le _, rfl, rfl, Below.refl _ _⟩
  case round =>
    obtain ⟨j, hj, rfl, HT, hb⟩ := hrel
    by_cases hlt : j < n
    · obtain ⟨b1, off1, rfl, hc1⟩ := (HR.out.below hb).2.2 (by omega)
      obtain ⟨b2, off2, rfl, hc2⟩ := (HS.out.below hb).2.2 (by omega)
      have cell1 := hc1 j _ (Lists.strs_at (by omega))
      have cell2 := hc2 j _ (Lists.strs_at (by omega))
      clear hc1 hc2
      have i1 : (j : Int) < (n : Int) := by omega
      have HL : Hid (l.take (j + 1) = l.take j ++ [l.getD j ByteArray.empty]) := take_snoc l j (by omega)
      have HM : Hid (m.take (j + 1) = m.take j ++ [m.getD j ByteArray.empty]) := take_snoc m j (by omega)
      have HE : Hid (l = m → l.getD j ByteArray.empty = m.getD j ByteArray.empty) := fun h => by rw [h]
      generalize l.getD j ByteArray.empty = x at cell1 HL HE
      generalize m.getD j ByteArray.empty = y at cell2 HM HE
      by_cases hxy : x = y
      · subst hxy
        have hq := beq_yes x
        go_wp2_with fail
        go_quiet (fail)
        go_wp2_with fail
        go_roundw
        case rel => exact ⟨j + 1, by omega, by go_num, (show l.take (j + 1) = m.take (j + 1) by rw [HL.out, HM.out, HT.out]), below_drewN hb _⟩
        case measure => simp [intOf]; omega
      · have hq := beq_no hxy
        have HN : Hid (decide (l = m) = false) := decide_eq_false fun h => hxy (HE.out h)
        clear hxy HE
        go_wp2_with fail
        go_quiet (fail)
        go_wp2_with fail
        go_ret
        exact ⟨by rw [HN.out]; rfl, below_drewN hb _⟩
    · have HQ : Hid (l = m) := by
        have h := HT.out
        rw [List.take_of_length_le (by omega), List.take_of_length_le (by omega)] at h
        exact h
      have i1 : ¬ (j : Int) < (n : Int) := by omega
      go_wp2_with fail
      go_ret
      exact ⟨by rw [decide_eq_true HQ.out]; rfl, hb⟩

end Go.Proofs.YtibmgmadoaencaaDoor.WalkDataRef
