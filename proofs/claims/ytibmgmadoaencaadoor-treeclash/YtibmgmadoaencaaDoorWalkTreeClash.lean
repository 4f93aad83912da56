/-
  The walk of TreeClash: of two lists that are not the same, as long, and of one root, two texts come that are not the same and have one sum.
-/
import Derived.Test.YtibmgmadoaencaaDoorWalkSame
import Derived.Test.YtibmgmadoaencaaDoorWalkRef
import Derived.Deep.CutBlock
import Derived.Deep.DeepCutAuto
namespace Go.Proofs.YtibmgmadoaencaaDoor.WalkTreeClash
open Go.RowKit
open Lists (Row ints strs bt)
open WalkTold (Laid)
open WalkSame (owns_slice)
open Go.Sort (grow)

theorem node_12 (w : World) : Calls Tryd.prog 9 #[.int .i64 1, .int .i64 2] w fun e w' => e = .returned (.tuple #[.int .i64 (Sums.sum (Nums.nodeBytes 1 2)), .nilIface]) ∧ Below w.heap.size w w' :=
  WalkMix.node_yes 1 2 w (by decide) (by decide)
theorem node_3 (w : World) : Calls Tryd.prog 9 #[.int .i64 (Sums.sum (Nums.nodeBytes 1 2)), .int .i64 3] w fun e w' => e = .returned (.tuple #[.int .i64 (Sums.sum (Nums.nodeBytes (Sums.sum (Nums.nodeBytes 1 2)) 3)), .nilIface]) ∧ Below w.heap.size w w' :=
  WalkMix.node_yes _ 3 w (Trees.valid_sum _) (by decide)

theorem leafsE_leafs (d : List ByteArray) (h : d.length ≤ 200) : Trees.leafsE (Trees.leafs d) = 0 := by
  unfold Trees.leafsE
  rw [Trees.leafs_length, if_neg (by omega), if_pos (show Trees.allOk (Trees.leafs d) = true from List.all_eq_true.2 (Trees.leafs_valid d))]

theorem errv_eq (e : Nat) : WalkCheck.errv e = WalkTold.errv e := rfl

set_option maxHeartbeats 8000000 in
set_option maxRecDepth 100000 in
theorem walk (a : Option Addr) (n cap : Nat) (x : List ByteArray) (hz : x.length * 16 ≤ 140737488351232) (hx : ∀ s ∈ x, s.size ≤ maxLen) (b : Option Addr) (m cap' : Nat) (y : List ByteArray) (hz' : y.length * 16 ≤ 140737488351232) (hy : ∀ s ∈ y, s.size ≤ maxLen)
    (w : World) (hr : Row w a n cap (strs x)) (hs : Row w b m cap' (strs y)) (hL : Laid w) :
    Calls Tryd.prog 5 #[.slice a n cap, .slice b m cap'] w fun e w' => e = .returned (.bool true) ∧ Below w.heap.size w w' := by
  have hlx : x.length = n := by rw [← hr.1, Lists.strs_length]
  have hly : y.length = m := by rw [← hs.1, Lists.strs_length]
  have HX : Hid (Row w a n cap (strs x)) := hr
  have HY : Hid (Row w b m cap' (strs y)) := hs
  have HL : Hid (Laid w) := hL
  have SX : Hid (∀ s ∈ x, s.size ≤ maxLen) := hx
  have SY : Hid (∀ s ∈ y, s.size ≤ maxLen) := hy
  clear hr hs hL hx hy
  go_enter Tryd.func5, Tryd.ntmps5
  go_wp2_with fail
  refine (WalkSame.root_three w).mono ?_
  rintro e w1 ⟨rfl, bw⟩
  go_wp2_with fail
  refine (node_12 _).mono ?_
  rintro e w2 ⟨rfl, b2⟩
  replace bw := bt bw b2
  clear b2
  go_wp2_with fail
  refine (node_3 _).mono ?_
  rintro e w3 ⟨rfl, b2⟩
  replace bw := bt bw b2
  clear b2
  go_wp2_with fail
  refine (WalkCollide.collide_any x y a b n m cap cap' _ (HX.out.below bw) (HY.out.below bw)).mono ?_
  rintro e w4 ⟨rfl, b2⟩
  replace bw := bt bw b2
  clear b2
  by_cases h0 : Trees.collideE x y = 0
  · obtain ⟨dx, dy, hl, hne, hroot, hv⟩ := Trees.collide_is0 h0
    obtain ⟨q1, q2⟩ := Trees.clash_true (x.length + 1) x y (Nat.lt_succ_self _) hl hne hroot
    obtain ⟨z1, z2⟩ := Trees.clash_size (x.length + 1) x y (Nat.lt_succ_self _) (Trees.dataOk_parts dx).2 (Trees.dataOk_parts dy).2
    rw [hv, h0]
    clear hv h0 dx dy hl hne hroot
    have hq : ((Trees.clash x y).1.toList == (Trees.clash x y).2.toList) = false := WalkData.beq_no q1
    have c1 : ∀ w1 q os, Calls Tryd.prog 16 #[.string (Trees.clash x y).1] (grow (redrawn w1 q) os) fun e w'' => e = .returned (.int .i64 (Sums.sum (Trees.clash x y).1.data.toList)) ∧ ∃ p : Regrown, w'' = grow (redrawn w1 p.d) p.os :=
      fun w1 q os => Calls.regrown_of ((WalkSum.sum_any _ _ (Nat.le_trans z1 (by decide))).mono fun e w' ⟨he, hw⟩ => ⟨he, hw ▸ Below.refl _ _⟩)
    have c2 : ∀ w1 q os, Calls Tryd.prog 16 #[.string (Trees.clash x y).2] (grow (redrawn w1 q) os) fun e w'' => e = .returned (.int .i64 (Sums.sum (Trees.clash x y).2.data.toList)) ∧ ∃ p : Regrown, w'' = grow (redrawn w1 p.d) p.os :=
      fun w1 q os => Calls.regrown_of ((WalkSum.sum_any _ _ (Nat.le_trans z2 (by decide))).mono fun e w' ⟨he, hw⟩ => ⟨he, hw ▸ Below.refl _ _⟩)
    rw [q2] at c1
    clear q1 q2 z1 z2
    generalize (Trees.clash x y).1 = A at hq c1 ⊢
    generalize (Trees.clash x y).2 = B at hq c1 c2 ⊢
    generalize Sums.sum B.data.toList = T at c1 c2
    rw [show WalkCheck.errv 0 = .nilIface from rfl]
    have bn : Below w.heap.size w (w4.alloc (.cells #[.string A, .string B] 48)) := bw.alloc bw.size _
    have e0 : (w4.alloc (.cells #[.string A, .string B] 48)).cell? ⟨w4.heap.size, 0, none⟩ = some (.string A) := by simp
    have e1 : (w4.alloc (.cells #[.string A, .string B] 48)).cell? ⟨w4.heap.size, 1, none⟩ = some (.string B) := by simp
    go_wp2_with fail
    generalize w4.alloc (.cells #[.string A, .string B] 48) = w5 at bn e0 e1 ⊢
    have e0' := cell_regrown e0
    have e1' := cell_regrown e1
    generalize w4.heap.size = g at e0' e1' ⊢
    clear e0 e1 hz hz' hlx hly HX HY HL SX SY bw
    refine wp_region_quiet_below (by kernel_rfl) (by kernel_rfl) ?_
    repeat (quiet_step (fail))
    quiet_step (exact c1 _ _ _)
    repeat (quiet_step (fail))
    quiet_step (exact c2 _ _ _)
    repeat (quiet_step (fail))
    refine wpQuiet_nil ?_
    intro _ hw'
    obtain ⟨⟨dq, osq⟩, hw''⟩ := hw'
    subst hw''
    go_wp2_with fail
    go_ret
    exact ⟨rfl, bt bn (below_regrown _ dq osq)⟩
  · rw [Trees.collideV_no h0, WalkCheck.errv_pos _ h0]
    have hn : n ≤ 8796093022208 := by omega
    have hm : m ≤ 8796093022208 := by omega
    obtain ⟨i0, hi, hz0, hz1, hz2⟩ := info_parts WalkData.info3
    have HE : Hid (¬ Trees.collideE x y = 0) := h0
    clear h0 hz hz'
    have bn : Below w.heap.size w (w4.alloc (.cells #[.string ⟨#[]⟩, .string ⟨#[]⟩] 48)) := bw.alloc bw.size _
    obtain ⟨N, HN⟩ : ∃ N : Nat, Hid (N = min n 300) := ⟨_, rfl⟩
    obtain ⟨M, HM⟩ : ∃ M : Nat, Hid (M = min m 300) := ⟨_, rfl⟩
    go_upto_block 0 with fail
    generalize w4.alloc (.cells #[.string ⟨#[]⟩, .string ⟨#[]⟩] 48) = w5 at bn ⊢
    clear bw
    go_cut [13] from 21 (fun v wc => ∃ (p : Option Addr) (c : Nat), v = .slice p N c ∧ Row wc p N c (ints (Trees.leafs (x.take N))) ∧ Below w5.heap.size w5 wc)
    case first =>
      go_wp2_with fail
      go_loopw [13, 15] (fun v i wr => ∃ j : Nat, j ≤ n ∧ j ≤ 300 ∧ i = .int .i64 j ∧ wr.ownsRow w5.heap.size 3 1 v j (ints (Trees.leafs (x.take j))) ∧ Below w5.heap.size w5 wr) (fun _ i _ => 300 - (intOf i).toNat)
      case atStart => exact ⟨0, Nat.zero_le _, Nat.zero_le _, rfl, World.ownsRow_nil _ _ _ _, Below.refl _ _⟩
      case round =>
        obtain ⟨j, hj, hj3, rfl, hown, hb⟩ := hrel
        by_cases h1 : j < n
        · by_cases h2 : j < 300
          · have i1 : (j : Int) < (n : Int) := by omega
            have i2 : (j : Int) < 300 := by omega
            obtain ⟨b1, off1, rfl, hc1⟩ := (HX.out.below (bt bn hb)).2.2 (by omega)
            have cell1 := hc1 j _ (Lists.strs_at (by omega))
            clear hc1
            have HT : Hid (ints (Trees.leafs (x.take (j + 1))) = ints (Trees.leafs (x.take j)) ++ [.int .i64 (Trees.leaf (x.getD j ByteArray.empty))]) := by
              show _ = _
              rw [WalkData.take_snoc x j (by omega)]
              simp [ints, Trees.leafs]
            have hs : (x.getD j ByteArray.empty).size ≤ maxLen := SX.out _ (by rw [List.getD_eq_getElem?_getD, List.getElem?_eq_getElem (by omega)]; exact List.getElem_mem _)
            generalize x.getD j ByteArray.empty = s at cell1 HT hs
            go_wp2_with (first
              | (go_at_call 17; refine (WalkSum.leaf_any _ _ hs).mono ?_; rintro e w' ⟨rfl, rfl⟩)
              | (at_builtin; refine wpList_append_own _ rfl (.tmp 82) (.tmp 88) 38 rfl w5.heap.size 3 i0 (.int .i64 0) 1 8 Tryd.underlying38 hi hz0 hz1 hz2 rfl (by decide) _ _ _ rfl (hown.alloc _) ⟨_, 0, none⟩ 1 1 [.int .i64 (Sums.sum (0 :: s.data.toList))] rfl rfl (WalkRef.one_at _ _ _) (WalkRef.one_cell _ _) (by unfold maxLen; omega) (by omega) (by have := hb.size; simp; omega) ?_; intro v1 wn o1 g1 _))
            have o2 : wn.ownsRow w5.heap.size 3 1 v1 (j + 1) (ints (Trees.leafs (x.take (j + 1)))) := by rw [HT.out]; exact o1
            have bn1 : Below w5.heap.size w5 wn := (hb.alloc hb.size _).grown g1 (by have := hb.size; simp; omega) (fun k hk => (hown.lt k hk).1)
            clear o1 g1 HT hown
            go_wp2_with fail
            go_roundw
            case rel => exact ⟨j + 1, by omega, by omega, by go_num, o2, bn1⟩
            case measure => simp [intOf]; omega
          · obtain ⟨p, c, rfl, hrow⟩ := owns_slice hown
            obtain rfl : j = N := by have := HN.out; omega
            have i1 : (j : Int) < (n : Int) := by omega
            have i2 : ¬ (j : Int) < 300 := by omega
            have HO : Hid (Row wr p j c (ints (Trees.leafs (x.take j)))) := hrow
            clear hown hrow
            go_wp2_with fail
            go_meet
            case rel => exact ⟨_, _, rfl, HO.out, hb⟩
        · obtain ⟨p, c, rfl, hrow⟩ := owns_slice hown
          obtain rfl : j = N := by have := HN.out; omega
          have i1 : ¬ (j : Int) < (n : Int) := by omega
          have HO : Hid (Row wr p j c (ints (Trees.leafs (x.take j)))) := hrow
          clear hown hrow
          go_wp2_with fail
          go_meet
          case rel => exact ⟨_, _, rfl, HO.out, hb⟩
    obtain ⟨p1, c1, rfl, hr1, hb⟩ := hcut
    replace bn := bt bn hb
    have HR1 : Hid (Row wc p1 N c1 (ints (Trees.leafs (x.take N)))) := hr1
    clear hb hr1
    generalize wc = w6 at bn HR1 ⊢
    go_upto_block 2 with fail
    go_cut [14] from 21 (fun v wc => ∃ (p : Option Addr) (c : Nat), v = .slice p M c ∧ Row wc p M c (ints (Trees.leafs (y.take M))) ∧ Below w6.heap.size w6 wc)
    case first =>
      go_wp2_with fail
      go_loopw [14, 16] (fun v i wr => ∃ j : Nat, j ≤ m ∧ j ≤ 300 ∧ i = .int .i64 j ∧ wr.ownsRow w6.heap.size 3 1 v j (ints (Trees.leafs (y.take j))) ∧ Below w6.heap.size w6 wr) (fun _ i _ => 300 - (intOf i).toNat)
      case atStart => exact ⟨0, Nat.zero_le _, Nat.zero_le _, rfl, World.ownsRow_nil _ _ _ _, Below.refl _ _⟩
      case round =>
        obtain ⟨j, hj, hj3, rfl, hown, hb⟩ := hrel
        by_cases h1 : j < m
        · by_cases h2 : j < 300
          · have i1 : (j : Int) < (m : Int) := by omega
            have i2 : (j : Int) < 300 := by omega
            obtain ⟨b1, off1, rfl, hc1⟩ := (HY.out.below (bt bn hb)).2.2 (by omega)
            have cell1 := hc1 j _ (Lists.strs_at (by omega))
            clear hc1
            have HT : Hid (ints (Trees.leafs (y.take (j + 1))) = ints (Trees.leafs (y.take j)) ++ [.int .i64 (Trees.leaf (y.getD j ByteArray.empty))]) := by
              show _ = _
              rw [WalkData.take_snoc y j (by omega)]
              simp [ints, Trees.leafs]
            have hs : (y.getD j ByteArray.empty).size ≤ maxLen := SY.out _ (by rw [List.getD_eq_getElem?_getD, List.getElem?_eq_getElem (by omega)]; exact List.getElem_mem _)
            generalize y.getD j ByteArray.empty = s at cell1 HT hs
            go_wp2_with (first
              | (go_at_call 17; refine (WalkSum.leaf_any _ _ hs).mono ?_; rintro e w' ⟨rfl, rfl⟩)
              | (at_builtin; refine wpList_append_own _ rfl (.tmp 100) (.tmp 106) 38 rfl w6.heap.size 3 i0 (.int .i64 0) 1 8 Tryd.underlying38 hi hz0 hz1 hz2 rfl (by decide) _ _ _ rfl (hown.alloc _) ⟨_, 0, none⟩ 1 1 [.int .i64 (Sums.sum (0 :: s.data.toList))] rfl rfl (WalkRef.one_at _ _ _) (WalkRef.one_cell _ _) (by unfold maxLen; omega) (by omega) (by have := hb.size; simp; omega) ?_; intro v1 wn o1 g1 _))
            have o2 : wn.ownsRow w6.heap.size 3 1 v1 (j + 1) (ints (Trees.leafs (y.take (j + 1)))) := by rw [HT.out]; exact o1
            have bn1 : Below w6.heap.size w6 wn := (hb.alloc hb.size _).grown g1 (by have := hb.size; simp; omega) (fun k hk => (hown.lt k hk).1)
            clear o1 g1 HT hown
            go_wp2_with fail
            go_roundw
            case rel => exact ⟨j + 1, by omega, by omega, by go_num, o2, bn1⟩
            case measure => simp [intOf]; omega
          · obtain ⟨p, c, rfl, hrow⟩ := owns_slice hown
            obtain rfl : j = M := by have := HM.out; omega
            have i1 : (j : Int) < (m : Int) := by omega
            have i2 : ¬ (j : Int) < 300 := by omega
            have HO : Hid (Row wr p j c (ints (Trees.leafs (y.take j)))) := hrow
            clear hown hrow
            go_wp2_with fail
            go_meet
            case rel => exact ⟨_, _, rfl, HO.out, hb⟩
        · obtain ⟨p, c, rfl, hrow⟩ := owns_slice hown
          obtain rfl : j = M := by have := HM.out; omega
          have i1 : ¬ (j : Int) < (m : Int) := by omega
          have HO : Hid (Row wr p j c (ints (Trees.leafs (y.take j)))) := hrow
          clear hown hrow
          go_wp2_with fail
          go_meet
          case rel => exact ⟨_, _, rfl, HO.out, hb⟩
    obtain ⟨p2, c2, rfl, hr2, hb⟩ := hcut
    replace bn := bt bn hb
    have HR2 : Hid (Row wc p2 M c2 (ints (Trees.leafs (y.take M)))) := hr2
    replace HR1 : Hid (Row wc p1 N c1 (ints (Trees.leafs (x.take N)))) := HR1.out.below hb
    clear hb hr2 hi hz0 hz1 hz2
    have cE : ∀ w1, Below w.heap.size w w1 → Calls Tryd.prog 10 #[.iface 57 (.int .i64 (Trees.collideE x y : Int)), .int .i64 5] w1 fun r w' => r = .returned (.bool (((Trees.collideE x y : Nat) : Int) == 5)) ∧ Below w1.heap.size w1 w' := by
      intro w1 b1
      have h := WalkTold.error_is (Trees.collideE x y) 5 w1 (HL.out.below b1)
      rw [WalkTold.errv_pos _ HE.out] at h
      exact h
    go_wp2_with fail
    refine (WalkCheck.root_any _ p1 N c1 _ HR1.out).mono ?_
    rintro e w7 ⟨rfl, b7⟩
    replace HR2 : Hid (Row w7 p2 M c2 (ints (Trees.leafs (y.take M)))) := HR2.out.below b7
    replace bn := bt bn b7
    clear b7 HR1
    go_wp2_with fail
    refine (WalkCheck.root_any _ p2 M c2 _ HR2.out).mono ?_
    rintro e w8 ⟨rfl, b8⟩
    replace bn := bt bn b8
    clear b8 HR2
    by_cases h5 : Trees.collideE x y = 5
    · obtain ⟨dx, dy, hl, hne, hroot⟩ := Trees.collide_is5 h5
      have l1 := (Trees.dataOk_parts dx).1
      have l2 := (Trees.dataOk_parts dy).1
      obtain rfl : n = m := by omega
      have eN : x.take N = x := List.take_of_length_le (by have := HN.out; omega)
      have eM : y.take M = y := List.take_of_length_le (by have := HM.out; omega)
      rw [eN, eM, leafsE_leafs x l1, leafsE_leafs y l2, show WalkCheck.errv 0 = .nilIface from rfl]
      rw [show Trees.rootV (Trees.leafs x) = Trees.root (Trees.leafs x) from if_pos (leafsE_leafs x l1), show Trees.rootV (Trees.leafs y) = Trees.root (Trees.leafs y) from if_pos (leafsE_leafs y l2)]
      have hbne : (Trees.root (Trees.leafs x) != Trees.root (Trees.leafs y)) = true := by rw [bne_iff_ne]; exact hroot
      have i1 : ((n : Int) != (n : Int)) = false := by simp
      have cT : ∀ w1, Below w.heap.size w w1 → Calls Tryd.prog 30 #[.slice a n cap, .slice b n cap'] w1 fun e w' => e = .returned (.bool false) ∧ Below w1.heap.size w1 w' := by
        intro w1 b1
        have h := WalkSame.texts_any x y a b n n cap cap' w1 (HX.out.below b1) (HY.out.below b1) (by omega)
        rw [decide_eq_false hne] at h
        exact h
      rw [h5] at cE ⊢
      clear h5 dx dy hl hne hroot l1 l2 eN eM
      go_wp2_with (first
        | (go_at_call 30; refine (cT _ bn).mono ?_; rintro e w9 ⟨rfl, b9⟩; replace bn := bt bn b9; clear b9)
        | (go_at_call 10; refine (cE _ bn).mono ?_; rintro e w10 ⟨rfl, b10⟩; replace bn := bt bn b10; clear b10))
      go_ret
      exact ⟨rfl, bn⟩
    · have h5' : (((Trees.collideE x y : Nat) : Int) == 5) = false := by rw [beq_eq_false_iff_ne]; omega
      rw [h5'] at cE
      clear h5 h5'
      by_cases l0 : Trees.leafsE (Trees.leafs (x.take N)) = 0
      case neg =>
        rw [WalkCheck.errv_pos _ l0]
        clear l0 cE
        go_wp2_with fail
        go_ret
        exact ⟨rfl, bn⟩
      rw [l0, show WalkCheck.errv 0 = .nilIface from rfl]
      have hN : N ≤ 200 := by
        have h := l0
        unfold Trees.leafsE at h
        rw [Trees.leafs_length, List.length_take] at h
        have := HN.out
        split at h
        · cases h
        · omega
      clear l0
      by_cases l0 : Trees.leafsE (Trees.leafs (y.take M)) = 0
      case neg =>
        rw [WalkCheck.errv_pos _ l0]
        clear l0 cE
        go_wp2_with fail
        go_ret
        exact ⟨rfl, bn⟩
      rw [l0, show WalkCheck.errv 0 = .nilIface from rfl]
      clear l0
      by_cases hnm : n = m
      case neg =>
        have i1 : ((n : Int) != (m : Int)) = true := by rw [bne_iff_ne]; omega
        clear cE
        go_wp2_with fail
        go_ret
        exact ⟨rfl, bn⟩
      subst hnm
      have i1 : ((n : Int) != (n : Int)) = false := by simp
      have cT : ∀ w1, Below w.heap.size w w1 → Calls Tryd.prog 30 #[.slice a n cap, .slice b n cap'] w1 fun e w' => e = .returned (.bool (decide (x = y))) ∧ Below w1.heap.size w1 w' := by
        intro w1 b1
        exact WalkSame.texts_any x y a b n n cap cap' w1 (HX.out.below b1) (HY.out.below b1) (by have := HN.out; omega)
      generalize decide (x = y) = B at cT
      cases B
      · go_wp2_with (first
          | (go_at_call 30; refine (cT _ bn).mono ?_; rintro e w9 ⟨rfl, b9⟩; replace bn := bt bn b9; clear b9)
          | (go_at_call 10; refine (cE _ bn).mono ?_; rintro e w10 ⟨rfl, b10⟩; replace bn := bt bn b10; clear b10))
        go_ret
        exact ⟨rfl, bn⟩
      · go_wp2_with (first
          | (go_at_call 30; refine (cT _ bn).mono ?_; rintro e w9 ⟨rfl, b9⟩; replace bn := bt bn b9; clear b9)
          | (go_at_call 10; refine (cE _ bn).mono ?_; rintro e w10 ⟨rfl, b10⟩; replace bn := bt bn b10; clear b10))
        go_ret
        exact ⟨rfl, bn⟩

end Go.Proofs.YtibmgmadoaencaaDoor.WalkTreeClash
