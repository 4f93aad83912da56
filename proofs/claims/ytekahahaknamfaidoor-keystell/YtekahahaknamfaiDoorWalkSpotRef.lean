/-
  What the document's own answers (package witref2) return of a key: Spot, Bits, Placed, KeyRoot and Beside.
-/
import Derived.Test.YtekahahaknamfaiDoorKeyTrees
import Derived.Test.YtekahahaknamfaiDoorIntRows
import Derived.Test.YtekahahaknamfaiDoorWalkRef
import Derived.Test.YtekahahaknamfaiDoorWalkTreeRef
import Derived.Deep.DeepMust
import Derived.Deep.CutBlock
namespace Go.Proofs.YtekahahaknamfaiDoor.WalkSpotRef
open Go.RowKit
open Nums (str)
open Lists (Row ints bt)
open Keeps (Kept owns_kept owns_row owns_base)
open IntRows (Rowss)
open Ways (up1 upL node)
open KeyTrees

theorem spot_any (k : ByteArray) (w : World) (hk : k.size ≤ maxLen) : Calls Tryd.prog 34 #[.string k] w fun e w' => e = .returned (.int .i64 (spot k : Nat)) ∧ w' = w := by
  have HS : Hid (Sums.sum k.data.toList % 256 = ((spot k : Nat) : Int)) := spot_int k
  have hb := Sums.sum_bd k.data.toList
  have cS := WalkRef.sum_any k w hk
  generalize Sums.sum k.data.toList = S at HS hb cS
  obtain ⟨h0, h1⟩ := hb
  go_enter Tryd.func34, Tryd.ntmps34
  go_wp2_with fail
  refine cS.mono ?_
  rintro e w1 ⟨rfl, rfl⟩
  clear cS
  go_wp2_with fail
  go_ret
  exact ⟨by rw [← HS.out]; rfl, rfl⟩

theorem cut_bit (M : Int) (h0 : 0 ≤ M) : (ByteArray.mk #[48, 49]).extract (M % 2).toNat (M % 2 + 1).toNat = str [letter (decide (M.toNat % 2 = 1))] := by
  have h : M % 2 = 0 ∨ M % 2 = 1 := by omega
  rcases h with h | h
  · rw [h, show decide (M.toNat % 2 = 1) = false from decide_eq_false (by omega)]
    rfl
  · rw [h, show decide (M.toNat % 2 = 1) = true from decide_eq_true (by omega)]
    rfl
theorem next_bit (N j : Nat) (M : Int) (hM : ((N / 2 ^ j : Nat) : Int) = M) : (ByteArray.mk #[48, 49]).extract (M % 2).toNat (M % 2 + 1).toNat ++ str (bitsF j N) = str (bitsF (j + 1) N) := by
  rw [cut_bit M (by rw [← hM]; exact Int.natCast_nonneg _), bitsF_cons, ← hM, Int.toNat_natCast, Nums.str_append]
  rfl
theorem bit_div (N j : Nat) (M : Int) (hM : ((N / 2 ^ j : Nat) : Int) = M) : Value.int .i64 (M / 2) = .int .i64 ((N / 2 ^ (j + 1) : Nat) : Int) := by
  rw [half_pow, ← hM]
  rfl

set_option maxHeartbeats 1000000 in
theorem bits_any (k : ByteArray) (w : World) (hk : k.size ≤ maxLen) : Calls Tryd.prog 18 #[.string k] w fun e w' => e = .returned (.string (str (bitsT (spot k)))) ∧ w' = w := by
  have cS := spot_any k w hk
  have hlt := spot_lt k
  generalize spot k = N at cS hlt ⊢
  have hst : Hid ((N : Int) = ((N / 2 ^ 0 : Nat) : Int)) := by show _ = _; rw [Nat.pow_zero, Nat.div_one]
  go_enter Tryd.func18, Tryd.ntmps18
  go_wp2_with fail
  refine cS.mono ?_
  rintro e w1 ⟨rfl, rfl⟩
  clear cS
  go_wp2_with fail
  go_loop [3, 4, 5] (fun m t i => ∃ j : Nat, j ≤ 8 ∧ m = .int .i64 ((N / 2 ^ j : Nat) : Int) ∧ t = .string (str (bitsF j N)) ∧ i = .int .i64 (j : Int)) (fun _ _ i => 8 - (intOf i).toNat)
  case atStart => exact ⟨0, by omega, congrArg (Value.int .i64) hst.out, rfl, rfl⟩
  case round =>
    obtain ⟨j, hj, rfl, rfl, rfl⟩ := hrel
    by_cases hlt : j < 8
    · have hb : N / 2 ^ j ≤ N := Nat.div_le_self _ _
      generalize hM : ((N / 2 ^ j : Nat) : Int) = M
      have HM : Hid (((N / 2 ^ j : Nat) : Int) = M) := hM
      have hb0 : 0 ≤ M := by rw [← hM]; exact Int.natCast_nonneg _
      have hb1 : M < 256 := by omega
      have hsz : (str (bitsF j N)).size = j := by rw [Nums.str_size, bitsF_length]
      clear hM hb
      go_wp2_with fail
      go_round
      case rel => exact ⟨j + 1, by omega, bit_div N j M HM.out, congrArg Value.string (next_bit N j M HM.out), by go_num⟩
      case measure => simp [intOf]; omega
    · obtain rfl : j = 8 := by omega
      generalize ((N / 2 ^ 8 : Nat) : Int) = M
      go_wp2_with fail
      go_ret
      exact ⟨rfl, rfl⟩

theorem placed_data (k v : ByteArray) : (0 : UInt8) :: (k ++ (⟨#[0]⟩ : ByteArray) ++ v).data.toList = 0 :: (k.data.toList ++ 0 :: v.data.toList) := by
  simp [ByteArray.data_append]
theorem placed_any (k v : ByteArray) (w : World) (hk : k.size ≤ 1000) (hv : v.size ≤ 1000) : Calls Tryd.prog 23 #[.string k, .string v] w fun e w' => e = .returned (.int .i64 (placed k v)) ∧ Below w.heap.size w w' := by
  have hs : (k ++ (⟨#[0]⟩ : ByteArray) ++ v).size = k.size + 1 + v.size := by simp [ByteArray.size_append]; rfl
  have cL := WalkRef.leaf_any (k ++ (⟨#[0]⟩ : ByteArray) ++ v) w (by omega)
  rw [placed_data] at cL
  have n1 : ¬ 9223372036854775807 < k.size + 1 := by omega
  have n2 : ¬ 9223372036854775807 < (k ++ (⟨#[0]⟩ : ByteArray)).size + v.size := by rw [ByteArray.size_append]; show ¬ _ < k.size + 1 + v.size; omega
  have HP : Hid (placed k v = Sums.sum (0 :: (k.data.toList ++ 0 :: v.data.toList))) := rfl
  clear hs
  go_enter Tryd.func23, Tryd.ntmps23
  go_wp2_with fail
  refine cL.mono ?_
  rintro e w1 ⟨rfl, b1⟩
  clear cL
  go_wp2_with fail
  go_ret
  exact ⟨by rw [HP.out]; rfl, b1⟩

theorem up_even {s y : Int} {n : Nat} (h : n % 2 = 0) : up1 s y (decide (n % 2 = 1)) = Sums.sum (Nums.nodeBytes s y) := by
  rw [decide_eq_false (by omega)]
  rfl
theorem up_odd {s y : Int} {n : Nat} (h : n % 2 = 1) : up1 s y (decide (n % 2 = 1)) = Sums.sum (Nums.nodeBytes y s) := by
  rw [decide_eq_true h]
  rfl

set_option maxHeartbeats 1000000 in
theorem keyRoot_any (k : ByteArray) (s : Int) (p : List Int) (a : Option Addr) (m cap : Nat) (w : World) (hk : k.size ≤ maxLen) (hr : Row w a m cap (ints p)) (hm : m = 8) (hv : ∀ x ∈ p, Nums.valid x = true) (hs : Nums.valid s = true) :
    Calls Tryd.prog 24 #[.string k, .int .i64 s, .slice a m cap] w fun e w' => e = .returned (.int .i64 (upL s p (turns (spot k)))) ∧ Below w.heap.size w w' := by
  have hln : p.length = m := by rw [← hr.1, Lists.ints_length]
  have cS := spot_any k w hk
  have hlt := spot_lt k
  have HR : Hid (Row w a m cap (ints p)) := hr
  have HV : Hid (∀ x ∈ p, Nums.valid x = true) := hv
  have HS : Hid (Nums.valid s = true) := hs
  generalize spot k = N at cS hlt ⊢
  have hst : Hid ((N : Int) = ((N / 2 ^ 0 : Nat) : Int)) := by show _ = _; rw [Nat.pow_zero, Nat.div_one]
  clear hr hv hs
  subst hm
  go_enter Tryd.func24, Tryd.ntmps24
  go_wp2_with fail
  refine cS.mono ?_
  rintro e w1 ⟨rfl, rfl⟩
  clear cS
  go_wp2_with fail
  go_loopw [1, 7, 8] (fun t n i wr => ∃ j : Nat, j ≤ 8 ∧ t = .int .i64 (upL s (p.take j) (turnsF j N)) ∧ n = .int .i64 ((N / 2 ^ j : Nat) : Int) ∧ i = .int .i64 (j : Int) ∧ Hid (Below w1.heap.size w1 wr)) (fun _ _ i _ => 8 - (intOf i).toNat)
  case atStart => exact ⟨0, by omega, rfl, congrArg (Value.int .i64) hst.out, rfl, Below.refl _ _⟩
  case round =>
    obtain ⟨j, hj, rfl, rfl, rfl, HB⟩ := hrel
    by_cases hjl : j < 8
    · have hb : N / 2 ^ j ≤ N := Nat.div_le_self _ _
      have i1 : (j : Int) < 8 := by omega
      have HU : Hid (upL s (p.take (j + 1)) (turnsF (j + 1) N) = up1 (upL s (p.take j) (turnsF j N)) (p.getD j 0) (decide (N / 2 ^ j % 2 = 1))) := up_next (by omega)
      obtain ⟨b0, off0, rfl, hc⟩ := (HR.out.below HB.out).2.2 (by omega)
      have c0 := hc j _ (Lists.ints_at (by omega))
      have HY : Hid (Nums.valid (p.getD j 0) = true) := HV.out _ (by rw [List.getD_eq_getElem?_getD, List.getElem?_eq_getElem (by omega)]; exact List.getElem_mem _)
      have HX : Hid (Nums.valid (upL s (p.take j) (turnsF j N)) = true) := Ways.upL_valid _ _ _ HS.out
      have HD := bit_div N j
      generalize upL s (p.take j) (turnsF j N) = X at HU HX
      generalize p.getD j 0 = Y at HU HY c0
      generalize N / 2 ^ j = q at hb HU HD
      have HDv : Hid (Value.int .i64 ((q : Int) / 2) = .int .i64 ((N / 2 ^ (j + 1) : Nat) : Int)) := HD _ rfl
      clear hc HD
      by_cases h2 : q % 2 = 0
      · have e2 : ((q : Int) % 2 == 0) = true := by simp; omega
        rw [up_even h2] at HU
        have HE := HU
        clear h2 HU
        go_wp2_with fail
        refine (WalkTreeRef.node_any X Y _ HX.out HY.out).mono ?_
        rintro e w2 ⟨rfl, b2⟩
        have HB2 : Hid (Below w1.heap.size w1 w2) := bt HB.out b2
        clear b2 c0
        go_wp2_with fail
        go_roundw
        case rel => exact ⟨j + 1, by omega, by rw [HE.out], HDv.out, by go_num, HB2⟩
        case measure => simp [intOf]; omega
      · have e2 : ((q : Int) % 2 == 0) = false := by simp; omega
        rw [up_odd (by omega)] at HU
        have HE := HU
        clear h2 HU
        go_wp2_with fail
        refine (WalkTreeRef.node_any Y X _ HY.out HX.out).mono ?_
        rintro e w2 ⟨rfl, b2⟩
        have HB2 : Hid (Below w1.heap.size w1 w2) := bt HB.out b2
        clear b2 c0
        go_wp2_with fail
        go_roundw
        case rel => exact ⟨j + 1, by omega, by rw [HE.out], HDv.out, by go_num, HB2⟩
        case measure => simp [intOf]; omega
    · obtain rfl : j = 8 := by omega
      have HF : Hid (upL s (p.take 8) (turnsF 8 N) = upL s p (turns N)) := by show _ = _; rw [List.take_of_length_le (by omega)]; rfl
      generalize upL s (p.take 8) (turnsF 8 N) = X at HF
      generalize ((N / 2 ^ 8 : Nat) : Int) = M
      go_wp2_with fail
      go_ret
      exact ⟨by rw [← HF.out]; rfl, HB.out⟩

theorem infoI : (Tryd.prog.info? 3).map (fun i => (i.zero, i.size, i.bytes)) = some (some (.int .i64 0), 1, 8) := by kernel_rfl

set_option maxHeartbeats 2000000 in
theorem beside_any (f : Nat → Int) (k : ByteArray) (a : Option Addr) (cap : Nat) (w : World) (hk : k.size ≤ maxLen) (hr : Rowss w a 9 cap (rowsL f 9)) :
    Calls Tryd.prog 15 #[.slice a 9 cap, .string k] w fun e w' => ∃ v, e = .returned v ∧ w'.ownsRow w.heap.size 3 1 v 8 (ints (beside f (spot k))) ∧ Below w.heap.size w w' := by
  have cS := spot_any k w hk
  have hN := spot_lt k
  have HR : Hid (Rowss w a 9 cap (rowsL f 9)) := hr
  obtain ⟨i0, hi, hz0, hz1, hz2⟩ := info_parts infoI
  generalize spot k = N at cS hN ⊢
  have hst : Hid ((N : Int) = ((N / 2 ^ 0 : Nat) : Int)) := by show _ = _; rw [Nat.pow_zero, Nat.div_one]
  clear hr
  go_enter Tryd.func15, Tryd.ntmps15
  go_wp2_with fail
  refine cS.mono ?_
  rintro e w1 ⟨rfl, rfl⟩
  clear cS
  go_wp2_with fail
  go_loopw [5, 6, 7] (fun v n i wr => ∃ j : Nat, j ≤ 8 ∧ n = .int .i64 ((N / 2 ^ j : Nat) : Int) ∧ i = .int .i64 (j : Int) ∧ Hid (wr.ownsRow w1.heap.size 3 1 v j (ints (besF f j 0 N))) ∧ Hid (Below w1.heap.size w1 wr)) (fun _ _ i _ => 8 - (intOf i).toNat)
  case atStart => exact ⟨0, by omega, congrArg (Value.int .i64) hst.out, rfl, World.ownsRow_nil _ _ _ _, Below.refl _ _⟩
  case round =>
    obtain ⟨j, hj, rfl, rfl, HO, HB⟩ := hrel
    by_cases hjl : j < 8
    · have hb : N / 2 ^ j ≤ N := Nat.div_le_self _ _
      have i1 : (j : Int) < 8 := by omega
      obtain ⟨b0, off0, rfl, hc⟩ := (HR.out.below HB.out).2.2 (by omega)
      obtain ⟨a1, c1, p1, r1⟩ := hc j _ (rowsL_at f (by omega))
      have hsl := sib_lt hN hjl
      have hp8 : 2 ^ (8 - j) ≤ 256 := Nat.le_trans (Nat.pow_le_pow_right (by decide) (show 8 - j ≤ 8 by omega)) (by decide)
      obtain ⟨b1, off1, rfl, hc1⟩ := r1.2.2 (by rw [rowL_length]; omega)
      have c1' := hc1 (sib (N / 2 ^ j)) _ (Lists.ints_at (by rw [rowL_length]; exact hsl))
      rw [rowL_at f hsl] at c1'
      rw [rowL_length] at p1
      have HS : Hid (besF f (j + 1) 0 N = besF f j 0 N ++ [level f j (sib (N / 2 ^ j))]) := by show _ = _; rw [besF_snoc, Nat.zero_add]
      have HD := bit_div N j
      have hsib : ((N / 2 ^ j) % 2 = 1 → sib (N / 2 ^ j) = N / 2 ^ j - 1) ∧ (¬ (N / 2 ^ j) % 2 = 1 → sib (N / 2 ^ j) = N / 2 ^ j + 1) := ⟨fun h => if_pos h, fun h => if_neg h⟩
      generalize level f j (sib (N / 2 ^ j)) = Y at HS c1'
      generalize sib (N / 2 ^ j) = sb at c1' hsl hsib
      generalize 2 ^ (8 - j) = R at p1 hsl hp8
      generalize N / 2 ^ j = q at hb hsib HD
      have HDv : Hid (Value.int .i64 ((q : Int) / 2) = .int .i64 ((N / 2 ^ (j + 1) : Nat) : Int)) := HD _ rfl
      clear hc hc1 r1 HD
      by_cases h2 : q % 2 = 1
      · have e2 : ((q : Int) % 2 == 1) = true := by simp; omega
        have s1 := hsib.1 h2
        have s2 : (q : Int) - 1 = (sb : Int) := by omega
        have s3 : IntKind.i64.wrap (sb : Int) = (sb : Int) := by rw [IntKind.wrap_i64]; omega
        clear h2 s1 hsib
        go_wp2_with (at_builtin; go_must (refine wpList_append_own _ rfl (.tmp 22) (.tmp 30) 30 rfl w1.heap.size 3 i0 (.int .i64 0) 1 8 Tryd.underlying30 hi hz0 hz1 hz2 rfl (by decide) _ _ _ rfl (HO.out.alloc _) ⟨_, 0, none⟩ 1 1 [.int .i64 Y] rfl rfl (WalkRef.one_at _ _ _) (WalkRef.one_cell _ _) (by unfold maxLen; omega) (by omega) (by have := HB.out.size; simp; omega) ?_); intro v1 wn o1 g1 z1; clear z1)
        have HBN : Hid (Below w1.heap.size w1 wn) := (HB.out.alloc HB.out.size _).grown g1 (by have := HB.out.size; simp; omega) (fun k hk => (HO.out.lt k hk).1)
        have HON : Hid (wn.ownsRow w1.heap.size 3 1 v1 (j + 1) (ints (besF f (j + 1) 0 N))) := by
          show World.ownsRow _ _ _ _ _ _ _
          rw [HS.out, show ints (besF f j 0 N ++ [Y]) = ints (besF f j 0 N) ++ [.int .i64 Y] from List.map_append]
          exact o1
        clear g1 o1 HO HB
        go_roundw
        case rel => exact ⟨j + 1, by omega, HDv.out, by go_num, HON, HBN⟩
        case measure => simp [intOf]; omega
      · have e2 : ((q : Int) % 2 == 1) = false := by simp; omega
        have s1 := hsib.2 h2
        have s2 : (q : Int) + 1 = (sb : Int) := by omega
        have s3 : IntKind.i64.wrap (sb : Int) = (sb : Int) := by rw [IntKind.wrap_i64]; omega
        clear h2 s1 hsib
        go_wp2_with (at_builtin; go_must (refine wpList_append_own _ rfl (.tmp 22) (.tmp 30) 30 rfl w1.heap.size 3 i0 (.int .i64 0) 1 8 Tryd.underlying30 hi hz0 hz1 hz2 rfl (by decide) _ _ _ rfl (HO.out.alloc _) ⟨_, 0, none⟩ 1 1 [.int .i64 Y] rfl rfl (WalkRef.one_at _ _ _) (WalkRef.one_cell _ _) (by unfold maxLen; omega) (by omega) (by have := HB.out.size; simp; omega) ?_); intro v1 wn o1 g1 z1; clear z1)
        have HBN : Hid (Below w1.heap.size w1 wn) := (HB.out.alloc HB.out.size _).grown g1 (by have := HB.out.size; simp; omega) (fun k hk => (HO.out.lt k hk).1)
        have HON : Hid (wn.ownsRow w1.heap.size 3 1 v1 (j + 1) (ints (besF f (j + 1) 0 N))) := by
          show World.ownsRow _ _ _ _ _ _ _
          rw [HS.out, show ints (besF f j 0 N ++ [Y]) = ints (besF f j 0 N) ++ [.int .i64 Y] from List.map_append]
          exact o1
        clear g1 o1 HO HB
        go_roundw
        case rel => exact ⟨j + 1, by omega, HDv.out, by go_num, HON, HBN⟩
        case measure => simp [intOf]; omega
    · obtain rfl : j = 8 := by omega
      generalize ((N / 2 ^ 8 : Nat) : Int) = M
      go_wp2_with fail
      go_ret
      exact ⟨_, rfl, HO.out, HB.out⟩

end Go.Proofs.YtekahahaknamfaiDoor.WalkSpotRef
