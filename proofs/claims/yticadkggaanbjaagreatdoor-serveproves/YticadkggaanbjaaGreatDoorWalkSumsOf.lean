/-
  What the law's own sums returns: the sums of a text.
-/
import Derived.Test.YticadkggaanbjaaGreatDoorSePlain
import Derived.Test.YticadkggaanbjaaGreatDoorRefTree
import Derived.Test.YticadkggaanbjaaGreatDoorWalkNumberRef
import Derived.Test.YticadkggaanbjaaGreatDoorRefLog
import Derived.Test.YticadkggaanbjaaGreatDoorListRows
namespace Go.Proofs.YticadkggaanbjaaGreatDoor.WalkSumsOf
open Go.RowKit
open Lists (Row ints strs bt)
open Keeps (owns_row)
open Nums (str text)
open Answers (sumsT)
open Decimals (words)

theorem infoI : (Tryz.prog.info? 3).map (fun i => (i.zero, i.size, i.bytes)) = some (some (.int .i64 0), 1, 8) := by kernel_rfl

theorem ints_snoc (l : List Int) (x : Int) : ints (l ++ [x]) = ints l ++ [.int .i64 x] := by unfold ints; rw [List.map_append]; rfl
theorem sums_size (l : List Int) (hn : l.length ≤ 1000) : (str (sumsT l)).size ≤ 10000 := by
  rw [Nums.str_size]
  unfold sumsT
  split
  · simp
  · have := WalkSumsText.joined_len l; omega

set_option maxHeartbeats 4000000 in
set_option maxRecDepth 100000 in
theorem sums_any (l : List Int) (w : World) (hv : ∀ x ∈ l, Nums.valid x = true) (hn : l.length ≤ 1000) :
    Calls Tryz.prog 17 #[.string (str (sumsT l))] w fun e w' => ∃ v, e = .returned v ∧ w'.ownsRow w.heap.size 3 1 v l.length (ints l) ∧ Below w.heap.size w w' := by
  have HV : Hid (∀ x ∈ l, Nums.valid x = true) := hv
  obtain ⟨i0, hi, hz0, hz1, hz2⟩ := info_parts infoI
  by_cases h0 : l = []
  · subst h0
    have t1 : ((str (sumsT [])).toList == [45]) = true := by rw [Nums.str_toList]; rfl
    generalize str (sumsT []) = S at t1 ⊢
    go_enter Tryz.func17, Tryz.ntmps17
    go_wp2_with fail
    go_ret
    exact ⟨_, rfl, World.ownsRow_nil _ _ _ _, Below.refl _ _⟩
  · have t1 : ((str (sumsT l)).toList == [45]) = false := by
      rw [Nums.str_toList]
      have := fun h => h0 (Serves.sums_none.1 h)
      simpa using this
    have cC := WalkNumberRef.cut_any (str (sumsT l)) 32 w (by have := sums_size l hn; omega)
    rw [Nums.str_data, Serves.sums_words h0] at cC
    generalize str (sumsT l) = S at t1 cC ⊢
    obtain ⟨n, HN⟩ : ∃ n, Hid (l.length = n) := ⟨_, rfl⟩
    have hn' : n ≤ 1000 := by have := HN.out; omega
    rw [List.length_map, HN.out] at cC
    rw [HN.out]
    clear hv hn
    go_enter Tryz.func17, Tryz.ntmps17
    go_wp2_with fail
    refine cC.mono ?_
    rintro e w1 ⟨v1, rfl, o1, b1⟩
    obtain ⟨a1, c1, rfl, hr1, _⟩ := owns_row o1
    have HR1 : Hid (Row w1 a1 n c1 (strs ((l.map text).map str))) := hr1
    have HB1 : Hid (Below w.heap.size w w1) := b1
    clear cC o1 b1 hr1
    go_upto_region 6 with fail
    go_loopw [3, 5, 6, 7] (fun ov iv _ _ wr => ∃ k : Nat, k ≤ n ∧ iv = .int .i64 (k : Int) ∧ Hid (wr.ownsRow w1.heap.size 3 1 ov k (ints (l.take k))) ∧ Hid (Below w1.heap.size w1 wr)) (fun _ iv _ _ _ => n - (intOf iv).toNat)
    case atStart => exact ⟨0, Nat.zero_le _, rfl, World.ownsRow_nil _ _ _ _, Below.refl _ _⟩
    case round =>
      obtain ⟨k, hk, rfl, HO, HB⟩ := hrel
      by_cases hlt : k < n
      · have i1 : (k : Int) < (n : Int) := by omega
        have hkl : k < l.length := by have := HN.out; omega
        have c0 := (HR1.out.below HB.out)
        obtain ⟨g1, f1, rfl, _⟩ := HR1.out.2.2 (by omega)
        have q0 := c0.at k (.string (str (text l[k]))) (by simp [strs, List.getElem?_eq_getElem hkl])
        have hx := HV.out l[k] (List.getElem_mem hkl)
        have cR := WalkRef.read_any (str (text l[k])) wr
        rw [Nums.str_data, Nums.read_text _ hx] at cR
        have hnx : ints (l.take (k + 1)) = ints (l.take k) ++ [.int .i64 l[k]] := by rw [List.take_succ_eq_append_getElem hkl, ints_snoc]
        have HNX : Hid (ints (l.take (k + 1)) = ints (l.take k) ++ [.int .i64 l[k]]) := hnx
        have hwf := Nums.valid_iff.1 hx
        generalize str (text l[k]) = X at q0 cR
        generalize l[k] = x at cR HNX hwf
        have HBs : Hid (w1.heap.size ≤ wr.heap.size) := HB.out.size
        have HFF : Hid (∀ wn, (wr.alloc (.cells #[.int .i64 x] 3)).grownBy wn u3.ownBlock → Below w1.heap.size w1 wn) := fun wn gr => (HB.out.alloc HBs.out _).grown gr (by have := HBs.out; simp; omega) fun j hj => (HO.out.lt j hj).1
        clear hnx hx c0 hkl
        go_wp2_with fail
        refine cR.mono ?_
        rintro e w5 ⟨rfl, rfl⟩
        clear cR
        go_wp2_with (at_builtin; go_must (refine wpList_append_own _ rfl (.tmp 26) (.tmp 28) 45 rfl w1.heap.size 3 i0 (.int .i64 0) 1 8 Tryz.underlying45 hi hz0 hz1 hz2 rfl (by decide) _ _ _ rfl (HO.out.alloc _) ⟨_, 0, none⟩ 1 1 [.int .i64 x] rfl rfl (cell_one_new _ _ _) (fun u hu => by rw [List.mem_singleton.1 hu]; rfl) (by unfold maxLen; omega) (by omega) (by have := HBs.out; simp; omega) ?_); intro v1 wn o1 g1 z1; clear z1; have HO6 : Hid (wn.ownsRow w1.heap.size 3 1 v1 (k + 1) (ints (l.take (k + 1)))) := (by show World.ownsRow _ _ _ _ _ _ _; rw [HNX.out]; exact o1); have HB6 : Hid (Below w1.heap.size w1 wn) := HFF.out wn g1; clear o1 g1)
        go_roundw
        case rel => exact ⟨k + 1, by omega, by go_num, HO6, HB6⟩
        case measure => simp [intOf]; omega
      · obtain rfl : k = n := by omega
        have i1 : ¬ (k : Int) < (k : Int) := by omega
        have htk : l.take k = l := List.take_of_length_le (by have := HN.out; omega)
        have HOl : Hid (wr.ownsRow w.heap.size 3 1 u3 k (ints l)) := by
          have h := HO.out
          rw [htk] at h
          exact Keeps.owns_base h HB1.out.size
        have HBl : Hid (Below w.heap.size w wr) := bt HB1.out HB.out
        go_wp2_with fail
        go_ret
        exact ⟨_, rfl, HOl.out, HBl.out⟩

end Go.Proofs.YticadkggaanbjaaGreatDoor.WalkSumsOf
