/-
  What the document's own answers (package witref1) return on words: Number, of at most nine digits, and Cut.
-/
import Derived.Test.YtjacioplocmciahGreatDoorMirPlain
import Derived.Test.YtjacioplocmciahGreatDoorListRows
import Derived.Test.YtjacioplocmciahGreatDoorWalkSum
import Derived.Deep.DeepMust
import Derived.Deep.CutBlock
namespace Go.Proofs.YtjacioplocmciahGreatDoor.WalkNumberRef
open Go.RowKit
open Lists (Row strs bt)
open Keeps (Kept owns_kept owns_row owns_base)
open Decimals (number words allDig isDig val needless)
open Nums (str)

theorem allDig_take (s : ByteArray) (k : Nat) (h : k < s.size) : allDig (s.data.toList.take (k + 1)) = (allDig (s.data.toList.take k) && isDig s[k]) := by
  rw [Sums.take_snoc s k h]
  exact Decimals.allDig_snoc _ _
theorem val_take (s : ByteArray) (k : Nat) (h : k < s.size) : val (s.data.toList.take (k + 1)) = val (s.data.toList.take k) * 10 + (s[k].toNat - 48) := by
  rw [Sums.take_snoc s k h]
  exact Decimals.val_snoc _ _
theorem allDig_no (s : ByteArray) (k : Nat) (h : k < s.size) (hd : isDig s[k] = false) : allDig s.data.toList = false := by
  cases ha : allDig s.data.toList
  · rfl
  · have := List.all_eq_true.1 ha s[k] (List.getElem_mem (l := s.data.toList) (n := k) (by simpa using h))
    rw [hd] at this
    cases this
theorem val_small (s : ByteArray) (k : Nat) (h9 : s.size ≤ 9) (h : allDig (s.data.toList.take k) = true) : val (s.data.toList.take k) < 1000000000 :=
  Decimals.val_lt 9 _ (by rw [List.length_take]; simp; omega) h
/-- a word as a number, and whether it is one -/
def numV (l : List UInt8) : Nat := (number l 9).getD 0
def numB (l : List UInt8) : Bool := (number l 9).isSome
theorem num_no {l : List UInt8} (h : l = [] ∨ 9 < l.length ∨ needless l = true ∨ allDig l = false) : numV l = 0 ∧ numB l = false := by
  unfold numV numB number
  rw [if_pos h]
  exact ⟨rfl, rfl⟩
theorem num_yes {l : List UInt8} (h : ¬ (l = [] ∨ 9 < l.length ∨ needless l = true ∨ allDig l = false)) : numV l = val l ∧ numB l = true := by
  unfold numV numB number
  rw [if_neg h]
  exact ⟨rfl, rfl⟩

theorem infoS : (Tryz.prog.info? 9).map (fun i => (i.zero, i.size, i.bytes)) = some (some (.string ⟨#[]⟩), 1, 16) := by kernel_rfl
theorem cut_str (s : ByteArray) (a b : Nat) : s.extract a b = str ((s.data.toList.take b).drop a) := by
  apply ByteArray.ext
  apply Array.toList_inj.1
  simp [str, List.drop_take]
theorem part_at {l : List UInt8} {F k : Nat} (hF : F ≤ k) (hk : k < l.length) : l.drop F = (l.take k).drop F ++ l[k] :: l.drop (k + 1) := by
  have e : l = l.take k ++ l[k] :: l.drop (k + 1) := by rw [List.getElem_cons_drop, List.take_append_drop]
  conv => lhs; rw [e]
  rw [List.drop_append_of_le_length (by rw [List.length_take]; omega)]
theorem part_next {l : List UInt8} {F k : Nat} (hF : F ≤ k) (hk : k < l.length) : (l.take (k + 1)).drop F = (l.take k).drop F ++ [l[k]] := by
  rw [List.take_succ_eq_append_getElem hk, List.drop_append_of_le_length (by rw [List.length_take]; omega)]

set_option maxHeartbeats 4000000 in
set_option maxRecDepth 100000 in
theorem cut_any (s : ByteArray) (c : UInt8) (w : World) (hs : s.size ≤ 1048576) :
    Calls Tryz.prog 34 #[.string s, .int .u8 (c.toNat : Int)] w fun e w' => ∃ v, e = .returned v ∧ w'.ownsRow w.heap.size 9 1 v (words c s.data.toList).length (strs ((words c s.data.toList).map str)) ∧ Below w.heap.size w w' := by
  obtain ⟨i0, hi, hz0, hz1, hz2⟩ := info_parts infoS
  have hsl : s.data.toList.length = s.size := by simp
  go_enter Tryz.func34, Tryz.ntmps34
  go_wp2_with fail
  go_loopw [5, 6, 7] (fun v f i wr => ∃ (k F : Nat) (W : List (List UInt8)), F ≤ k ∧ k ≤ s.size ∧ f = .int .i64 (F : Int) ∧ i = .int .i64 (k : Int) ∧ Hid (words c s.data.toList = W ++ words c (s.data.toList.drop F)) ∧ Hid (c ∉ (s.data.toList.take k).drop F) ∧ W.length ≤ k ∧ wr.ownsRow w.heap.size 9 1 v W.length (strs (W.map str)) ∧ Below w.heap.size w wr) (fun _ _ i _ => s.size - (intOf i).toNat)
  case atStart => exact ⟨0, 0, [], Nat.le_refl _, Nat.zero_le _, rfl, rfl, rfl, (by show c ∉ _; simp), Nat.le_refl _, World.ownsRow_nil _ _ _ _, Below.refl _ _⟩
  case round =>
    obtain ⟨k, F, W, hF, hk, rfl, rfl, HWd, HNo, hWl, hown, hb⟩ := hrel
    have HO : Hid (wr.ownsRow w.heap.size 9 1 u5 W.length (strs (W.map str))) := hown
    have HB : Hid (Below w.heap.size w wr) := hb
    clear hown hb
    by_cases hlt : k < s.size
    · have i1 : (k : Int) < (s.size : Int) := by omega
      have e0 := part_at hF (show k < s.data.toList.length by omega)
      have e1 := part_next hF (show k < s.data.toList.length by omega)
      have eg : s.data.toList[k]'(by omega) = s[k] := rfl
      rw [eg] at e0 e1
      obtain ⟨x, HX0⟩ : ∃ x : UInt8, Hid (s[k] = x) := ⟨s[k], (rfl : s[k] = s[k])⟩
      have y0 : ∀ h, s[k]'h = x := fun _ => HX0.out
      rw [HX0.out] at e0 e1
      by_cases hc : x = c
      · subst hc
        have HW2 : Hid (words x s.data.toList = (W ++ [(s.data.toList.take k).drop F]) ++ words x (s.data.toList.drop (k + 1))) := by
          show _ = _
          rw [HWd.out, e0, Decimals.words_cut _ HNo.out, List.append_assoc]
          rfl
        have HN2 : Hid (x ∉ (s.data.toList.take (k + 1)).drop (k + 1)) := by
          show x ∉ _
          rw [List.drop_of_length_le (by rw [List.length_take]; omega)]
          simp
        have HCu : Hid (s.extract F k = str ((s.data.toList.take k).drop F)) := cut_str s F k
        generalize (s.data.toList.take k).drop F = M at HW2 HCu
        have hq : ((x.toNat : Int) == (x.toNat : Int)) = true := by simp
        have i3 : (F : Int) ≤ (k : Int) := by omega
        have i4 : (k : Int) ≤ (s.size : Int) := by omega
        clear e0 e1 HWd HNo
        go_upto_region 7 with fail
        have hfn : 0 ≤ (F : Int) := by omega
        go_wp2_with (at_builtin; go_must (refine wpList_append_own _ rfl (.tmp 19) (.tmp 24) 52 rfl w.heap.size 9 i0 (.string ⟨#[]⟩) 1 16 Tryz.underlying52 hi hz0 hz1 hz2 rfl (by decide) _ _ _ rfl (HO.out.alloc _) ⟨_, 0, none⟩ 1 1 [.string (s.extract F k)] rfl rfl (cell_one_new _ _ _) (fun u hu => by rw [List.mem_singleton.1 hu]; rfl) (by unfold maxLen; omega) (by omega) (by have := HB.out.size; simp; omega) ?_); intro v1 wn o1 g1 z1; clear z1)
        have HBN : Hid (Below w.heap.size w wn) := (HB.out.alloc HB.out.size _).grown g1 (by have := HB.out.size; simp; omega) (fun k hk => (HO.out.lt k hk).1)
        have HON : Hid (wn.ownsRow w.heap.size 9 1 v1 (W ++ [M]).length (strs ((W ++ [M]).map str))) := by
          rw [show (W ++ [M]).length = W.length + 1 by simp, show strs ((W ++ [M]).map str) = strs (W.map str) ++ [.string (s.extract F k)] by rw [HCu.out]; simp [strs]]
          exact o1
        clear g1 o1 HO HB
        go_roundw
        case rel => exact ⟨k + 1, k + 1, W ++ [M], Nat.le_refl _, by omega, by go_num, by go_num, HW2, HN2, by simp; omega, HON.out, HBN.out⟩
        case measure => simp [intOf]; omega
      · have hq : ((x.toNat : Int) == (c.toNat : Int)) = false := by
          rw [beq_eq_false_iff_ne]
          intro h
          exact hc (UInt8.toNat_inj.1 (by omega))
        have HN2 : Hid (c ∉ (s.data.toList.take (k + 1)).drop F) := by
          show c ∉ _
          rw [e1]
          intro h
          rcases List.mem_append.1 h with h | h
          · exact HNo.out h
          · exact hc (List.mem_singleton.1 h).symm
        clear e0 e1 HNo hc
        go_wp2_with fail
        go_roundw
        case rel => exact ⟨k + 1, F, W, by omega, by omega, rfl, by go_num, HWd, HN2, by omega, HO.out, HB.out⟩
        case measure => simp [intOf]; omega
    · have i1 : ¬ (k : Int) < (s.size : Int) := by omega
      have ht : s.data.toList.take k = s.data.toList := List.take_of_length_le (by omega)
      rw [ht] at HNo
      have HW2 : Hid (words c s.data.toList = W ++ [s.data.toList.drop F]) := by
        show _ = _
        rw [HWd.out, Decimals.words_none HNo.out]
      have HCu : Hid (s.extract F s.size = str (s.data.toList.drop F)) := by
        show _ = _
        rw [cut_str s F s.size, List.take_of_length_le (by omega)]
      generalize s.data.toList.drop F = M at HW2 HCu
      have i3 : (F : Int) ≤ (s.size : Int) := by omega
      have hfn : 0 ≤ (F : Int) := by omega
      clear HWd HNo ht
      go_upto_region 9 with fail
      go_wp2_with (at_builtin; go_must (refine wpList_append_own _ rfl (.tmp 28) (.tmp 32) 52 rfl w.heap.size 9 i0 (.string ⟨#[]⟩) 1 16 Tryz.underlying52 hi hz0 hz1 hz2 rfl (by decide) _ _ _ rfl (HO.out.alloc _) ⟨_, 0, none⟩ 1 1 [.string (s.extract F s.size)] rfl rfl (cell_one_new _ _ _) (fun u hu => by rw [List.mem_singleton.1 hu]; rfl) (by unfold maxLen; omega) (by omega) (by have := HB.out.size; simp; omega) ?_); intro v1 wn o1 g1 z1; clear z1)
      have HBN : Hid (Below w.heap.size w wn) := (HB.out.alloc HB.out.size _).grown g1 (by have := HB.out.size; simp; omega) (fun k hk => (HO.out.lt k hk).1)
      have HON : Hid (wn.ownsRow w.heap.size 9 1 v1 (words c s.data.toList).length (strs ((words c s.data.toList).map str))) := by
        rw [HW2.out, show (W ++ [M]).length = W.length + 1 by simp, show strs ((W ++ [M]).map str) = strs (W.map str) ++ [.string (s.extract F s.size)] by rw [HCu.out]; simp [strs]]
        exact o1
      clear g1 o1 HO HB
      go_ret
      exact ⟨_, rfl, HON.out, HBN.out⟩

end Go.Proofs.YtjacioplocmciahGreatDoor.WalkNumberRef
