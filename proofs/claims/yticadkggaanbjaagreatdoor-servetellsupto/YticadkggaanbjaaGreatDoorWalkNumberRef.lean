/-
  What the document's own answers (package witref1) return on words: Number, of at most nine digits, and Cut.
-/
import Derived.Test.YticadkggaanbjaaGreatDoorMirPlain
import Derived.Test.YticadkggaanbjaaGreatDoorListRows
import Derived.Test.YticadkggaanbjaaGreatDoorMixRun
import Derived.Deep.DeepMust
import Derived.Deep.CutBlock
namespace Go.Proofs.YticadkggaanbjaaGreatDoor.WalkNumberRef
open Go.RowKit
open Lists (Row strs bt)
open Keeps (Kept owns_kept owns_row owns_base)
open Decimals (number words allDig isDig val needless)
open Nums (str)

theorem allDig_take (s : ByteArray) (k : Nat) (h : k < s.size) : allDig (s.data.toList.take (k + 1)) = (allDig (s.data.toList.take k) && isDig s[k]) := by
  rw [Sums.take_snoc s k h]
  exact Decimals.allDig_snoc _ _
theorem val_take (s : ByteArray) (k : Nat) (h : k < s.size) : val (s.data.toList.take (k + 1)) = val (s.data.toList.take k) * 10 + (s[k].toNat - 48) := by
  rw [Sums.take_snoc s k h]
  exact Decimals.val_snoc _ _
theorem allDig_no (s : ByteArray) (k : Nat) (h : k < s.size) (hd : isDig s[k] = false) : allDig s.data.toList = false := by
  cases ha : allDig s.data.toList
  · rfl
  · have := List.all_eq_true.1 ha s[k] (List.getElem_mem (l := s.data.toList) (n := k) (by simpa using h))
    rw [hd] at this
    cases this
theorem val_small (s : ByteArray) (k : Nat) (h9 : s.size ≤ 9) (h : allDig (s.data.toList.take k) = true) : val (s.data.toList.take k) < 1000000000 :=
  Decimals.val_lt 9 _ (by rw [List.length_take]; simp; omega) h
/-- a word as a number, and whether it is one -/
def numV (l : List UInt8) : Nat := (number l 9).getD 0
def numB (l : List UInt8) : Bool := (number l 9).isSome
theorem num_no {l : List UInt8} (h : l = [] ∨ 9 < l.length ∨ needless l = true ∨ allDig l = false) : numV l = 0 ∧ numB l = false := by
  unfold numV numB number
  rw [if_pos h]
  exact ⟨rfl, rfl⟩
theorem num_yes {l : List UInt8} (h : ¬ (l = [] ∨ 9 < l.length ∨ needless l = true ∨ allDig l = false)) : numV l = val l ∧ numB l = true := by
  unfold numV numB number
  rw [if_neg h]
  exact ⟨rfl, rfl⟩

set_option maxHeartbeats 4000000 in
theorem number_any (s : ByteArray) (w : World) (hm : s.size ≤ maxLen) :
    Calls Tryz.prog 40 #[.string s, .int .i64 9] w fun e w' => e = .returned (.tuple #[.int .i64 (numV s.data.toList : Nat), .bool (numB s.data.toList)]) ∧ w' = w := by
  have hsl : s.data.toList.length = s.size := by simp
  have hmi : (s.size : Int) ≤ 9223372036854775807 := by unfold maxLen at hm; omega
  clear hm
  by_cases h0 : s.data.toList = []
  · have HV : Hid (numV s.data.toList = 0 ∧ numB s.data.toList = false) := num_no (.inl h0)
    have he : (s.toList == []) = true := by rw [ByteArray.toList_eq, h0]; rfl
    clear h0
    go_enter Tryz.func40, Tryz.ntmps40
    go_wp2_with fail
    go_ret2
    exact ⟨by rw [HV.out.1, HV.out.2]; rfl, rfl⟩
  have he : (s.toList == []) = false := by rw [ByteArray.toList_eq, beq_eq_false_iff_ne]; exact h0
  have hpos : 0 < s.size := by rw [← hsl]; exact List.length_pos_iff.2 h0
  by_cases h1 : 9 < s.size
  · have HV : Hid (numV s.data.toList = 0 ∧ numB s.data.toList = false) := num_no (.inr (.inl (by omega)))
    have i1 : (9 : Int) < (s.size : Int) := by omega
    clear h0 h1
    go_enter Tryz.func40, Tryz.ntmps40
    go_wp2_with fail
    go_ret2
    exact ⟨by rw [HV.out.1, HV.out.2]; rfl, rfl⟩
  have i1 : ¬ (9 : Int) < (s.size : Int) := by omega
  have j0 : (0 : Int) < (s.size : Int) := by omega
  have hhd : s.data.toList.head? = some (s[0]'hpos) := by
    rw [List.head?_eq_getElem?, List.getElem?_eq_getElem (by omega)]
    rfl
  obtain ⟨c, HC⟩ : ∃ c : UInt8, Hid (s[0]'hpos = c) := ⟨_, rfl⟩
  have y0 : ∀ h, s[0]'h = c := fun _ => HC.out
  rw [HC.out] at hhd
  by_cases h2 : needless s.data.toList = true
  · have HV : Hid (numV s.data.toList = 0 ∧ numB s.data.toList = false) := num_no (.inr (.inr (.inl h2)))
    have hq := of_decide_eq_true h2
    rw [hhd, hsl] at hq
    obtain rfl : c = 48 := Option.some.inj hq.1
    have i2 : (1 : Int) < (s.size : Int) := by omega
    clear h0 h1 h2 hq hhd
    go_enter Tryz.func40, Tryz.ntmps40
    go_wp2_with fail
    go_ret2
    exact ⟨by rw [HV.out.1, HV.out.2]; rfl, rfl⟩
  have hq : c ≠ 48 ∨ ¬ 1 < s.size := by
    by_cases hc : c = 48
    · refine .inr fun h => h2 (decide_eq_true ⟨by rw [hhd, hc], by rw [hsl]; exact h⟩)
    · exact .inl hc
  have HG : Hid (allDig s.data.toList = true → numV s.data.toList = val s.data.toList ∧ numB s.data.toList = true) := fun h => num_yes (by
    rintro (q | q | q | q)
    · exact h0 q
    · omega
    · exact h2 q
    · rw [h] at q; cases q)
  have HF : Hid (allDig s.data.toList = false → numV s.data.toList = 0 ∧ numB s.data.toList = false) := fun h => num_no (.inr (.inr (.inr h)))
  have h9 : s.size ≤ 9 := by omega
  have H9 : Hid (s.size ≤ 9) := h9
  clear h0 h1 h2 hhd
  go_enter Tryz.func40, Tryz.ntmps40
  go_upto_region 1 with fail
  go_cut [25] from 8 to 24 (fun v wc => v = .bool false ∧ w = wc)
  case first => as_aux_lemma =>
    by_cases hc : c = 48
    · subst hc
      have i2 : ¬ (1 : Int) < (s.size : Int) := by rcases hq with q | q; exact absurd rfl q; omega
      clear hq
      go_wp2_with fail
      go_meet
      case rel => exact ⟨rfl, rfl⟩
    · have hx : ((c.toNat : Int) == 48) = false := by
        rw [beq_eq_false_iff_ne]
        intro h
        exact hc (UInt8.toNat_inj.1 (by have e : (48 : UInt8).toNat = 48 := rfl; omega))
      clear hq
      go_wp2_with fail
      go_meet
      case rel => exact ⟨rfl, rfl⟩
  obtain ⟨rfl, rfl⟩ := hcut
  clear hq y0 HC j0
  go_wp2_with fail
  go_loop [6, 7] (fun v i => ∃ k : Nat, k ≤ s.size ∧ i = .int .i64 (k : Int) ∧ v = .int .i64 ((val (s.data.toList.take k) : Nat) : Int) ∧ Hid (allDig (s.data.toList.take k) = true)) (fun _ i => s.size - (intOf i).toNat)
  case atStart => exact ⟨0, Nat.zero_le _, rfl, rfl, rfl⟩
  case round =>
    obtain ⟨k, hk, rfl, rfl, HA⟩ := hrel
    have hvs := val_small s k H9.out HA.out
    by_cases hlt : k < s.size
    · have i2 : (k : Int) < (s.size : Int) := by omega
      have HB : Hid (allDig (s.data.toList.take (k + 1)) = (allDig (s.data.toList.take k) && isDig s[k])) := allDig_take s k hlt
      have HVs : Hid (val (s.data.toList.take (k + 1)) = val (s.data.toList.take k) * 10 + (s[k].toNat - 48)) := val_take s k hlt
      have HNo : Hid (isDig s[k] = false → allDig s.data.toList = false) := allDig_no s k hlt
      have HIs : Hid (isDig s[k] = decide (48 ≤ s[k].toNat ∧ s[k].toNat ≤ 57)) := rfl
      obtain ⟨x, hx, HX0⟩ : ∃ x : Nat, (∀ h, (s[k]'h).toNat = x) ∧ Hid (s[k].toNat = x) := ⟨s[k].toNat, fun _ => rfl, rfl⟩
      have hx1 : x < 256 := by have := HX0.out; have := s[k].toNat_lt; omega
      rw [HX0.out] at HVs HIs
      generalize val (s.data.toList.take k) = V at hvs HVs
      by_cases h1 : x < 48
      · have i3 : (x : Int) < 48 := by omega
        have HD : Hid (numV s.data.toList = 0 ∧ numB s.data.toList = false) := HF.out (HNo.out (by rw [HIs.out]; exact decide_eq_false (by omega)))
        clear h1
        go_wp2_with fail
        go_ret2
        exact ⟨by rw [HD.out.1, HD.out.2]; rfl, rfl⟩
      · have i3 : ¬ (x : Int) < 48 := by omega
        by_cases h2 : 57 < x
        · have i4 : (57 : Int) < (x : Int) := by omega
          have HD : Hid (numV s.data.toList = 0 ∧ numB s.data.toList = false) := HF.out (HNo.out (by rw [HIs.out]; exact decide_eq_false (by omega)))
          clear h1 h2
          go_wp2_with fail
          go_ret2
          exact ⟨by rw [HD.out.1, HD.out.2]; rfl, rfl⟩
        · have i4 : ¬ (57 : Int) < (x : Int) := by omega
          have HD : Hid (allDig (s.data.toList.take (k + 1)) = true) := by
            show _ = _
            rw [HB.out, HA.out, HIs.out, decide_eq_true (by omega)]
            rfl
          go_wp2_with fail
          go_round
          case rel => exact ⟨k + 1, by omega, by go_num, by rw [HVs.out]; go_num, HD⟩
          case measure => simp [intOf]; omega
    · have i2 : ¬ (k : Int) < (s.size : Int) := by omega
      have ht : s.data.toList.take k = s.data.toList := List.take_of_length_le (by omega)
      have HD : Hid (numV s.data.toList = val s.data.toList ∧ numB s.data.toList = true) := HG.out (by have := HA.out; rw [ht] at this; exact this)
      rw [ht]
      generalize val s.data.toList = V at HD
      go_wp2_with fail
      go_ret2
      exact ⟨by rw [HD.out.1, HD.out.2]; rfl, rfl⟩

theorem infoS : (Tryz.prog.info? 9).map (fun i => (i.zero, i.size, i.bytes)) = some (some (.string ⟨#[]⟩), 1, 16) := by kernel_rfl
theorem cut_str (s : ByteArray) (a b : Nat) : s.extract a b = str ((s.data.toList.take b).drop a) := by
  apply ByteArray.ext
  apply Array.toList_inj.1
  simp [str, List.drop_take]
theorem part_at {l : List UInt8} {F k : Nat} (hF : F ≤ k) (hk : k < l.length) : l.drop F = (l.take k).drop F ++ l[k] :: l.drop (k + 1) := by
  have e : l = l.take k ++ l[k] :: l.drop (k + 1) := by rw [List.getElem_cons_drop, List.take_append_drop]
  conv => lhs; rw [e]
  rw [List.drop_append_of_le_length (by rw [List.length_take]; omega)]
theorem part_next {l : List UInt8} {F k : Nat} (hF : F ≤ k) (hk : k < l.length) : (l.take (k + 1)).drop F = (l.take k).drop F ++ [l[k]] := by
  rw [List.take_succ_eq_append_getElem hk, List.drop_append_of_le_length (by rw [List.length_take]; omega)]

set_option maxHeartbeats 4000000 in
set_option maxRecDepth 100000 in
theorem cut_any (s : ByteArray) (c : UInt8) (w : World) (hs : s.size ≤ 1048576) :
    Calls Tryz.prog 39 #[.string s, .int .u8 (c.toNat : Int)] w fun e w' => ∃ v, e = .returned v ∧ w'.ownsRow w.heap.size 9 1 v (words c s.data.toList).length (strs ((words c s.data.toList).map str)) ∧ Below w.heap.size w w' := by
  obtain ⟨i0, hi, hz0, hz1, hz2⟩ := info_parts infoS
  have hsl : s.data.toList.length = s.size := by simp
  go_enter Tryz.func39, Tryz.ntmps39
  go_wp2_with fail
  go_loopw [5, 6, 7] (fun v f i wr => ∃ (k F : Nat) (W : List (List UInt8)), F ≤ k ∧ k ≤ s.size ∧ f = .int .i64 (F : Int) ∧ i = .int .i64 (k : Int) ∧ Hid (words c s.data.toList = W ++ words c (s.data.toList.drop F)) ∧ Hid (c ∉ (s.data.toList.take k).drop F) ∧ W.length ≤ k ∧ wr.ownsRow w.heap.size 9 1 v W.length (strs (W.map str)) ∧ Below w.heap.size w wr) (fun _ _ i _ => s.size - (intOf i).toNat)
  case atStart => exact ⟨0, 0, [], Nat.le_refl _, Nat.zero_le _, rfl, rfl, rfl, (by show c ∉ _; simp), Nat.le_refl _, World.ownsRow_nil _ _ _ _, Below.refl _ _⟩
  case round =>
    obtain ⟨k, F, W, hF, hk, rfl, rfl, HWd, HNo, hWl, hown, hb⟩ := hrel
    have HO : Hid (wr.ownsRow w.heap.size 9 1 u5 W.length (strs (W.map str))) := hown
    have HB : Hid (Below w.heap.size w wr) := hb
    clear hown hb
    by_cases hlt : k < s.size
    · have i1 : (k : Int) < (s.size : Int) := by omega
      have e0 := part_at hF (show k < s.data.toList.length by omega)
      have e1 := part_next hF (show k < s.data.toList.length by omega)
      have eg : s.data.toList[k]'(by omega) = s[k] := rfl
      rw [eg] at e0 e1
      obtain ⟨x, HX0⟩ : ∃ x : UInt8, Hid (s[k] = x) := ⟨s[k], (rfl : s[k] = s[k])⟩
      have y0 : ∀ h, s[k]'h = x := fun _ => HX0.out
      rw [HX0.out] at e0 e1
      by_cases hc : x = c
      · subst hc
        have HW2 : Hid (words x s.data.toList = (W ++ [(s.data.toList.take k).drop F]) ++ words x (s.data.toList.drop (k + 1))) := by
          show _ = _
          rw [HWd.out, e0, Decimals.words_cut _ HNo.out, List.append_assoc]
          rfl
        have HN2 : Hid (x ∉ (s.data.toList.take (k + 1)).drop (k + 1)) := by
          show x ∉ _
          rw [List.drop_of_length_le (by rw [List.length_take]; omega)]
          simp
        have HCu : Hid (s.extract F k = str ((s.data.toList.take k).drop F)) := cut_str s F k
        generalize (s.data.toList.take k).drop F = M at HW2 HCu
        have hq : ((x.toNat : Int) == (x.toNat : Int)) = true := by simp
        have i3 : (F : Int) ≤ (k : Int) := by omega
        have i4 : (k : Int) ≤ (s.size : Int) := by omega
        clear e0 e1 HWd HNo
        go_upto_region 7 with fail
        have hfn : 0 ≤ (F : Int) := by omega
        go_wp2_with (at_builtin; go_must (refine wpList_append_own _ rfl (.tmp 19) (.tmp 24) 79 rfl w.heap.size 9 i0 (.string ⟨#[]⟩) 1 16 Tryz.underlying79 hi hz0 hz1 hz2 rfl (by decide) _ _ _ rfl (HO.out.alloc _) ⟨_, 0, none⟩ 1 1 [.string (s.extract F k)] rfl rfl (cell_one_new _ _ _) (fun u hu => by rw [List.mem_singleton.1 hu]; rfl) (by unfold maxLen; omega) (by omega) (by have := HB.out.size; simp; omega) ?_); intro v1 wn o1 g1 z1; clear z1)
        have HBN : Hid (Below w.heap.size w wn) := (HB.out.alloc HB.out.size _).grown g1 (by have := HB.out.size; simp; omega) (fun k hk => (HO.out.lt k hk).1)
        have HON : Hid (wn.ownsRow w.heap.size 9 1 v1 (W ++ [M]).length (strs ((W ++ [M]).map str))) := by
          rw [show (W ++ [M]).length = W.length + 1 by simp, show strs ((W ++ [M]).map str) = strs (W.map str) ++ [.string (s.extract F k)] by rw [HCu.out]; simp [strs]]
          exact o1
        clear g1 o1 HO HB
        go_roundw
        case rel => exact ⟨k + 1, k + 1, W ++ [M], Nat.le_refl _, by omega, by go_num, by go_num, HW2, HN2, by simp; omega, HON.out, HBN.out⟩
        case measure => simp [intOf]; omega
      · have hq : ((x.toNat : Int) == (c.toNat : Int)) = false := by
          rw [beq_eq_false_iff_ne]
          intro h
          exact hc (UInt8.toNat_inj.1 (by omega))
        have HN2 : Hid (c ∉ (s.data.toList.take (k + 1)).drop F) := by
          show c ∉ _
          rw [e1]
          intro h
          rcases List.mem_append.1 h with h | h
          · exact HNo.out h
          · exact hc (List.mem_singleton.1 h).symm
        clear e0 e1 HNo hc
        go_wp2_with fail
        go_roundw
        case rel => exact ⟨k + 1, F, W, by omega, by omega, rfl, by go_num, HWd, HN2, by omega, HO.out, HB.out⟩
        case measure => simp [intOf]; omega
    · have i1 : ¬ (k : Int) < (s.size : Int) := by omega
      have ht : s.data.toList.take k = s.data.toList := List.take_of_length_le (by omega)
      rw [ht] at HNo
      have HW2 : Hid (words c s.data.toList = W ++ [s.data.toList.drop F]) := by
        show _ = _
        rw [HWd.out, Decimals.words_none HNo.out]
      have HCu : Hid (s.extract F s.size = str (s.data.toList.drop F)) := by
        show _ = _
        rw [cut_str s F s.size, List.take_of_length_le (by omega)]
      generalize s.data.toList.drop F = M at HW2 HCu
      have i3 : (F : Int) ≤ (s.size : Int) := by omega
      have hfn : 0 ≤ (F : Int) := by omega
      clear HWd HNo ht
      go_upto_region 9 with fail
      go_wp2_with (at_builtin; go_must (refine wpList_append_own _ rfl (.tmp 28) (.tmp 32) 79 rfl w.heap.size 9 i0 (.string ⟨#[]⟩) 1 16 Tryz.underlying79 hi hz0 hz1 hz2 rfl (by decide) _ _ _ rfl (HO.out.alloc _) ⟨_, 0, none⟩ 1 1 [.string (s.extract F s.size)] rfl rfl (cell_one_new _ _ _) (fun u hu => by rw [List.mem_singleton.1 hu]; rfl) (by unfold maxLen; omega) (by omega) (by have := HB.out.size; simp; omega) ?_); intro v1 wn o1 g1 z1; clear z1)
      have HBN : Hid (Below w.heap.size w wn) := (HB.out.alloc HB.out.size _).grown g1 (by have := HB.out.size; simp; omega) (fun k hk => (HO.out.lt k hk).1)
      have HON : Hid (wn.ownsRow w.heap.size 9 1 v1 (words c s.data.toList).length (strs ((words c s.data.toList).map str))) := by
        rw [HW2.out, show (W ++ [M]).length = W.length + 1 by simp, show strs ((W ++ [M]).map str) = strs (W.map str) ++ [.string (s.extract F s.size)] by rw [HCu.out]; simp [strs]]
        exact o1
      clear g1 o1 HO HB
      go_ret
      exact ⟨_, rfl, HON.out, HBN.out⟩

end Go.Proofs.YticadkggaanbjaaGreatDoor.WalkNumberRef
