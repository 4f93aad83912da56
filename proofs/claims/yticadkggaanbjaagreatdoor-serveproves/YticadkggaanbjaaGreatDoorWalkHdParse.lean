/-
  A text as a head: the program's parseDecimal, syntaxFirst and Parse.
-/
import Derived.Test.YticadkggaanbjaaGreatDoorHdRun
import Derived.Test.YticadkggaanbjaaGreatDoorWalkReadRef
namespace Go.Proofs.YticadkggaanbjaaGreatDoor.WalkHdParse
open Go.RowKit
open Lists (bt)
open Errs (errv errv0 errv_pos)
open Heads (Head ok headE parse zero)
open HeadVals (hv aggH sizeH At)
open Nums (str text valid read)
open Decimals (dec number words allDig isDig val needless)
open WalkHdLib (Tabs)
open WalkReadRef (quad quad_new quad_set set_below fourE parse_four parse_not)
open WalkNumberRef (numV numB num_no num_yes allDig_take val_take allDig_no val_small)

/-- what is wrong with a word as a number -/
def numE (l : List UInt8) : Nat := if numB l = true then 0 else 2
theorem no_num {l : List UInt8} (h : l = [] ∨ 9 < l.length ∨ needless l = true ∨ allDig l = false) : numV l = 0 ∧ numE l = 2 := by
  have := num_no h
  refine ⟨this.1, if_neg ?_⟩
  rw [this.2]
  decide
theorem yes_num {l : List UInt8} (h : ¬ (l = [] ∨ 9 < l.length ∨ needless l = true ∨ allDig l = false)) : numV l = val l ∧ numE l = 0 := by
  have := num_yes h
  exact ⟨this.1, if_pos this.2⟩

set_option maxHeartbeats 4000000 in
theorem decimal_any (s : ByteArray) (w : World) (hm : s.size ≤ maxLen) :
    Calls Tryz.prog 64 #[.string s] w fun e w' => e = .returned (.tuple #[.int .i64 (numV s.data.toList : Nat), errv (numE s.data.toList)]) ∧ w' = w := by
  have hsl : s.data.toList.length = s.size := by simp
  have hmi : (s.size : Int) ≤ 9223372036854775807 := by unfold maxLen at hm; omega
  clear hm
  by_cases h0 : s.data.toList = []
  · have HV : Hid (numV s.data.toList = 0 ∧ numE s.data.toList = 2) := no_num (.inl h0)
    have he : (s.toList == []) = true := by rw [ByteArray.toList_eq, h0]; rfl
    clear h0
    go_enter Tryz.func64, Tryz.ntmps64
    go_wp2_with fail
    go_ret2
    exact ⟨by rw [HV.out.1, HV.out.2]; rfl, rfl⟩
  have he : (s.toList == []) = false := by rw [ByteArray.toList_eq, beq_eq_false_iff_ne]; exact h0
  have hpos : 0 < s.size := by rw [← hsl]; exact List.length_pos_iff.2 h0
  by_cases h1 : 9 < s.size
  · have HV : Hid (numV s.data.toList = 0 ∧ numE s.data.toList = 2) := no_num (.inr (.inl (by omega)))
    have i1 : (9 : Int) < (s.size : Int) := by omega
    clear h0 h1
    go_enter Tryz.func64, Tryz.ntmps64
    go_wp2_with fail
    go_ret2
    exact ⟨by rw [HV.out.1, HV.out.2]; rfl, rfl⟩
  have i1 : ¬ (9 : Int) < (s.size : Int) := by omega
  have j0 : (0 : Int) < (s.size : Int) := by omega
  have hhd : s.data.toList.head? = some (s[0]'hpos) := by
    rw [List.head?_eq_getElem?, List.getElem?_eq_getElem (by omega)]
    rfl
  obtain ⟨c, HC⟩ : ∃ c : UInt8, Hid (s[0]'hpos = c) := ⟨_, rfl⟩
  have y0 : ∀ h, s[0]'h = c := fun _ => HC.out
  rw [HC.out] at hhd
  by_cases h2 : needless s.data.toList = true
  · have HV : Hid (numV s.data.toList = 0 ∧ numE s.data.toList = 2) := no_num (.inr (.inr (.inl h2)))
    have hq := of_decide_eq_true h2
    rw [hhd, hsl] at hq
    obtain rfl : c = 48 := Option.some.inj hq.1
    have i2 : (1 : Int) < (s.size : Int) := by omega
    clear h0 h1 h2 hq hhd
    go_enter Tryz.func64, Tryz.ntmps64
    go_wp2_with fail
    go_ret2
    exact ⟨by rw [HV.out.1, HV.out.2]; rfl, rfl⟩
  have hq : c ≠ 48 ∨ ¬ 1 < s.size := by
    by_cases hc : c = 48
    · refine .inr fun h => h2 (decide_eq_true ⟨by rw [hhd, hc], by rw [hsl]; exact h⟩)
    · exact .inl hc
  have HG : Hid (allDig s.data.toList = true → numV s.data.toList = val s.data.toList ∧ numE s.data.toList = 0) := fun h => yes_num (by
    rintro (q | q | q | q)
    · exact h0 q
    · omega
    · exact h2 q
    · rw [h] at q; cases q)
  have HF : Hid (allDig s.data.toList = false → numV s.data.toList = 0 ∧ numE s.data.toList = 2) := fun h => no_num (.inr (.inr (.inr h)))
  have h9 : s.size ≤ 9 := by omega
  have H9 : Hid (s.size ≤ 9) := h9
  clear h0 h1 h2 hhd
  go_enter Tryz.func64, Tryz.ntmps64
  go_upto_region 1 with fail
  go_cut [22] from 6 to 21 (fun v wc => v = .bool false ∧ w = wc)
  case first => as_aux_lemma =>
    by_cases hc : c = 48
    · subst hc
      have i2 : ¬ (1 : Int) < (s.size : Int) := by rcases hq with q | q; exact absurd rfl q; omega
      clear hq
      go_wp2_with fail
      go_meet
      case rel => exact ⟨rfl, rfl⟩
    · have hx : ((c.toNat : Int) == 48) = false := by
        rw [beq_eq_false_iff_ne]
        intro h
        exact hc (UInt8.toNat_inj.1 (by have e : (48 : UInt8).toNat = 48 := rfl; omega))
      clear hq
      go_wp2_with fail
      go_meet
      case rel => exact ⟨rfl, rfl⟩
  obtain ⟨rfl, rfl⟩ := hcut
  clear hq y0 HC j0
  go_wp2_with fail
  go_loop [4, 26] (fun v i => ∃ k : Nat, k ≤ s.size ∧ i = .int .i64 (k : Int) ∧ v = .int .i64 ((val (s.data.toList.take k) : Nat) : Int) ∧ Hid (allDig (s.data.toList.take k) = true)) (fun _ i => s.size - (intOf i).toNat)
  case atStart => exact ⟨0, Nat.zero_le _, rfl, rfl, rfl⟩
  case round =>
    obtain ⟨k, hk, rfl, rfl, HA⟩ := hrel
    have hvs := val_small s k H9.out HA.out
    by_cases hlt : k < s.size
    · have i2 : (k : Int) < (s.size : Int) := by omega
      have HB : Hid (allDig (s.data.toList.take (k + 1)) = (allDig (s.data.toList.take k) && isDig s[k])) := allDig_take s k hlt
      have HVs : Hid (val (s.data.toList.take (k + 1)) = val (s.data.toList.take k) * 10 + (s[k].toNat - 48)) := val_take s k hlt
      have HNo : Hid (isDig s[k] = false → allDig s.data.toList = false) := allDig_no s k hlt
      have HIs : Hid (isDig s[k] = decide (48 ≤ s[k].toNat ∧ s[k].toNat ≤ 57)) := rfl
      obtain ⟨x, hx, HX0⟩ : ∃ x : Nat, (∀ h, (s[k]'h).toNat = x) ∧ Hid (s[k].toNat = x) := ⟨s[k].toNat, fun _ => rfl, rfl⟩
      have hx1 : x < 256 := by have := HX0.out; have := s[k].toNat_lt; omega
      rw [HX0.out] at HVs HIs
      generalize val (s.data.toList.take k) = V at hvs HVs
      by_cases h1 : x < 48
      · have i3 : (x : Int) < 48 := by omega
        have HD : Hid (numV s.data.toList = 0 ∧ numE s.data.toList = 2) := HF.out (HNo.out (by rw [HIs.out]; exact decide_eq_false (by omega)))
        clear h1
        go_wp2_with fail
        go_ret2
        exact ⟨by rw [HD.out.1, HD.out.2]; rfl, rfl⟩
      · have i3 : ¬ (x : Int) < 48 := by omega
        by_cases h2 : 57 < x
        · have i4 : (57 : Int) < (x : Int) := by omega
          have HD : Hid (numV s.data.toList = 0 ∧ numE s.data.toList = 2) := HF.out (HNo.out (by rw [HIs.out]; exact decide_eq_false (by omega)))
          clear h1 h2
          go_wp2_with fail
          go_ret2
          exact ⟨by rw [HD.out.1, HD.out.2]; rfl, rfl⟩
        · have i4 : ¬ (57 : Int) < (x : Int) := by omega
          have HD : Hid (allDig (s.data.toList.take (k + 1)) = true) := by
            show _ = _
            rw [HB.out, HA.out, HIs.out, decide_eq_true (by omega)]
            rfl
          go_wp2_with fail
          go_round
          case rel => exact ⟨k + 1, by omega, by go_num, by rw [HVs.out]; go_num, HD⟩
          case measure => simp [intOf]; omega
    · have i2 : ¬ (k : Int) < (s.size : Int) := by omega
      have ht : s.data.toList.take k = s.data.toList := List.take_of_length_le (by omega)
      have HD : Hid (numV s.data.toList = val s.data.toList ∧ numE s.data.toList = 0) := HG.out (by have := HA.out; rw [ht] at this; exact this)
      rw [ht]
      generalize val s.data.toList = V at HD
      go_wp2_with fail
      go_ret2
      exact ⟨by rw [HD.out.1, HD.out.2]; rfl, rfl⟩

theorem mix_any (s : ByteArray) (w : World) : Calls Tryz.prog 65 #[.string s] w fun e w' => e = .returned (.tuple #[.int .i64 (read s.data.toList).1, errv (read s.data.toList).2]) ∧ w' = w := by
  rcases Nums.read_cases s.data.toList with ⟨k, h⟩ | h | h
  · rw [h]; exact WalkHex.parse_ok s w k h
  · rw [h]; exact WalkHex.parse_range s w h
  · rw [h]; exact WalkHex.parse_syntax s w h
theorem read_le (l : List UInt8) : (read l).2 ≤ 2 := by
  rcases Nums.read_cases l with ⟨k, h⟩ | h | h <;> rw [h] <;> simp
theorem numE_le (l : List UInt8) : numE l ≤ 2 := by unfold numE; split <;> omega

/-- of the faults of words: one that is none first, then one that is out of its bounds -/
def synE (E : Nat → Nat) (n : Nat) : Nat := if ∃ j, j < n ∧ E j = 2 then 2 else if ∃ j, j < n ∧ E j = 1 then 1 else 0
theorem syn_two {E : Nat → Nat} {n j : Nat} (hj : j < n) (h : E j = 2) : synE E n = 2 := if_pos ⟨j, hj, h⟩
theorem syn_zero (E : Nat → Nat) : synE E 0 = 0 := by
  unfold synE
  rw [if_neg (by rintro ⟨j, h, _⟩; omega), if_neg (by rintro ⟨j, h, _⟩; omega)]
theorem syn_next {E : Nat → Nat} {k : Nat} (hn : synE E k ≠ 2) (h2 : E k ≤ 1) : synE E (k + 1) = if synE E k = 0 then E k else synE E k := by
  have q2 : ¬ ∃ j, j < k ∧ E j = 2 := fun h => hn (if_pos h)
  have p2 : ¬ ∃ j, j < k + 1 ∧ E j = 2 := by
    rintro ⟨j, h1, h3⟩
    by_cases e : j = k
    · subst e; omega
    · exact q2 ⟨j, by omega, h3⟩
  unfold synE
  rw [if_neg p2, if_neg q2]
  by_cases q1 : ∃ j, j < k ∧ E j = 1
  · have p1 : ∃ j, j < k + 1 ∧ E j = 1 := by obtain ⟨j, h1, h3⟩ := q1; exact ⟨j, by omega, h3⟩
    rw [if_pos q1, if_pos p1, if_neg (by decide)]
  · rw [if_neg q1, if_pos rfl]
    by_cases e : E k = 1
    · rw [if_pos ⟨k, by omega, e⟩, e]
    · rw [if_neg (by
        rintro ⟨j, h1, h3⟩
        by_cases ej : j = k
        · subst ej; exact e h3
        · exact q1 ⟨j, by omega, h3⟩)]
      omega
theorem syn_le {E : Nat → Nat} {k : Nat} (hn : synE E k ≠ 2) : synE E k = 0 ∨ synE E k = 1 := by
  unfold synE at hn ⊢
  split
  · rename_i h; rw [if_pos h] at hn; exact absurd rfl hn
  · split
    · exact .inr rfl
    · exact .inl rfl

set_option maxHeartbeats 4000000 in
theorem syntax_any (E : Nat → Nat) (hE : ∀ j, j < 4 → E j ≤ 2) (b : Nat) (w : World) (hc : ∀ j, j < 4 → w.cell? ⟨b, j, none⟩ = some (errv (E j))) :
    Calls Tryz.prog 66 #[.slice (some ⟨b, 0, none⟩) 4 4] w fun e w' => e = .returned (errv (synE E 4)) ∧ w' = w := by
  have HE : Hid (∀ j, j < 4 → E j ≤ 2) := hE
  have HC : Hid (∀ j, j < 4 → w.cell? ⟨b, j, none⟩ = some (errv (E j))) := hc
  have cN := WalkHdLib.is_nil w
  have c1 := WalkHdLib.is_one w
  have c2 := WalkHdLib.is_two w
  clear hE hc
  go_enter Tryz.func66, Tryz.ntmps66
  go_wp2_with fail
  go_loop [3, 8] (fun v i => ∃ k F : Nat, k ≤ 4 ∧ i = .int .i64 (k : Int) ∧ v = errv F ∧ F ≤ 1 ∧ Hid (synE E k = F)) (fun _ i => 4 - (intOf i).toNat)
  case atStart => exact ⟨0, 0, Nat.zero_le _, rfl, rfl, Nat.zero_le _, syn_zero E⟩
  case round =>
    obtain ⟨k, F, hk, rfl, rfl, hF, HS⟩ := hrel
    by_cases hlt : k < 4
    · have i2 : (k : Int) < 4 := by omega
      have p0 := HC.out k hlt
      have hk2 := HE.out k hlt
      by_cases e2 : E k = 2
      · have HR : Hid (synE E 4 = 2) := syn_two hlt e2
        rw [e2] at p0
        have p1 : w.cell? ⟨b, k, none⟩ = some (.iface 99 (.int .i64 2)) := p0
        clear p0 e2 hk2
        go_wp2_with fail
        refine c2.mono ?_
        rintro e w1 ⟨rfl, rfl⟩
        go_wp2_with fail
        go_ret
        exact ⟨by rw [HR.out]; rfl, rfl⟩
      have HN : Hid (synE E (k + 1) = if F = 0 then E k else F) := by
        show _ = _
        rw [syn_next (by rw [HS.out]; omega) (by omega), HS.out]
      by_cases e1 : E k = 1
      · rw [e1] at p0
        have p1 : w.cell? ⟨b, k, none⟩ = some (.iface 99 (.int .i64 1)) := p0
        rw [e1] at HN
        clear p0 e2 e1 hk2
        by_cases f0 : F = 0
        · subst f0
          rw [errv0]
          go_wp2_with fail
          refine c1.mono ?_
          rintro e w1 ⟨rfl, rfl⟩
          go_wp2_with fail
          go_round
          case rel => exact ⟨k + 1, 1, by omega, by go_num, rfl, Nat.le_refl _, HN⟩
          case measure => simp [intOf]; omega
        · obtain rfl : F = 1 := by omega
          have hv1 : errv 1 = .iface 99 (.int .i64 1) := rfl
          rw [hv1]
          go_wp2_with fail
          refine c1.mono ?_
          rintro e w1 ⟨rfl, rfl⟩
          go_wp2_with fail
          go_round
          case rel => exact ⟨k + 1, 1, by omega, by go_num, rfl, Nat.le_refl _, HN⟩
          case measure => simp [intOf]; omega
      · have e0 : E k = 0 := by omega
        rw [e0] at p0 HN
        have p1 : w.cell? ⟨b, k, none⟩ = some .nilIface := p0
        clear p0 e2 e1 e0 hk2
        by_cases f0 : F = 0
        · subst f0
          rw [errv0]
          go_wp2_with fail
          refine cN.mono ?_
          rintro e w1 ⟨rfl, rfl⟩
          go_wp2_with fail
          go_round
          case rel => exact ⟨k + 1, 0, by omega, by go_num, rfl, Nat.zero_le _, HN⟩
          case measure => simp [intOf]; omega
        · obtain rfl : F = 1 := by omega
          have hv1 : errv 1 = .iface 99 (.int .i64 1) := rfl
          rw [hv1]
          go_wp2_with fail
          refine cN.mono ?_
          rintro e w1 ⟨rfl, rfl⟩
          go_wp2_with fail
          go_round
          case rel => exact ⟨k + 1, 1, by omega, by go_num, rfl, Nat.le_refl _, HN⟩
          case measure => simp [intOf]; omega
    · have i2 : ¬ (k : Int) < 4 := by omega
      obtain rfl : k = 4 := by omega
      go_wp2_with fail
      go_ret
      exact ⟨by rw [HS.out]; rfl, rfl⟩

end Go.Proofs.YticadkggaanbjaaGreatDoor.WalkHdParse
