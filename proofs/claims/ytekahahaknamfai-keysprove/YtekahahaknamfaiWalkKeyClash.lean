/-
  What witlaw3.clash returns: two sums at one place that come to one root meet on the way, by two texts that are not the same.
-/
import Derived.Test.YtekahahaknamfaiKeyTrees
import Derived.Test.YtekahahaknamfaiLists
import Derived.Test.YtekahahaknamfaiWalkMix
import Derived.Test.YtekahahaknamfaiWalkSum
import Derived.Laws.DeepStrings4
import Derived.Deep.CutBlock
namespace Go.Proofs.Ytekahahaknamfai.WalkKeyClash
open Go.RowKit
open Nums (str)
open Lists (Row ints bt)
open Ways (up1 text1 meetsL)
open KeyTrees

theorem clash_same (a : Int) (S P : Value) (w : World) : Calls Try.prog 12 #[.int .i64 a, .int .i64 a, S, P] w fun e w' => e = .returned (.bool true) ∧ Below w.heap.size w w' := by
  have e1 : (a == a) = true := by simp
  go_enter Try.func12, Try.ntmps12
  go_wp2_with fail
  go_ret
  exact ⟨rfl, Below.refl _ _⟩
theorem bit_at {N k : Nat} (hk : k < 8) : (bitsT N)[7 - k]? = some (letter ((turns N).getD k false)) := by
  have hl := turns_length N
  unfold bitsT
  generalize turns N = ts at hl ⊢
  rw [List.getElem?_reverse (by rw [List.length_map]; omega), List.length_map, hl, show 8 - 1 - (7 - k) = k by omega, List.getElem?_map, List.getD_eq_getElem?_getD, List.getElem?_eq_getElem (show k < ts.length by omega)]
  rfl
theorem str_at {l : List UInt8} {k : Nat} {c : UInt8} (h : l[k]? = some c) : ∀ z, (str l)[k]'z = c := fun z => by
  obtain ⟨h1, h2⟩ := List.getElem?_eq_some_iff.1 h
  rw [← h2]
  rfl
theorem text_size (s y : Int) (t : Bool) : (str (text1 s y t)).size ≤ maxLen := by
  unfold text1
  rw [Nums.str_size]
  split <;> rw [Nums.nodeBytes_length] <;> decide
theorem ne_text {x y : List UInt8} (h : x ≠ y) : ((str x).toList != (str y).toList) = true := by
  rw [Nums.str_toList, Nums.str_toList]
  simpa using h
theorem ne_text' {x y : List UInt8} (h : x ≠ y) : ((str x).toList == (str y).toList) = false := by
  rw [Nums.str_toList, Nums.str_toList]
  simpa using h

set_option maxHeartbeats 4000000 in
theorem clash_meets (a b : Int) (N : Nat) (p : List Int) (x : Option Addr) (cap : Nat) (w : World) (hr : Row w x 8 cap (ints p)) (hv : ∀ z ∈ p, Nums.valid z = true) (ha : Nums.valid a = true) (hb : Nums.valid b = true) (hn : a ≠ b) (hm : meetsL a b p (turns N) = true) :
    Calls Try.prog 12 #[.int .i64 a, .int .i64 b, .string (str (bitsT N)), .slice x 8 cap] w fun e w' => e = .returned (.bool true) ∧ Below w.heap.size w w' := by
  have hln : p.length = 8 := by rw [← hr.1, Lists.ints_length]
  have HR : Hid (Row w x 8 cap (ints p)) := hr
  have HV : Hid (∀ z ∈ p, Nums.valid z = true) := hv
  have HAB : Hid (Nums.valid a = true ∧ Nums.valid b = true ∧ meetsL a b p (turns N) = true) := ⟨ha, hb, hm⟩
  have e1 : (a == b) = false := by simpa using hn
  have HL : Hid (∀ k (h : k < 8), (bitsT N)[7 - k]? = some (letter ((turns N).getD k false))) := fun k h => bit_at h
  have hsz : (str (bitsT N)).size = 8 := by rw [Nums.str_size, bitsT_length]
  have HZ : Hid (∀ k (h : k < 8) z, (str (bitsT N))[7 - k]'z = letter ((turns N).getD k false)) := fun k h z => str_at (HL.out k h) z
  have HTl : Hid ((turns N).length = 8) := turns_length N
  generalize str (bitsT N) = S at hsz HZ
  generalize turns N = ts at HZ HAB HTl HL
  clear hr hv ha hb hn hm HL
  go_enter Try.func12, Try.ntmps12
  go_wp2_with fail
  clear e1
  go_loopw [0, 1, 9] (fun av bv iv wr => ∃ (k : Nat) (A B : Int), k ≤ 8 ∧ av = .int .i64 A ∧ bv = .int .i64 B ∧ iv = .int .i64 (k : Int) ∧ Hid (Nums.valid A = true ∧ Nums.valid B = true ∧ meetsL A B (p.drop k) (ts.drop k) = true) ∧ Hid (Below w.heap.size w wr)) (fun _ _ iv _ => 8 - (intOf iv).toNat)
  case atStart => exact ⟨0, a, b, by omega, rfl, rfl, rfl, HAB, Below.refl _ _⟩
  case round =>
    clear HAB
    obtain ⟨k, A, B, hk, rfl, rfl, rfl, HM, HB⟩ := hrel
    by_cases hlt : k < 8
    · have i1 : (k : Int) < 8 := by omega
      have hkp : k < p.length := by omega
      have hkt : k < ts.length := by rw [HTl.out]; exact hlt
      obtain ⟨b0, off0, rfl, hc⟩ := HR.out.2.2 (by omega)
      have HC : Hid (∀ w', Below w.heap.size w w' → w'.cell? ⟨b0, off0 + k, none⟩ = some (.int .i64 (p.getD k 0))) := fun w' b => Lists.cell_below b (hc k _ (Lists.ints_at hkp))
      have hY : p.getD k 0 = p[k] := by rw [List.getD_eq_getElem?_getD, List.getElem?_eq_getElem hkp]; rfl
      have hT : ts.getD k false = ts[k] := by rw [List.getD_eq_getElem?_getD, List.getElem?_eq_getElem hkt]; rfl
      have HY : Hid (Nums.valid (p.getD k 0) = true) := by rw [hY]; exact HV.out _ (List.getElem_mem _)
      have hz := HZ.out k hlt
      have HS : Hid (meetsL A B (p.drop k) (ts.drop k) = if up1 A (p.getD k 0) (ts.getD k false) = up1 B (p.getD k 0) (ts.getD k false) then decide (text1 A (p.getD k 0) (ts.getD k false) ≠ text1 B (p.getD k 0) (ts.getD k false)) else meetsL (up1 A (p.getD k 0) (ts.getD k false)) (up1 B (p.getD k 0) (ts.getD k false)) (p.drop (k + 1)) (ts.drop (k + 1))) := by
        show _ = _
        rw [hY, hT, List.drop_eq_getElem_cons hkp, List.drop_eq_getElem_cons hkt]
        rfl
      clear hc hY hT
      generalize p.getD k 0 = Y at HC HY HS
      generalize (ts.getD k false) = t at hz HS
      obtain ⟨K, hK⟩ : ∃ K : Nat, 7 - k = K := ⟨_, rfl⟩
      have e1 : (7 : Int) - (k : Int) = (K : Int) := by omega
      have e2 : IntKind.i64.wrap (K : Int) = (K : Int) := by rw [IntKind.wrap_i64]; omega
      have e3 : (K : Int) < 8 := by omega
      have hz' : ∀ z, S[K]'z = letter t := by subst hK; exact hz
      have HN1 : Hid (∀ u v w', Nums.valid u = true → Nums.valid v = true → Calls Try.prog 26 #[.int .i64 u, .int .i64 v] w' fun e w'' => e = .returned (.tuple #[.string (str (Nums.nodeBytes u v)), .nilIface]) ∧ Below w'.heap.size w' w'') := fun u v w' h1 h2 => WalkMix.nodeBytes_yes u v w' h1 h2
      have HU : Hid (∀ s y t, up1 s y t = Sums.sum (text1 s y t)) := Ways.up1_text
      have HSm : Hid (∀ (s y : Int) (t : Bool) w', Calls Try.prog 27 #[.string (str (text1 s y t))] w' fun e w'' => e = .returned (.int .i64 (up1 s y t)) ∧ w'' = w') := fun s y t w' => by
        have h := WalkSum.sum_any (str (text1 s y t)) w' (text_size s y t)
        rw [Nums.str_data, ← Ways.up1_text] at h
        exact h
      have HVu : Hid (∀ s y t, Nums.valid (up1 s y t) = true) := Ways.up1_valid
      clear hz hK
      obtain ⟨UA, HUA⟩ : ∃ UA, Hid (up1 A Y t = UA) := ⟨_, rfl⟩
      obtain ⟨UB, HUB⟩ : ∃ UB, Hid (up1 B Y t = UB) := ⟨_, rfl⟩
      have cSA := HSm.out A Y t
      have cSB := HSm.out B Y t
      rw [HUA.out] at cSA
      rw [HUB.out] at cSB
      have HVA : Hid (Nums.valid UA = true ∧ Nums.valid UB = true) := by rw [← HUA.out, ← HUB.out]; exact ⟨HVu.out _ _ _, HVu.out _ _ _⟩
      have HS2 : Hid (if UA = UB then text1 A Y t ≠ text1 B Y t else meetsL UA UB (p.drop (k + 1)) (ts.drop (k + 1)) = true) := by
        have h := HM.out.2.2
        rw [HS.out, HUA.out, HUB.out] at h
        by_cases q : UA = UB
        · rw [if_pos q] at h
          show if UA = UB then _ else _
          rw [if_pos q]
          exact of_decide_eq_true h
        · rw [if_neg q] at h
          show if UA = UB then _ else _
          rw [if_neg q]
          exact h
      have p0 := HC.out _ HB.out
      cases t
      · have ez : ((letter false).toNat : Int) = 48 := rfl
        have hq : (((letter false).toNat : Int) == 49) = false := rfl
        rw [show text1 A Y false = Nums.nodeBytes A Y from rfl, show text1 B Y false = Nums.nodeBytes B Y from rfl] at HS2
        rw [show text1 A Y false = Nums.nodeBytes A Y from rfl] at cSA
        rw [show text1 B Y false = Nums.nodeBytes B Y from rfl] at cSB
        have cA := fun w' => HN1.out A Y w' HM.out.1 HY.out
        have cB := fun w' => HN1.out B Y w' HM.out.2.1 HY.out
        have HNe : Hid (Nums.nodeBytes A Y ≠ Nums.nodeBytes B Y → ((str (Nums.nodeBytes A Y)).toList == (str (Nums.nodeBytes B Y)).toList) = false) := ne_text'
        generalize letter false = c at hz' ez hq
        generalize str (Nums.nodeBytes A Y) = SX at cSA cA HNe
        generalize str (Nums.nodeBytes B Y) = SY at cSB cB HNe
        clear HS HSm HVu HU HN1
        go_wp2_with fail
        refine (cA _).mono ?_
        rintro e w1 ⟨rfl, b1⟩
        have HB1 : Hid (Below w.heap.size w w1) := bt HB.out b1
        have p1 := HC.out _ HB1.out
        clear b1 p0 cA
        go_wp2_with fail
        refine (cB _).mono ?_
        rintro e w2 ⟨rfl, b2⟩
        have HB2 : Hid (Below w.heap.size w w2) := bt HB1.out b2
        clear b2 p1 cB HB1
        go_wp2_with fail
        refine (cSA _).mono ?_
        rintro e w3 ⟨rfl, rfl⟩
        go_wp2_with fail
        refine (cSB _).mono ?_
        rintro e w4 ⟨rfl, rfl⟩
        by_cases q : UA = UB
        · have h := HS2.out
          rw [if_pos q] at h
          have eq : (UA == UB) = true := by simpa using q
          have en := HNe.out h
          clear q h HS2 HNe
          go_wp2_with fail
          go_ret
          exact ⟨rfl, HB2.out⟩
        · have h := HS2.out
          rw [if_neg q] at h
          have eq : (UA == UB) = false := by simpa using q
          have HMn : Hid (Nums.valid UA = true ∧ Nums.valid UB = true ∧ meetsL UA UB (p.drop (k + 1)) (ts.drop (k + 1)) = true) := ⟨HVA.out.1, HVA.out.2, h⟩
          clear q h HS2 HNe
          go_wp2_with fail
          go_roundw
          case rel => exact ⟨k + 1, UA, UB, by omega, rfl, rfl, by go_num, HMn, HB2⟩
          case measure => simp [intOf]; omega
      · have ez : ((letter true).toNat : Int) = 49 := rfl
        have hq : (((letter true).toNat : Int) == 49) = true := rfl
        rw [show text1 A Y true = Nums.nodeBytes Y A from rfl, show text1 B Y true = Nums.nodeBytes Y B from rfl] at HS2
        rw [show text1 A Y true = Nums.nodeBytes Y A from rfl] at cSA
        rw [show text1 B Y true = Nums.nodeBytes Y B from rfl] at cSB
        have cA := fun w' => HN1.out A Y w' HM.out.1 HY.out
        have cB := fun w' => HN1.out B Y w' HM.out.2.1 HY.out
        have cA2 := fun w' => HN1.out Y A w' HY.out HM.out.1
        have cB2 := fun w' => HN1.out Y B w' HY.out HM.out.2.1
        have HNe : Hid (Nums.nodeBytes Y A ≠ Nums.nodeBytes Y B → ((str (Nums.nodeBytes Y A)).toList == (str (Nums.nodeBytes Y B)).toList) = false) := ne_text'
        generalize letter true = c at hz' ez hq
        generalize str (Nums.nodeBytes Y A) = SX at cSA cA2 HNe
        generalize str (Nums.nodeBytes Y B) = SY at cSB cB2 HNe
        generalize str (Nums.nodeBytes A Y) = SX0 at cA
        generalize str (Nums.nodeBytes B Y) = SY0 at cB
        clear HS HSm HVu HU HN1
        go_wp2_with fail
        refine (cA _).mono ?_
        rintro e w1 ⟨rfl, b1⟩
        have HB1 : Hid (Below w.heap.size w w1) := bt HB.out b1
        have p1 := HC.out _ HB1.out
        clear b1 p0 cA
        go_wp2_with fail
        refine (cB _).mono ?_
        rintro e w2 ⟨rfl, b2⟩
        have HB2 : Hid (Below w.heap.size w w2) := bt HB1.out b2
        have p2 := HC.out _ HB2.out
        clear b2 p1 cB HB1
        go_wp2_with fail
        refine (cA2 _).mono ?_
        rintro e w3 ⟨rfl, b3⟩
        have HB3 : Hid (Below w.heap.size w w3) := bt HB2.out b3
        have p3 := HC.out _ HB3.out
        clear b3 p2 cA2 HB2
        go_wp2_with fail
        refine (cB2 _).mono ?_
        rintro e w4 ⟨rfl, b4⟩
        have HB4 : Hid (Below w.heap.size w w4) := bt HB3.out b4
        clear b4 p3 cB2 HB3
        go_wp2_with fail
        refine (cSA _).mono ?_
        rintro e w5 ⟨rfl, rfl⟩
        go_wp2_with fail
        refine (cSB _).mono ?_
        rintro e w6 ⟨rfl, rfl⟩
        by_cases q : UA = UB
        · have h := HS2.out
          rw [if_pos q] at h
          have eq : (UA == UB) = true := by simpa using q
          have en := HNe.out h
          clear q h HS2 HNe
          go_wp2_with fail
          go_ret
          exact ⟨rfl, HB4.out⟩
        · have h := HS2.out
          rw [if_neg q] at h
          have eq : (UA == UB) = false := by simpa using q
          have HMn : Hid (Nums.valid UA = true ∧ Nums.valid UB = true ∧ meetsL UA UB (p.drop (k + 1)) (ts.drop (k + 1)) = true) := ⟨HVA.out.1, HVA.out.2, h⟩
          clear q h HS2 HNe
          go_wp2_with fail
          go_roundw
          case rel => exact ⟨k + 1, UA, UB, by omega, rfl, rfl, by go_num, HMn, HB4⟩
          case measure => simp [intOf]; omega
    · obtain rfl : k = 8 := by omega
      have hF := HM.out.2.2
      rw [List.drop_of_length_le (by omega)] at hF
      exact absurd hF (by simp [meetsL])

end Go.Proofs.Ytekahahaknamfai.WalkKeyClash
