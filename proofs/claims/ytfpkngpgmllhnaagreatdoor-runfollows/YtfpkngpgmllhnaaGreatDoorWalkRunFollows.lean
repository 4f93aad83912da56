/-
  The law RunFollows: a session follows.
-/
import Derived.Test.YtfpkngpgmllhnaaGreatDoorRuEnd
import Derived.Test.YtfpkngpgmllhnaaGreatDoorRunEnds
import Derived.Test.YtfpkngpgmllhnaaGreatDoorWalkNumberRef
import Derived.Test.YtfpkngpgmllhnaaGreatDoorWalkDigits
import Derived.BigQuiet
set_option maxRecDepth 100000
namespace Go.Proofs.YtfpkngpgmllhnaaGreatDoor.WalkRunFollows
open Go.RowKit
open Keeps (owns_open)
open Lists (bt strs)
open Decimals (dec words)
open WalkHdLib (Tabs)
open WalkSeNum (Syn)
open WalkTold (Laid)
open Nums (str text)
open Runs (wStep)
open RunFollow (asText oks session addX addY both)
open RunEnds

/-- what the loops make: the text so far, and what is wanted of it -/
structure So (P : List (List UInt8)) (J : Nat) (s q : Value) : Prop where
  core : ∃ S Q, s = .string S ∧ q = .string Q ∧ S = str (asText P) ∧ Q = str (oks J) ∧ S.size ≤ 5000 ∧ Q.size ≤ 5000
theorem so_next {P : List (List UInt8)} {l : List UInt8} {k J : Nat} {S Q : ByteArray} (h : So (P ++ List.replicate k l) J (.string S) (.string Q)) (c : ByteArray) (hc : c = str (l ++ [10])) (hs : (asText (P ++ List.replicate (k + 1) l)).length ≤ 5000) (hJ : 3 * (J + 1) ≤ 5000) : So (P ++ List.replicate (k + 1) l) (J + 1) (.string (S ++ c)) (.string (Q ++ ⟨#[111, 107, 10]⟩)) := by
  obtain ⟨S', Q', e1, e2, h1, h2, _, _⟩ := h.core
  obtain rfl : S = S' := by simpa using e1
  obtain rfl : Q = Q' := by simpa using e2
  have a1 : S ++ c = str (asText (P ++ List.replicate (k + 1) l)) := by rw [h1, hc, Nums.str_append, text_more]
  have a2 : Q ++ ⟨#[111, 107, 10]⟩ = str (oks (J + 1)) := by rw [h2, oks_more, ← Nums.str_append]; rfl
  exact ⟨⟨_, _, rfl, rfl, a1, a2, by rw [a1, Nums.str_size]; exact hs, by rw [a2, Nums.str_size, RunFollow.oks_length]; exact hJ⟩⟩
theorem so_open {P : List (List UInt8)} {J : Nat} {s q : Value} (h : So P J s q) : ∃ S Q, s = .string S ∧ q = .string Q ∧ S.size ≤ 5000 ∧ Q.size ≤ 5000 := by
  obtain ⟨S, Q, e1, e2, _, _, h3, h4⟩ := h.core
  exact ⟨S, Q, e1, e2, h3, h4⟩

set_option maxHeartbeats 16000000 in
theorem walk (n : Int) (_ : (Lit.int .i64 n).wf = true) (m : Int) (_ : (Lit.int .i64 m).wf = true) (w : World) (hL : Laid w) (hK : Tabs w) (hY : Syn w) :
    Calls Tryz.prog 5 #[.int .i64 n, .int .i64 m] w fun e w' => e = .returned (.bool true) ∧ Below w.heap.size w w' := by
  have HR : Hid (∀ (s : ByteArray) (w' : World), Below w.heap.size w w' → Calls Tryz.prog 6 #[.string s] w' fun e w'' => e = .returned (.string (str (Runs.run s.data.toList))) ∧ Below w'.heap.size w' w'') := fun s w' q => WalkRuRun.run_any s w' (hK.below q) (hY.below q) (hL.below q)
  clear hL hK hY
  by_cases hout : n < 1 ∨ 40 < n ∨ m < 1 ∨ 40 < m
  · clear HR
    by_cases h1 : n < 1
    · go_enter Tryz.func5, Tryz.ntmps5
      go_wp2_with fail
      go_ret
      exact ⟨rfl, Below.refl _ _⟩
    · by_cases h2 : n > 40
      · go_enter Tryz.func5, Tryz.ntmps5
        go_wp2_with fail
        go_ret
        exact ⟨rfl, Below.refl _ _⟩
      · by_cases h3 : m < 1
        · go_enter Tryz.func5, Tryz.ntmps5
          go_wp2_with fail
          go_ret
          exact ⟨rfl, Below.refl _ _⟩
        · have h4 : m > 40 := by omega
          go_enter Tryz.func5, Tryz.ntmps5
          go_wp2_with fail
          go_ret
          exact ⟨rfl, Below.refl _ _⟩
  · obtain ⟨N, rfl⟩ := Int.eq_ofNat_of_zero_le (show 0 ≤ n by omega)
    obtain ⟨M, rfl⟩ := Int.eq_ofNat_of_zero_le (show 0 ≤ m by omega)
    have h1 : ¬ (N : Int) < 1 := by omega
    have h2 : ¬ (N : Int) > 40 := by omega
    have h3 : ¬ (M : Int) < 1 := by omega
    have h4 : ¬ (M : Int) > 40 := by omega
    have hN : 1 ≤ N ∧ N ≤ 40 := by omega
    have hM : 1 ≤ M ∧ M ≤ 40 := by omega
    have t1 : ∀ k, k ≤ N → (asText ([] ++ List.replicate k addX)).length ≤ 400 := fun k hk => by
      rw [text_len]
      show 0 + k * 8 ≤ _
      omega
    have t2 : ∀ k, k ≤ 1 + (N + 15) / 16 → (asText (([] ++ List.replicate N addX) ++ List.replicate k wStep)).length ≤ 500 := fun k hk => by
      rw [text_len]
      have := t1 N (Nat.le_refl _)
      show _ + k * 5 ≤ _
      omega
    have t3 : ∀ k, k ≤ M → (asText ((([] ++ List.replicate N addX) ++ List.replicate (1 + (N + 15) / 16) wStep) ++ List.replicate k addY)).length ≤ 900 := fun k hk => by
      rw [text_len]
      have := t2 _ (Nat.le_refl _)
      show _ + k * 8 ≤ _
      omega
    have t4 : ∀ k, k ≤ 2 + (M + 15) / 16 → (asText (((([] ++ List.replicate N addX) ++ List.replicate (1 + (N + 15) / 16) wStep) ++ List.replicate M addY) ++ List.replicate k wStep)).length ≤ 1000 := fun k hk => by
      rw [text_len]
      have := t3 M (Nat.le_refl _)
      show _ + k * 5 ≤ _
      omega
    have HT : Hid ((∀ k, k ≤ N → (asText ([] ++ List.replicate k addX)).length ≤ 400) ∧ (∀ k, k ≤ 1 + (N + 15) / 16 → (asText (([] ++ List.replicate N addX) ++ List.replicate k wStep)).length ≤ 500) ∧ (∀ k, k ≤ M → (asText ((([] ++ List.replicate N addX) ++ List.replicate (1 + (N + 15) / 16) wStep) ++ List.replicate k addY)).length ≤ 900) ∧ (∀ k, k ≤ 2 + (M + 15) / 16 → (asText (((([] ++ List.replicate N addX) ++ List.replicate (1 + (N + 15) / 16) wStep) ++ List.replicate M addY) ++ List.replicate k wStep)).length ≤ 1000)) := ⟨t1, t2, t3, t4⟩
    clear hout t1 t2 t3 t4
    have d1 : IntKind.i64.wrap ((N : Int) + 15) = (N : Int) + 15 := by rw [IntKind.wrap_i64]; omega
    have d2 : IntKind.i64.wrap (1 + (((N + 15) / 16 : Nat) : Int)) = ((1 + (N + 15) / 16 : Nat) : Int) := by rw [IntKind.wrap_i64]; omega
    have d3 : IntKind.i64.wrap ((M : Int) + 15) = (M : Int) + 15 := by rw [IntKind.wrap_i64]; omega
    have d4 : IntKind.i64.wrap (2 + (((M + 15) / 16 : Nat) : Int)) = ((2 + (M + 15) / 16 : Nat) : Int) := by rw [IntKind.wrap_i64]; omega
    go_enter Tryz.func5, Tryz.ntmps5
    go_wp2_with fail
    have HStart : Hid (So ([] ++ List.replicate 0 addX) (0 + 0) (.string ⟨#[]⟩) (.string ⟨#[]⟩)) := ⟨⟨⟨#[]⟩, ⟨#[]⟩, rfl, rfl, rfl, rfl, by decide, by decide⟩⟩
    go_loopw [5, 6, 7] (fun s q i wr => ∃ K : Nat, K ≤ N ∧ i = .int .i64 (K : Int) ∧ Hid (So ([] ++ List.replicate K addX) (0 + K) s q) ∧ wr = w) (fun _ _ i _ => N - (intOf i).toNat)
    case atStart => exact ⟨0, Nat.zero_le _, rfl, HStart, rfl⟩
    case round =>
      obtain ⟨K, hK, rfl, hS, hwr⟩ := hrel
      have hwr2 := hwr.symm
      subst hwr2
      clear HStart hwr
      obtain ⟨S1, Q1, rfl, rfl, hS1, hQ1⟩ := so_open hS.out
      by_cases hlt : K < N
      · have i1 : (K : Int) < (N : Int) := by omega
        have wk : IntKind.i64.wrap ((K : Int) + 1) = (K : Int) + 1 := by rw [IntKind.wrap_i64]; omega
        have ea := fun w' : World => run_string_add_sum (P := Tryz.prog) (w := w') S1 ⟨#[97, 100, 100, 32, 49, 32, 120, 10]⟩ (by show S1.size + 8 ≤ _; omega)
        have eb := fun w' : World => run_string_add_sum (P := Tryz.prog) (w := w') Q1 ⟨#[111, 107, 10]⟩ (by show Q1.size + 3 ≤ _; omega)
        have HS : Hid (So ([] ++ List.replicate (K + 1) addX) (0 + (K + 1)) (.string (S1 ++ ⟨#[97, 100, 100, 32, 49, 32, 120, 10]⟩)) (.string (Q1 ++ ⟨#[111, 107, 10]⟩))) := so_next hS.out _ rfl (by have := HT.out.1 (K + 1) (by omega); omega) (by omega)
        clear hS hS1 hQ1
        go_wp2_with fail
        go_roundw
        case rel => exact ⟨K + 1, by omega, by go_num, HS, trivial⟩
        case measure => simp [intOf]; omega
      · have i1 : ¬ (K : Int) < (N : Int) := by omega
        obtain rfl : N = K := by omega
        have HStart : Hid (So (([] ++ List.replicate N addX) ++ List.replicate 0 wStep) ((0 + N) + 0) (.string S1) (.string Q1)) := by
          show So _ _ _ _
          rw [List.replicate_zero, List.append_nil, Nat.add_zero]
          exact hS.out
        clear hS hS1 hQ1
        go_wp2_with fail
        go_loopw [5, 6, 8] (fun s q i wr => ∃ K : Nat, K ≤ (1 + (N + 15) / 16) ∧ i = .int .i64 (K : Int) ∧ Hid (So (([] ++ List.replicate N addX) ++ List.replicate K wStep) ((0 + N) + K) s q) ∧ wr = w) (fun _ _ i _ => (1 + (N + 15) / 16) - (intOf i).toNat)
        case atStart => exact ⟨0, Nat.zero_le _, rfl, HStart, rfl⟩
        case round =>
          obtain ⟨K, hK, rfl, hS, hwr⟩ := hrel
          have hwr2 := hwr.symm
          subst hwr2
          clear HStart hwr
          obtain ⟨S2, Q2, rfl, rfl, hS1, hQ1⟩ := so_open hS.out
          by_cases hlt : K < (1 + (N + 15) / 16)
          · have i1 : (K : Int) < ((1 + (N + 15) / 16 : Nat) : Int) := by omega
            have wk : IntKind.i64.wrap ((K : Int) + 1) = (K : Int) + 1 := by rw [IntKind.wrap_i64]; omega
            have ea := fun w' : World => run_string_add_sum (P := Tryz.prog) (w := w') S2 ⟨#[115, 116, 101, 112, 10]⟩ (by show S2.size + 5 ≤ _; omega)
            have eb := fun w' : World => run_string_add_sum (P := Tryz.prog) (w := w') Q2 ⟨#[111, 107, 10]⟩ (by show Q2.size + 3 ≤ _; omega)
            have HS : Hid (So (([] ++ List.replicate N addX) ++ List.replicate (K + 1) wStep) ((0 + N) + (K + 1)) (.string (S2 ++ ⟨#[115, 116, 101, 112, 10]⟩)) (.string (Q2 ++ ⟨#[111, 107, 10]⟩))) := so_next hS.out _ rfl (by have := HT.out.2.1 (K + 1) (by omega); omega) (by omega)
            clear hS hS1 hQ1
            go_wp2_with fail
            go_roundw
            case rel => exact ⟨K + 1, by omega, by go_num, HS, trivial⟩
            case measure => simp [intOf]; omega
          · have i1 : ¬ (K : Int) < ((1 + (N + 15) / 16 : Nat) : Int) := by omega
            have hkn : K = (1 + (N + 15) / 16) := by omega
            subst hkn
            have HStart : Hid (So ((([] ++ List.replicate N addX) ++ List.replicate (1 + (N + 15) / 16) wStep) ++ List.replicate 0 addY) ((0 + N + (1 + (N + 15) / 16)) + 0) (.string S2) (.string Q2)) := by
              show So _ _ _ _
              rw [List.replicate_zero, List.append_nil, Nat.add_zero]
              exact hS.out
            clear hS hS1 hQ1
            go_wp2_with fail
            go_loopw [5, 6, 9] (fun s q i wr => ∃ K : Nat, K ≤ M ∧ i = .int .i64 (K : Int) ∧ Hid (So ((([] ++ List.replicate N addX) ++ List.replicate (1 + (N + 15) / 16) wStep) ++ List.replicate K addY) ((0 + N + (1 + (N + 15) / 16)) + K) s q) ∧ wr = w) (fun _ _ i _ => M - (intOf i).toNat)
            case atStart => exact ⟨0, Nat.zero_le _, rfl, HStart, rfl⟩
            case round =>
              obtain ⟨K, hK, rfl, hS, hwr⟩ := hrel
              have hwr2 := hwr.symm
              subst hwr2
              clear HStart hwr
              obtain ⟨S3, Q3, rfl, rfl, hS1, hQ1⟩ := so_open hS.out
              by_cases hlt : K < M
              · have i1 : (K : Int) < (M : Int) := by omega
                have wk : IntKind.i64.wrap ((K : Int) + 1) = (K : Int) + 1 := by rw [IntKind.wrap_i64]; omega
                have ea := fun w' : World => run_string_add_sum (P := Tryz.prog) (w := w') S3 ⟨#[97, 100, 100, 32, 50, 32, 121, 10]⟩ (by show S3.size + 8 ≤ _; omega)
                have eb := fun w' : World => run_string_add_sum (P := Tryz.prog) (w := w') Q3 ⟨#[111, 107, 10]⟩ (by show Q3.size + 3 ≤ _; omega)
                have HS : Hid (So ((([] ++ List.replicate N addX) ++ List.replicate (1 + (N + 15) / 16) wStep) ++ List.replicate (K + 1) addY) ((0 + N + (1 + (N + 15) / 16)) + (K + 1)) (.string (S3 ++ ⟨#[97, 100, 100, 32, 50, 32, 121, 10]⟩)) (.string (Q3 ++ ⟨#[111, 107, 10]⟩))) := so_next hS.out _ rfl (by have := HT.out.2.2.1 (K + 1) (by omega); omega) (by omega)
                clear hS hS1 hQ1
                go_wp2_with fail
                go_roundw
                case rel => exact ⟨K + 1, by omega, by go_num, HS, trivial⟩
                case measure => simp [intOf]; omega
              · have i1 : ¬ (K : Int) < (M : Int) := by omega
                obtain rfl : M = K := by omega
                have HStart : Hid (So (((([] ++ List.replicate N addX) ++ List.replicate (1 + (N + 15) / 16) wStep) ++ List.replicate M addY) ++ List.replicate 0 wStep) ((0 + N + (1 + (N + 15) / 16) + M) + 0) (.string S3) (.string Q3)) := by
                  show So _ _ _ _
                  rw [List.replicate_zero, List.append_nil, Nat.add_zero]
                  exact hS.out
                clear hS hS1 hQ1
                go_wp2_with fail
                go_loopw [5, 6, 10] (fun s q i wr => ∃ K : Nat, K ≤ (2 + (M + 15) / 16) ∧ i = .int .i64 (K : Int) ∧ Hid (So (((([] ++ List.replicate N addX) ++ List.replicate (1 + (N + 15) / 16) wStep) ++ List.replicate M addY) ++ List.replicate K wStep) ((0 + N + (1 + (N + 15) / 16) + M) + K) s q) ∧ wr = w) (fun _ _ i _ => (2 + (M + 15) / 16) - (intOf i).toNat)
                case atStart => exact ⟨0, Nat.zero_le _, rfl, HStart, rfl⟩
                case round =>
                  obtain ⟨K, hK, rfl, hS, hwr⟩ := hrel
                  have hwr2 := hwr.symm
                  subst hwr2
                  clear HStart hwr
                  obtain ⟨S4, Q4, rfl, rfl, hS1, hQ1⟩ := so_open hS.out
                  by_cases hlt : K < (2 + (M + 15) / 16)
                  · have i1 : (K : Int) < ((2 + (M + 15) / 16 : Nat) : Int) := by omega
                    have wk : IntKind.i64.wrap ((K : Int) + 1) = (K : Int) + 1 := by rw [IntKind.wrap_i64]; omega
                    have ea := fun w' : World => run_string_add_sum (P := Tryz.prog) (w := w') S4 ⟨#[115, 116, 101, 112, 10]⟩ (by show S4.size + 5 ≤ _; omega)
                    have eb := fun w' : World => run_string_add_sum (P := Tryz.prog) (w := w') Q4 ⟨#[111, 107, 10]⟩ (by show Q4.size + 3 ≤ _; omega)
                    have HS : Hid (So (((([] ++ List.replicate N addX) ++ List.replicate (1 + (N + 15) / 16) wStep) ++ List.replicate M addY) ++ List.replicate (K + 1) wStep) ((0 + N + (1 + (N + 15) / 16) + M) + (K + 1)) (.string (S4 ++ ⟨#[115, 116, 101, 112, 10]⟩)) (.string (Q4 ++ ⟨#[111, 107, 10]⟩))) := so_next hS.out _ rfl (by have := HT.out.2.2.2 (K + 1) (by omega); omega) (by omega)
                    clear hS hS1 hQ1
                    go_wp2_with fail
                    go_roundw
                    case rel => exact ⟨K + 1, by omega, by go_num, HS, trivial⟩
                    case measure => simp [intOf]; omega
                  · have i1 : ¬ (K : Int) < ((2 + (M + 15) / 16 : Nat) : Int) := by omega
                    have hkn : K = (2 + (M + 15) / 16) := by omega
                    subst hkn
                    obtain ⟨S', Q', e1, e2, g1, g2, _, _⟩ := hS.out.core
                    obtain rfl : S4 = S' := by simpa using e1
                    obtain rfl : Q4 = Q' := by simpa using e2
                    have hJ : 0 + N + (1 + (N + 15) / 16) + M + (2 + (M + 15) / 16) = N + (1 + (N + 15) / 16) + M + (2 + (M + 15) / 16) := by omega
                    rw [hJ] at g2
                    have ea := fun w' : World => run_string_add_sum (P := Tryz.prog) (w := w') S4 ⟨#[115, 116, 97, 116, 101, 10, 97, 115, 107, 32, 104, 101, 97, 100, 10]⟩ (by show S4.size + 15 ≤ _; omega)
                    have eS : S4 ++ ⟨#[115, 116, 97, 116, 101, 10, 97, 115, 107, 32, 104, 101, 97, 100, 10]⟩ = str (asText (session N M)) := by
                      rw [g1, session_text, ← Nums.str_append]
                      rfl
                    have cR := HR.out (S4 ++ ⟨#[115, 116, 97, 116, 101, 10, 97, 115, 107, 32, 104, 101, 97, 100, 10]⟩) w (Below.refl _ _)
                    rw [show (S4 ++ ⟨#[115, 116, 97, 116, 101, 10, 97, 115, 107, 32, 104, 101, 97, 100, 10]⟩ : ByteArray).data.toList = asText (session N M) by rw [eS]; rfl, run_ends hN.1 hN.2 hM.1 hM.2] at cR
                    have hlR := len_ends (n := N) (m := M) (by omega)
                    have hwR := cut_ends N M
                    have hwA := words_A N M
                    obtain ⟨x3, x4, hwB⟩ := words_B (n := N) (m := M) (by omega)
                    have hlA : (endA N M).length ≤ 1000 ∧ (endB N M).length ≤ 1000 := by
                      simp only [List.length_append, List.length_cons] at hlR
                      omega
                    have HA : Hid (words 32 (endA N M) = [dec (N + M), text (Mirrors.rootE (both N M))] ∧ (endA N M).length ≤ 1000) := ⟨hwA, hlA.1⟩
                    have HBw : Hid (words 32 (endB N M) = [dec (N + M), text (Mirrors.rootE (both N M)), x3, x4] ∧ (endB N M).length ≤ 1000) := ⟨hwB, hlA.2⟩
                    have HRw : Hid (words 10 (endA N M ++ 10 :: (endB N M ++ [10])) = [endA N M, endB N M, []] ∧ (endA N M ++ 10 :: (endB N M ++ [10])).length ≤ 1000) := ⟨hwR, hlR⟩
                    clear hwA hwB hwR hlR hlA g1 eS hS hJ e1 e2
                    generalize endA N M ++ 10 :: (endB N M ++ [10]) = R at cR HRw
                    generalize endA N M = EA at HA HRw
                    generalize endB N M = EB at HBw HRw
                    have HDD0 : ∃ D, D = dec (N + M) := ⟨_, rfl⟩
                    obtain ⟨DD, hDD⟩ := HDD0
                    have HDD : Hid (dec (N + M) = DD) := hDD.symm
                    rw [← hDD] at HA HBw
                    clear hDD
                    generalize text (Mirrors.rootE (both N M)) = TT at HA HBw
                    generalize oks (N + (1 + (N + 15) / 16) + M + (2 + (M + 15) / 16)) = O at cR g2
                    have hg1 : (str (O ++ R)).size = Q4.size + (str R).size := by rw [g2, ← Nums.str_append, ByteArray.size_append]
                    have HEx : Hid ((str (O ++ R)).extract 0 Q4.size = Q4) := by
                      show _ = _
                      rw [g2, Nums.str_size]
                      unfold Nums.str
                      apply ByteArray.ext
                      apply Array.ext'
                      simp
                    have HEy : Hid ((str (O ++ R)).extract Q4.size (Q4.size + (str R).size) = str R) := by
                      show _ = _
                      rw [g2, Nums.str_size, Nums.str_size]
                      unfold Nums.str
                      apply ByteArray.ext
                      apply Array.ext'
                      simp
                    generalize str (O ++ R) = GT at cR HEx HEy hg1
                    rw [← hg1] at HEy
                    have i2 : ¬ (GT.size : Int) < (Q4.size : Int) := by omega
                    have i3 : (Q4.size : Int) ≤ (GT.size : Int) := by omega
                    have i4 : Q4.size ≤ GT.size := by omega
                    have i5 : (0 : Int) ≤ (Q4.size : Int) := by omega
                    clear hg1 g2
                    go_wp2_with fail
                    refine cR.mono ?_
                    rintro e w1 ⟨rfl, b1⟩
                    have HB1 : Hid (Below w.heap.size w w1) := b1
                    clear cR b1 ea
                    have hEx := HEx.out
                    have hEy := HEy.out
                    go_wp2_with fail
                    have cC := WalkNumberRef.cut_any (str R) 10 w1 (by rw [Nums.str_size]; have := HRw.out.2; omega)
                    rw [show (str R).data.toList = R from rfl, HRw.out.1] at cC
                    refine cC.mono ?_
                    rintro e w2 ⟨v2, rfl, o2, b2⟩
                    obtain ⟨g2, c2, rfl, _, _, _, _, _, k2, _⟩ := owns_open o2 (Nat.zero_lt_succ _)
                    have p0 : w2.cell? ⟨g2, 0, none⟩ = some (.string (str EA)) := k2 0 _ rfl
                    have p1 : w2.cell? ⟨g2, 1, none⟩ = some (.string (str EB)) := k2 1 _ rfl
                    have HB2 : Hid (Below w.heap.size w w2) := bt HB1.out b2
                    clear cC o2 b2 k2 hEx hEy HEx HEy HB1
                    rw [show ([EA, EB, []] : List (List UInt8)).length = 3 from rfl]
                    have cA := WalkNumberRef.cut_any (str EA) 32 w2 (by rw [Nums.str_size]; have := HA.out.2; omega)
                    rw [show (str EA).data.toList = EA from rfl, HA.out.1] at cA
                    go_wp2_with fail
                    refine cA.mono ?_
                    rintro e w3 ⟨v3, rfl, o3, b3⟩
                    obtain ⟨g3, c3, rfl, _, _, _, _, _, k3, _⟩ := owns_open o3 (Nat.zero_lt_succ _)
                    have q0 : w3.cell? ⟨g3, 0, none⟩ = some (.string (str DD)) := k3 0 _ rfl
                    have q1 : w3.cell? ⟨g3, 1, none⟩ = some (.string (str TT)) := k3 1 _ rfl
                    have p1' := Lists.cell_below b3 p1
                    have HB3 : Hid (Below w.heap.size w w3) := bt HB2.out b3
                    clear cA o3 b3 k3 p0 p1 HB2
                    rw [show ([DD, TT] : List (List UInt8)).length = 2 from rfl]
                    have cB := WalkNumberRef.cut_any (str EB) 32 w3 (by rw [Nums.str_size]; have := HBw.out.2; omega)
                    rw [show (str EB).data.toList = EB from rfl, HBw.out.1] at cB
                    go_wp2_with fail
                    refine cB.mono ?_
                    rintro e w4 ⟨v4, rfl, o4, b4⟩
                    obtain ⟨g4, c4, rfl, _, _, _, _, _, k4, _⟩ := owns_open o4 (Nat.zero_lt_succ _)
                    have r0 : w4.cell? ⟨g4, 0, none⟩ = some (.string (str DD)) := k4 0 _ rfl
                    have r1 : w4.cell? ⟨g4, 1, none⟩ = some (.string (str TT)) := k4 1 _ rfl
                    have q0' := Lists.cell_below b4 q0
                    have q1' := Lists.cell_below b4 q1
                    have HB4 : Hid (Below w.heap.size w w4) := bt HB3.out b4
                    clear cB o4 b4 k4 q0 q1 p1' HB3
                    rw [show ([DD, TT, x3, x4] : List (List UInt8)).length = 4 from rfl]
                    have wnm : IntKind.i64.wrap ((N : Int) + (M : Int)) = (N : Int) + (M : Int) := by rw [IntKind.wrap_i64]; omega
                    have cD := WalkHeadRef.digits (N + M) ((N : Int) + (M : Int)) w4 (by omega) (by omega)
                    rw [HDD.out] at cD
                    go_wp2_with fail
                    refine cD.mono ?_
                    rintro e w9 ⟨rfl, h9⟩
                    rw [h9]
                    clear h9 w9 cD
                    have e1 : ((str DD).toList == (str DD).toList) = true := beq_self_eq_true _
                    have e2 : ((str TT).toList == (str TT).toList) = true := beq_self_eq_true _
                    go_upto_region 35 with fail
                    go_quiet (fail)
                    go_wp2_with fail
                    go_ret
                    exact ⟨rfl, HB4.out.trans ⟨rfl, rfl, rfl, Nat.le_refl _, fun _ _ => rfl⟩⟩

end Go.Proofs.YtfpkngpgmllhnaaGreatDoor.WalkRunFollows
