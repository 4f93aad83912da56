/-
  What the document's own answer (package witref2) returns of sums as a text.
-/
import Derived.Test.YtjacioplocmciagGreatDoorSePlain
import Derived.Test.YtjacioplocmciagGreatDoorWalkRef
import Derived.Test.YtjacioplocmciagGreatDoorHeadRef
import Derived.Test.YtjacioplocmciagGreatDoorListRows
namespace Go.Proofs.YtjacioplocmciagGreatDoor.WalkSumsText
open Go.RowKit
open Lists (Row ints bt)
open Nums (str text)
open Answers (sumsT joined_snoc)
open Decimals (joined)

theorem joined_next (l : List Int) {k : Nat} (hk : k < l.length) : joined 32 ((l.take (k + 1)).map text) = (if k = 0 then joined 32 ((l.take k).map text) else joined 32 ((l.take k).map text) ++ [32]) ++ text l[k] := by
  rw [List.take_succ_eq_append_getElem hk, List.map_append]
  by_cases h : k = 0
  · subst h
    rw [if_pos rfl]
    simp [joined]
  · rw [if_neg h]
    have hne : (l.take k).map text ≠ [] := fun e => by
      have h2 : ((l.take k).map text).length = 0 := by rw [e]; rfl
      rw [List.length_map, List.length_take] at h2
      omega
    show joined 32 ((l.take k).map text ++ [text l[k]]) = _
    rw [joined_snoc 32 _ _ hne]
    simp
theorem joined_len : ∀ (l : List Int), (joined 32 (l.map text)).length ≤ 9 * l.length
  | [] => by simp [joined]
  | [x] => by simp [joined, Nums.text_length]
  | x :: y :: l => by
    have i := joined_len (y :: l)
    simp only [List.map_cons] at i ⊢
    rw [joined]
    simp only [List.length_append, List.length_cons, Nums.text_length] at i ⊢
    omega

set_option maxHeartbeats 4000000 in
set_option maxRecDepth 100000 in
theorem texts_any (l : List Int) (a : Option Addr) (n cap : Nat) (w : World) (hr : Row w a n cap (ints l)) (hn : n ≤ 1000) (hv : ∀ x ∈ l, Nums.valid x = true) :
    Calls Tryz.prog 81 #[.slice a n cap] w fun e w' => e = .returned (.string (str (sumsT l))) ∧ w' = w := by
  have hln : l.length = n := by rw [← hr.1, Lists.ints_length]
  have HR : Hid (Row w a n cap (ints l)) := hr
  have HV : Hid (∀ x ∈ l, Nums.valid x = true) := hv
  have HN : Hid (l.length = n) := hln
  by_cases h0 : n = 0
  · have HT : Hid (sumsT l = [45]) := if_pos (List.length_eq_zero_iff.1 (by omega))
    subst h0
    clear hr hv hln HR HV HN
    go_enter Tryz.func81, Tryz.ntmps81
    go_wp2_with fail
    go_ret
    exact ⟨by rw [HT.out]; rfl, rfl⟩
  · have HT : Hid (sumsT l = joined 32 (l.map text)) := if_neg (fun e => h0 (by rw [← hln, e]; rfl))
    have hne : ((n : Int) == 0) = false := by simp; omega
    have hne2 : ¬ (n : Int) = 0 := by omega
    clear hr hv hln
    go_enter Tryz.func81, Tryz.ntmps81
    go_upto_region 5 with fail
    go_loopw [3, 4, 5] (fun sv kv _ wr => ∃ (k : Nat) (S : ByteArray), k ≤ n ∧ kv = .int .i64 (k : Int) ∧ sv = .string S ∧ Hid (S = str (joined 32 ((l.take k).map text))) ∧ w = wr) (fun _ kv _ _ => n - (intOf kv).toNat)
    case atStart => exact ⟨0, ⟨#[]⟩, Nat.zero_le _, rfl, rfl, rfl, rfl⟩
    case round =>
      obtain ⟨k, S, hk, rfl, rfl, HS, rfl⟩ := hrel
      by_cases hlt : k < n
      · have i1 : (k : Int) < (n : Int) := by omega
        have hkl : k < l.length := by have := HN.out; omega
        obtain ⟨b, off, rfl, hc⟩ := HR.out.2.2 (by omega)
        have hcell := hc k _ (Lists.ints_at hkl)
        clear hc
        have hx : l.getD k 0 = l[k] := by simp [List.getD, List.getElem?_eq_getElem hkl]
        rw [hx] at hcell
        have hvx := HV.out l[k] (List.getElem_mem hkl)
        have cT := fun w => WalkRef.text_any l[k] w hvx
        have zT := WalkHeadRef.text_small l[k]
        have hj := joined_next l hkl
        have hsz : S.size ≤ 9 * 1000 := by
          rw [HS.out, Nums.str_size]
          have := joined_len (l.take k)
          rw [List.length_take] at this
          omega
        generalize l[k] = x at hcell cT zT hj
        by_cases hk0 : k = 0
        · subst hk0
          rw [if_pos rfl] at hj
          rw [Nat.add_zero] at hcell
          have HS2 : Hid (S ++ str (text x) = str (joined 32 ((l.take 1).map text))) := by show _ = _; rw [hj, HS.out, Nums.str_append]
          generalize str (text x) = X at cT zT HS2
          have hq : ¬ 9223372036854775807 < S.size + X.size := by omega
          clear hj hvx hx
          go_wp2_with (go_at_call 85; refine (cT _).mono ?_; rintro e w2 ⟨rfl, rfl⟩)
          go_roundw
          case rel => exact ⟨1, S ++ X, by omega, by go_num, rfl, HS2, by trivial⟩
          case measure => simp [intOf]; omega
        · rw [if_neg hk0] at hj
          have i2 : (0 : Int) < (k : Int) := by omega
          have HS2 : Hid (S ++ ⟨#[32]⟩ ++ str (text x) = str (joined 32 ((l.take (k + 1)).map text))) := by
            show _ = _
            rw [hj, HS.out, show (⟨#[32]⟩ : ByteArray) = str [32] from rfl, Nums.str_append, Nums.str_append]
          generalize str (text x) = X at cT zT HS2
          have hq : ¬ 9223372036854775807 < S.size + 1 := by omega
          have hs1 : (S ++ (⟨#[32]⟩ : ByteArray)).size = S.size + 1 := by rw [ByteArray.size_append]; rfl
          have hq2 : ¬ 9223372036854775807 < (S ++ (⟨#[32]⟩ : ByteArray)).size + X.size := by omega
          clear hj hvx hx
          go_wp2_with (go_at_call 85; refine (cT _).mono ?_; rintro e w2 ⟨rfl, rfl⟩)
          go_roundw
          case rel => exact ⟨k + 1, _, by omega, by go_num, rfl, HS2, by trivial⟩
          case measure => simp [intOf]; omega
      · obtain rfl : k = n := by omega
        have i1 : ¬ (k : Int) < (k : Int) := by omega
        have HE : Hid (S = str (sumsT l)) := by
          show _ = _
          rw [HS.out, HT.out, List.take_of_length_le (by have := HN.out; omega)]
        clear HS
        go_wp2_with fail
        go_ret
        exact ⟨by rw [← HE.out]; rfl, rfl⟩

end Go.Proofs.YtjacioplocmciagGreatDoor.WalkSumsText
