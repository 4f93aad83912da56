/-
  What the document's own Live (package witref2) returns: the pairs of some lists that one can get, the youngest first.
-/
import Derived.Test.YtbepfeajaoaocafGreatDoorLsmRows
import Derived.Test.YtbepfeajaoaocafGreatDoorWalkWithRef
import Derived.Deep.CutBlock
import Derived.Deep.DeepMust
namespace Go.Proofs.YtbepfeajaoaocafGreatDoor.WalkLiveRef
open Go.RowKit
open Lists (Row bt)
open Keeps (Kept owns_kept)
open Stores (Pair find withP Rising)
open Wides (Wide owns_wide)
open PairRows (cells cells_append)
open LsmRows (PRow LRows)
open Lsms (joinL liveA live alive total)
open WalkStoreRef (aggP sizeP FindAt)

theorem infoP : (Tryz.prog.info? 44).map (fun i => (i.zero, i.size, i.bytes)) = some (some (.agg #[.string ⟨#[]⟩, .string ⟨#[]⟩, .bool false]), 3, 40) := by kernel_rfl
theorem alive_le (s : List Pair) (j : Nat) : (alive (s.take j)).length ≤ s.length := by
  have h := List.length_filter_le (fun p : Pair => !p.gone) (s.take j)
  unfold alive
  rw [List.length_take] at h
  omega

set_option maxHeartbeats 4000000 in
set_option maxRecDepth 100000 in
theorem live_any (r : List (List Pair)) (vs : List Value) (a : Option Addr) (n cap : Nat) (w : World) (hr : Row w a n cap vs) (hl : LRows w vs r) (hz : total r ≤ 1000) (hn : n ≤ 1000) :
    Calls Tryz.prog 37 #[.slice a n cap] w fun e w' => ∃ v, e = .returned v ∧ w'.ownsRow w.heap.size 44 3 v (live r).length (cells (live r)) ∧ Below w.heap.size w w' := by
  have hvn : vs.length = n := hr.1
  have hrn : r.length = n := by rw [← hl.1]; exact hvn
  have HR : Hid (Row w a n cap vs) := hr
  have HL : Hid (LRows w vs r) := hl
  have a23 := aggP
  have z23 := sizeP
  obtain ⟨i0, hi, hz0, hz1, hz2⟩ := info_parts infoP
  clear hr hl
  go_enter Tryz.func37, Tryz.ntmps37
  go_wp2_with fail
  go_loopw [3, 4] (fun v i wr => ∃ k : Nat, k ≤ n ∧ i = .int .i64 (k : Int) ∧ Hid (PRow wr v (liveA [] (r.take k))) ∧ Hid (Below w.heap.size w wr)) (fun _ i _ => n - (intOf i).toNat)
  case atStart => exact ⟨0, Nat.zero_le _, rfl, PRow.nil _, Below.refl _ _⟩
  case round =>
    obtain ⟨k, hk, rfl, HP, HB⟩ := hrel
    by_cases hlt : k < n
    · have i1 : (k : Int) < (n : Int) := by omega
      have hkr : k < r.length := by omega
      have hkv : k < vs.length := by omega
      obtain ⟨b1, off1, rfl, _⟩ := HR.out.2.2 (by omega)
      have HC : Hid (∀ w2, Below w.heap.size w w2 → w2.cell? ⟨b1, off1 + k, none⟩ = some vs[k]) := fun w2 b2 => (HR.out.below b2).at k _ (List.getElem?_eq_getElem hkv)
      have HQ : Hid (∀ w2, Below w.heap.size w w2 → PRow w2 vs[k] r[k]) := fun w2 b2 => (HL.out.below b2).2 k hkv hkr
      have HN : Hid (liveA [] (r.take (k + 1)) = joinL (liveA [] (r.take k)) r[k]) := Lsms.live_next r hkr
      have hT := LsmRows.total_at r k hkr
      have hA := Lsms.liveA_le (r.take k) []
      have hRi : Rising (liveA [] (r.take k)) := Lsms.rising_live _ _ Lsms.rising_nil
      simp only [List.length_nil] at hA
      generalize vs[k] = u at HC HQ
      generalize r[k] = q at HQ HN hT
      generalize liveA [] (r.take k) = A at HP HN hA hRi
      generalize total (r.take k) = T at hT hA
      obtain ⟨aq, cq, rfl, _⟩ := HQ.out w (Below.refl _ _)
      have HQ2 : Hid (∀ w2, Below w.heap.size w w2 → Wide 3 w2 aq q.length cq (cells q)) := fun w2 b2 => by
        obtain ⟨a2, c2, h1, h2⟩ := HQ.out w2 b2
        simp only [Value.slice.injEq] at h1
        obtain ⟨rfl, _, rfl⟩ := h1
        exact h2
      clear HQ
      go_wp2_with fail
      go_loopw [3, 5] (fun v i wr => ∃ j : Nat, j ≤ q.length ∧ i = .int .i64 (j : Int) ∧ Hid (PRow wr v (joinL A (q.take j))) ∧ Hid (Below w.heap.size w wr)) (fun _ i _ => q.length - (intOf i).toNat)
      case atStart => exact ⟨0, Nat.zero_le _, rfl, HP, HB⟩
      case round =>
        obtain ⟨j, hj, rfl, HJ, HBj⟩ := hrel
        clear HP HB
        have c0 := HC.out _ HBj.out
        by_cases hlt2 : j < q.length
        · have i2 : (j : Int) < (q.length : Int) := by omega
          have HX : Hid (joinL A (q.take (j + 1)) = if find (joinL A (q.take j)) (q[j]).key = none then withP (joinL A (q.take j)) q[j] else joinL A (q.take j)) := Lsms.join_next A q hlt2
          have hJl := Lsms.join_le (q.take j) A
          rw [List.length_take] at hJl
          have hJr : Rising (joinL A (q.take j)) := Lsms.rising_join _ _ hRi
          obtain ⟨b2, off2, rfl, _⟩ := (HQ2.out _ HBj.out).2.2 (by omega)
          have HP3 : Hid (∀ w2, Below w.heap.size w w2 → w2.cell? ⟨b2, off2 + j * 3, none⟩ = some (.string (q[j]).key) ∧ w2.cell? ⟨b2, off2 + j * 3 + 1, none⟩ = some (.string (q[j]).val) ∧ w2.cell? ⟨b2, off2 + j * 3 + 2, none⟩ = some (.bool (q[j]).gone)) := fun w2 k2 => PairRows.at_three (HQ2.out w2 k2) j hlt2
          generalize q[j] = y at HP3 HX
          generalize joinL A (q.take j) = J at HJ HX hJl hJr
          obtain ⟨y0, y1, y2⟩ := y
          simp only at HP3 HX
          obtain ⟨p0, p1, p2⟩ := HP3.out _ HBj.out
          obtain ⟨aJ, cJ, rfl, rJ⟩ := HJ.out
          have cF := WalkStoreRef.find_any J y0 aJ J.length cJ _ rJ (by omega)
          have HRJ : Hid (Wide 3 wr aJ J.length cJ (cells J)) := rJ
          clear rJ
          go_wp2_with fail
          refine cF.mono ?_
          rintro e w2 ⟨z, rfl, hf, b2⟩
          have HB2 : Hid (Below w.heap.size w w2) := bt HBj.out b2
          have HR2 : Hid (Wide 3 w2 aJ J.length cJ (cells J)) := HRJ.out.below b2
          clear cF b2 c0 p0 p1 p2
          obtain ⟨p0, p1, p2⟩ := HP3.out _ HB2.out
          have c0 := HC.out _ HB2.out
          rcases hf with ⟨hno, rfl⟩ | ⟨i', hi', rfl, hsome⟩
          · have HY : Hid (joinL A (q.take (j + 1)) = withP J ⟨y0, y1, y2⟩) := by show _ = _; rw [HX.out, if_pos hno]
            have cW := WalkWithRef.with_any J ⟨y0, y1, y2⟩ aJ J.length cJ w2 HR2.out (by omega) hJr
            simp only at cW
            clear hno HX HJ HRJ HR2
            go_wp2_with fail
            refine cW.mono ?_
            rintro e w3 ⟨a', c', rfl, r3, _, b3⟩
            have HP4 : Hid (PRow w3 (.slice a' (withP J ⟨y0, y1, y2⟩).length c') (joinL A (q.take (j + 1)))) := by show PRow _ _ _; rw [HY.out]; exact ⟨a', c', rfl, r3⟩
            have HB3 : Hid (Below w.heap.size w w3) := bt HB2.out b3
            clear cW r3 b3 HB2 p0 p1 p2 c0
            go_wp2_with fail
            go_roundw
            case rel => exact ⟨j + 1, by omega, by go_num, HP4, HB3⟩
            case measure => simp [intOf]; omega
          · have HY : Hid (joinL A (q.take (j + 1)) = J) := by show _ = _; rw [HX.out, if_neg (by rw [hsome]; exact fun h => by cases h)]
            have HP4 : Hid (PRow w2 (.slice aJ J.length cJ) (joinL A (q.take (j + 1)))) := by show PRow _ _ _; rw [HY.out]; exact ⟨aJ, cJ, rfl, HR2.out⟩
            have hi2 : (0 : Int) ≤ (i' : Int) := by omega
            clear hsome hi' HX HJ HRJ HR2 p0 p1 p2 c0
            go_wp2_with fail
            go_roundw
            case rel => exact ⟨j + 1, by omega, by go_num, HP4, HB2⟩
            case measure => simp [intOf]; omega
        · have i2 : ¬ (j : Int) < (q.length : Int) := by omega
          have HP4 : Hid (PRow wr u3 (liveA [] (r.take (k + 1)))) := by
            show PRow _ _ _
            rw [HN.out]
            have h := HJ.out
            rw [List.take_of_length_le (by omega)] at h
            exact h
          clear HJ
          go_wp2_with fail
          go_roundw
          case rel => exact ⟨k + 1, by omega, by go_num, HP4, HBj⟩
          case measure => simp [intOf]; omega
    · have i1 : ¬ (k : Int) < (n : Int) := by omega
      have hp := HP.out
      rw [List.take_of_length_le (by omega)] at hp
      have hA := Lsms.liveA_le r []
      simp only [List.length_nil] at hA
      have HV : Hid (live r = alive (liveA [] r)) := rfl
      generalize liveA [] r = A at hp hA HV
      obtain ⟨aA, cA, rfl, rA⟩ := hp
      obtain ⟨wA, rfl⟩ : ∃ w0, w0 = wr := ⟨wr, rfl⟩
      have HA : Hid (Wide 3 wA aA A.length cA (cells A)) := rA
      clear rA HP HL HR
      go_wp2_with fail
      go_loopw [6, 7] (fun v i wn => ∃ j : Nat, j ≤ A.length ∧ i = .int .i64 (j : Int) ∧ Hid (wn.ownsRow wA.heap.size 44 3 v (alive (A.take j)).length (cells (alive (A.take j)))) ∧ Hid (Below wA.heap.size wA wn)) (fun _ i _ => A.length - (intOf i).toNat)
      case atStart => exact ⟨0, Nat.zero_le _, rfl, World.ownsRow_nil _ _ _ _, Below.refl _ _⟩
      case round =>
        obtain ⟨j, hj, rfl, HO, HBn⟩ := hrel
        by_cases hlt2 : j < A.length
        · have i2 : (j : Int) < (A.length : Int) := by omega
          obtain ⟨b2, off2, rfl, _⟩ := HA.out.2.2 (by omega)
          obtain ⟨p0, p1, p2⟩ := PairRows.at_three (HA.out.below HBn.out) j hlt2
          have HN : Hid (alive (A.take (j + 1)) = alive (A.take j) ++ (if (A[j]).gone = true then [] else [A[j]])) := Lsms.alive_next hlt2
          have hal := alive_le A j
          generalize A[j] = y at p0 p1 p2 HN
          obtain ⟨y0, y1, y2⟩ := y
          simp only at p0 p1 p2 HN
          cases y2
          · have HN2 : Hid (alive (A.take (j + 1)) = alive (A.take j) ++ [⟨y0, y1, false⟩]) := HN.out
            clear HN
            go_wp2_with (at_builtin; go_must (refine wpList_append_own _ rfl (.tmp 55) (.tmp 60) 34 rfl wA.heap.size 44 i0 (.agg #[.string ⟨#[]⟩, .string ⟨#[]⟩, .bool false]) 3 40 Tryz.underlying34 hi hz0 hz1 hz2 rfl (by decide) _ _ _ rfl (HO.out.alloc _) ⟨_, 0, none⟩ 1 1 [.string y0, .string y1, .bool false] rfl rfl (WalkWithRef.cell_three_new _ _ _ _ _) (fun u hu => by simp at hu; rcases hu with rfl | rfl | rfl <;> rfl) (by unfold maxLen; omega) (by omega) (by have := HBn.out.size; simp; omega) ?_); intro v1 wn o1 g1 z1; clear z1)
            have HB4 : Hid (Below wA.heap.size wA wn) := (HBn.out.alloc HBn.out.size _).grown g1 (by have := HBn.out.size; simp; omega) (fun k hk => (HO.out.lt k hk).1)
            have HON : Hid (wn.ownsRow wA.heap.size 44 3 v1 (alive (A.take (j + 1))).length (cells (alive (A.take (j + 1))))) := by
              rw [HN2.out, cells_append, List.length_append]
              exact o1
            clear g1 o1
            go_roundw
            case rel => exact ⟨j + 1, by omega, by go_num, HON, HB4⟩
            case measure => simp [intOf]; omega
          · have HN2 : Hid (alive (A.take (j + 1)) = alive (A.take j)) := by show _ = _; rw [HN.out]; simp
            clear HN
            go_wp2_with fail
            go_roundw
            case rel => exact ⟨j + 1, by omega, by go_num, by show Hid _; rw [HN2.out]; exact HO, HBn⟩
            case measure => simp [intOf]; omega
        · have i2 : ¬ (j : Int) < (A.length : Int) := by omega
          have hO := HO.out
          rw [List.take_of_length_le (by omega), ← HV.out] at hO
          have HF := Keeps.owns_base hO HB.out.size
          have HE : Hid (Below w.heap.size w _) := bt HB.out HBn.out
          have HO2 : Hid (wr.ownsRow w.heap.size 44 3 u6 (live r).length (cells (live r))) := HF
          clear hO HF HO
          go_wp2_with fail
          go_ret
          exact ⟨_, rfl, HO2.out, HE.out⟩

end Go.Proofs.YtbepfeajaoaocafGreatDoor.WalkLiveRef
