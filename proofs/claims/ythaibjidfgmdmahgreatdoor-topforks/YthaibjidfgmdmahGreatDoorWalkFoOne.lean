/-
  Package fork: its heads verified one by one, whether two parted, and whether two heads prove that a log lies.
-/
import Derived.Test.YthaibjidfgmdmahGreatDoorForks
import Derived.Test.YthaibjidfgmdmahGreatDoorHeadList
import Derived.Test.YthaibjidfgmdmahGreatDoorHeadRows
import Derived.Test.YthaibjidfgmdmahGreatDoorErrs
import Derived.Test.YthaibjidfgmdmahGreatDoorListRows
import Derived.Test.YthaibjidfgmdmahGreatDoorWalkHdSign
import Derived.Deep.CutBlock
namespace Go.Proofs.YthaibjidfgmdmahGreatDoor.WalkFo
open Go.RowKit
open Lists (bt)
open Wides (Wide)
open Heads (Head verifyE)
open HeadVals (hv aggH sizeH At)
open HeadList (cells)
open Errs (errv errv0 errv_pos)
open Forks (lies bothE provesV allE)

abbrev Asks (w : World) : Prop := WalkHdLib.Tabs w

set_option maxHeartbeats 2000000 in
theorem all_any (l : List Head) (x : Option Addr) (n cap : Nat) (key : Int) (w : World) (hr : Wide 4 w x n cap (cells l)) (hn : n ≤ 1000) (hA : Asks w) :
    Calls Tryz.prog 54 #[.int .i64 key, .slice x n cap] w fun e w' => e = .returned (errv (allE l key)) ∧ Below w.heap.size w w' := by
  have hln := HeadList.len_of hr
  have HR : Hid (Wide 4 w x n cap (cells l)) := hr
  have HT : Hid (∀ w', Below w.heap.size w w' → Asks w') := fun w' b => hA.below b
  clear hr hA
  have aH := aggH
  have zH := sizeH
  go_enter Tryz.func54, Tryz.ntmps54
  go_wp2_with fail
  go_loopw [10] (fun i wr => ∃ k : Nat, k ≤ n ∧ i = .int .i64 (k : Int) ∧ Hid (∀ e ∈ l.take k, verifyE e key = 0) ∧ Below w.heap.size w wr) (fun i _ => n - (intOf i).toNat)
  case atStart => exact ⟨0, Nat.zero_le _, rfl, (by intro e he; simp at he), Below.refl _ _⟩
  case round =>
    obtain ⟨k, hk, rfl, HA, hb⟩ := hrel
    by_cases hlt : k < n
    · have i1 : (k : Int) < (n : Int) := by omega
      obtain ⟨b1, off1, rfl, _⟩ := (HR.out.below hb).2.2 (by omega)
      obtain ⟨p0, p1, p2, p3⟩ := HeadList.at_four (HR.out.below hb) k (by omega)
      have HT2 : Hid (l.take (k + 1) = l.take k ++ [l[k]'(by omega)]) := List.take_succ_eq_append_getElem (by omega)
      have HN : Hid (verifyE (l[k]'(by omega)) key ≠ 0 → allE l key = verifyE (l[k]'(by omega)) key) := fun h => Forks.allE_first (by omega) HA.out h
      generalize l[k]'(by omega) = y at p0 p1 p2 p3 HT2 HN
      obtain ⟨y0, y1, y2, y3⟩ := y
      simp only at p0 p1 p2 p3
      have HB : Hid (Below w.heap.size w wr) := hb
      have cV := fun w' (b : Below w.heap.size w w') => WalkHdSign.verify_any ⟨y0, y1, y2, y3⟩ key w' (HT.out w' b)
      unfold hv at cV
      simp only at cV
      clear hb
      go_wp2_with fail
      refine (cV _ (HB.out.alloc HB.out.size _)).mono ?_
      rintro e w2 ⟨rfl, b2⟩
      have HB2 : Hid (Below w.heap.size w w2) := bt (HB.out.alloc HB.out.size _) b2
      by_cases h0 : verifyE ⟨y0, y1, y2, y3⟩ key = 0
      · have HA2 : Hid (∀ e ∈ l.take (k + 1), verifyE e key = 0) := by
          rw [HT2.out]
          intro e he
          rcases List.mem_append.1 he with he | he
          · exact HA.out e he
          · rw [List.mem_singleton.1 he]; exact h0
        rw [h0, errv0]
        clear h0 b2 cV
        go_wp2_with fail
        go_roundw
        case rel => exact ⟨k + 1, by omega, by go_num, HA2, HB2.out⟩
        case measure => simp [intOf]; omega
      · have HF : Hid (errv (allE l key) = .iface 70 (.int .i64 (verifyE ⟨y0, y1, y2, y3⟩ key : Nat))) := by
          rw [HN.out h0]
          exact errv_pos _ h0
        rw [errv_pos _ h0]
        clear h0 b2 cV
        generalize ((verifyE ⟨y0, y1, y2, y3⟩ key : Nat) : Int) = E at HF
        go_wp2_with fail
        go_ret
        exact ⟨by rw [HF.out]; rfl, HB2.out⟩
    · have i1 : ¬ (k : Int) < (n : Int) := by omega
      have HF : Hid (allE l key = 0) := by
        have h := HA.out
        rw [List.take_of_length_le (by omega)] at h
        exact Forks.allE_zero.2 h
      go_wp2_with fail
      go_ret
      exact ⟨by rw [HF.out]; rfl, hb⟩

theorem all_two (a b : Head) (key : Int) : allE [a, b] key = bothE a b key := by
  unfold Forks.allE Forks.bothE
  unfold Forks.allE
  by_cases h : verifyE b key = 0
  · rw [if_pos h, h]; rfl
  · rw [if_neg h]

set_option maxHeartbeats 2000000 in
theorem parted_any (a b : Head) (w : World) : Calls Tryz.prog 55 #[hv a, hv b] w fun e w' => e = .returned (.bool (lies a b)) ∧ Below w.heap.size w w' := by
  obtain ⟨a0, a1, a2, a3⟩ := a
  obtain ⟨b0, b1, b2, b3⟩ := b
  have aH := aggH
  have zH := sizeH
  have bel : Below w.heap.size w ((w.alloc (.cells #[.int .i64 a0, .int .i64 a1, .int .i64 a2, .int .i64 a3] 30)).alloc (.cells #[.int .i64 b0, .int .i64 b1, .int .i64 b2, .int .i64 b3] 30)) := ((Below.refl _ _).alloc (Nat.le_refl _) _).alloc (by simp) _
  unfold hv
  simp only
  by_cases h0 : a0 = b0
  · subst h0
    have e0 : (a0 == a0) = true := by simp
    by_cases h1 : a1 = b1
    · subst h1
      have e1 : (a1 != a1) = false := by simp
      have HV : Hid (lies ⟨a0, a1, a2, a3⟩ ⟨a0, a1, b2, b3⟩ = false) := decide_eq_false fun q => q.2 rfl
      go_enter Tryz.func55, Tryz.ntmps55
      go_wp2_with fail
      go_ret
      exact ⟨by rw [HV.out]; rfl, bel⟩
    · have e1 : (a1 != b1) = true := by simpa using h1
      have HV : Hid (lies ⟨a0, a1, a2, a3⟩ ⟨a0, b1, b2, b3⟩ = true) := decide_eq_true ⟨rfl, h1⟩
      go_enter Tryz.func55, Tryz.ntmps55
      go_wp2_with fail
      go_ret
      exact ⟨by rw [HV.out]; rfl, bel⟩
  · have e0 : (a0 == b0) = false := by simpa using h0
    have HV : Hid (lies ⟨a0, a1, a2, a3⟩ ⟨b0, b1, b2, b3⟩ = false) := decide_eq_false fun q => h0 q.1
    go_enter Tryz.func55, Tryz.ntmps55
    go_wp2_with fail
    go_ret
    exact ⟨by rw [HV.out]; rfl, bel⟩

/-- two heads beside each other, as they are handed on -/
theorem two_wide (w : World) (t : TypeId) (a0 a1 a2 a3 b0 b1 b2 b3 : Int) : Wide 4 (w.alloc (.cells #[.int .i64 a0, .int .i64 a1, .int .i64 a2, .int .i64 a3, .int .i64 b0, .int .i64 b1, .int .i64 b2, .int .i64 b3] t)) (some ⟨w.heap.size, 0, none⟩) 2 2 (cells [⟨a0, a1, a2, a3⟩, ⟨b0, b1, b2, b3⟩]) := by
  refine ⟨rfl, Nat.le_refl _, fun _ => ⟨_, _, rfl, fun j u hj => ?_⟩⟩
  match j, hj with
  | 0, h | 1, h | 2, h | 3, h | 4, h | 5, h | 6, h | 7, h => rw [← h]; simp [cells]
  | j + 8, h => simp [cells] at h

set_option maxHeartbeats 4000000 in
theorem proves_any (a b : Head) (key : Int) (w : World) (hA : Asks w) : Calls Tryz.prog 18 #[hv a, hv b, .int .i64 key] w fun e w' => e = .returned (.tuple #[.bool (provesV a b key), errv (bothE a b key)]) ∧ Below w.heap.size w w' := by
  have HT : Hid (∀ w', Below w.heap.size w w' → Asks w') := fun w' b => hA.below b
  have HP : Hid (∀ w', Calls Tryz.prog 55 #[hv a, hv b] w' fun e w'' => e = .returned (.bool (lies a b)) ∧ Below w'.heap.size w' w'') := fun w' => parted_any a b w'
  have HV1 : Hid (bothE a b key ≠ 0 → provesV a b key = false) := fun h => if_neg h
  have HV0 : Hid (bothE a b key = 0 → provesV a b key = lies a b) := fun h => if_pos h
  have HC : Hid (∀ x w', Below w.heap.size w w' → Wide 4 w' x 2 2 (cells [a, b]) → Calls Tryz.prog 54 #[.int .i64 key, .slice x 2 2] w' fun e w'' => e = .returned (errv (bothE a b key)) ∧ Below w'.heap.size w' w'') := fun x w' b' r => by
    have h := all_any _ x 2 2 key w' r (by decide) (HT.out w' b')
    rw [all_two] at h
    exact h
  obtain ⟨a0, a1, a2, a3⟩ := a
  obtain ⟨b0, b1, b2, b3⟩ := b
  have aH := aggH
  have zH := sizeH
  have bel : Below w.heap.size w ((w.alloc (.cells #[.int .i64 a0, .int .i64 a1, .int .i64 a2, .int .i64 a3] 30)).alloc (.cells #[.int .i64 b0, .int .i64 b1, .int .i64 b2, .int .i64 b3] 30)) := ((Below.refl _ _).alloc (Nat.le_refl _) _).alloc (by simp) _
  have hX : At ((w.alloc (.cells #[.int .i64 a0, .int .i64 a1, .int .i64 a2, .int .i64 a3] 30)).alloc (.cells #[.int .i64 b0, .int .i64 b1, .int .i64 b2, .int .i64 b3] 30)) w.heap.size ⟨a0, a1, a2, a3⟩ := (At.new w a0 a1 a2 a3).alloc _
  have hY : At ((w.alloc (.cells #[.int .i64 a0, .int .i64 a1, .int .i64 a2, .int .i64 a3] 30)).alloc (.cells #[.int .i64 b0, .int .i64 b1, .int .i64 b2, .int .i64 b3] 30)) (w.heap.size + 1) ⟨b0, b1, b2, b3⟩ := by
    have h := At.new (w.alloc (.cells #[.int .i64 a0, .int .i64 a1, .int .i64 a2, .int .i64 a3] 30)) b0 b1 b2 b3
    simpa using h
  generalize provesV ⟨a0, a1, a2, a3⟩ ⟨b0, b1, b2, b3⟩ key = V at HV0 HV1 ⊢
  generalize lies ⟨a0, a1, a2, a3⟩ ⟨b0, b1, b2, b3⟩ = L at HV0 HP
  generalize bothE ⟨a0, a1, a2, a3⟩ ⟨b0, b1, b2, b3⟩ key = E at HV0 HV1 HC ⊢
  unfold hv at *
  simp only at HP
  clear hA
  go_enter Tryz.func18, Tryz.ntmps18
  go_upto_region 1 with fail
  generalize (w.alloc (.cells #[.int .i64 a0, .int .i64 a1, .int .i64 a2, .int .i64 a3] 30)).alloc (.cells #[.int .i64 b0, .int .i64 b1, .int .i64 b2, .int .i64 b3] 30) = w0 at bel hX hY ⊢
  obtain ⟨p0, p1, p2, p3⟩ := hX
  obtain ⟨q0, q1, q2, q3⟩ := hY
  simp only at p0 p1 p2 p3 q0 q1 q2 q3
  have HX : Hid (At w0 w.heap.size ⟨a0, a1, a2, a3⟩) := ⟨p0, p1, p2, p3⟩
  have HY : Hid (At w0 (w.heap.size + 1) ⟨b0, b1, b2, b3⟩) := ⟨q0, q1, q2, q3⟩
  have HB0 : Hid (Below w.heap.size w w0) := bel
  go_wp2_with fail
  refine (HC.out _ _ (HB0.out.alloc HB0.out.size _) (two_wide w0 _ a0 a1 a2 a3 b0 b1 b2 b3)).mono ?_
  rintro e w1 ⟨rfl, b1'⟩
  have HB1 : Hid (Below w0.heap.size w0 w1) := bt ((Below.refl _ _).alloc (Nat.le_refl _) _) b1'
  clear b1' p0 p1 p2 p3 q0 q1 q2 q3 bel HC
  by_cases hE : E = 0
  · obtain ⟨p0, p1, p2, p3⟩ := HX.out.below HB1.out
    obtain ⟨q0, q1, q2, q3⟩ := HY.out.below HB1.out
    simp only at p0 p1 p2 p3 q0 q1 q2 q3
    have HV : Hid (V = L) := HV0.out hE
    have HN : Hid (errv E = .nilIface) := by show errv E = _; rw [hE, errv0]
    rw [hE, errv0]
    clear hE HV0 HV1
    go_wp2_with fail
    refine (HP.out _).mono ?_
    rintro e w2 ⟨rfl, b2'⟩
    have HB2 : Hid (Below w.heap.size w w2) := bt (bt HB0.out HB1.out) b2'
    clear b2' p0 p1 p2 p3 q0 q1 q2 q3
    go_wp2_with fail
    go_ret2
    exact ⟨by rw [HN.out, HV.out]; rfl, HB2.out⟩
  · have HV : Hid (V = false) := HV1.out hE
    have HN : Hid (errv E = .iface 70 (.int .i64 E)) := errv_pos _ hE
    rw [errv_pos _ hE]
    clear hE HV0 HV1
    go_wp2_with fail
    go_ret2
    exact ⟨by rw [HN.out, HV.out]; rfl, bt HB0.out HB1.out⟩

end Go.Proofs.YthaibjidfgmdmahGreatDoor.WalkFo
