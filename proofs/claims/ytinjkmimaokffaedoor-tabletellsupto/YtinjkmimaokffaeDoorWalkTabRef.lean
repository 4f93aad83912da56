/-
  What the document's own answers (package witref2) return on pairs for a table: Pairs, four.
-/
import Derived.Test.YtinjkmimaokffaeDoorWalkStoreRef
import Derived.Test.YtinjkmimaokffaeDoorWalkMix
import Derived.Test.YtinjkmimaokffaeDoorTabs
import Derived.BigQuiet
import Derived.Deep.QuietTactic
import Derived.Deep.CutBlock
import Derived.Laws.Cover1
namespace Go.Proofs.YtinjkmimaokffaeDoor.WalkTabRef
open Go.RowKit
open Lists (bt)
open Wides (Wide)
open Stores (Pair lt keyE)
open PairRows (cells)
open Tabs (pairsE fault last)
open WalkStoreRef (aggP sizeP eq_yes eq_no empty_yes empty_no)

theorem below_drewN {B : Nat} {a w : World} (h : Below B a w) (n : Nat) : Below B a (w.drewN n) := ⟨h.os, h.tape, h.output, h.size, h.block⟩
theorem fault_key {q : Option ByteArray} {p : Pair} (h : keyE p.key ≠ 0) : fault q p = keyE p.key := if_pos h
theorem fault_val {q : Option ByteArray} {p : Pair} (h : keyE p.key = 0) (h2 : 200 < p.val.size) : fault q p = 4 := by
  unfold fault
  rw [if_neg (fun g => g h), if_pos h2]
theorem fault_gone {q : Option ByteArray} {p : Pair} (h : keyE p.key = 0) (h2 : ¬ 200 < p.val.size) (h3 : p.gone = true ∧ p.val.size ≠ 0) : fault q p = 3 := by
  unfold fault
  rw [if_neg (fun g => g h), if_neg h2, if_pos h3]
theorem fault_none {p : Pair} (h : keyE p.key = 0) (h2 : ¬ 200 < p.val.size) (h3 : ¬ (p.gone = true ∧ p.val.size ≠ 0)) : fault none p = 0 := by
  unfold fault
  rw [if_neg (fun g => g h), if_neg h2, if_neg h3]
theorem fault_some {k : ByteArray} {p : Pair} (h : keyE p.key = 0) (h2 : ¬ 200 < p.val.size) (h3 : ¬ (p.gone = true ∧ p.val.size ≠ 0)) : fault (some k) p = if lt k p.key = true then 0 else 7 := by
  unfold fault
  rw [if_neg (fun g => g h), if_neg h2, if_neg h3]

set_option maxHeartbeats 4000000 in
set_option maxRecDepth 100000 in
theorem pairs_any (l : List Pair) (a : Option Addr) (n cap : Nat) (w : World) (hr : Wide 3 w a n cap (cells l)) (hz : ∀ e ∈ l, e.key.size ≤ maxLen ∧ e.val.size ≤ maxLen) (hn : n ≤ 17592186043904) :
    Calls Tryd.prog 18 #[.slice a n cap] w fun e w' => e = .returned (.int .i64 (pairsE l : Nat)) ∧ Below w.heap.size w w' := by
  have hln := PairRows.len_of hr
  have HR : Hid (Wide 3 w a n cap (cells l)) := hr
  have HZ : Hid (∀ e ∈ l, e.key.size ≤ maxLen ∧ e.val.size ≤ maxLen) := hz
  have a26 := aggP
  have z26 := sizeP
  clear hr hz
  go_enter Tryd.func18, Tryd.ntmps18
  go_wp2_with fail
  go_loopw [3, 4] (fun i _ wr => ∃ k : Nat, k ≤ n ∧ i = .int .i64 (k : Int) ∧ Hid (pairsE (l.take k) = 0) ∧ Hid (Below w.heap.size w wr)) (fun i _ _ => n - (intOf i).toNat)
  case atStart => exact ⟨0, Nat.zero_le _, rfl, rfl, Below.refl _ _⟩
  case round =>
    obtain ⟨k, hk, rfl, HE, HB⟩ := hrel
    by_cases hlt : k < n
    · have i1 : (k : Int) < (n : Int) := by omega
      have hkl : k < l.length := by omega
      obtain ⟨b1, off1, rfl, _⟩ := HR.out.2.2 (by omega)
      obtain ⟨p0, p1, p2⟩ := PairRows.at_three (HR.out.below HB.out) k hkl
      obtain ⟨hx0, hx1⟩ := HZ.out _ (List.getElem_mem hkl)
      have HA : Hid (fault (last none (l.take k)) l[k] ≠ 0 → pairsE l = fault (last none (l.take k)) l[k]) := Tabs.pairs_at hkl HE.out
      have HN : Hid (fault (last none (l.take k)) l[k] = 0 → pairsE (l.take (k + 1)) = 0) := Tabs.pairs_next hkl HE.out
      have hprev : (k = 0 ∧ last none (l.take k) = none) ∨ ∃ (j : Nat) (hj : j < l.length), k = j + 1 ∧ last none (l.take k) = some (l[j]).key := by
        cases k with
        | zero => exact .inl ⟨rfl, rfl⟩
        | succ j => exact .inr ⟨j, by omega, rfl, Tabs.last_at (by omega)⟩
      generalize last none (l.take k) = q at HA HN hprev
      generalize l[k] = x at p0 p1 p2 hx0 hx1 HA HN
      obtain ⟨x0, x1, x2⟩ := x
      simp only at p0 p1 p2 hx0 hx1
      unfold maxLen at hx0 hx1
      by_cases hK : keyE x0 ≠ 0
      · have HV : Hid (pairsE l = keyE x0) := by
          have f := fault_key (q := q) (p := ⟨x0, x1, x2⟩) hK
          show _ = _
          rw [HA.out (by rw [f]; exact hK), f]
        have k1 : (((keyE x0 : Nat) : Int) != 0) = true := by rw [bne_iff_ne]; omega
        have cK := WalkStoreRef.key_any x0
        generalize keyE x0 = K at HV k1 cK
        clear HA HN hK hprev
        go_wp2_with fail
        refine (cK _).mono ?_
        rintro e w2 ⟨rfl, rfl⟩
        go_wp2_with fail
        go_ret
        exact ⟨by rw [HV.out]; rfl, HB.out⟩
      have hK : keyE x0 = 0 := Decidable.not_not.1 hK
      have cK := WalkStoreRef.key_any x0
      rw [hK] at cK
      by_cases hV : 200 < x1.size
      · have HV : Hid (pairsE l = 4) := by
          have f := fault_val (q := q) (p := ⟨x0, x1, x2⟩) hK hV
          show _ = _
          rw [HA.out (by rw [f]; decide), f]
        have i2 : (200 : Int) < (x1.size : Int) := by omega
        clear HA HN hK hV hprev
        go_wp2_with fail
        refine (cK _).mono ?_
        rintro e w2 ⟨rfl, rfl⟩
        go_wp2_with fail
        go_ret
        exact ⟨by rw [HV.out]; rfl, HB.out⟩
      have i2 : ¬ (200 : Int) < (x1.size : Int) := by omega
      by_cases hG : x2 = true ∧ x1.size ≠ 0
      · have HV : Hid (pairsE l = 3) := by
          have f := fault_gone (q := q) (p := ⟨x0, x1, x2⟩) hK hV hG
          show _ = _
          rw [HA.out (by rw [f]; decide), f]
        obtain ⟨rfl, hs⟩ := hG
        have e1 := empty_no hs
        clear HA HN hK hV hs hprev
        go_wp2_with fail
        refine (cK _).mono ?_
        rintro e w2 ⟨rfl, rfl⟩
        go_wp2_with fail
        go_ret
        exact ⟨by rw [HV.out]; rfl, HB.out⟩
      have hgo : x2 = false ∨ (x2 = true ∧ (x1.toList == []) = true) := by
        cases x2
        · exact .inl rfl
        · exact .inr ⟨rfl, empty_yes (Decidable.not_not.1 fun h => hG ⟨rfl, h⟩)⟩
      rcases hprev with ⟨hk0, rfl⟩ | ⟨j, hj, hk1, rfl⟩
      · have HV : Hid (pairsE (l.take (k + 1)) = 0) := HN.out (fault_none hK hV hG)
        have i3 : decide (0 < k) = false := decide_eq_false (by omega)
        clear HA HN hK hV hG hk0
        rcases hgo with rfl | ⟨rfl, e1⟩
        · go_wp2_with fail
          refine (cK _).mono ?_
          rintro e w2 ⟨rfl, rfl⟩
          go_wp2_with fail
          go_quiet (fail)
          go_wp2_with fail
          go_roundw
          case rel => exact ⟨k + 1, by omega, by go_num, HV, below_drewN HB.out _⟩
          case measure => simp [intOf]; omega
        · go_wp2_with fail
          refine (cK _).mono ?_
          rintro e w2 ⟨rfl, rfl⟩
          go_wp2_with fail
          go_quiet (fail)
          go_wp2_with fail
          go_roundw
          case rel => exact ⟨k + 1, by omega, by go_num, HV, below_drewN HB.out _⟩
          case measure => simp [intOf]; omega
      · have q0 := (PairRows.at_three (HR.out.below HB.out) j hj).1
        have i3 : decide (0 < k) = true := decide_eq_true (by omega)
        have i4 : (k : Int) - 1 = (j : Int) := by omega
        have i5 : IntKind.i64.wrap ((k : Int) - 1) = (j : Int) := by rw [i4, IntKind.wrap_i64]; omega
        have i6 : (j : Int) < (n : Int) := by omega
        have hf := fault_some (k := (l[j]).key) (p := ⟨x0, x1, x2⟩) hK hV hG
        rw [hf] at HA HN
        simp only at HA HN
        generalize (l[j]).key = y at q0 HA HN
        clear hf hK hV hG hk1 hj
        by_cases hL : lt y x0 = true
        · have HV : Hid (pairsE (l.take (k + 1)) = 0) := HN.out (if_pos hL)
          have e2 : Op.bytesLess x0.toList y.toList = false := Stores.lt_asymm hL
          have e3 := eq_no (fun e => Stores.lt_ne hL e.symm : x0 ≠ y)
          clear HA HN hL
          rcases hgo with rfl | ⟨rfl, e1⟩
          · go_wp2_with fail
            refine (cK _).mono ?_
            rintro e w2 ⟨rfl, rfl⟩
            go_wp2_with fail
            go_quiet (fail)
            go_wp2_with fail
            go_roundw
            case rel => exact ⟨k + 1, by omega, by go_num, HV, below_drewN HB.out _⟩
            case measure => simp [intOf]; omega
          · go_wp2_with fail
            refine (cK _).mono ?_
            rintro e w2 ⟨rfl, rfl⟩
            go_wp2_with fail
            go_quiet (fail)
            go_wp2_with fail
            go_roundw
            case rel => exact ⟨k + 1, by omega, by go_num, HV, below_drewN HB.out _⟩
            case measure => simp [intOf]; omega
        · have HV : Hid (pairsE l = 7) := by
            show _ = _
            rw [HA.out (by rw [if_neg hL]; decide), if_neg hL]
          by_cases hM : lt x0 y = true
          · have e2 : Op.bytesLess x0.toList y.toList = true := hM
            clear HA HN hL hM
            rcases hgo with rfl | ⟨rfl, e1⟩
            · go_wp2_with fail
              refine (cK _).mono ?_
              rintro e w2 ⟨rfl, rfl⟩
              go_wp2_with fail
              go_quiet (fail)
              go_wp2_with fail
              go_ret
              exact ⟨by rw [HV.out]; rfl, below_drewN HB.out _⟩
            · go_wp2_with fail
              refine (cK _).mono ?_
              rintro e w2 ⟨rfl, rfl⟩
              go_wp2_with fail
              go_quiet (fail)
              go_wp2_with fail
              go_ret
              exact ⟨by rw [HV.out]; rfl, below_drewN HB.out _⟩
          · obtain rfl : x0 = y := Stores.lt_total (by simpa using hM) (by simpa using hL)
            have e2 : Op.bytesLess x0.toList x0.toList = false := by simpa using hM
            have e3 := eq_yes (rfl : x0 = x0)
            clear HA HN hL hM
            rcases hgo with rfl | ⟨rfl, e1⟩
            · go_wp2_with fail
              refine (cK _).mono ?_
              rintro e w2 ⟨rfl, rfl⟩
              go_wp2_with fail
              go_quiet (fail)
              go_wp2_with fail
              go_ret
              exact ⟨by rw [HV.out]; rfl, below_drewN HB.out _⟩
            · go_wp2_with fail
              refine (cK _).mono ?_
              rintro e w2 ⟨rfl, rfl⟩
              go_wp2_with fail
              go_quiet (fail)
              go_wp2_with fail
              go_ret
              exact ⟨by rw [HV.out]; rfl, below_drewN HB.out _⟩
    · have i1 : ¬ (k : Int) < (n : Int) := by omega
      have HF : Hid (pairsE l = 0) := by
        have h := HE.out
        rw [List.take_of_length_le (by omega)] at h
        exact h
      go_wp2_with fail
      go_ret
      exact ⟨by rw [HF.out]; rfl, HB.out⟩

end Go.Proofs.YtinjkmimaokffaeDoor.WalkTabRef
