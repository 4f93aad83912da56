/-
  What the document's own answers (package witref2) return on pairs: Key, Find, Get, With, Put.
-/
import Derived.Test.YtbepfeajaoaocafGreatDoorPairRows
import Derived.Test.YtbepfeajaoaocafGreatDoorRows
import Derived.Test.YtbepfeajaoaocafGreatDoorKeeps
import Derived.Deep.DeepMust
import Derived.Deep.CutBlock
namespace Go.Proofs.YtbepfeajaoaocafGreatDoor.WalkStoreRef
open Go.RowKit
open Lists (bt)
open Keeps (Kept owns_kept owns_row owns_base)
open Wides (Wide)
open Stores (Pair lt less find keyE putE putL getE getV withP outL Rising)
open PairRows (cells cells_append)

theorem aggP (w : World) : (isAgg 44).run Tryz.prog w = .ok true w := by kernel_rfl
theorem sizeP (w : World) : (sizeOf 44).run Tryz.prog w = .ok 3 w := by kernel_rfl
theorem eq_yes {x y : ByteArray} (h : x = y) : (x.toList == y.toList) = true := by rw [h]; exact beq_self_eq_true _
theorem eq_no {x y : ByteArray} (h : x ≠ y) : (x.toList == y.toList) = false := by rw [beq_eq_false_iff_ne]; exact fun e => h (Stores.toList_inj e)
theorem empty_yes {x : ByteArray} (h : x.size = 0) : (x.toList == []) = true := by
  have : x = ⟨#[]⟩ := by
    apply ByteArray.ext
    exact Array.size_eq_zero_iff.1 h
  rw [this, ByteArray.toList_eq]
  rfl
theorem empty_no {x : ByteArray} (h : x.size ≠ 0) : (x.toList == []) = false := by
  rw [beq_eq_false_iff_ne, ByteArray.toList_eq]
  intro e
  have := congrArg List.length e
  simp at this
  exact h (by show x.data.size = 0; rw [this]; rfl)

theorem key_any (k : ByteArray) (w : World) : Calls Tryz.prog 65 #[.string k] w fun e w' => e = .returned (.int .i64 (keyE k : Nat)) ∧ w' = w := by
  by_cases h0 : k.size = 0
  · have HV : Hid (keyE k = 2) := if_pos h0
    have e0 := empty_yes h0
    clear h0
    go_enter Tryz.func65, Tryz.ntmps65
    go_wp2_with fail
    go_ret
    exact ⟨by rw [HV.out]; rfl, rfl⟩
  · have e0 := empty_no h0
    by_cases h1 : 200 < k.size
    · have HV : Hid (keyE k = 4) := by show _ = _; unfold keyE; rw [if_neg h0, if_pos h1]
      have i1 : (200 : Int) < (k.size : Int) := by omega
      clear h0 h1
      go_enter Tryz.func65, Tryz.ntmps65
      go_wp2_with fail
      go_ret
      exact ⟨by rw [HV.out]; rfl, rfl⟩
    · have HV : Hid (keyE k = 0) := by show _ = _; unfold keyE; rw [if_neg h0, if_neg h1]
      have i1 : ¬ (200 : Int) < (k.size : Int) := by omega
      clear h0 h1
      go_enter Tryz.func65, Tryz.ntmps65
      go_wp2_with fail
      go_ret
      exact ⟨by rw [HV.out]; rfl, rfl⟩

/-- where a key is, or -1 -/
def FindAt (l : List Pair) (k : ByteArray) (z : Int) : Prop := (find l k = none ∧ z = -1) ∨ ∃ (j : Nat) (h : j < l.length), z = j ∧ find l k = some l[j]

set_option maxHeartbeats 1000000 in
theorem find_any (l : List Pair) (key : ByteArray) (a : Option Addr) (n cap : Nat) (w : World) (hr : Wide 3 w a n cap (cells l)) (hn : n ≤ 17592186043904) :
    Calls Tryz.prog 39 #[.slice a n cap, .string key] w fun e w' => ∃ z : Int, e = .returned (.int .i64 z) ∧ FindAt l key z ∧ Below w.heap.size w w' := by
  have hln := PairRows.len_of hr
  have HR : Hid (Wide 3 w a n cap (cells l)) := hr
  have HL : Hid (l.length = n) := hln
  clear hr
  go_enter Tryz.func39, Tryz.ntmps39
  go_wp2_with fail
  go_loopw [5] (fun i wr => ∃ k : Nat, k ≤ n ∧ i = .int .i64 (k : Int) ∧ Hid (∀ q ∈ l.take k, q.key ≠ key) ∧ Below w.heap.size w wr) (fun i _ => n - (intOf i).toNat)
  case atStart => exact ⟨0, Nat.zero_le _, rfl, fun q hq => (by cases hq), Below.refl _ _⟩
  case round =>
    obtain ⟨k, hk, rfl, HA, hb⟩ := hrel
    by_cases hlt : k < n
    · have i1 : (k : Int) < (n : Int) := by omega
      obtain ⟨b1, off1, rfl, _⟩ := (HR.out.below hb).2.2 (by omega)
      obtain ⟨p0, p1, p2⟩ := PairRows.at_three (HR.out.below hb) k (by omega)
      have HN : Hid ((l[k]'(by omega)).key ≠ key → ∀ q ∈ l.take (k + 1), q.key ≠ key) := fun h => Stores.ahead_next (P := fun q => q.key ≠ key) k (by omega) HA.out h
      have HF : Hid ((l[k]'(by omega)).key = key → FindAt l key (k : Int)) := fun h => .inr ⟨k, by omega, rfl, Stores.find_at k (by omega) HA.out h⟩
      generalize l[k]'(by omega) = x at p0 p1 p2 HN HF
      obtain ⟨x0, x1, x2⟩ := x
      simp only at p0 p1 p2
      by_cases hq : x0 = key
      · have e1 := eq_yes hq
        have HG := HF.out hq
        clear hq
        go_wp2_with fail
        go_ret
        exact ⟨_, rfl, HG, hb⟩
      · have e1 := eq_no hq
        have HG : Hid (∀ q ∈ l.take (k + 1), q.key ≠ key) := HN.out hq
        clear hq
        go_wp2_with fail
        go_roundw
        case rel => exact ⟨k + 1, by omega, by go_num, HG.out, hb⟩
        case measure => simp [intOf]; omega
    · have i1 : ¬ (k : Int) < (n : Int) := by omega
      obtain rfl : k = n := by omega
      have HG : FindAt l key (-1) := .inl ⟨Stores.find_not k (by omega) HA.out, rfl⟩
      go_wp2_with fail
      go_ret
      exact ⟨_, rfl, HG, hb⟩

theorem get_none {l : List Pair} {k : ByteArray} (h : find l k = none) : getE l k = 5 ∧ getV l k = ⟨#[]⟩ := by
  unfold getE getV
  rw [h]
  exact ⟨rfl, rfl⟩
theorem get_some {l : List Pair} {k : ByteArray} {p : Pair} (h : find l k = some p) : getE l k = (if p.gone = true then 5 else 0) ∧ getV l k = (if p.gone = true then ⟨#[]⟩ else p.val) := by
  unfold getE getV
  rw [h]
  exact ⟨rfl, rfl⟩

set_option maxHeartbeats 1000000 in
theorem get_any (l : List Pair) (key : ByteArray) (a : Option Addr) (n cap : Nat) (w : World) (hr : Wide 3 w a n cap (cells l)) (hn : n ≤ 1000) :
    Calls Tryz.prog 19 #[.slice a n cap, .string key] w fun e w' => e = .returned (.tuple #[.string (getV l key), .bool (decide (getE l key = 0))]) ∧ Below w.heap.size w w' := by
  have hln := PairRows.len_of hr
  have HR : Hid (Wide 3 w a n cap (cells l)) := hr
  have cF := find_any l key a n cap w hr (by omega)
  clear hr
  go_enter Tryz.func19, Tryz.ntmps19
  go_wp2_with fail
  refine cF.mono ?_
  rintro e w1 ⟨z, rfl, hz, b1⟩
  clear cF
  rcases hz with ⟨h1, rfl⟩ | ⟨j, hj, rfl, h1⟩
  · have HV : Hid (getE l key = 5 ∧ getV l key = ⟨#[]⟩) := get_none h1
    clear h1
    go_wp2_with fail
    go_ret2
    exact ⟨by rw [HV.out.1, HV.out.2]; rfl, b1⟩
  · have HV : Hid (getE l key = (if (l[j]).gone = true then 5 else 0) ∧ getV l key = (if (l[j]).gone = true then ⟨#[]⟩ else (l[j]).val)) := get_some h1
    obtain ⟨bb, off, rfl, _⟩ := (HR.out.below b1).2.2 (by omega)
    obtain ⟨p0, p1, p2⟩ := PairRows.at_three (HR.out.below b1) j hj
    clear h1
    have i1 : ¬ (j : Int) < 0 := by omega
    have i2 : (j : Int) < (n : Int) := by omega
    generalize l[j] = x at p0 p1 p2 HV
    obtain ⟨x0, x1, x2⟩ := x
    simp only at p0 p1 p2 HV
    cases x2
    · go_wp2_with fail
      go_ret2
      exact ⟨by rw [HV.out.1, HV.out.2]; rfl, b1⟩
    · go_wp2_with fail
      go_ret2
      exact ⟨by rw [HV.out.1, HV.out.2]; rfl, b1⟩

end Go.Proofs.YtbepfeajaoaocafGreatDoor.WalkStoreRef
