/-
  What the document's own answers (package witref2) return on pairs: Key, Find, Get, With, Put.
-/
import Derived.Test.YtekahahaknamfaiDoorPairRows
import Derived.Test.YtekahahaknamfaiDoorRows
import Derived.Test.YtekahahaknamfaiDoorKeeps
import Derived.Deep.DeepMust
import Derived.Deep.CutBlock
namespace Go.Proofs.YtekahahaknamfaiDoor.WalkStoreRef
open Go.RowKit
open Lists (bt)
open Keeps (Kept owns_kept owns_row owns_base)
open Wides (Wide)
open Stores (Pair lt less find keyE putE putL getE getV withP outL Rising)
open PairRows (cells cells_append)

theorem aggP (w : World) : (isAgg 73).run Tryd.prog w = .ok true w := by kernel_rfl
theorem sizeP (w : World) : (sizeOf 73).run Tryd.prog w = .ok 3 w := by kernel_rfl
theorem eq_yes {x y : ByteArray} (h : x = y) : (x.toList == y.toList) = true := by rw [h]; exact beq_self_eq_true _
theorem eq_no {x y : ByteArray} (h : x ≠ y) : (x.toList == y.toList) = false := by rw [beq_eq_false_iff_ne]; exact fun e => h (Stores.toList_inj e)
theorem empty_yes {x : ByteArray} (h : x.size = 0) : (x.toList == []) = true := by
  have : x = ⟨#[]⟩ := by
    apply ByteArray.ext
    exact Array.size_eq_zero_iff.1 h
  rw [this, ByteArray.toList_eq]
  rfl
theorem empty_no {x : ByteArray} (h : x.size ≠ 0) : (x.toList == []) = false := by
  rw [beq_eq_false_iff_ne, ByteArray.toList_eq]
  intro e
  have := congrArg List.length e
  simp at this
  exact h (by show x.data.size = 0; rw [this]; rfl)

theorem key_any (k : ByteArray) (w : World) : Calls Tryd.prog 14 #[.string k] w fun e w' => e = .returned (.int .i64 (keyE k : Nat)) ∧ w' = w := by
  by_cases h0 : k.size = 0
  · have HV : Hid (keyE k = 2) := if_pos h0
    have e0 := empty_yes h0
    clear h0
    go_enter Tryd.func14, Tryd.ntmps14
    go_wp2_with fail
    go_ret
    exact ⟨by rw [HV.out]; rfl, rfl⟩
  · have e0 := empty_no h0
    by_cases h1 : 200 < k.size
    · have HV : Hid (keyE k = 4) := by show _ = _; unfold keyE; rw [if_neg h0, if_pos h1]
      have i1 : (200 : Int) < (k.size : Int) := by omega
      clear h0 h1
      go_enter Tryd.func14, Tryd.ntmps14
      go_wp2_with fail
      go_ret
      exact ⟨by rw [HV.out]; rfl, rfl⟩
    · have HV : Hid (keyE k = 0) := by show _ = _; unfold keyE; rw [if_neg h0, if_neg h1]
      have i1 : ¬ (200 : Int) < (k.size : Int) := by omega
      clear h0 h1
      go_enter Tryd.func14, Tryd.ntmps14
      go_wp2_with fail
      go_ret
      exact ⟨by rw [HV.out]; rfl, rfl⟩

/-- where a key is, or -1 -/
def FindAt (l : List Pair) (k : ByteArray) (z : Int) : Prop := (find l k = none ∧ z = -1) ∨ ∃ (j : Nat) (h : j < l.length), z = j ∧ find l k = some l[j]

theorem get_none {l : List Pair} {k : ByteArray} (h : find l k = none) : getE l k = 5 ∧ getV l k = ⟨#[]⟩ := by
  unfold getE getV
  rw [h]
  exact ⟨rfl, rfl⟩
theorem get_some {l : List Pair} {k : ByteArray} {p : Pair} (h : find l k = some p) : getE l k = (if p.gone = true then 5 else 0) ∧ getV l k = (if p.gone = true then ⟨#[]⟩ else p.val) := by
  unfold getE getV
  rw [h]
  exact ⟨rfl, rfl⟩


end Go.Proofs.YtekahahaknamfaiDoor.WalkStoreRef
