/-
  What the program's entry.Check, Encode and Decode return, for every argument; and what of them the rest of the package is made of (bytesOf, timeOf, takeFirst, and the library's strings.Clone).
-/
import Derived.Test.YtigbbhojgajkjaiEntRows
import Derived.Test.YtigbbhojgajkjaiErrs
import Derived.Test.YtigbbhojgajkjaiWalkMix
import Derived.StillTail
import Derived.BigRegion
import Derived.Deep.RegionWith
import Derived.Deep.DeepMust
import Derived.Deep.CutBlock
import Derived.Deep.MidRow
import Derived.Laws.ResultCell
import Derived.Laws.MakeOwn
import Derived.Lib.UnsafeStr
import Derived.Lib.BufferWrite
import Derived.Laws.BitsLemmas
namespace Go.Proofs.Ytigbbhojgajkjai.WalkEntOne
open Go.RowKit
open Lists (Row ints bt)
open Errs (errv errv0 errv_pos)
open Entries (Entry entE take1 takes made dec encV decE decV)
open EntRows (cells cells_append)
open Nums (str)

theorem aggE (w : World) : (isAgg 40).run Try.prog w = .ok true w := by kernel_rfl
theorem sizeE (w : World) : (sizeOf 40).run Try.prog w = .ok 2 w := by kernel_rfl

theorem check_any (t : Int) (d : ByteArray) (w : World) (hd : d.size ≤ maxLen) :
    Calls Try.prog 19 #[.agg #[.int .i64 t, .string d]] w fun e w' => e = .returned (errv (entE (t, d))) ∧ Below w.heap.size w w' := by
  have b0 : Below w.heap.size w (w.alloc (.cells #[.int .i64 t, .string d] 40)) := (Below.refl _ _).alloc (Nat.le_refl _) _
  have hm : (d.size : Int) ≤ 9223372036854775807 := by unfold maxLen at hd; omega
  clear hd
  by_cases h0 : t < 0
  · have HV : Hid (entE (t, d) = 1) := if_pos (.inl h0)
    go_enter Try.func19, Try.ntmps19
    go_wp2_with fail
    go_ret
    exact ⟨by rw [HV.out]; rfl, b0⟩
  · by_cases h1 : 1000000 < t
    · have HV : Hid (entE (t, d) = 1) := if_pos (.inr h1)
      go_enter Try.func19, Try.ntmps19
      go_wp2_with fail
      go_ret
      exact ⟨by rw [HV.out]; rfl, b0⟩
    · by_cases h2 : 200 < d.size
      · have HV : Hid (entE (t, d) = 4) := by show _ = _; unfold entE; rw [if_neg (by simp only; omega), if_pos h2]
        have i2 : (200 : Int) < (d.size : Int) := by omega
        clear h2
        go_enter Try.func19, Try.ntmps19
        go_wp2_with fail
        go_ret
        exact ⟨by rw [HV.out]; rfl, b0⟩
      · have HV : Hid (entE (t, d) = 0) := by show _ = _; unfold entE; rw [if_neg (by simp only; omega), if_neg h2]
        have i2 : ¬ (200 : Int) < (d.size : Int) := by omega
        clear h2
        go_enter Try.func19, Try.ntmps19
        go_wp2_with fail
        go_ret
        exact ⟨by rw [HV.out]; rfl, b0⟩

/-- the first four bytes -/
def head4 (t : Int) (n : Nat) : List UInt8 := [UInt8.ofNat (t.toNat / 65536), UInt8.ofNat (t.toNat / 256), UInt8.ofNat t.toNat, UInt8.ofNat n]
theorem bytes_eq (t : Int) (d : ByteArray) : Entries.bytes (t, d) = head4 t d.size ++ d.data.toList := rfl
theorem cells_head (t : Int) (n : Nat) (h0 : 0 ≤ t) (h1 : t ≤ 1000000) (h2 : n ≤ 200) : WalkMix.cells (head4 t n) = [.int .u8 (t / 65536), .int .u8 (t / 256 % 256), .int .u8 (t % 256), .int .u8 (n : Int)] := by
  simp only [WalkMix.cells, head4, List.map_cons, List.map_nil, UInt8.toNat_ofNat', List.cons.injEq, Value.int.injEq, true_and, and_true]
  omega
theorem str_append (a b : List UInt8) (d : ByteArray) (h : d.data.toList = b) : str a ++ d = str (a ++ b) := by
  apply ByteArray.ext
  apply Array.toList_inj.1
  simp [str, h]

set_option maxHeartbeats 1000000 in
theorem bytesOf_any (t : Int) (d : ByteArray) (w : World) (h : entE (t, d) = 0) :
    Calls Try.prog 13 #[.agg #[.int .i64 t, .string d]] w fun e w' => e = .returned (.string (str (Entries.bytes (t, d)))) ∧ Below w.heap.size w w' := by
  obtain ⟨h0, h1, h2⟩ := Entries.ent_ok h
  simp only at h0 h1 h2
  have i2 : (d.size : Int) ≤ 200 := by omega
  have i3 : (0 : Int) ≤ (d.size : Int) := by omega
  clear h
  go_enter Try.func13, Try.ntmps13
  go_upto_region 2 with fail
  have b0 : Below w.heap.size w ((w.alloc (.cells #[.int .i64 t, .string d] 40)).alloc (.cells #[.int .u8 (t / 65536), .int .u8 (t / 256 % 256), .int .u8 (t % 256), .int .u8 (d.size : Int)] 5)) := ((Below.refl _ _).alloc (Nat.le_refl _) _).alloc (by simp) _
  have o0 : ((w.alloc (.cells #[.int .i64 t, .string d] 40)).alloc (.cells #[.int .u8 (t / 65536), .int .u8 (t / 256 % 256), .int .u8 (t % 256), .int .u8 (d.size : Int)] 5)).ownsRow w.heap.size 5 1 (.slice (some ⟨w.heap.size + 1, 0, none⟩) 4 4) 4 (WalkMix.cells (head4 t d.size)) := by
    rw [cells_head t d.size h0 h1 h2]
    refine ⟨rfl, .inr ⟨w.heap.size + 1, 4, #[.int .u8 (t / 65536), .int .u8 (t / 256 % 256), .int .u8 (t % 256), .int .u8 (d.size : Int)], rfl, by omega, ?_, Nat.le_refl _, by decide, rfl, rfl⟩⟩
    have := heap_alloc_new (w.alloc (.cells #[.int .i64 t, .string d] 40)) (.cells #[.int .u8 (t / 65536), .int .u8 (t / 256 % 256), .int .u8 (t % 256), .int .u8 (d.size : Int)] 5)
    simpa using this
  have k1 : ((w.alloc (.cells #[.int .i64 t, .string d] 40)).alloc (.cells #[.int .u8 (t / 65536), .int .u8 (t / 256 % 256), .int .u8 (t % 256), .int .u8 (d.size : Int)] 5)).cell? ⟨w.heap.size, 1, none⟩ = some (.string d) := by rw [World.cell?_alloc_past _ _ _ (by simp)]; simp
  generalize (w.alloc (.cells #[.int .i64 t, .string d] 40)).alloc (.cells #[.int .u8 (t / 65536), .int .u8 (t / 256 % 256), .int .u8 (t % 256), .int .u8 (d.size : Int)] 5) = w1 at b0 o0 k1 ⊢
  have kc : (convert 56 9 (.slice (some ⟨w.heap.size + 1, 0, none⟩) 4 4)).run Try.prog w1 = .ok (.string (str (head4 t d.size))) w1 := by
    obtain ⟨g, cap, hv, kc⟩ := WalkMix.ownsRow_cells (l := head4 t d.size) 4 o0 rfl (by omega)
    obtain ⟨rfl, rfl⟩ : w.heap.size + 1 = g ∧ 4 = cap := by simpa using hv
    exact kc
  have HS : Hid ((str (head4 t d.size)).size = 4) := by show _ = _; rw [Nums.str_size]; rfl
  have HA : Hid (str (head4 t d.size) ++ d = str (Entries.bytes (t, d))) := str_append _ _ d rfl
  generalize str (head4 t d.size) = q at kc HA HS
  have hq : ¬ 9223372036854775807 < q.size + d.size := by rw [HS.out]; omega
  clear o0
  go_wp2_with fail
  go_ret
  exact ⟨by rw [HA.out]; rfl, b0⟩




end Go.Proofs.Ytigbbhojgajkjai.WalkEntOne
