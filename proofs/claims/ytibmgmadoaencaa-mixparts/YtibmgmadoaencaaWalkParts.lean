/-
  The walk of MixParts: a leaf is the sum with a byte ahead; texts that differ in the last byte alone have two sums.
-/
import Derived.Test.YtibmgmadoaencaaWalkSum
import Derived.Laws.BytesArg
namespace Go.Proofs.Ytibmgmadoaencaa.WalkParts
open Go.RowKit

theorem zero_size : (ByteArray.mk #[0]).size = 1 := rfl

theorem conv_one (W : World) (x : Int) :
    (convert 36 9 (.slice (some ⟨W.heap.size, 0, none⟩) 1 1)).run Try.prog (W.alloc (.cells #[.int .u8 x] 5)) = .ok (.string (strOfNums [x])) (W.alloc (.cells #[.int .u8 x] 5)) := by
  refine run_convert_bytes_arg _ 36 5 Try.underlying36 Try.underlying5 _ 0 1 1 [x] rfl (fun i hi => ?_) 9 Try.underlying9
  obtain rfl : i = 0 := by omega
  simp [go_sem]

theorem conv_two (W : World) (x : Int) (o : Obj) :
    (convert 36 9 (.slice (some ⟨W.heap.size + 1, 0, none⟩) 1 1)).run Try.prog ((W.alloc o).alloc (.cells #[.int .u8 x] 5)) = .ok (.string (strOfNums [x])) ((W.alloc o).alloc (.cells #[.int .u8 x] 5)) := by
  have h := conv_one (W.alloc o) x
  have e : (W.alloc o).heap.size = W.heap.size + 1 := by simp [go_sem]
  rw [e] at h
  exact h

theorem xor_ne (k : Nat) (h : k < 256) : UInt8.ofNat (k : Int).toNat ≠ UInt8.ofNat (bits BinOp.xor IntKind.u8 (k : Int) 1).toNat := by
  have : ∀ k : Fin 256, UInt8.ofNat ((k.val : Int)).toNat ≠ UInt8.ofNat (bits BinOp.xor IntKind.u8 (k.val : Int) 1).toNat := by decide +kernel
  exact this ⟨k, h⟩

set_option maxHeartbeats 400000 in
theorem walk (s : ByteArray) (hs : s.size ≤ 140737488351232) (c : Int) (hc : (Lit.int .u8 c).wf = true) (w : World) :
    Calls Try.prog 5 #[.string s, .int .u8 c] w fun e w' => e = .returned (.bool true) ∧ Below w.heap.size w w' := by
  have hc2 : 0 ≤ c ∧ c ≤ 255 := by simpa [Lit.wf, IntKind.min, IntKind.max, IntKind.signed, IntKind.bits] using hc
  obtain ⟨hc0, hc1⟩ := hc2
  clear hc
  have f1 : (Sums.sum [97] == Sums.sum [98]) = false := by decide
  have kc := conv_one
  have kd := conv_two
  have k1 : ∀ x : Int, (strOfNums [x]).size = 1 := fun x => strOfNums_size [x]
  have hne : (Sums.sum (s.data.toList ++ (strOfNums [c]).data.toList) != Sums.sum (s.data.toList ++ (strOfNums [bits BinOp.xor IntKind.u8 c 1]).data.toList)) = true := by
    obtain ⟨k, rfl⟩ := Int.eq_ofNat_of_zero_le hc0
    rw [bne_iff_ne]
    exact Sums.last_ne _ _ _ _ (xor_ne k (by omega))
  have b1 := (Sums.sum_bd s.data.toList).1
  have b2 := (Sums.sum_bd s.data.toList).2
  have b3 := (Sums.sum_bd (s.data.toList ++ (strOfNums [c]).data.toList)).1
  have b4 := (Sums.sum_bd (s.data.toList ++ (strOfNums [c]).data.toList)).2
  go_enter Try.func5, Try.ntmps5
  go_wp2_with (first
    | (go_at_call 12; refine (WalkSum.leaf_any _ _ (by first | decide | (unfold maxLen; omega))).mono ?_; rintro e w' ⟨rfl, rfl⟩)
    | (go_at_call 8; refine (WalkSum.sum_any _ _ (by first | decide | (unfold maxLen; simp [strOfNums_size, zero_size]; omega) | (unfold maxLen; omega))).mono ?_; rintro e w' ⟨rfl, rfl⟩))
  go_ret
  exact ⟨rfl, ((Below.refl _ _).alloc (Nat.le_refl _) _).alloc (by simp) _⟩

end Go.Proofs.Ytibmgmadoaencaa.WalkParts
