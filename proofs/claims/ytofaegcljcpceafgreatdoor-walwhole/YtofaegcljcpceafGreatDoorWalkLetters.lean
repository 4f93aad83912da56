/-
  The law's own letters: the name of a number below a hundred and ten.
-/
import Derived.Test.YtofaegcljcpceafGreatDoorPlains
import Derived.Test.YtofaegcljcpceafGreatDoorRows
import Derived.WalkKit
import Derived.BigQuiet
import Derived.Deep.QuietTactic
import Derived.Deep.CutBlock
namespace Go.Proofs.YtofaegcljcpceafGreatDoor.WalkLetters
open Go.RowKit
open Letters (ltr)

def abc : ByteArray := ⟨#[97, 98, 99, 100, 101, 102, 103, 104, 105, 106, 107, 108, 109, 110, 111, 112, 113, 114, 115, 116, 117, 118, 119, 120, 121, 122]⟩
theorem cut_one (k : Nat) (h : k < 26) : (abc.extract k (k + 1)).data = #[UInt8.ofNat (97 + k)] := by
  have hd : ∀ k : Fin 26, (abc.extract k.val (k.val + 1)).data = #[UInt8.ofNat (97 + k.val)] := by decide +kernel
  exact hd ⟨k, h⟩
theorem two (i : Nat) : abc.extract (i / 26 % 26) (i / 26 % 26 + 1) ++ abc.extract (i % 26) (i % 26 + 1) = ltr i := by
  apply ByteArray.ext
  rw [ByteArray.data_append, cut_one _ (Nat.mod_lt _ (by decide)), cut_one _ (Nat.mod_lt _ (by decide))]
  rfl
theorem below_drewN {B : Nat} {a w : World} (h : Below B a w) (n : Nat) : Below B a (w.drewN n) := ⟨h.os, h.tape, h.output, h.size, h.block⟩

set_option maxHeartbeats 1000000 in
theorem letters_any (i : Nat) (w : World) (hi : i < 110) : Calls Tryz.prog 9 #[.int .i64 (i : Int)] w fun e w' => e = .returned (.string (ltr i)) ∧ Below w.heap.size w w' := by
  have HV : Hid (abc.extract (i / 26 % 26) (i / 26 % 26 + 1) ++ abc.extract (i % 26) (i % 26 + 1) = ltr i) := two i
  obtain ⟨K, HK⟩ : ∃ K : Nat, Hid (i / 26 % 26 = K) := ⟨_, rfl⟩
  obtain ⟨M, HM⟩ : ∃ M : Nat, Hid (i % 26 = M) := ⟨_, rfl⟩
  have k1 : (i : Int) / 26 % 26 = (K : Int) := by have := HK.out; omega
  have k2 : (i : Int) % 26 = (M : Int) := by have := HM.out; omega
  have l1 : K < 26 := by rw [← HK.out]; exact Nat.mod_lt _ (by decide)
  have l2 : M < 26 := by rw [← HM.out]; exact Nat.mod_lt _ (by decide)
  rw [HK.out, HM.out] at HV
  unfold abc at HV
  have i3 : (K : Int) ≤ (K : Int) + 1 := by omega
  have i4 : (K : Int) + 1 ≤ 26 := by omega
  have i5 : (M : Int) ≤ (M : Int) + 1 := by omega
  have i6 : (M : Int) + 1 ≤ 26 := by omega
  go_enter Tryz.func9, Tryz.ntmps9
  go_wp2_with fail
  go_quiet (fail)
  go_wp2_with fail
  go_ret
  exact ⟨congrArg Ending.returned (congrArg Value.string HV.out), below_drewN (Below.refl _ _) _⟩

end Go.Proofs.YtofaegcljcpceafGreatDoor.WalkLetters
