/-
  What the document's own answers (package witref1) return on sums: Valid, Sum, four, NodeBytes, Leaf, Text and Read.
-/
import Derived.Test.YtofaegcljcpceagGreatDoorWalkHex
import Derived.Test.YtofaegcljcpceagGreatDoorWalkMix
import Derived.Laws.DeepStrings4
namespace Go.Proofs.YtofaegcljcpceagGreatDoor.WalkRef
open Go.RowKit

set_option maxHeartbeats 400000 in
theorem sum_any (s : ByteArray) (w : World) (hs : s.size ≤ maxLen) :
    Calls Tryz.prog 66 #[.string s] w fun e w' => e = .returned (.int .i64 (Sums.sum s.data.toList)) ∧ w' = w := by
  unfold maxLen at hs
  go_enter Tryz.func66, Tryz.ntmps66
  go_wp2
  go_loop [3, 4] (fun t i => ∃ k : Nat, k ≤ s.size ∧ i = .int .i64 k ∧ t = .int .i64 (Sums.sum (s.data.toList.take k))) (fun _ i => s.size - (intOf i).toNat)
  case atStart => exact ⟨0, Nat.zero_le _, rfl, rfl⟩
  case round =>
    obtain ⟨k, hk, rfl, rfl⟩ := hrel
    obtain ⟨hb0, hb1⟩ := Sums.sum_bd (s.data.toList.take k)
    by_cases hlt : k < s.size
    · have HS : Hid (Sums.sum (s.data.toList.take (k + 1)) = Sums.step (Sums.sum (s.data.toList.take k)) s[k]) := by
        rw [Sums.take_snoc s k hlt]; exact Sums.sumFrom_snoc _ _ _
      go_wp2
      go_round
      case rel => exact ⟨k + 1, by omega, by go_num, by rw [HS.out]; exact congrArg (Value.int .i64) (WalkSum.step_walk _ _ hb0 hb1)⟩
      case measure => simp [intOf]; omega
    · go_wp2
      go_ret
      exact ⟨WalkSum.ret_int (by rw [List.take_of_length_le (by simp; omega)]), rfl⟩

theorem one_at (w : World) (v : Value) (t : TypeId) : ∀ j u, [v][j]? = some u → (w.alloc (.cells #[v] t)).cell? ((⟨w.heap.size, 0, none⟩ : Addr).add j) = some u := by
  intro j u hj
  match j, hj with
  | 0, hj => simp at hj; subst hj; simp [Addr.add]
  | j + 1, hj => simp at hj
theorem one_cell (k : IntKind) (n : Int) : ∀ u ∈ [Value.int k n], u.oneCell' = true := by
  intro u hu
  simp at hu
  subst hu
  rfl


end Go.Proofs.YtofaegcljcpceagGreatDoor.WalkRef
