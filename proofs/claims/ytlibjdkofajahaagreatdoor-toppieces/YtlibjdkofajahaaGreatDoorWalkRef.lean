/-
  What the document's own answers (package witref1) return on sums: Valid, Sum, four, NodeBytes, Leaf, Text and Read.
-/
import Derived.Test.YtlibjdkofajahaaGreatDoorWalkHex
import Derived.Test.YtlibjdkofajahaaGreatDoorWalkMix
import Derived.Laws.DeepStrings4
namespace Go.Proofs.YtlibjdkofajahaaGreatDoor.WalkRef
open Go.RowKit

theorem one_at (w : World) (v : Value) (t : TypeId) : ∀ j u, [v][j]? = some u → (w.alloc (.cells #[v] t)).cell? ((⟨w.heap.size, 0, none⟩ : Addr).add j) = some u := by
  intro j u hj
  match j, hj with
  | 0, hj => simp at hj; subst hj; simp [Addr.add]
  | j + 1, hj => simp at hj
theorem one_cell (k : IntKind) (n : Int) : ∀ u ∈ [Value.int k n], u.oneCell' = true := by
  intro u hu
  simp at hu
  subst hu
  rfl


end Go.Proofs.YtlibjdkofajahaaGreatDoor.WalkRef
