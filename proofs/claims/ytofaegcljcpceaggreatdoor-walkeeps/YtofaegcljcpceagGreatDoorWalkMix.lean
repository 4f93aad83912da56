/-
  What the program's isSum, appendSum, NodeBytes, Node, Print, IndexByte and Parse return, for every argument.
-/
import Derived.Test.YtofaegcljcpceagGreatDoorWalkSum
import Derived.Test.YtofaegcljcpceagGreatDoorNums
import Derived.Laws.BytesArg
import Derived.Laws.IdiomStrings
namespace Go.Proofs.YtofaegcljcpceagGreatDoor.WalkMix
open Go.RowKit

/-- bytes as cells -/
def cells (l : List UInt8) : List Value := l.map fun c => Value.int .u8 (c.toNat : Int)
theorem cells_append (l r : List UInt8) : cells (l ++ r) = cells l ++ cells r := by simp [cells]

theorem cells_four (a : Int) (h : 0 ≤ a ∧ a < 2147483647) : cells (Nums.four a) = [.int .u8 (a / 16777216), .int .u8 (a / 65536 % 256), .int .u8 (a / 256 % 256), .int .u8 (a % 256)] := by
  simp only [cells, Nums.four, List.map_cons, List.map_nil, UInt8.toNat_ofNat', List.cons.injEq, Value.int.injEq, true_and, and_true]
  omega

theorem info5 : (Tryz.prog.info? 5).map (fun i => (i.zero, i.size, i.bytes)) = some (some (.int .u8 0), 1, 1) := by kernel_rfl

theorem ownsRow_cells {w : World} {base : Nat} {v : Value} {n : Nat} {l : List UInt8} (m : Nat) (h : w.ownsRow base 5 1 v n (cells l)) (hm : l.length = m) (hl : 0 < m) :
    ∃ g cap, v = .slice (some ⟨g, 0, none⟩) m cap ∧ (convert 53 9 (.slice (some ⟨g, 0, none⟩) m cap)).run Tryz.prog w = .ok (.string (Nums.str l)) w := by
  have hn : n = l.length := by have := h.1; simp [cells] at this; omega
  subst hn
  subst hm
  rcases h.2 with ⟨rfl, h0⟩ | ⟨g, cap, cur, rfl, _⟩
  · omega
  · refine ⟨g, cap, rfl, ?_⟩
    exact run_convert_bytes_back (P := Tryz.prog) w 53 9 5 ⟨g, 0, none⟩ cap l Tryz.underlying53 Tryz.underlying5 Tryz.underlying9 (fun j hj => h.cells rfl j _ (by simp [cells, hj]))

end Go.Proofs.YtofaegcljcpceagGreatDoor.WalkMix
