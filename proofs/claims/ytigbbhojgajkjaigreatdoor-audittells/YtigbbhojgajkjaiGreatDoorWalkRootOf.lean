/-
  The root of entries, as the document's own answer (package witref1) has it.
-/
import Derived.Test.YtigbbhojgajkjaiGreatDoorMirrors
import Derived.Test.YtigbbhojgajkjaiGreatDoorWalkTreeRef
import Derived.Test.YtigbbhojgajkjaiGreatDoorListRows
namespace Go.Proofs.YtigbbhojgajkjaiGreatDoor.WalkRootOf
open Go.RowKit
open Lists (Row ints bt)
open Keeps (owns_row)
open Entries (Entry leafsOf)
open Mirrors (rootE)

theorem leafs_valid {l : List Entry} : ∀ x ∈ leafsOf l, Nums.valid x = true := by
  intro x hx
  obtain ⟨e, _, rfl⟩ := List.mem_map.1 hx
  have := Sums.sum_bd (0 :: Entries.bytes e)
  exact Nums.valid_iff.2 ⟨this.1, this.2⟩
theorem root_of (l : List Entry) (v : Value) (w : World) (B : Nat) (hown : w.ownsRow B 3 1 v (leafsOf l).length (ints (leafsOf l))) (hl : l.length ≤ 1000) :
    Calls Tryz.prog 8 #[v] w fun e w' => e = .returned (.int .i64 (rootE l)) ∧ Below w.heap.size w w' := by
  obtain ⟨a, c, rfl, hr, _⟩ := owns_row hown
  have hll : (leafsOf l).length = l.length := by simp [leafsOf]
  exact WalkTreeRef.root_any _ (leafsOf l) a _ c w (Nat.lt_succ_self _) (by omega) hr leafs_valid

end Go.Proofs.YtigbbhojgajkjaiGreatDoor.WalkRootOf
