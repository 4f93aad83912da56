/-
  How much a list of pairs is, as the given statements count it.
-/
import Derived.Test.YtinjkmimaokffaeRows
import Derived.Test.YtinjkmimaokffaePairRows
namespace Go.Proofs.Ytinjkmimaokffae.PairBulk
open Go.RowKit
open Stores (Pair)
open PairRows (datum)

def bulk : List Pair → Nat
  | [] => 0
  | p :: l => p.key.size + p.val.size + 4 + bulk l
theorem bulk_of {H : Type} : ∀ (l : List Pair), Rows.uptoBulkAll (l.map (datum (H := H))) = bulk l
  | [] => rfl
  | p :: l => by
    have hk : p.key.data.toList.length = p.key.size := Array.length_toList
    have hv : p.val.data.toList.length = p.val.size := Array.length_toList
    simp only [List.map_cons, Rows.uptoBulkAll, datum, Rows.uptoBulk, bulk]
    rw [bulk_of l, hk, hv]
    omega
theorem bulk_len : ∀ (l : List Pair), 4 * l.length ≤ bulk l
  | [] => Nat.le_refl _
  | p :: l => by
    have := bulk_len l
    simp only [List.length_cons, bulk]
    omega

end Go.Proofs.Ytinjkmimaokffae.PairBulk
