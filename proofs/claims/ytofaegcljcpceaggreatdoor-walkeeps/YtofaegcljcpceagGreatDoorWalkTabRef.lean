/-
  What the document's own answers (package witref2) return on pairs for a table: Pairs, four.
-/
import Derived.Test.YtofaegcljcpceagGreatDoorLsmRef
import Derived.Test.YtofaegcljcpceagGreatDoorWalkMix
import Derived.Test.YtofaegcljcpceagGreatDoorPlains
import Derived.BigQuiet
import Derived.Deep.QuietTactic
import Derived.Deep.CutBlock
import Derived.Laws.Cover1
namespace Go.Proofs.YtofaegcljcpceagGreatDoor.WalkTabRef
open Go.RowKit
open Lists (bt)
open Wides (Wide)
open Stores (Pair lt keyE)
open PairRows (cells)
open Tabs (pairsE fault last)
open WalkStoreRef (aggP sizeP eq_yes eq_no empty_yes empty_no)

theorem below_drewN {B : Nat} {a w : World} (h : Below B a w) (n : Nat) : Below B a (w.drewN n) := ⟨h.os, h.tape, h.output, h.size, h.block⟩
theorem fault_key {q : Option ByteArray} {p : Pair} (h : keyE p.key ≠ 0) : fault q p = keyE p.key := if_pos h
theorem fault_val {q : Option ByteArray} {p : Pair} (h : keyE p.key = 0) (h2 : 200 < p.val.size) : fault q p = 4 := by
  unfold fault
  rw [if_neg (fun g => g h), if_pos h2]
theorem fault_gone {q : Option ByteArray} {p : Pair} (h : keyE p.key = 0) (h2 : ¬ 200 < p.val.size) (h3 : p.gone = true ∧ p.val.size ≠ 0) : fault q p = 3 := by
  unfold fault
  rw [if_neg (fun g => g h), if_neg h2, if_pos h3]
theorem fault_none {p : Pair} (h : keyE p.key = 0) (h2 : ¬ 200 < p.val.size) (h3 : ¬ (p.gone = true ∧ p.val.size ≠ 0)) : fault none p = 0 := by
  unfold fault
  rw [if_neg (fun g => g h), if_neg h2, if_neg h3]
theorem fault_some {k : ByteArray} {p : Pair} (h : keyE p.key = 0) (h2 : ¬ 200 < p.val.size) (h3 : ¬ (p.gone = true ∧ p.val.size ≠ 0)) : fault (some k) p = if lt k p.key = true then 0 else 7 := by
  unfold fault
  rw [if_neg (fun g => g h), if_neg h2, if_neg h3]


end Go.Proofs.YtofaegcljcpceagGreatDoor.WalkTabRef
