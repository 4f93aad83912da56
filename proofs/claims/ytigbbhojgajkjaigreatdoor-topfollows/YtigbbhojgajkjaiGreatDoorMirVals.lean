/-
  Replies and wants as the walks spell them.
-/
import Derived.Test.YtigbbhojgajkjaiGreatDoorMirrors
import Derived.Test.YtigbbhojgajkjaiGreatDoorHeadRows
namespace Go.Proofs.YtigbbhojgajkjaiGreatDoor.MirVals
open Go.RowKit
open Mirrors (Reply Want)

/-- a reply as a value -/
def rv (r : Reply) (a5 : Option Addr) (c5 : Nat) (a6 : Option Addr) (c6 : Nat) : Value := .agg #[.int .i64 r.what, .int .i64 r.head.size, .int .i64 r.head.root, .int .i64 r.head.time, .int .i64 r.head.sign, .slice a5 r.ents.length c5, .slice a6 r.proof.length c6]
theorem aggR (w : World) : (isAgg 89).run Tryz.prog w = .ok true w := by kernel_rfl
theorem sizeR (w : World) : (sizeOf 89).run Tryz.prog w = .ok 7 w := by kernel_rfl

/-- its seven cells -/
def cell7 (a b c d e : Int) (x y : Value) : Nat → Value
  | 0 => .int .i64 a
  | 1 => .int .i64 b
  | 2 => .int .i64 c
  | 3 => .int .i64 d
  | 4 => .int .i64 e
  | 5 => x
  | _ => y
/-- a want as a value -/
def wv (x : Want) : Value := .agg #[.int .i64 x.what, .int .i64 x.fr, .int .i64 x.to_]
theorem aggW (w : World) : (isAgg 91).run Tryz.prog w = .ok true w := by kernel_rfl
theorem sizeW (w : World) : (sizeOf 91).run Tryz.prog w = .ok 3 w := by kernel_rfl

end Go.Proofs.YtigbbhojgajkjaiGreatDoor.MirVals
