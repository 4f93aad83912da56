/-
  What the program's grow.Make and grow.Check return, in one spelling of the errors.
-/
import Derived.Test.YthaibjidfgmdmahDoorWalkGrowMake
import Derived.Test.YthaibjidfgmdmahDoorGrowRun
namespace Go.Proofs.YthaibjidfgmdmahDoor.WalkGrow
open Go.RowKit
open Lists (Row ints)
open WalkCheck (errv)

theorem make_any (l : List Int) (a : Option Addr) (n cap : Nat) (O N : Int) (w : World) (hr : Row w a n cap (ints l)) :
    Calls Tryd.prog 22 #[.slice a n cap, .int .i64 O, .int .i64 N] w fun e w' => ∃ v, e = .returned (.tuple #[v, errv (GrowsE.gmakeE l O N)]) ∧ w'.ownsRow w.heap.size 3 1 v (GrowsE.gmakeL l O N).length (ints (GrowsE.gmakeL l O N)) ∧ Below w.heap.size w w' :=
  WalkGrowMake.make_any l a n cap O N w hr
theorem check_any (ra O rb N : Int) (p : List Int) (a : Option Addr) (m cap : Nat) (w : World) (hr : Row w a m cap (ints p)) (hm : m ≤ 17592186043904) :
    Calls Tryd.prog 37 #[.int .i64 ra, .int .i64 O, .int .i64 rb, .int .i64 N, .slice a m cap] w fun e w' => e = .returned (errv (GrowsE.growE ra O rb N p)) ∧ Below w.heap.size w w' :=
  WalkGrowCheck.check_any ra O rb N p a m cap w hr hm

end Go.Proofs.YthaibjidfgmdmahDoor.WalkGrow
