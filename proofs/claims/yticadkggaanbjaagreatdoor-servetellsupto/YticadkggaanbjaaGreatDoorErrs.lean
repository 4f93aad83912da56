/-
  An error as the walks spell it: none, or its number.
-/
import Derived.Test.YticadkggaanbjaaGreatDoorRows
import Derived.WalkKit
namespace Go.Proofs.YticadkggaanbjaaGreatDoor.Errs

def errv (e : Nat) : Value := if e = 0 then .nilIface else .iface 99 (.int .i64 e)
theorem errv0 : errv 0 = .nilIface := rfl
theorem errv_pos (e : Nat) (h : e ≠ 0) : errv e = .iface 99 (.int .i64 e) := if_neg h

end Go.Proofs.YticadkggaanbjaaGreatDoor.Errs
