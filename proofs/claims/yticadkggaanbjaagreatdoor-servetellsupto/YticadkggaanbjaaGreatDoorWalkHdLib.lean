/-
  What package head calls of the library: a number in decimal, words joined by blanks, a text parted at blanks, and whether an error is the one told.
-/
import Derived.Test.YticadkggaanbjaaGreatDoorShelf
import Derived.Test.YticadkggaanbjaaGreatDoorHdWords
import Derived.Test.YticadkggaanbjaaGreatDoorListRows
import Derived.Test.YticadkggaanbjaaGreatDoorErrs
import Derived.Test.YticadkggaanbjaaGreatDoorRows
import Derived.WalkKit
import Derived.WalkSmall
import Derived.LaidEql
import Derived.Lib.LaidTab
import Derived.Stop.Asserts
import Derived.RowKitTokens
import Derived.Lib.QuietBelow
namespace Go.Proofs.YticadkggaanbjaaGreatDoor.WalkHdLib
open Go.RowKit Go.Extern.Stop Go.Stop Go.Extern
open Nums (str)
open Decimals (dec words)
open Errs (errv)

/-- what stands in the library's own variables -/
structure Tabs (w : World) : Prop where
  pow : Lib.TabIs Tryz.prog w "internal/strconv.uint64pow10" .u64 Lib.pow10Tab
theorem gPow : Tryz.prog.globalNamed "internal/strconv.uint64pow10" = some 6 := by kernel_rfl
theorem Tabs.below {w w' : World} (h : Tabs w) (b : Below w.heap.size w w') : Tabs w' := by
  refine ⟨?_⟩
  have h1 := h.pow
  unfold Lib.TabIs World.var? at h1 ⊢
  rw [gPow] at h1 ⊢
  simp only [Option.bind_some] at h1 ⊢
  have hlt : 6 < w.heap.size := by
    rcases Nat.lt_or_ge 6 w.heap.size with h' | h'
    · exact h'
    · rw [Array.getElem?_eq_none h'] at h1
      cases h1
  rw [b.block _ hlt]
  exact h1

theorem below_grow (w : World) (k : Nat) (os : Array Obj) : Below w.heap.size w (Go.Sort.grow (w.drewN k) os) := by
  have h := below_regrown w (w.drawn + k) os
  have e : redrawn w (w.drawn + k) = w.drewN k := by
    first
      | rfl
      | (unfold redrawn World.drewN; rfl)
  rw [e] at h
  exact h

theorem itoa_any (n : Int) (h0 : 0 ≤ n) (h1 : n ≤ 1000000) (w : World) (hT : Tabs w) :
    Calls Tryz.prog 112 #[.int .i64 n] w fun e w' => e = .returned (.string (str (dec n.toNat))) ∧ Below w.heap.size w w' := by
  refine (Tryz.strconv_Itoa n (by omega) (by omega) w hT.pow).mono ?_
  rintro e w' ⟨rfl, k, os, rfl⟩
  refine ⟨?_, below_grow w k os⟩
  rw [HdWords.itoa_is n h0]
  rfl

theorem join_any (a b c d : ByteArray) (bk : Nat) (w : World) (h0 : w.cell? ⟨bk, 0, none⟩ = some (.string a)) (h1 : w.cell? ⟨bk, 1, none⟩ = some (.string b)) (h2 : w.cell? ⟨bk, 2, none⟩ = some (.string c)) (h3 : w.cell? ⟨bk, 3, none⟩ = some (.string d))
    (hl : a.size + b.size + c.size + d.size ≤ 1000) :
    Calls Tryz.prog 113 #[.slice (some ⟨bk, 0, none⟩) 4 4, .string ⟨#[32]⟩] w fun e w' => e = .returned (.string (str (a.data.toList ++ 32 :: (b.data.toList ++ 32 :: (c.data.toList ++ 32 :: d.data.toList))))) ∧ Below w.heap.size w w' := by
  have ha : a.data.toList.length = a.size := Array.length_toList
  have hb : b.data.toList.length = b.size := Array.length_toList
  have hc : c.data.toList.length = c.size := Array.length_toList
  have hd : d.data.toList.length = d.size := Array.length_toList
  have h := Tryz.strings_Join bk 0 4 [a, b, c, d] ⟨#[32]⟩ w (by
    intro j x hx
    match j, hx with
    | 0, hx => simp only [List.getElem?_cons_zero, Option.some.injEq] at hx; subst hx; exact h0
    | 1, hx => simp only [List.getElem?_cons_succ, List.getElem?_cons_zero, Option.some.injEq] at hx; subst hx; exact h1
    | 2, hx => simp only [List.getElem?_cons_succ, List.getElem?_cons_zero, Option.some.injEq] at hx; subst hx; exact h2
    | 3, hx => simp only [List.getElem?_cons_succ, List.getElem?_cons_zero, Option.some.injEq] at hx; subst hx; exact h3
    | j + 4, hx => simp at hx) (Lists.block_lt h0) (by simp only [List.length_cons, List.length_nil]; omega) (Nat.le_refl 4) (by
    simp only [List.map_cons, List.map_nil]
    rw [HdWords.join_four]
    simp only [List.length_append, List.length_cons, ha, hb, hc, hd]
    omega)
  simp only [List.map_cons, List.map_nil] at h
  rw [HdWords.join_four] at h
  exact h

theorem typeOfE (v : Value) (w : World) : (ReflectliteType.typeOf #[.iface 99 v]).run Tryz.prog w = .ok (.iface 208 (.agg #[.pointer (some ⟨9, 99, none⟩)])) w := by kernel_rfl
theorem comparableE (w : World) : ((ReflectliteType.method fun t => do Rtype.noPackHeld "Comparable" t; (fun a => Value.bool a.comparable) <$> typeInfo t) #[.agg #[.pointer (some ⟨9, 99, none⟩)]]).run Tryz.prog w = .ok (.bool true) w := by kernel_rfl
theorem methodComparable (v : Value) (w : World) : (Go.method 388 208 v "Comparable").run Tryz.prog w = .ok (236, v) w := by kernel_rfl
theorem eqlTwo (w : World) : (binOp .eql 26 (.iface 99 (.int .i64 2)) (.iface 99 (.int .i64 2))).run Tryz.prog w = .ok (.bool true) w := by kernel_rfl
theorem eqlOne (w : World) : (binOp .eql 26 (.iface 99 (.int .i64 1)) (.iface 99 (.int .i64 2))).run Tryz.prog w = .ok (.bool false) w := by kernel_rfl
theorem noIs (v : Value) (xT : TypeId) (w : World) : (Instr.typeAssert (.iface 99 v) xT 221 true).run Tryz.prog w = .ok (.tuple #[.nilIface, .bool false]) w := run_typeAssert_lacksB Tryz.underlying221 (by kernel_rfl) (by kernel_rfl) v xT w
theorem noUnwrap (v : Value) (xT : TypeId) (w : World) : (Instr.typeAssert (.iface 99 v) xT 215 true).run Tryz.prog w = .ok (.tuple #[.nilIface, .bool false]) w := run_typeAssert_lacksB Tryz.underlying215 (by kernel_rfl) (by kernel_rfl) v xT w
theorem noUnwraps (v : Value) (xT : TypeId) (w : World) : (Instr.typeAssert (.iface 99 v) xT 217 true).run Tryz.prog w = .ok (.tuple #[.nilIface, .bool false]) w := run_typeAssert_lacksB Tryz.underlying217 (by kernel_rfl) (by kernel_rfl) v xT w

theorem is_nil (w : World) : Calls Tryz.prog 124 #[.nilIface, .iface 99 (.int .i64 2)] w fun e w' => e = .returned (.bool false) ∧ w' = w := by
  have hn := run_eql_iface_nil_left (P := Tryz.prog) w 99 (.int .i64 2) Tryz.underlying26
  go_enter Tryz.func124, Tryz.ntmps124
  go_wp2
  go_ret
  exact ⟨rfl, rfl⟩
set_option maxHeartbeats 4000000 in
set_option maxRecDepth 100000 in
theorem is_two (w : World) : Calls Tryz.prog 124 #[.iface 99 (.int .i64 2), .iface 99 (.int .i64 2)] w fun e w' => e = .returned (.bool true) ∧ w' = w := by
  have h8 := @run_callFunc_extern Tryz.prog 155 _ ReflectliteType.typeOf Tryz.func155 (by kernel_rfl) (by kernel_rfl) (by kernel_rfl) (by kernel_rfl)
  have h32 := @run_callFunc_extern Tryz.prog 236 _ (ReflectliteType.method fun t => do Rtype.noPackHeld "Comparable" t; pure (.bool (← typeInfo t).comparable)) Tryz.func236 (by kernel_rfl) (by kernel_rfl) (by kernel_rfl) (by kernel_rfl)
  have tT := typeOfE
  have cT := comparableE
  have mR := methodComparable
  have heq := eqlTwo
  go_enter Tryz.func124, Tryz.ntmps124
  go_wp2
  refine wp_loop_rounds 1 ?_
  rw [rounds_succ]
  go_wp2
  go_ret
  exact ⟨rfl, rfl⟩
set_option maxHeartbeats 4000000 in
set_option maxRecDepth 100000 in
theorem is_one (w : World) : Calls Tryz.prog 124 #[.iface 99 (.int .i64 1), .iface 99 (.int .i64 2)] w fun e w' => e = .returned (.bool false) ∧ w' = w := by
  have h8 := @run_callFunc_extern Tryz.prog 155 _ ReflectliteType.typeOf Tryz.func155 (by kernel_rfl) (by kernel_rfl) (by kernel_rfl) (by kernel_rfl)
  have h32 := @run_callFunc_extern Tryz.prog 236 _ (ReflectliteType.method fun t => do Rtype.noPackHeld "Comparable" t; pure (.bool (← typeInfo t).comparable)) Tryz.func236 (by kernel_rfl) (by kernel_rfl) (by kernel_rfl) (by kernel_rfl)
  have tT := typeOfE
  have cT := comparableE
  have mR := methodComparable
  have nE := noIs
  have uE := noUnwrap
  have vE := noUnwraps
  have heq := eqlOne
  go_enter Tryz.func124, Tryz.ntmps124
  go_wp2
  refine wp_loop_rounds 1 ?_
  rw [rounds_succ]
  go_wp2
  go_ret
  exact ⟨rfl, rfl⟩

end Go.Proofs.YticadkggaanbjaaGreatDoor.WalkHdLib
