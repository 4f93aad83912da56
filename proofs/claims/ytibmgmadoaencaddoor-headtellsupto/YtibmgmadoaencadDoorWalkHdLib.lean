/-
  What package head calls of the library: a number in decimal, words joined by blanks, a text parted at blanks, and whether an error is the one told.
-/
import Derived.Test.YtibmgmadoaencadDoorShelf
import Derived.Test.YtibmgmadoaencadDoorHdWords
import Derived.Test.YtibmgmadoaencadDoorWalkHdCut
import Derived.Test.YtibmgmadoaencadDoorLists
import Derived.Test.YtibmgmadoaencadDoorErrs
import Derived.Test.YtibmgmadoaencadDoorRows
import Derived.WalkKit
import Derived.WalkSmall
import Derived.LaidEql
import Derived.Lib.LaidTab
import Derived.Stop.Asserts
import Derived.RowKitTokens
import Derived.Lib.QuietBelow
namespace Go.Proofs.YtibmgmadoaencadDoor.WalkHdLib
open Go.RowKit Go.Extern.Stop Go.Stop Go.Extern
open Nums (str)
open Decimals (dec words)
open Errs (errv)

/-- what stands in the library's own variables -/
structure Tabs (w : World) : Prop where
  pow : Lib.TabIs Tryd.prog w "internal/strconv.uint64pow10" .u64 Lib.pow10Tab
theorem gPow : Tryd.prog.globalNamed "internal/strconv.uint64pow10" = some 2 := by kernel_rfl
theorem Tabs.below {w w' : World} (h : Tabs w) (b : Below w.heap.size w w') : Tabs w' := by
  refine ⟨?_⟩
  have h1 := h.pow
  unfold Lib.TabIs World.var? at h1 ⊢
  rw [gPow] at h1 ⊢
  simp only [Option.bind_some] at h1 ⊢
  have hlt : 2 < w.heap.size := by
    rcases Nat.lt_or_ge 2 w.heap.size with h' | h'
    · exact h'
    · rw [Array.getElem?_eq_none h'] at h1
      cases h1
  rw [b.block _ hlt]
  exact h1

theorem below_grow (w : World) (k : Nat) (os : Array Obj) : Below w.heap.size w (Go.Sort.grow (w.drewN k) os) := by
  have h := below_regrown w (w.drawn + k) os
  have e : redrawn w (w.drawn + k) = w.drewN k := by
    first
      | rfl
      | (unfold redrawn World.drewN; rfl)
  rw [e] at h
  exact h

theorem itoa_any (n : Int) (h0 : 0 ≤ n) (h1 : n ≤ 1000000) (w : World) (hT : Tabs w) :
    Calls Tryd.prog 62 #[.int .i64 n] w fun e w' => e = .returned (.string (str (dec n.toNat))) ∧ Below w.heap.size w w' := by
  refine (Tryd.strconv_Itoa n (by omega) (by omega) w hT.pow).mono ?_
  rintro e w' ⟨rfl, k, os, rfl⟩
  refine ⟨?_, below_grow w k os⟩
  rw [HdWords.itoa_is n h0]
  rfl

theorem join_any (a b c d : ByteArray) (bk : Nat) (w : World) (h0 : w.cell? ⟨bk, 0, none⟩ = some (.string a)) (h1 : w.cell? ⟨bk, 1, none⟩ = some (.string b)) (h2 : w.cell? ⟨bk, 2, none⟩ = some (.string c)) (h3 : w.cell? ⟨bk, 3, none⟩ = some (.string d))
    (hl : a.size + b.size + c.size + d.size ≤ 1000) :
    Calls Tryd.prog 63 #[.slice (some ⟨bk, 0, none⟩) 4 4, .string ⟨#[32]⟩] w fun e w' => e = .returned (.string (str (a.data.toList ++ 32 :: (b.data.toList ++ 32 :: (c.data.toList ++ 32 :: d.data.toList))))) ∧ Below w.heap.size w w' := by
  have ha : a.data.toList.length = a.size := Array.length_toList
  have hb : b.data.toList.length = b.size := Array.length_toList
  have hc : c.data.toList.length = c.size := Array.length_toList
  have hd : d.data.toList.length = d.size := Array.length_toList
  have h := Tryd.strings_Join bk 0 4 [a, b, c, d] ⟨#[32]⟩ w (by
    intro j x hx
    match j, hx with
    | 0, hx => simp only [List.getElem?_cons_zero, Option.some.injEq] at hx; subst hx; exact h0
    | 1, hx => simp only [List.getElem?_cons_succ, List.getElem?_cons_zero, Option.some.injEq] at hx; subst hx; exact h1
    | 2, hx => simp only [List.getElem?_cons_succ, List.getElem?_cons_zero, Option.some.injEq] at hx; subst hx; exact h2
    | 3, hx => simp only [List.getElem?_cons_succ, List.getElem?_cons_zero, Option.some.injEq] at hx; subst hx; exact h3
    | j + 4, hx => simp at hx) (Lists.block_lt h0) (by simp only [List.length_cons, List.length_nil]; omega) (Nat.le_refl 4) (by
    simp only [List.map_cons, List.map_nil]
    rw [HdWords.join_four]
    simp only [List.length_append, List.length_cons, ha, hb, hc, hd]
    omega)
  simp only [List.map_cons, List.map_nil] at h
  rw [HdWords.join_four] at h
  exact h

/-- a text of four words, parted -/
theorem split_four (s : ByteArray) (a b c d : List UInt8) (hw : words 32 s.data.toList = [a, b, c, d]) (hs : s.size ≤ 140737488351232) (w : World) :
    Calls Tryd.prog 52 #[.string s, .string ⟨#[32]⟩, .int .i64 5] w fun e w' => ∃ cap : Nat, 4 ≤ cap ∧ e = .returned (.slice (some ⟨w.heap.size, 0, none⟩) 4 cap) ∧ w'.cell? ⟨w.heap.size, 0, none⟩ = some (.string (str a)) ∧ w'.cell? ⟨w.heap.size, 1, none⟩ = some (.string (str b)) ∧ w'.cell? ⟨w.heap.size, 2, none⟩ = some (.string (str c)) ∧ w'.cell? ⟨w.heap.size, 3, none⟩ = some (.string (str d)) ∧ Below w.heap.size w w' := by
  refine (WalkHdCut.cut_any s (by unfold maxLen; omega) w).mono ?_
  rintro e w' ⟨xs, N, hd, hl, rfl, rfl⟩
  rcases HdWords.split_five s.data.toList with ⟨_, h5⟩ | ⟨h4, _⟩
  rotate_left
  · rw [hw] at h4
    exact absurd rfl h4
  rw [h5, hw] at hd
  match xs, hd, hl with
  | [x0, x1, x2, x3], hd, hl =>
    simp only [WalkHdCut.lets, List.map_cons, List.map_nil, List.cons.injEq, and_true] at hd
    obtain ⟨g0, g1, g2, g3⟩ := hd
    have f0 : x0 = str a := by rw [← g0]; rfl
    have f1 : x1 = str b := by rw [← g1]; rfl
    have f2 : x2 = str c := by rw [← g2]; rfl
    have f3 : x3 = str d := by rw [← g3]; rfl
    subst f0 f1 f2 f3
    refine ⟨N, hl, rfl, ?_, ?_, ?_, ?_, (Below.refl _ _).alloc (Nat.le_refl _) _⟩ <;> (rw [World.cell?_alloc_at _ _ _ _ (by rfl)]; simp [Lib.cellsOf])

/-- one that has not four words -/
theorem split_not (s : ByteArray) (hw : (words 32 s.data.toList).length ≠ 4) (hs : s.size ≤ 140737488351232) (w : World) :
    Calls Tryd.prog 52 #[.string s, .string ⟨#[32]⟩, .int .i64 5] w fun e w' => ∃ n cap : Nat, n ≠ 4 ∧ e = .returned (.slice (some ⟨w.heap.size, 0, none⟩) n cap) ∧ Below w.heap.size w w' := by
  refine (WalkHdCut.cut_any s (by unfold maxLen; omega) w).mono ?_
  rintro e w' ⟨xs, N, hd, hl, rfl, rfl⟩
  rcases HdWords.split_five s.data.toList with ⟨h4, _⟩ | ⟨_, h5⟩
  · exact absurd h4 hw
  rw [← hd, List.length_map] at h5
  exact ⟨_, _, h5, rfl, (Below.refl _ _).alloc (Nat.le_refl _) _⟩

theorem typeOfE (v : Value) (w : World) : (ReflectliteType.typeOf #[.iface 76 v]).run Tryd.prog w = .ok (.iface 129 (.agg #[.pointer (some ⟨7, 76, none⟩)])) w := by kernel_rfl
theorem comparableE (w : World) : ((ReflectliteType.method fun t => do Rtype.noPackHeld "Comparable" t; (fun a => Value.bool a.comparable) <$> typeInfo t) #[.agg #[.pointer (some ⟨7, 76, none⟩)]]).run Tryd.prog w = .ok (.bool true) w := by kernel_rfl
theorem methodComparable (v : Value) (w : World) : (Go.method 297 129 v "Comparable").run Tryd.prog w = .ok (134, v) w := by kernel_rfl
theorem eqlTwo (w : World) : (binOp .eql 24 (.iface 76 (.int .i64 2)) (.iface 76 (.int .i64 2))).run Tryd.prog w = .ok (.bool true) w := by kernel_rfl
theorem eqlOne (w : World) : (binOp .eql 24 (.iface 76 (.int .i64 1)) (.iface 76 (.int .i64 2))).run Tryd.prog w = .ok (.bool false) w := by kernel_rfl
theorem noIs (v : Value) (xT : TypeId) (w : World) : (Instr.typeAssert (.iface 76 v) xT 144 true).run Tryd.prog w = .ok (.tuple #[.nilIface, .bool false]) w := run_typeAssert_lacksB Tryd.underlying144 (by kernel_rfl) (by kernel_rfl) v xT w
theorem noUnwrap (v : Value) (xT : TypeId) (w : World) : (Instr.typeAssert (.iface 76 v) xT 136 true).run Tryd.prog w = .ok (.tuple #[.nilIface, .bool false]) w := run_typeAssert_lacksB Tryd.underlying136 (by kernel_rfl) (by kernel_rfl) v xT w
theorem noUnwraps (v : Value) (xT : TypeId) (w : World) : (Instr.typeAssert (.iface 76 v) xT 138 true).run Tryd.prog w = .ok (.tuple #[.nilIface, .bool false]) w := run_typeAssert_lacksB Tryd.underlying138 (by kernel_rfl) (by kernel_rfl) v xT w

theorem is_nil (w : World) : Calls Tryd.prog 66 #[.nilIface, .iface 76 (.int .i64 2)] w fun e w' => e = .returned (.bool false) ∧ w' = w := by
  have hn := run_eql_iface_nil_left (P := Tryd.prog) w 76 (.int .i64 2) Tryd.underlying24
  go_enter Tryd.func66, Tryd.ntmps66
  go_wp2
  go_ret
  exact ⟨rfl, rfl⟩
set_option maxHeartbeats 4000000 in
set_option maxRecDepth 100000 in
theorem is_two (w : World) : Calls Tryd.prog 66 #[.iface 76 (.int .i64 2), .iface 76 (.int .i64 2)] w fun e w' => e = .returned (.bool true) ∧ w' = w := by
  have h8 := @run_callFunc_extern Tryd.prog 80 _ ReflectliteType.typeOf Tryd.func80 (by kernel_rfl) (by kernel_rfl) (by kernel_rfl) (by kernel_rfl)
  have h32 := @run_callFunc_extern Tryd.prog 134 _ (ReflectliteType.method fun t => do Rtype.noPackHeld "Comparable" t; pure (.bool (← typeInfo t).comparable)) Tryd.func134 (by kernel_rfl) (by kernel_rfl) (by kernel_rfl) (by kernel_rfl)
  have tT := typeOfE
  have cT := comparableE
  have mR := methodComparable
  have heq := eqlTwo
  go_enter Tryd.func66, Tryd.ntmps66
  go_wp2
  refine wp_loop_rounds 1 ?_
  rw [rounds_succ]
  go_wp2
  go_ret
  exact ⟨rfl, rfl⟩
set_option maxHeartbeats 4000000 in
set_option maxRecDepth 100000 in
theorem is_one (w : World) : Calls Tryd.prog 66 #[.iface 76 (.int .i64 1), .iface 76 (.int .i64 2)] w fun e w' => e = .returned (.bool false) ∧ w' = w := by
  have h8 := @run_callFunc_extern Tryd.prog 80 _ ReflectliteType.typeOf Tryd.func80 (by kernel_rfl) (by kernel_rfl) (by kernel_rfl) (by kernel_rfl)
  have h32 := @run_callFunc_extern Tryd.prog 134 _ (ReflectliteType.method fun t => do Rtype.noPackHeld "Comparable" t; pure (.bool (← typeInfo t).comparable)) Tryd.func134 (by kernel_rfl) (by kernel_rfl) (by kernel_rfl) (by kernel_rfl)
  have tT := typeOfE
  have cT := comparableE
  have mR := methodComparable
  have nE := noIs
  have uE := noUnwrap
  have vE := noUnwraps
  have heq := eqlOne
  go_enter Tryd.func66, Tryd.ntmps66
  go_wp2
  refine wp_loop_rounds 1 ?_
  rw [rounds_succ]
  go_wp2
  go_ret
  exact ⟨rfl, rfl⟩

end Go.Proofs.YtibmgmadoaencadDoor.WalkHdLib
