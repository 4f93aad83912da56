/-
  The map of package keys, by the places of pairs: what it holds of pairs, made, asked and written. And the place itself: eight letters, an array by value.
-/
import Derived.Test.YtekahahaknamfaiDoorKeyBits
import Derived.Test.YtekahahaknamfaiDoorWalkMix
import Derived.Test.YtekahahaknamfaiDoorLists
import Derived.Test.YtekahahaknamfaiDoorRows
import Derived.DeepKeys5
import Derived.Maps.OwnSet
import Derived.Deep.MidRow
import Derived.Deep.OwnRows
namespace Go.Proofs.YtekahahaknamfaiDoor.WalkKyMap
open Go.RowKit
open Stores (Pair)
open KeyTrees
open KeyBits
open WalkMix (cells)

/-- a place as a value -/
def pv (bs : List UInt8) : Value := .agg (cells bs).toArray
theorem cells_inj : ∀ {a b : List UInt8}, cells a = cells b → a = b
  | [], [], _ => rfl
  | [], _ :: _, h => by simp [cells] at h
  | _ :: _, [], h => by simp [cells] at h
  | x :: a, y :: b, h => by
    simp only [cells, List.map_cons, List.cons.injEq, Value.int.injEq, true_and] at h
    rw [cells_inj h.2, UInt8.toNat_inj.1 (by omega : x.toNat = y.toNat)]
theorem pv_inj {a b : List UInt8} (h : pv a = pv b) : a = b := by
  unfold pv at h
  injection h with h
  exact cells_inj (by simpa using congrArg Array.toList h)

set_option maxRecDepth 100000 in
theorem keyed : Maps.Keyed Tryd.prog 80 := Maps.Keyed.of_law (deep_law_gate (by kernel_rfl) (by decide) (by decide) (by kernel_rfl) (by kernel_rfl))
theorem all_keys : (List.range 256).all (fun n => (keyOf Tryd.prog 80 (pv (bitsT n))).isSome) = true := by kernel_rfl
theorem has_key {n : Nat} (h : n < 256) : ∃ kl, keyOf Tryd.prog 80 (pv (bitsT n)) = some kl := Option.isSome_iff_exists.1 (List.all_eq_true.1 all_keys n (List.mem_range.2 h))
theorem key_ne {n m : Nat} (hn : n < 256) (hm : m < 256) (h : n ≠ m) {a b : Lit} (ha : keyOf Tryd.prog 80 (pv (bitsT n)) = some a) (hb : keyOf Tryd.prog 80 (pv (bitsT m)) = some b) : a ≠ b := fun e => by
  subst e
  exact h (bitsT_inj hn hm (pv_inj (keyed.inj ha hb)))

/-- one of them has that place -/
def taken (l : List Pair) (n : Nat) : Bool := l.any fun e => spot e.key == n
theorem taken_snoc (l : List Pair) (e : Pair) (n : Nat) : taken (l ++ [e]) n = (taken l n || (spot e.key == n)) := by unfold taken; rw [List.any_append]; simp
theorem taken_no {l : List Pair} {n : Nat} (h : taken l n = false) : ∀ q ∈ l, spot q.key ≠ n := fun q hq e => by
  have := List.any_eq_false.1 h q hq
  rw [e] at this
  simp at this
theorem taken_yes {l : List Pair} {n : Nat} (h : taken l n = true) : ∃ q ∈ l, spot q.key = n := by
  obtain ⟨q, hq, e⟩ := List.any_eq_true.1 h
  exact ⟨q, hq, by simpa using e⟩

abbrev owns (w : World) (b n : Nat) (D : DataW Unit) : Prop := w.ownsMap Tryd.prog 80 (plainElem Tryd.prog 3) b n D

/-- the map in block b holds the leafs of these pairs, by their places -/
def Used (w : World) (b : Nat) (l : List Pair) : Prop := ∃ D, owns w b l.length D ∧ ∀ n, n < 256 → ∀ kl, keyOf Tryd.prog 80 (pv (bitsT n)) = some kl → Maps.has D kl = taken l n ∧ (taken l n = true → D.atKey kl (.lit (.int .i64 0)) = .lit (.int .i64 (place l n)))

theorem used_new (w : World) : Used (w.alloc (.map #[] 0)) w.heap.size [] := ⟨.map [], World.ownsMap_made _ _ _ _, fun _ _ _ _ => ⟨rfl, fun h => by cases h⟩⟩
theorem Used.lt {w : World} {b : Nat} {l : List Pair} (h : Used w b l) : b < w.heap.size := by
  obtain ⟨D, o, _⟩ := h
  exact o.lt
theorem Used.block {w w' : World} {b : Nat} {l : List Pair} (h : Used w b l) (e : w'.heap[b]? = w.heap[b]?) : Used w' b l := by
  obtain ⟨D, ⟨es, c, hb, r⟩, q⟩ := h
  exact ⟨D, ⟨es, c, by rw [e]; exact hb, r⟩, q⟩
theorem Used.below {w w' : World} {b B : Nat} {l : List Pair} (h : Used w b l) (hb : Below B w w') (hB : b < B) : Used w' b l := h.block (hb.block b hB)

theorem zeroI (w : World) : (zeroValue 3).run Tryd.prog w = .ok (.int .i64 0) w := by kernel_rfl
theorem sum_wf {x : Int} (h : Nums.valid x = true) : (Lit.int .i64 x).wf = true := by
  obtain ⟨h0, h1⟩ := Nums.valid_iff.1 h
  show (decide (IntKind.i64.min ≤ x) && decide (x ≤ IntKind.i64.max)) = true
  rw [show IntKind.i64.min = -9223372036854775808 from rfl, show IntKind.i64.max = 9223372036854775807 from rfl, decide_eq_true (by omega), decide_eq_true (by omega)]
  rfl

/-- a place that is asked for -/
theorem used_look {w : World} {b : Nat} {l : List Pair} (h : Used w b l) {n : Nat} (hn : n < 256) : ∃ c : Int, (Instr.lookup 75 (.map (some b)) (pv (bitsT n)) true).run Tryd.prog w = .ok (.tuple #[.int .i64 c, .bool (taken l n)]) w ∧ (taken l n = true → c = place l n) := by
  obtain ⟨D, o, q⟩ := h
  obtain ⟨kl, hk⟩ := has_key hn
  obtain ⟨v, ps, hr, hv⟩ := o.look_ok keyed Tryd.underlying75 (zeroI w) (plainElem_int Tryd.underlying3 (by decide)) hk
  obtain ⟨c, rfl, hc, _⟩ := plainElem_int_inv Tryd.underlying3 hv
  obtain ⟨q1, q2⟩ := q n hn kl hk
  rw [q1] at hr
  refine ⟨c, hr, fun ht => ?_⟩
  rw [q2 ht] at hc
  simp only [Prod.mk.injEq, DataW.lit.injEq, Lit.int.injEq, true_and] at hc
  exact hc.1.symm

/-- a pair that is laid at a place that none has -/
theorem used_put {w : World} {b : Nat} {l : List Pair} (h : Used w b l) (e : Pair) (hl : l.length < 1000) (ht : taken l (spot e.key) = false) : ∃ w', (Instr.mapUpdate 75 (.map (some b)) (pv (bitsT (spot e.key))) (.int .i64 (placed e.key e.val))).run Tryd.prog w = .ok () w' ∧ Used w' b (l ++ [e]) ∧ w.grownBy w' (some b) := by
  obtain ⟨D, o, q⟩ := h
  obtain ⟨kl, hk⟩ := has_key (spot_lt e.key)
  obtain ⟨w', hr, o', g⟩ := o.update keyed Tryd.underlying75 (by unfold maxLen; omega) hk (plainElem_int Tryd.underlying3 (sum_wf (placed_valid e.key e.val)))
  refine ⟨w', hr, ⟨_, by rw [List.length_append]; exact o', fun n hn kl' hk' => ?_⟩, g⟩
  rw [taken_snoc, place_snoc (taken_no ht)]
  by_cases hs : n = spot e.key
  · subst hs
    rw [hk] at hk'
    injection hk' with hk'
    subst hk'
    rw [Maps.has_put_same o.isMap (keyed.key hk), Maps.atKey_put_same o.isMap (keyed.key hk), if_pos rfl]
    simp
  · rw [Maps.has_put_other (key_ne hn (spot_lt e.key) hs hk' hk), Maps.atKey_put_other (key_ne hn (spot_lt e.key) hs hk' hk), if_neg hs, show (spot e.key == n) = false by simpa using fun z => hs z.symm, Bool.or_false]
    exact q n hn kl' hk'

/-! the array -/
/-- eight letters lie in block g -/
def Arr (w : World) (g : Nat) (bs : List UInt8) : Prop := w.heap[g]? = some (.cells (cells bs).toArray 80) ∧ bs.length = 8
theorem cells_length (bs : List UInt8) : (cells bs).length = bs.length := by simp [cells]
theorem cells_at {bs : List UInt8} {i : Nat} {c : UInt8} (h : bs[i]? = some c) : (cells bs)[i]? = some (.int .u8 (c.toNat : Int)) := by simp [cells, h]
theorem cells_set (bs : List UInt8) (i : Nat) (c : UInt8) : (cells bs).set i (.int .u8 (c.toNat : Int)) = cells (bs.set i c) := by simp [cells, List.map_set]
theorem one_cells (bs : List UInt8) : ∀ v ∈ cells bs, v.oneCell' = true := fun v hv => by
  obtain ⟨c, _, rfl⟩ := List.mem_map.1 hv
  rfl
theorem arr_new (w : World) {bs : List UInt8} (h : bs.length = 8) : Arr (w.alloc (.cells (cells bs).toArray 80)) w.heap.size bs := ⟨heap_alloc_new w _, h⟩
theorem Arr.below {w w' : World} {g B : Nat} {bs : List UInt8} (h : Arr w g bs) (b : Below B w w') (hg : g < B) : Arr w' g bs := ⟨by rw [b.block g hg]; exact h.1, h.2⟩
theorem Arr.lt {w : World} {g : Nat} {bs : List UInt8} (h : Arr w g bs) : g < w.heap.size := (Array.getElem?_eq_some_iff.1 h.1).1
theorem Arr.cell {w : World} {g : Nat} {bs : List UInt8} (h : Arr w g bs) {i : Nat} {c : UInt8} (hi : bs[i]? = some c) : w.cell? ⟨g, i, none⟩ = some (.int .u8 (c.toNat : Int)) := by
  rw [cell_of_row _ _ i _ _ _ h.1]
  simpa using cells_at hi
theorem Arr.frozen {w : World} {g : Nat} {bs : List UInt8} (h : Arr w g bs) (i : Nat) : w.frozen? ⟨g, i, none⟩ = false := by
  unfold World.frozen?
  rw [h.1]
  simp
theorem Arr.range {w : World} {g : Nat} {bs : List UInt8} (h : Arr w g bs) : w.rangeAt g 0 (cells bs) := fun j v hv => by
  rw [Nat.zero_add, cell_of_row _ _ j _ _ _ h.1]
  simpa using hv
theorem Arr.there {w : World} {g : Nat} {bs : List UInt8} (h : Arr w g bs) : w.there g 0 8 := fun j hj => by
  refine ⟨?_, by rw [Nat.zero_add]; exact h.frozen j⟩
  rw [Nat.zero_add, h.cell (List.getElem?_eq_getElem (by rw [h.2]; exact hj))]
  rfl
theorem size8 : (Tryd.prog.info? 80).map (·.size) = some 8 := by kernel_rfl
/-- the whole of it, by value -/
theorem Arr.load {w : World} {g : Nat} {bs : List UInt8} (h : Arr w g bs) : (Instr.loadAt 80 (.pointer (some ⟨g, 0, none⟩))).run Tryd.prog w = .ok (pv bs) w :=
  run_loadAt_mid w g 0 80 (cells bs) _ h.range Tryd.underlying80 rfl (by rw [cells_length, h.2]; exact size8)
/-- another one of its letters -/
theorem Arr.set {w : World} {g : Nat} {bs : List UInt8} (h : Arr w g bs) (i : Nat) (c : UInt8) : Arr (w.setCell ⟨g, i, none⟩ (.int .u8 (c.toNat : Int))) g (bs.set i c) := by
  refine ⟨?_, by rw [List.length_set]; exact h.2⟩
  simp only [World.setCell, Array.getElem?_modify, if_pos, h.1, Option.map_some]
  rw [← cells_set]
  simp
/-- another one, whole -/
theorem Arr.store {w : World} {g : Nat} {bs bs' : List UInt8} (h : Arr w g bs) (h' : bs'.length = 8) : ∃ w', (Instr.storeAt 80 (.pointer (some ⟨g, 0, none⟩)) (pv bs')).run Tryd.prog w = .ok () w' ∧ Arr w' g bs' ∧ w.grownBy w' (some g) := by
  refine ⟨w.setRow g (cells bs').toArray, ?_, ⟨?_, h'⟩, ?_⟩
  · simp only [Instr.storeAt, Instr.sureAddr, Sem.run_bind, Sem.run_pure, Result.andThen_ok]
    exact run_storeVar_row _ _ 80 80 (cells bs).toArray (cells bs').toArray h.1 (by rw [List.size_toArray, cells_length, h']; exact size8) (by rw [List.size_toArray, List.size_toArray, cells_length, cells_length, h.2, h']) (all_oneCell_toArray (one_cells bs'))
  · simp [World.setRow, Array.getElem?_modify, h.1]
  · exact ⟨rfl, rfl, rfl, by simp [World.setRow], fun i _ hi => by
      simp only [World.setRow, Array.getElem?_modify]
      rw [if_neg (fun e => hi (by rw [e]))]⟩

end Go.Proofs.YtekahahaknamfaiDoor.WalkKyMap
