/-
  Plain mathematics of the bits of a place, the high one first: one more of them, the first ones, and those of the place beside. Nothing of the program is named here.
-/
import Derived.Test.YtfpkngpgmllhnaaGreatDoorKeyTrees
import Derived.Test.YtfpkngpgmllhnaaGreatDoorMixRun
import Derived.Test.YtfpkngpgmllhnaaGreatDoorListRows
import Derived.Test.YtfpkngpgmllhnaaGreatDoorRows
import Derived.DeepKeys5
import Derived.Maps.OwnSet
import Derived.Deep.MidRow
import Derived.Deep.OwnRows
import Derived.Test.YtfpkngpgmllhnaaGreatDoorErrs
import Derived.Laws.ResultCell
import Derived.BigRegion
import Derived.Deep.DeepMust
import Derived.Deep.CutBlock
namespace Go.Proofs.YtfpkngpgmllhnaaGreatDoor.KeyBits
open KeyTrees

theorem bits_snoc (k n : Nat) : bitsF (k + 1) n = bitsF k (n / 2) ++ [letter (decide (n % 2 = 1))] := by
  unfold bitsF
  rw [turnsF, List.map_cons, List.reverse_cons]
theorem bits_low (k p : Nat) : bitsF (k + 1) (2 * p) = bitsF k p ++ [48] := by
  rw [bits_snoc, show 2 * p / 2 = p by omega, decide_eq_false (by omega)]
  rfl
theorem bits_high (k p : Nat) : bitsF (k + 1) (2 * p + 1) = bitsF k p ++ [49] := by
  rw [bits_snoc, show (2 * p + 1) / 2 = p by omega, decide_eq_true (by omega)]
  rfl
/-- the first ones -/
theorem bits_take (k : Nat) : ∀ i n, (bitsF (k + i) n).take k = bitsF k (n / 2 ^ i)
  | 0, n => by rw [Nat.add_zero, Nat.pow_zero, Nat.div_one, List.take_of_length_le (by rw [bitsF_length]; exact Nat.le_refl _)]
  | i + 1, n => by
    rw [show k + (i + 1) = (k + i) + 1 by omega, bits_snoc, List.take_append_of_le_length (by rw [bitsF_length]; omega), bits_take k i (n / 2), Nat.div_div_eq_div_mul, Nat.pow_succ, Nat.mul_comm 2]
/-- one of them -/
theorem bits_at {n i : Nat} (h : i < 8) : (bitsT n)[i]? = some (letter (decide (n / 2 ^ (7 - i) % 2 = 1))) := by
  have e : (bitsF (i + 1 + (7 - i)) n).take (i + 1) = bitsF (i + 1) (n / 2 ^ (7 - i)) := bits_take (i + 1) (7 - i) n
  rw [show i + 1 + (7 - i) = 8 by omega] at e
  have q := congrArg (fun l => l[i]?) e
  simp only [List.getElem?_take] at q
  rw [if_pos (by omega), bits_snoc i, List.getElem?_append_right (by rw [bitsF_length]; exact Nat.le_refl _), bitsF_length, Nat.sub_self] at q
  exact q
/-- the first ones when the next is laid -/
theorem take_set {bs : List UInt8} {j : Nat} (h : j < bs.length) (c : UInt8) : (bs.set j c).take (j + 1) = bs.take j ++ [c] := by
  rw [List.take_succ_eq_append_getElem (by rw [List.length_set]; exact h), List.take_set_of_le (Nat.le_refl _), List.getElem_set_self]
theorem sib_half (m : Nat) : sib m / 2 = m / 2 := by unfold sib; split <;> omega
theorem sib_bit (m : Nat) : decide (sib m % 2 = 1) = !decide (m % 2 = 1) := by
  unfold sib
  by_cases h : m % 2 = 1
  · rw [if_pos h, decide_eq_true h, decide_eq_false (by omega)]
    rfl
  · rw [if_neg h, decide_eq_false h, decide_eq_true (by omega)]
    rfl
/-- the bits of the place beside the way -/
theorem bits_beside (n : Nat) {i : Nat} (h : i < 8) : ((bitsT n).set (7 - i) (letter (!decide (n / 2 ^ i % 2 = 1)))).take (8 - i) = bitsF (8 - i) (sib (n / 2 ^ i)) := by
  rw [show 8 - i = (7 - i) + 1 by omega, take_set (by rw [bitsT_length]; omega), bits_snoc, sib_half, sib_bit]
  congr 1
  have e := bits_take (7 - i) (i + 1) n
  rw [show 7 - i + (i + 1) = 8 by omega, half_pow] at e
  exact e
/-- the first ones of a key's letters, and nothing behind them -/
def filled (n i : Nat) : List UInt8 := (bitsT n).take i ++ List.replicate (8 - i) 0
theorem filled_length (n : Nat) {i : Nat} (h : i ≤ 8) : (filled n i).length = 8 := by
  unfold filled
  rw [List.length_append, List.length_take, bitsT_length, List.length_replicate]
  omega
theorem filled_zero (n : Nat) : filled n 0 = List.replicate 8 0 := rfl
theorem filled_all (n : Nat) : filled n 8 = bitsT n := by
  unfold filled
  rw [List.take_of_length_le (by rw [bitsT_length]; exact Nat.le_refl _)]
  simp
theorem filled_next (n : Nat) {i : Nat} (h : i < 8) : (filled n i).set i (letter (decide (n / 2 ^ (7 - i) % 2 = 1))) = filled n (i + 1) := by
  have hl : ((bitsT n).take i).length = i := by rw [List.length_take, bitsT_length]; omega
  unfold filled
  rw [List.set_append_right _ _ (by omega), hl, Nat.sub_self, List.take_add_one, bits_at h, show 8 - i = (8 - (i + 1)) + 1 by omega, List.replicate_succ, List.set_cons_zero]
  simp

end Go.Proofs.YtfpkngpgmllhnaaGreatDoor.KeyBits

/-
  The map of package keys, by the places of pairs: what it holds of pairs, made, asked and written. And the place itself: eight letters, an array by value.
-/
namespace Go.Proofs.YtfpkngpgmllhnaaGreatDoor.WalkKyMap
open Go.RowKit
open Stores (Pair)
open KeyTrees
open KeyBits
open WalkMix (cells)

/-- a place as a value -/
def pv (bs : List UInt8) : Value := .agg (cells bs).toArray
theorem cells_inj : ∀ {a b : List UInt8}, cells a = cells b → a = b
  | [], [], _ => rfl
  | [], _ :: _, h => by simp [cells] at h
  | _ :: _, [], h => by simp [cells] at h
  | x :: a, y :: b, h => by
    simp only [cells, List.map_cons, List.cons.injEq, Value.int.injEq, true_and] at h
    rw [cells_inj h.2, UInt8.toNat_inj.1 (by omega : x.toNat = y.toNat)]
theorem pv_inj {a b : List UInt8} (h : pv a = pv b) : a = b := by
  unfold pv at h
  injection h with h
  exact cells_inj (by simpa using congrArg Array.toList h)


/-! the array -/
/-- eight letters lie in block g -/
def Arr (w : World) (g : Nat) (bs : List UInt8) : Prop := w.heap[g]? = some (.cells (cells bs).toArray 137) ∧ bs.length = 8
theorem cells_length (bs : List UInt8) : (cells bs).length = bs.length := by simp [cells]
theorem cells_at {bs : List UInt8} {i : Nat} {c : UInt8} (h : bs[i]? = some c) : (cells bs)[i]? = some (.int .u8 (c.toNat : Int)) := by simp [cells, h]
theorem cells_set (bs : List UInt8) (i : Nat) (c : UInt8) : (cells bs).set i (.int .u8 (c.toNat : Int)) = cells (bs.set i c) := by simp [cells, List.map_set]
theorem one_cells (bs : List UInt8) : ∀ v ∈ cells bs, v.oneCell' = true := fun v hv => by
  obtain ⟨c, _, rfl⟩ := List.mem_map.1 hv
  rfl
theorem arr_new (w : World) {bs : List UInt8} (h : bs.length = 8) : Arr (w.alloc (.cells (cells bs).toArray 137)) w.heap.size bs := ⟨heap_alloc_new w _, h⟩
theorem Arr.below {w w' : World} {g B : Nat} {bs : List UInt8} (h : Arr w g bs) (b : Below B w w') (hg : g < B) : Arr w' g bs := ⟨by rw [b.block g hg]; exact h.1, h.2⟩
theorem Arr.lt {w : World} {g : Nat} {bs : List UInt8} (h : Arr w g bs) : g < w.heap.size := (Array.getElem?_eq_some_iff.1 h.1).1
theorem Arr.cell {w : World} {g : Nat} {bs : List UInt8} (h : Arr w g bs) {i : Nat} {c : UInt8} (hi : bs[i]? = some c) : w.cell? ⟨g, i, none⟩ = some (.int .u8 (c.toNat : Int)) := by
  rw [cell_of_row _ _ i _ _ _ h.1]
  simpa using cells_at hi
theorem Arr.frozen {w : World} {g : Nat} {bs : List UInt8} (h : Arr w g bs) (i : Nat) : w.frozen? ⟨g, i, none⟩ = false := by
  unfold World.frozen?
  rw [h.1]
  simp
theorem Arr.range {w : World} {g : Nat} {bs : List UInt8} (h : Arr w g bs) : w.rangeAt g 0 (cells bs) := fun j v hv => by
  rw [Nat.zero_add, cell_of_row _ _ j _ _ _ h.1]
  simpa using hv
theorem Arr.there {w : World} {g : Nat} {bs : List UInt8} (h : Arr w g bs) : w.there g 0 8 := fun j hj => by
  refine ⟨?_, by rw [Nat.zero_add]; exact h.frozen j⟩
  rw [Nat.zero_add, h.cell (List.getElem?_eq_getElem (by rw [h.2]; exact hj))]
  rfl
theorem size8 : (Tryz.prog.info? 137).map (·.size) = some 8 := by kernel_rfl
/-- the whole of it, by value -/
theorem Arr.load {w : World} {g : Nat} {bs : List UInt8} (h : Arr w g bs) : (Instr.loadAt 137 (.pointer (some ⟨g, 0, none⟩))).run Tryz.prog w = .ok (pv bs) w :=
  run_loadAt_mid w g 0 137 (cells bs) _ h.range Tryz.underlying137 rfl (by rw [cells_length, h.2]; exact size8)
/-- another one of its letters -/
theorem Arr.set {w : World} {g : Nat} {bs : List UInt8} (h : Arr w g bs) (i : Nat) (c : UInt8) : Arr (w.setCell ⟨g, i, none⟩ (.int .u8 (c.toNat : Int))) g (bs.set i c) := by
  refine ⟨?_, by rw [List.length_set]; exact h.2⟩
  simp only [World.setCell, Array.getElem?_modify, if_pos, h.1, Option.map_some]
  rw [← cells_set]
  simp
/-- another one, whole -/
theorem Arr.store {w : World} {g : Nat} {bs bs' : List UInt8} (h : Arr w g bs) (h' : bs'.length = 8) : ∃ w', (Instr.storeAt 137 (.pointer (some ⟨g, 0, none⟩)) (pv bs')).run Tryz.prog w = .ok () w' ∧ Arr w' g bs' ∧ w.grownBy w' (some g) := by
  refine ⟨w.setRow g (cells bs').toArray, ?_, ⟨?_, h'⟩, ?_⟩
  · simp only [Instr.storeAt, Instr.sureAddr, Sem.run_bind, Sem.run_pure, Result.andThen_ok]
    exact run_storeVar_row _ _ 137 137 (cells bs).toArray (cells bs').toArray h.1 (by rw [List.size_toArray, cells_length, h']; exact size8) (by rw [List.size_toArray, List.size_toArray, cells_length, cells_length, h.2, h']) (all_oneCell_toArray (one_cells bs'))
  · simp [World.setRow, Array.getElem?_modify, h.1]
  · exact ⟨rfl, rfl, rfl, by simp [World.setRow], fun i _ hi => by
      simp only [World.setRow, Array.getElem?_modify]
      rw [if_neg (fun e => hi (by rw [e]))]⟩

end Go.Proofs.YtfpkngpgmllhnaaGreatDoor.WalkKyMap

/-
  What the program's placeOf, beside, leafOf, freeLeaf and Bits return, for every key.
-/
namespace Go.Proofs.YtfpkngpgmllhnaaGreatDoor.WalkKyPlace
open Go.RowKit
open Nums (str)
open Lists (bt)
open Stores (Pair keyE)
open Errs (errv errv0 errv_pos)
open WalkMix (cells)
open KeyTrees
open KeyBits
open WalkKyMap

/-- what placeOf answers -/
def placeL (k : ByteArray) : List UInt8 := if keyE k = 0 then bitsT (spot k) else List.replicate 8 0

theorem ret_place {w : World} {g : Nat} {bs : List UInt8} (tmps : Array Value) (hp : tmps.getD 2 undef = .pointer (some ⟨g, 0, none⟩)) (h : Arr w g bs) :
    (results Tryz.f73 tmps).run Tryz.prog w = .ok (.tuple #[pv bs, tmps.getD 3 undef]) w := by
  rw [results_cell_tmp rfl, hp]
  simp [asAddr, run_loadVar_row w g _ 137 (cells bs).toArray (0, 0) _ h.1 Tryz.underlying137 rfl (by rw [List.size_toArray, cells_length, h.2]; exact size8), Result.andThen]
  rfl

theorem zero8 (w : World) : (zeroValue 137).run Tryz.prog w = .ok (pv (List.replicate 8 0)) w := by kernel_rfl

theorem _root_.Go.Proofs.YtfpkngpgmllhnaaGreatDoor.WalkKyMap.Arr.apart {w : World} {g b : Nat} {bs : List UInt8} (h : Arr w g bs) (hg : g ≠ b) (i : Nat) (v : Value) : Arr (w.setCell ⟨b, i, none⟩ v) g bs := ⟨by rw [Below.heap_setCell _ _ _ _ hg]; exact h.1, h.2⟩
/-- the whole of it, at the operation -/
theorem load_arr {ops : Array Oper} {rest : List Oper} {op : Oper} {a : Act} {w : World} {Q : Exit → Act → World → Prop} (hgd : op.guard = none) (x : Operand) (ho : op.op = .load 137 x) (g : Nat) (hx : a.eval x = .pointer (some ⟨g, 0, none⟩)) (bs : List UInt8) (h : Arr w g bs)
    (k : wpList Tryz.prog ops Q rest (a.put op.dst (pv bs)) w) : wpList Tryz.prog ops Q (op :: rest) a w :=
  wpList_load_mid hgd 137 x ho g 0 hx (cells bs) _ h.range Tryz.underlying137 rfl (by rw [cells_length, h.2]; exact size8) k
/-- another one, whole, at the operation -/
theorem store_arr {ops : Array Oper} {rest : List Oper} {op : Oper} {a : Act} {w : World} {Q : Exit → Act → World → Prop} (hgd : op.guard = none) (x y : Operand) (ho : op.op = .store 137 x y) (g : Nat) (hx : a.eval x = .pointer (some ⟨g, 0, none⟩)) (bs : List UInt8) (hy : a.eval y = pv bs) {cs : List UInt8} (h : Arr w g cs) (hl : bs.length = 8)
    (k : ∀ w', Arr w' g bs → w.grownBy w' (some g) → wpList Tryz.prog ops Q rest (a.put op.dst undef) w') : wpList Tryz.prog ops Q (op :: rest) a w := by
  obtain ⟨w', st, h', g'⟩ := h.store hl
  refine wpList_plain hgd fun _ hK => ?_
  unfold Oper.wp execOp
  simp only [ho, hx, hy, st, Sem.run_bind, Sem.run_pure, Result.andThen_ok]
  exact hK _ _ (k w' h' g')

abbrev z8 : Array Value := #[.int .u8 0, .int .u8 0, .int .u8 0, .int .u8 0, .int .u8 0, .int .u8 0, .int .u8 0, .int .u8 0]
theorem zeros_cells : (cells (List.replicate 8 0)).toArray = z8 := rfl
theorem empty_yes {x : ByteArray} (h : x.size = 0) : (x.toList == []) = true := by
  have : x = ⟨#[]⟩ := ByteArray.ext (Array.size_eq_zero_iff.1 h)
  rw [this, ByteArray.toList_eq]
  rfl
theorem empty_no {x : ByteArray} (h : x.size ≠ 0) : (x.toList == []) = false := by
  rw [beq_eq_false_iff_ne, ByteArray.toList_eq]
  intro e
  have := congrArg List.length e
  simp at this
  exact h (by show x.data.size = 0; rw [this]; rfl)

theorem and_one (X : Int) (h0 : 0 ≤ X) (h1 : X < 2147483648) : bits BinOp.and IntKind.i64 X 1 = X % 2 := by
  obtain ⟨x, rfl⟩ := Int.eq_ofNat_of_zero_le h0
  have h2 : (BitVec.ofInt 64 (x : Int)).toNat = x := by
    rw [BitVec.ofInt_natCast, BitVec.toNat_ofNat]; exact Nat.mod_eq_of_lt (by omega)
  show IntKind.i64.wrap ((BitVec.ofInt 64 (x : Int) &&& BitVec.ofInt 64 1).toNat : Int) = _
  rw [BitVec.toNat_and, h2, show (BitVec.ofInt 64 1).toNat = 1 from rfl, Nat.and_one_is_mod, IntKind.wrap_i64]
  omega
theorem byte_of {X : Int} {G : UInt8} (h0 : 0 ≤ X) (h1 : X < 2147483648) (h : X % 2 = (G.toNat : Int) - 48) : (48 + bits BinOp.and IntKind.i64 X 1) % 256 = (G.toNat : Int) := by
  rw [and_one X h0 h1]
  omega
theorem pow_bit (S : Int) (h0 : 0 ≤ S) (i : Nat) (hi : i < 8) : S / 2 ^ i % 2 = ((S.toNat % 256 / 2 ^ i % 2 : Nat) : Int) := by
  match i, hi with
  | 0, _ => omega
  | 1, _ => omega
  | 2, _ => omega
  | 3, _ => omega
  | 4, _ => omega
  | 5, _ => omega
  | 6, _ => omega
  | 7, _ => omega
theorem bit_of (k : ByteArray) : ∀ j, j < 8 → (Sums.sum k.data.toList / 2 ^ (7 - j)) % 2 = (((letter (decide (spot k / 2 ^ (7 - j) % 2 = 1))).toNat : Nat) : Int) - 48 := fun j hj => by
  rw [pow_bit _ (Sums.sum_bd _).1 _ (by omega)]
  show ((spot k / 2 ^ (7 - j) % 2 : Nat) : Int) = _
  have : spot k / 2 ^ (7 - j) % 2 < 2 := Nat.mod_lt _ (by decide)
  generalize spot k / 2 ^ (7 - j) % 2 = x at this
  match x, this with
  | 0, _ => rfl
  | 1, _ => rfl

set_option maxHeartbeats 1000000 in
theorem place_any (k : ByteArray) (w : World) (hk : k.size ≤ maxLen) : Calls Tryz.prog 73 #[.string k] w fun e w' => e = .returned (.tuple #[pv (placeL k), errv (keyE k)]) ∧ Below w.heap.size w w' := by
  have HSU : Hid (∀ w', Calls Tryz.prog 123 #[.string k] w' fun e w1 => e = .returned (.int .i64 (Sums.sum k.data.toList)) ∧ w1 = w') := fun w' => WalkSum.sum_any k w' hk
  have m1 : (k.size : Int) ≤ 9223372036854775807 := by unfold maxLen at hk; omega
  clear hk
  have hz : (List.replicate 8 (0 : UInt8)).length = 8 := rfl
  by_cases h0 : k.size = 0
  · have HV : Hid (keyE k = 2) := if_pos h0
    have e0 := empty_yes h0
    clear h0
    go_enter Tryz.func73, Tryz.ntmps73
    go_wp2_with fail
    refine bodyPost_ret (ret_place _ rfl (arr_new w hz)) rfl ⟨?_, (Below.refl _ _).alloc (Nat.le_refl _) _⟩
    rw [show placeL k = List.replicate 8 0 from if_neg (by rw [HV.out]; decide), HV.out]
    rfl
  · have e0 := empty_no h0
    by_cases h1 : 200 < k.size
    · have HV : Hid (keyE k = 4) := by show _ = _; unfold keyE; rw [if_neg h0, if_pos h1]
      have i1 : (200 : Int) < (k.size : Int) := by omega
      clear h0 h1
      go_enter Tryz.func73, Tryz.ntmps73
      go_wp2_with fail
      refine bodyPost_ret (ret_place _ rfl (arr_new w hz)) rfl ⟨?_, (Below.refl _ _).alloc (Nat.le_refl _) _⟩
      rw [show placeL k = List.replicate 8 0 from if_neg (by rw [HV.out]; decide), HV.out]
      rfl
    · have HV : Hid (keyE k = 0) := by show _ = _; unfold keyE; rw [if_neg h0, if_neg h1]
      have i1 : ¬ (200 : Int) < (k.size : Int) := by omega
      have HB : Hid (∀ j, j < 8 → (Sums.sum k.data.toList / 2 ^ (7 - j)) % 2 = (((letter (decide (spot k / 2 ^ (7 - j) % 2 = 1))).toNat : Nat) : Int) - 48) := bit_of k
      have hb := Sums.sum_bd k.data.toList
      clear h0 h1
      go_enter Tryz.func73, Tryz.ntmps73
      go_wp2_with fail
      refine (HSU.out _).mono ?_
      rintro e w1 ⟨rfl, rfl⟩
      clear HSU
      have A2 : Arr ((w.alloc (.cells z8 137)).alloc (.cells z8 137)) w.heap.size (List.replicate 8 0) := ⟨heap_alloc2_old _ _ _, rfl⟩
      have A4 : Arr ((w.alloc (.cells z8 137)).alloc (.cells z8 137)) (w.heap.size + 1) (filled (spot k) 0) := ⟨heap_alloc2_new _ _ _, rfl⟩
      have B1 : Below w.heap.size w ((w.alloc (.cells z8 137)).alloc (.cells z8 137)) := ((Below.refl _ _).alloc (Nat.le_refl _) _).alloc (by simp) _
      generalize (w.alloc (.cells z8 137)).alloc (.cells z8 137) = w1 at A2 A4 B1
      generalize Sums.sum k.data.toList = S at HB hb
      obtain ⟨hb0, hb1⟩ := hb
      have HA2 : Hid (Arr w1 w.heap.size (List.replicate 8 0)) := A2
      have HA4 : Hid (Arr w1 (w.heap.size + 1) (filled (spot k) 0)) := A4
      have HB1 : Hid (Below w.heap.size w w1) := B1
      clear A2 A4 B1 hz
      go_wp2_with fail
      go_loopw [20] (fun i wr => ∃ j : Nat, j ≤ 8 ∧ i = .int .i64 (j : Int) ∧ Hid (Arr wr w.heap.size (List.replicate 8 0)) ∧ Hid (Arr wr (w.heap.size + 1) (filled (spot k) j)) ∧ Hid (Below w.heap.size w wr)) (fun i _ => 8 - (intOf i).toNat)
      case atStart => exact ⟨0, by omega, rfl, HA2, HA4, HB1⟩
      case round =>
        clear HA2 HA4 HB1
        obtain ⟨j, hj, rfl, HA2, HA4, HB1⟩ := hrel
        by_cases hlt : j < 8
        · have i2 : (j : Int) < 8 := by omega
          have hl := filled_length (spot k) (i := j) (by omega)
          have c4 := HA4.out.cell (i := j) (List.getElem?_eq_getElem (by omega))
          have f4 := HA4.out.frozen j
          obtain ⟨m, hm⟩ : ∃ m : Nat, m = 7 - j := ⟨_, rfl⟩
          have hm2 : (7 : Int) - (j : Int) = (m : Int) := by omega
          have hm3 : IntKind.i64.wrap (m : Int) = (m : Int) := by rw [IntKind.wrap_i64]; omega
          have hbj := HB.out j hlt
          rw [← hm] at hbj
          generalize hG : letter (decide (spot k / 2 ^ m % 2 = 1)) = G at hbj
          have HG : Hid (Arr (wr.setCell ⟨w.heap.size + 1, j, none⟩ (.int .u8 (G.toNat : Int))) (w.heap.size + 1) (filled (spot k) (j + 1))) := by
            have := HA4.out.set j G
            rw [← hG, hm, filled_next _ hlt, ← hm, hG] at this
            exact this
          generalize (filled (spot k) j)[j] = c0 at c4
          have HVB : Hid ((48 + bits BinOp.and IntKind.i64 (S / 2 ^ (7 - j)) 1) % 256 = (G.toNat : Int)) := by
            rw [hm] at hbj
            exact byte_of (Int.ediv_nonneg hb0 (by exact_mod_cast Nat.zero_le _)) (by have := Int.ediv_le_self (2 ^ (7 - j)) hb0; omega) hbj
          clear hbj hG
          go_wp2_with fail
          go_roundw
          case rel =>
            rw [HVB.out]
            exact ⟨j + 1, by omega, by go_num, HA2.out.apart (by omega) _ _, HG, HB1.out.setCell (Nat.le_succ _) _⟩
          case measure => simp [intOf]; omega
        · obtain rfl : j = 8 := by omega
          have hA := HA4.out
          rw [filled_all] at hA
          have HA8 : Hid (Arr wr (w.heap.size + 1) (bitsT (spot k))) := hA
          have HL : Hid ((bitsT (spot k)).length = 8) := bitsT_length _
          generalize hbs : bitsT (spot k) = bs at HA8 HL
          have HBS : Hid (bitsT (spot k) = bs) := hbs
          clear hA hbs HA4
          go_wp2_with (first | (refine load_arr rfl (.tmp 4) rfl _ rfl _ HA8.out ?_) | (refine store_arr rfl (.tmp 2) (.tmp 33) rfl _ rfl _ rfl HA2.out HL.out ?_; intro w2 A5 g5; have HA5 : Hid (Arr w2 w.heap.size bs) := A5; have HB2 : Hid (Below w.heap.size w w2) := HB1.out.grown g5 (by have := HB1.out.size; omega) (fun k hk => by cases hk; exact Nat.le_refl _); clear A5 g5))
          refine bodyPost_ret (ret_place _ rfl HA5.out) rfl ⟨?_, HB2.out⟩
          rw [show placeL k = bitsT (spot k) from if_pos HV.out, HV.out, HBS.out]
          rfl

end Go.Proofs.YtfpkngpgmllhnaaGreatDoor.WalkKyPlace

/-
  What the program's beside, leafOf, freeLeaf and Bits return, for every key.
-/
namespace Go.Proofs.YtfpkngpgmllhnaaGreatDoor.WalkKyBits
open Go.RowKit
open Nums (str)
open Lists (bt)
open Stores (Pair keyE)
open Errs (errv errv0 errv_pos)
open WalkMix (cells)
open KeyTrees
open KeyBits
open WalkKyMap
open WalkKyPlace (placeL z8 load_arr store_arr)


theorem placed_data (k v : ByteArray) : (0 : UInt8) :: (k ++ (⟨#[0]⟩ : ByteArray) ++ v).data.toList = 0 :: (k.data.toList ++ 0 :: v.data.toList) := by
  simp [ByteArray.data_append]

/-- the other letter -/
theorem flip_letter (t : Bool) : ((letter t).toNat : Int) = if t then 49 else 48 := by cases t <;> rfl


theorem conv_arr {w : World} {g : Nat} {bs : List UInt8} (h : Arr w g bs) : (convert 41 9 (.slice (some ⟨g, 0, none⟩) 8 8)).run Tryz.prog w = .ok (.string (str bs)) w := by
  have k := run_convert_bytes_back (P := Tryz.prog) w 41 9 5 ⟨g, 0, none⟩ 8 bs Tryz.underlying41 Tryz.underlying5 Tryz.underlying9 (fun i hi => by
    rw [show (⟨g, 0, none⟩ : Addr).add i = ⟨g, i, none⟩ by simp [Addr.add]; omega]
    exact h.cell (List.getElem?_eq_getElem hi))
  rw [h.2] at k
  exact k

set_option maxHeartbeats 1000000 in
theorem bits_any (k : ByteArray) (w : World) (hk : k.size ≤ maxLen) : Calls Tryz.prog 36 #[.string k] w fun e w' => e = .returned (.tuple #[.string (str (bitsV k)), errv (keyE k)]) ∧ Below w.heap.size w w' := by
  have cP := WalkKyPlace.place_any k w hk
  by_cases hK : keyE k = 0
  · have HV : Hid (bitsV k = bitsT (spot k)) := if_pos hK
    have hp : placeL k = bitsT (spot k) := if_pos hK
    rw [hp, hK, errv0] at cP
    have hL := bitsT_length (spot k)
    rw [hK, errv0]
    generalize bitsT (spot k) = bs at HV cP hL
    have HL : Hid (bs.length = 8) := hL
    clear hp hK hL
    go_enter Tryz.func36, Tryz.ntmps36
    go_wp2_with fail
    refine cP.mono ?_
    rintro e w1 ⟨rfl, b1⟩
    clear cP
    have HZ : Hid (Arr (w1.alloc (.cells z8 137)) w1.heap.size (List.replicate 8 0)) := (show Arr _ _ _ from ⟨heap_alloc_new w1 _, rfl⟩)
    have HB1 : Hid (Below w.heap.size w w1) := b1
    clear b1
    go_wp2_with (first | (refine store_arr rfl (.tmp 4) (.tmp 9) rfl _ rfl _ rfl HZ.out HL.out ?_; intro w2 A2 g2; have HB2 : Hid (Below w.heap.size w w2) := (HB1.out.alloc HB1.out.size _).grown g2 (by have := HB1.out.size; simp; omega) (fun k hk => by cases hk; exact HB1.out.size); have cv := conv_arr A2; clear A2 g2))
    go_ret2
    exact ⟨by rw [HV.out]; rfl, HB2.out⟩
  · have HV : Hid (bitsV k = []) := if_neg hK
    have hp : placeL k = List.replicate 8 0 := if_neg hK
    rw [hp, errv_pos _ hK] at cP
    rw [errv_pos _ hK]
    generalize ((keyE k : Nat) : Int) = E at cP
    clear hp hK
    go_enter Tryz.func36, Tryz.ntmps36
    go_wp2_with fail
    refine cP.mono ?_
    rintro e w1 ⟨rfl, b1⟩
    clear cP
    have HZ : Hid (Arr (w1.alloc (.cells z8 137)) w1.heap.size (List.replicate 8 0)) := (show Arr _ _ _ from ⟨heap_alloc_new w1 _, rfl⟩)
    have HB1 : Hid (Below w.heap.size w w1) := b1
    clear b1
    go_wp2_with (first | (refine store_arr rfl (.tmp 4) (.tmp 9) rfl _ rfl _ rfl HZ.out rfl ?_; intro w2 A2 g2; have HB2 : Hid (Below w.heap.size w w2) := (HB1.out.alloc HB1.out.size _).grown g2 (by have := HB1.out.size; simp; omega) (fun k hk => by cases hk; exact HB1.out.size); clear A2 g2))
    go_ret2
    exact ⟨by rw [HV.out]; rfl, HB2.out⟩

end Go.Proofs.YtfpkngpgmllhnaaGreatDoor.WalkKyBits

