/-
  What the program's placeOf, beside, leafOf, freeLeaf and Bits return, for every key.
-/
import Derived.Test.YtekahahaknamfaiDoorWalkKyMap
import Derived.Test.YtekahahaknamfaiDoorErrs
import Derived.Laws.ResultCell
import Derived.BigRegion
import Derived.Deep.DeepMust
import Derived.Deep.CutBlock
namespace Go.Proofs.YtekahahaknamfaiDoor.WalkKyPlace
open Go.RowKit
open Nums (str)
open Lists (bt)
open Stores (Pair keyE)
open Errs (errv errv0 errv_pos)
open WalkMix (cells)
open KeyTrees
open KeyBits
open WalkKyMap

/-- what placeOf answers -/
def placeL (k : ByteArray) : List UInt8 := if keyE k = 0 then bitsT (spot k) else List.replicate 8 0

theorem ret_place {w : World} {g : Nat} {bs : List UInt8} (tmps : Array Value) (hp : tmps.getD 2 undef = .pointer (some ⟨g, 0, none⟩)) (h : Arr w g bs) :
    (results Tryd.f39 tmps).run Tryd.prog w = .ok (.tuple #[pv bs, tmps.getD 3 undef]) w := by
  rw [results_cell_tmp rfl, hp]
  simp [asAddr, run_loadVar_row w g _ 80 (cells bs).toArray (0, 0) _ h.1 Tryd.underlying80 rfl (by rw [List.size_toArray, cells_length, h.2]; exact size8), Result.andThen]
  rfl

theorem zero8 (w : World) : (zeroValue 80).run Tryd.prog w = .ok (pv (List.replicate 8 0)) w := by kernel_rfl

theorem _root_.Go.Proofs.YtekahahaknamfaiDoor.WalkKyMap.Arr.apart {w : World} {g b : Nat} {bs : List UInt8} (h : Arr w g bs) (hg : g ≠ b) (i : Nat) (v : Value) : Arr (w.setCell ⟨b, i, none⟩ v) g bs := ⟨by rw [Below.heap_setCell _ _ _ _ hg]; exact h.1, h.2⟩
/-- the whole of it, at the operation -/
theorem load_arr {ops : Array Oper} {rest : List Oper} {op : Oper} {a : Act} {w : World} {Q : Exit → Act → World → Prop} (hgd : op.guard = none) (x : Operand) (ho : op.op = .load 80 x) (g : Nat) (hx : a.eval x = .pointer (some ⟨g, 0, none⟩)) (bs : List UInt8) (h : Arr w g bs)
    (k : wpList Tryd.prog ops Q rest (a.put op.dst (pv bs)) w) : wpList Tryd.prog ops Q (op :: rest) a w :=
  wpList_load_mid hgd 80 x ho g 0 hx (cells bs) _ h.range Tryd.underlying80 rfl (by rw [cells_length, h.2]; exact size8) k
/-- another one, whole, at the operation -/
theorem store_arr {ops : Array Oper} {rest : List Oper} {op : Oper} {a : Act} {w : World} {Q : Exit → Act → World → Prop} (hgd : op.guard = none) (x y : Operand) (ho : op.op = .store 80 x y) (g : Nat) (hx : a.eval x = .pointer (some ⟨g, 0, none⟩)) (bs : List UInt8) (hy : a.eval y = pv bs) {cs : List UInt8} (h : Arr w g cs) (hl : bs.length = 8)
    (k : ∀ w', Arr w' g bs → w.grownBy w' (some g) → wpList Tryd.prog ops Q rest (a.put op.dst undef) w') : wpList Tryd.prog ops Q (op :: rest) a w := by
  obtain ⟨w', st, h', g'⟩ := h.store hl
  refine wpList_plain hgd fun _ hK => ?_
  unfold Oper.wp execOp
  simp only [ho, hx, hy, st, Sem.run_bind, Sem.run_pure, Result.andThen_ok]
  exact hK _ _ (k w' h' g')

abbrev z8 : Array Value := #[.int .u8 0, .int .u8 0, .int .u8 0, .int .u8 0, .int .u8 0, .int .u8 0, .int .u8 0, .int .u8 0]
theorem zeros_cells : (cells (List.replicate 8 0)).toArray = z8 := rfl
theorem empty_yes {x : ByteArray} (h : x.size = 0) : (x.toList == []) = true := by
  have : x = ⟨#[]⟩ := ByteArray.ext (Array.size_eq_zero_iff.1 h)
  rw [this, ByteArray.toList_eq]
  rfl
theorem empty_no {x : ByteArray} (h : x.size ≠ 0) : (x.toList == []) = false := by
  rw [beq_eq_false_iff_ne, ByteArray.toList_eq]
  intro e
  have := congrArg List.length e
  simp at this
  exact h (by show x.data.size = 0; rw [this]; rfl)

theorem and_one (X : Int) (h0 : 0 ≤ X) (h1 : X < 2147483648) : bits BinOp.and IntKind.i64 X 1 = X % 2 := by
  obtain ⟨x, rfl⟩ := Int.eq_ofNat_of_zero_le h0
  have h2 : (BitVec.ofInt 64 (x : Int)).toNat = x := by
    rw [BitVec.ofInt_natCast, BitVec.toNat_ofNat]; exact Nat.mod_eq_of_lt (by omega)
  show IntKind.i64.wrap ((BitVec.ofInt 64 (x : Int) &&& BitVec.ofInt 64 1).toNat : Int) = _
  rw [BitVec.toNat_and, h2, show (BitVec.ofInt 64 1).toNat = 1 from rfl, Nat.and_one_is_mod, IntKind.wrap_i64]
  omega
theorem byte_of {X : Int} {G : UInt8} (h0 : 0 ≤ X) (h1 : X < 2147483648) (h : X % 2 = (G.toNat : Int) - 48) : (48 + bits BinOp.and IntKind.i64 X 1) % 256 = (G.toNat : Int) := by
  rw [and_one X h0 h1]
  omega
theorem pow_bit (S : Int) (h0 : 0 ≤ S) (i : Nat) (hi : i < 8) : S / 2 ^ i % 2 = ((S.toNat % 256 / 2 ^ i % 2 : Nat) : Int) := by
  match i, hi with
  | 0, _ => omega
  | 1, _ => omega
  | 2, _ => omega
  | 3, _ => omega
  | 4, _ => omega
  | 5, _ => omega
  | 6, _ => omega
  | 7, _ => omega
theorem bit_of (k : ByteArray) : ∀ j, j < 8 → (Sums.sum k.data.toList / 2 ^ (7 - j)) % 2 = (((letter (decide (spot k / 2 ^ (7 - j) % 2 = 1))).toNat : Nat) : Int) - 48 := fun j hj => by
  rw [pow_bit _ (Sums.sum_bd _).1 _ (by omega)]
  show ((spot k / 2 ^ (7 - j) % 2 : Nat) : Int) = _
  have : spot k / 2 ^ (7 - j) % 2 < 2 := Nat.mod_lt _ (by decide)
  generalize spot k / 2 ^ (7 - j) % 2 = x at this
  match x, this with
  | 0, _ => rfl
  | 1, _ => rfl

set_option maxHeartbeats 1000000 in
theorem place_any (k : ByteArray) (w : World) (hk : k.size ≤ maxLen) : Calls Tryd.prog 39 #[.string k] w fun e w' => e = .returned (.tuple #[pv (placeL k), errv (keyE k)]) ∧ Below w.heap.size w w' := by
  have HSU : Hid (∀ w', Calls Tryd.prog 52 #[.string k] w' fun e w1 => e = .returned (.int .i64 (Sums.sum k.data.toList)) ∧ w1 = w') := fun w' => WalkSum.sum_any k w' hk
  have m1 : (k.size : Int) ≤ 9223372036854775807 := by unfold maxLen at hk; omega
  clear hk
  have hz : (List.replicate 8 (0 : UInt8)).length = 8 := rfl
  by_cases h0 : k.size = 0
  · have HV : Hid (keyE k = 2) := if_pos h0
    have e0 := empty_yes h0
    clear h0
    go_enter Tryd.func39, Tryd.ntmps39
    go_wp2_with fail
    refine bodyPost_ret (ret_place _ rfl (arr_new w hz)) rfl ⟨?_, (Below.refl _ _).alloc (Nat.le_refl _) _⟩
    rw [show placeL k = List.replicate 8 0 from if_neg (by rw [HV.out]; decide), HV.out]
    rfl
  · have e0 := empty_no h0
    by_cases h1 : 200 < k.size
    · have HV : Hid (keyE k = 4) := by show _ = _; unfold keyE; rw [if_neg h0, if_pos h1]
      have i1 : (200 : Int) < (k.size : Int) := by omega
      clear h0 h1
      go_enter Tryd.func39, Tryd.ntmps39
      go_wp2_with fail
      refine bodyPost_ret (ret_place _ rfl (arr_new w hz)) rfl ⟨?_, (Below.refl _ _).alloc (Nat.le_refl _) _⟩
      rw [show placeL k = List.replicate 8 0 from if_neg (by rw [HV.out]; decide), HV.out]
      rfl
    · have HV : Hid (keyE k = 0) := by show _ = _; unfold keyE; rw [if_neg h0, if_neg h1]
      have i1 : ¬ (200 : Int) < (k.size : Int) := by omega
      have HB : Hid (∀ j, j < 8 → (Sums.sum k.data.toList / 2 ^ (7 - j)) % 2 = (((letter (decide (spot k / 2 ^ (7 - j) % 2 = 1))).toNat : Nat) : Int) - 48) := bit_of k
      have hb := Sums.sum_bd k.data.toList
      clear h0 h1
      go_enter Tryd.func39, Tryd.ntmps39
      go_wp2_with fail
      refine (HSU.out _).mono ?_
      rintro e w1 ⟨rfl, rfl⟩
      clear HSU
      have A2 : Arr ((w.alloc (.cells z8 80)).alloc (.cells z8 80)) w.heap.size (List.replicate 8 0) := ⟨heap_alloc2_old _ _ _, rfl⟩
      have A4 : Arr ((w.alloc (.cells z8 80)).alloc (.cells z8 80)) (w.heap.size + 1) (filled (spot k) 0) := ⟨heap_alloc2_new _ _ _, rfl⟩
      have B1 : Below w.heap.size w ((w.alloc (.cells z8 80)).alloc (.cells z8 80)) := ((Below.refl _ _).alloc (Nat.le_refl _) _).alloc (by simp) _
      generalize (w.alloc (.cells z8 80)).alloc (.cells z8 80) = w1 at A2 A4 B1
      generalize Sums.sum k.data.toList = S at HB hb
      obtain ⟨hb0, hb1⟩ := hb
      have HA2 : Hid (Arr w1 w.heap.size (List.replicate 8 0)) := A2
      have HA4 : Hid (Arr w1 (w.heap.size + 1) (filled (spot k) 0)) := A4
      have HB1 : Hid (Below w.heap.size w w1) := B1
      clear A2 A4 B1 hz
      go_wp2_with fail
      go_loopw [20] (fun i wr => ∃ j : Nat, j ≤ 8 ∧ i = .int .i64 (j : Int) ∧ Hid (Arr wr w.heap.size (List.replicate 8 0)) ∧ Hid (Arr wr (w.heap.size + 1) (filled (spot k) j)) ∧ Hid (Below w.heap.size w wr)) (fun i _ => 8 - (intOf i).toNat)
      case atStart => exact ⟨0, by omega, rfl, HA2, HA4, HB1⟩
      case round =>
        clear HA2 HA4 HB1
        obtain ⟨j, hj, rfl, HA2, HA4, HB1⟩ := hrel
        by_cases hlt : j < 8
        · have i2 : (j : Int) < 8 := by omega
          have hl := filled_length (spot k) (i := j) (by omega)
          have c4 := HA4.out.cell (i := j) (List.getElem?_eq_getElem (by omega))
          have f4 := HA4.out.frozen j
          obtain ⟨m, hm⟩ : ∃ m : Nat, m = 7 - j := ⟨_, rfl⟩
          have hm2 : (7 : Int) - (j : Int) = (m : Int) := by omega
          have hm3 : IntKind.i64.wrap (m : Int) = (m : Int) := by rw [IntKind.wrap_i64]; omega
          have hbj := HB.out j hlt
          rw [← hm] at hbj
          generalize hG : letter (decide (spot k / 2 ^ m % 2 = 1)) = G at hbj
          have HG : Hid (Arr (wr.setCell ⟨w.heap.size + 1, j, none⟩ (.int .u8 (G.toNat : Int))) (w.heap.size + 1) (filled (spot k) (j + 1))) := by
            have := HA4.out.set j G
            rw [← hG, hm, filled_next _ hlt, ← hm, hG] at this
            exact this
          generalize (filled (spot k) j)[j] = c0 at c4
          have HVB : Hid ((48 + bits BinOp.and IntKind.i64 (S / 2 ^ (7 - j)) 1) % 256 = (G.toNat : Int)) := by
            rw [hm] at hbj
            exact byte_of (Int.ediv_nonneg hb0 (by exact_mod_cast Nat.zero_le _)) (by have := Int.ediv_le_self (2 ^ (7 - j)) hb0; omega) hbj
          clear hbj hG
          go_wp2_with fail
          go_roundw
          case rel =>
            rw [HVB.out]
            exact ⟨j + 1, by omega, by go_num, HA2.out.apart (by omega) _ _, HG, HB1.out.setCell (Nat.le_succ _) _⟩
          case measure => simp [intOf]; omega
        · obtain rfl : j = 8 := by omega
          have hA := HA4.out
          rw [filled_all] at hA
          have HA8 : Hid (Arr wr (w.heap.size + 1) (bitsT (spot k))) := hA
          have HL : Hid ((bitsT (spot k)).length = 8) := bitsT_length _
          generalize hbs : bitsT (spot k) = bs at HA8 HL
          have HBS : Hid (bitsT (spot k) = bs) := hbs
          clear hA hbs HA4
          go_wp2_with (first | (refine load_arr rfl (.tmp 4) rfl _ rfl _ HA8.out ?_) | (refine store_arr rfl (.tmp 2) (.tmp 33) rfl _ rfl _ rfl HA2.out HL.out ?_; intro w2 A5 g5; have HA5 : Hid (Arr w2 w.heap.size bs) := A5; have HB2 : Hid (Below w.heap.size w w2) := HB1.out.grown g5 (by have := HB1.out.size; omega) (fun k hk => by cases hk; exact Nat.le_refl _); clear A5 g5))
          refine bodyPost_ret (ret_place _ rfl HA5.out) rfl ⟨?_, HB2.out⟩
          rw [show placeL k = bitsT (spot k) from if_pos HV.out, HV.out, HBS.out]
          rfl

end Go.Proofs.YtekahahaknamfaiDoor.WalkKyPlace
