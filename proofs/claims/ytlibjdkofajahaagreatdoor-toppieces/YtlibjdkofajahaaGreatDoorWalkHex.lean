/-
  What the program's Print and Parse return, for every number and every text.
-/
import Derived.Test.YtlibjdkofajahaaGreatDoorWalkMix
namespace Go.Proofs.YtlibjdkofajahaaGreatDoor.WalkHex
open Go.RowKit

set_option maxHeartbeats 400000 in
theorem print_no (n : Int) (w : World) (h : Nums.valid n = false) :
    Calls Tryz.prog 21 #[.int .i64 n] w fun e w' => e = .returned (.tuple #[.string ⟨#[]⟩, .iface 67 (.int .i64 1)]) ∧ w' = w := by
  have hh : Hid (Nums.valid n = false) := h
  clear h
  go_enter Tryz.func21, Tryz.ntmps21
  go_wp2_with fail
  refine (WalkMix.isSum_no _ _ hh.out).mono ?_
  rintro e w1 ⟨rfl, rfl⟩
  go_wp2
  go_ret2
  exact ⟨rfl, rfl⟩

/-- the digit of place i -/
def dg (n i : Nat) : Value := .int .u8 ((Nums.digit (n / 16 ^ i % 16)).toNat : Int)
/-- the eight cells when the j lowest digits are written -/
def arr (n j : Nat) : Array Value := #[if 7 < j then dg n 7 else .int .u8 0, if 6 < j then dg n 6 else .int .u8 0, if 5 < j then dg n 5 else .int .u8 0, if 4 < j then dg n 4 else .int .u8 0, if 3 < j then dg n 3 else .int .u8 0, if 2 < j then dg n 2 else .int .u8 0, if 1 < j then dg n 1 else .int .u8 0, if 0 < j then dg n 0 else .int .u8 0]
theorem arr0 (n : Nat) : arr n 0 = #[.int .u8 0, .int .u8 0, .int .u8 0, .int .u8 0, .int .u8 0, .int .u8 0, .int .u8 0, .int .u8 0] := rfl
theorem arr1 (n : Nat) : arr n 1 = #[.int .u8 0, .int .u8 0, .int .u8 0, .int .u8 0, .int .u8 0, .int .u8 0, .int .u8 0, dg n 0] := rfl
theorem arr2 (n : Nat) : arr n 2 = #[.int .u8 0, .int .u8 0, .int .u8 0, .int .u8 0, .int .u8 0, .int .u8 0, dg n 1, dg n 0] := rfl
theorem arr3 (n : Nat) : arr n 3 = #[.int .u8 0, .int .u8 0, .int .u8 0, .int .u8 0, .int .u8 0, dg n 2, dg n 1, dg n 0] := rfl
theorem arr4 (n : Nat) : arr n 4 = #[.int .u8 0, .int .u8 0, .int .u8 0, .int .u8 0, dg n 3, dg n 2, dg n 1, dg n 0] := rfl
theorem arr5 (n : Nat) : arr n 5 = #[.int .u8 0, .int .u8 0, .int .u8 0, dg n 4, dg n 3, dg n 2, dg n 1, dg n 0] := rfl
theorem arr6 (n : Nat) : arr n 6 = #[.int .u8 0, .int .u8 0, dg n 5, dg n 4, dg n 3, dg n 2, dg n 1, dg n 0] := rfl
theorem arr7 (n : Nat) : arr n 7 = #[.int .u8 0, dg n 6, dg n 5, dg n 4, dg n 3, dg n 2, dg n 1, dg n 0] := rfl
theorem arr8 (n : Nat) : arr n 8 = #[dg n 7, dg n 6, dg n 5, dg n 4, dg n 3, dg n 2, dg n 1, dg n 0] := rfl

theorem add_at (g i : Nat) : (⟨g, 0, none⟩ : Addr).add i = ⟨g, i, none⟩ := by unfold Addr.add; split <;> simp_all
theorem at_congr (b : ByteArray) (i j : Nat) (h : i = j) (hi : i < b.size) (hj : j < b.size) : b[i] = b[j] := by subst h; rfl
theorem dig_at (M : Int) (hp : 0 ≤ M) (h : (M % 16).toNat < (ByteArray.mk #[48, 49, 50, 51, 52, 53, 54, 55, 56, 57, 97, 98, 99, 100, 101, 102]).size) :
    (ByteArray.mk #[48, 49, 50, 51, 52, 53, 54, 55, 56, 57, 97, 98, 99, 100, 101, 102])[(M % 16).toNat] = Nums.digit (M.toNat % 16) := by
  have e : (M % 16).toNat = M.toNat % 16 := by omega
  have hl : M.toNat % 16 < 16 := Nat.mod_lt _ (by decide)
  rw [at_congr _ _ _ e h hl]
  have : ∀ k : Fin 16, (ByteArray.mk #[48, 49, 50, 51, 52, 53, 54, 55, 56, 57, 97, 98, 99, 100, 101, 102])[k.val]'(k.isLt) = Nums.digit k.val := by decide +kernel
  exact this ⟨M.toNat % 16, hl⟩
theorem dig_val (N j : Nat) (M : Int) (hM : ((N / 16 ^ j : Nat) : Int) = M) (h : (M % 16).toNat < (ByteArray.mk #[48, 49, 50, 51, 52, 53, 54, 55, 56, 57, 97, 98, 99, 100, 101, 102]).size) :
    Value.int .u8 (((ByteArray.mk #[48, 49, 50, 51, 52, 53, 54, 55, 56, 57, 97, 98, 99, 100, 101, 102])[(M % 16).toNat].toNat : Nat) : Int) = dg N j := by
  rw [dig_at M (by rw [← hM]; exact Int.natCast_nonneg _) h, dg, ← hM, Int.toNat_natCast]
theorem next_div (N j : Nat) (M : Int) (hM : ((N / 16 ^ j : Nat) : Int) = M) : Value.int .i64 (M / 16) = .int .i64 ((N / 16 ^ (j + 1) : Nat) : Int) := by
  rw [Nat.pow_succ, ← Nat.div_div_eq_div_mul, ← hM]
  rfl
theorem cells_text (N : Nat) : (WalkMix.cells (Nums.hexOf 8 N)).toArray = #[dg N 7, dg N 6, dg N 5, dg N 4, dg N 3, dg N 2, dg N 1, dg N 0] := by
  simp only [Nums.hexOf, WalkMix.cells, dg, List.nil_append, List.cons_append, List.map_cons, List.map_nil, Nat.div_div_eq_div_mul, Nat.reduceMul, Nat.reducePow, Nat.div_one]

set_option maxHeartbeats 1000000 in
theorem print_yes (n : Int) (w : World) (h : Nums.valid n = true) :
    Calls Tryz.prog 21 #[.int .i64 n] w fun e w' => e = .returned (.tuple #[.string (Nums.str (Nums.text n)), .nilIface]) ∧ Below w.heap.size w w' := by
  have hh : Hid (Nums.valid n = true) := h
  clear h
  obtain ⟨N, HN⟩ : ∃ N : Nat, Hid (n.toNat = N) := ⟨_, rfl⟩
  have hst : Hid (n = ((N / 16 ^ 0 : Nat) : Int)) := by
    have h1 := HN.out
    have h2 := Nums.valid_iff.1 hh.out
    show n = ((N / 16 ^ 0 : Nat) : Int)
    rw [Nat.pow_zero, Nat.div_one]
    omega
  go_enter Tryz.func21, Tryz.ntmps21
  go_wp2_with fail
  refine (WalkMix.isSum_yes _ _ hh.out).mono ?_
  rintro e w1 ⟨rfl, rfl⟩
  go_wp2
  go_loopw [0, 5] (fun m i wr => ∃ j : Nat, j ≤ 8 ∧ m = .int .i64 ((N / 16 ^ j : Nat) : Int) ∧ i = .int .i64 (7 - (j : Int)) ∧ wr = w1.alloc (.cells (arr N j) 99)) (fun _ i _ => (intOf i + 1).toNat)
  case atStart => exact ⟨0, by omega, congrArg (Value.int .i64) hst.out, rfl, rfl⟩
  case round =>
    obtain ⟨j, hj, rfl, rfl, rfl⟩ := hrel
    by_cases hlt : j < 8
    · match j, hlt with
      | 0, _ =>
        rw [arr0]
        have hb : N / 16 ^ 0 ≤ N := Nat.div_le_self _ _
        generalize hM : ((N / 16 ^ 0 : Nat) : Int) = M
        have HM : Hid (((N / 16 ^ 0 : Nat) : Int) = M) := hM
        have hb0 : 0 ≤ M := by omega
        have hb1 : M < 2147483647 := by have h1 := HN.out; have h2 := Nums.valid_iff.1 hh.out; omega
        clear hM hb
        go_wp2
        go_roundw
        case rel => exact ⟨1, by omega, next_div N 0 M HM.out, rfl, congrArg (fun x => w1.alloc (.cells #[.int .u8 0, .int .u8 0, .int .u8 0, .int .u8 0, .int .u8 0, .int .u8 0, .int .u8 0, x] 99)) (dig_val N 0 M HM.out _)⟩
        case measure => simp [intOf]
      | 1, _ =>
        rw [arr1]
        have hb : N / 16 ^ 1 ≤ N := Nat.div_le_self _ _
        generalize hM : ((N / 16 ^ 1 : Nat) : Int) = M
        have HM : Hid (((N / 16 ^ 1 : Nat) : Int) = M) := hM
        have hb0 : 0 ≤ M := by omega
        have hb1 : M < 2147483647 := by have h1 := HN.out; have h2 := Nums.valid_iff.1 hh.out; omega
        clear hM hb
        go_wp2
        go_roundw
        case rel => exact ⟨2, by omega, next_div N 1 M HM.out, rfl, congrArg (fun x => w1.alloc (.cells #[.int .u8 0, .int .u8 0, .int .u8 0, .int .u8 0, .int .u8 0, .int .u8 0, x, dg N 0] 99)) (dig_val N 1 M HM.out _)⟩
        case measure => simp [intOf]
      | 2, _ =>
        rw [arr2]
        have hb : N / 16 ^ 2 ≤ N := Nat.div_le_self _ _
        generalize hM : ((N / 16 ^ 2 : Nat) : Int) = M
        have HM : Hid (((N / 16 ^ 2 : Nat) : Int) = M) := hM
        have hb0 : 0 ≤ M := by omega
        have hb1 : M < 2147483647 := by have h1 := HN.out; have h2 := Nums.valid_iff.1 hh.out; omega
        clear hM hb
        go_wp2
        go_roundw
        case rel => exact ⟨3, by omega, next_div N 2 M HM.out, rfl, congrArg (fun x => w1.alloc (.cells #[.int .u8 0, .int .u8 0, .int .u8 0, .int .u8 0, .int .u8 0, x, dg N 1, dg N 0] 99)) (dig_val N 2 M HM.out _)⟩
        case measure => simp [intOf]
      | 3, _ =>
        rw [arr3]
        have hb : N / 16 ^ 3 ≤ N := Nat.div_le_self _ _
        generalize hM : ((N / 16 ^ 3 : Nat) : Int) = M
        have HM : Hid (((N / 16 ^ 3 : Nat) : Int) = M) := hM
        have hb0 : 0 ≤ M := by omega
        have hb1 : M < 2147483647 := by have h1 := HN.out; have h2 := Nums.valid_iff.1 hh.out; omega
        clear hM hb
        go_wp2
        go_roundw
        case rel => exact ⟨4, by omega, next_div N 3 M HM.out, rfl, congrArg (fun x => w1.alloc (.cells #[.int .u8 0, .int .u8 0, .int .u8 0, .int .u8 0, x, dg N 2, dg N 1, dg N 0] 99)) (dig_val N 3 M HM.out _)⟩
        case measure => simp [intOf]
      | 4, _ =>
        rw [arr4]
        have hb : N / 16 ^ 4 ≤ N := Nat.div_le_self _ _
        generalize hM : ((N / 16 ^ 4 : Nat) : Int) = M
        have HM : Hid (((N / 16 ^ 4 : Nat) : Int) = M) := hM
        have hb0 : 0 ≤ M := by omega
        have hb1 : M < 2147483647 := by have h1 := HN.out; have h2 := Nums.valid_iff.1 hh.out; omega
        clear hM hb
        go_wp2
        go_roundw
        case rel => exact ⟨5, by omega, next_div N 4 M HM.out, rfl, congrArg (fun x => w1.alloc (.cells #[.int .u8 0, .int .u8 0, .int .u8 0, x, dg N 3, dg N 2, dg N 1, dg N 0] 99)) (dig_val N 4 M HM.out _)⟩
        case measure => simp [intOf]
      | 5, _ =>
        rw [arr5]
        have hb : N / 16 ^ 5 ≤ N := Nat.div_le_self _ _
        generalize hM : ((N / 16 ^ 5 : Nat) : Int) = M
        have HM : Hid (((N / 16 ^ 5 : Nat) : Int) = M) := hM
        have hb0 : 0 ≤ M := by omega
        have hb1 : M < 2147483647 := by have h1 := HN.out; have h2 := Nums.valid_iff.1 hh.out; omega
        clear hM hb
        go_wp2
        go_roundw
        case rel => exact ⟨6, by omega, next_div N 5 M HM.out, rfl, congrArg (fun x => w1.alloc (.cells #[.int .u8 0, .int .u8 0, x, dg N 4, dg N 3, dg N 2, dg N 1, dg N 0] 99)) (dig_val N 5 M HM.out _)⟩
        case measure => simp [intOf]
      | 6, _ =>
        rw [arr6]
        have hb : N / 16 ^ 6 ≤ N := Nat.div_le_self _ _
        generalize hM : ((N / 16 ^ 6 : Nat) : Int) = M
        have HM : Hid (((N / 16 ^ 6 : Nat) : Int) = M) := hM
        have hb0 : 0 ≤ M := by omega
        have hb1 : M < 2147483647 := by have h1 := HN.out; have h2 := Nums.valid_iff.1 hh.out; omega
        clear hM hb
        go_wp2
        go_roundw
        case rel => exact ⟨7, by omega, next_div N 6 M HM.out, rfl, congrArg (fun x => w1.alloc (.cells #[.int .u8 0, x, dg N 5, dg N 4, dg N 3, dg N 2, dg N 1, dg N 0] 99)) (dig_val N 6 M HM.out _)⟩
        case measure => simp [intOf]
      | 7, _ =>
        rw [arr7]
        have hb : N / 16 ^ 7 ≤ N := Nat.div_le_self _ _
        generalize hM : ((N / 16 ^ 7 : Nat) : Int) = M
        have HM : Hid (((N / 16 ^ 7 : Nat) : Int) = M) := hM
        have hb0 : 0 ≤ M := by omega
        have hb1 : M < 2147483647 := by have h1 := HN.out; have h2 := Nums.valid_iff.1 hh.out; omega
        clear hM hb
        go_wp2
        go_roundw
        case rel => exact ⟨8, by omega, next_div N 7 M HM.out, rfl, congrArg (fun x => w1.alloc (.cells #[x, dg N 6, dg N 5, dg N 4, dg N 3, dg N 2, dg N 1, dg N 0] 99)) (dig_val N 7 M HM.out _)⟩
        case measure => simp [intOf]
    · obtain rfl : j = 8 := by omega
      have kc := run_convert_bytes_back (P := Tryz.prog) (w1.alloc (.cells (arr N 8) 99)) 100 9 5 ⟨w1.heap.size, 0, none⟩ 8 (Nums.hexOf 8 N) Tryz.underlying100 Tryz.underlying5 Tryz.underlying9 (fun i hi => by
        rw [show arr N 8 = (WalkMix.cells (Nums.hexOf 8 N)).toArray from (cells_text N).symm]
        rw [add_at]
        simp [WalkMix.cells, hi])
      rw [Nums.hexOf_length] at kc
      rw [arr8] at kc ⊢
      have kd : (convert 100 9 (.slice (some ⟨w1.heap.size, 0, none⟩) 8 8)).run Tryz.prog (w1.alloc (.cells #[dg N 7, dg N 6, dg N 5, dg N 4, dg N 3, dg N 2, dg N 1, dg N 0] 99)) = .ok (.string (Nums.str (Nums.hexOf 8 N))) (w1.alloc (.cells #[dg N 7, dg N 6, dg N 5, dg N 4, dg N 3, dg N 2, dg N 1, dg N 0] 99)) := kc
      generalize hM : ((N / 16 ^ 8 : Nat) : Int) = M
      clear hM kc
      go_wp2
      go_ret2
      exact ⟨by rw [Nums.text, HN.out]; rfl, (Below.refl _ _).alloc (Nat.le_refl _) _⟩

end Go.Proofs.YtlibjdkofajahaaGreatDoor.WalkHex
