/-
  The walk of EntryLong: four bytes and what it says, of an entry.
-/
import Derived.Test.YtibmgmadoaencadWalkEnt
import Derived.Deep.CutBlock
import Derived.BigQuiet
import Derived.Deep.QuietTactic
namespace Go.Proofs.Ytibmgmadoaencad.WalkEntryLong
open Go.RowKit
open Lists (bt)
open Errs (errv errv0 errv_pos)
open Entries (Entry entE encV)
open Nums (str)

theorem aggE (w : World) : (isAgg 23).run Try.prog w = .ok true w := by kernel_rfl
theorem sizeE (w : World) : (sizeOf 23).run Try.prog w = .ok 2 w := by kernel_rfl
theorem below_drewN {B : Nat} {a w : World} (h : Below B a w) (n : Nat) : Below B a (w.drewN n) := ⟨h.os, h.tape, h.output, h.size, h.block⟩
theorem beq_yes (x : ByteArray) : (x.toList == x.toList) = true := beq_self_eq_true _
theorem fact_ok : entE ((0 : Int), (⟨#[97, 98, 99]⟩ : ByteArray)) = 0 := by decide +kernel
theorem fact_len : (str (encV ((0 : Int), (⟨#[97, 98, 99]⟩ : ByteArray)))).size = 7 := by
  rw [Nums.str_size]
  unfold encV
  rw [if_pos fact_ok, Entries.bytes_length]
  rfl
theorem enc_size {t : Int} {d : ByteArray} (h : entE (t, d) = 0) : (str (encV (t, d))).size = 4 + d.size := by
  rw [Nums.str_size]
  unfold encV
  rw [if_pos h, Entries.bytes_length]
theorem enc_data {t : Int} {d : ByteArray} (h : entE (t, d) = 0) : (str (encV (t, d))).extract 4 (str (encV (t, d))).size = d := by
  rw [enc_size h]
  unfold encV
  rw [if_pos h]
  apply ByteArray.ext
  apply Array.toList_inj.1
  have q : d.data.toList.take d.size = d.data.toList := List.take_of_length_le (by simp)
  have e : 4 + d.size - 4 = d.size := by omega
  simp [str, Entries.bytes, e, q]

set_option maxHeartbeats 4000000 in
set_option maxRecDepth 100000 in
theorem walk (t0 : Int) (_ : (Lit.int .i64 t0).wf = true) (d0 : ByteArray) (hd0 : d0.size ≤ maxLen) (w : World) :
    Calls Try.prog 4 #[.agg #[.int .i64 t0, .string d0]] w fun e w' => e = .returned (.bool true) ∧ Below w.heap.size w w' := by
  have HB0 : Hid (Below w.heap.size w (w.alloc (.cells #[.int .i64 t0, .string d0] 23))) := (Below.refl _ _).alloc (Nat.le_refl _) _
  have HC : Hid ((w.alloc (.cells #[.int .i64 t0, .string d0] 23)).cell? ⟨w.heap.size, 0, none⟩ = some (.int .i64 t0) ∧ (w.alloc (.cells #[.int .i64 t0, .string d0] 23)).cell? ⟨w.heap.size, 1, none⟩ = some (.string d0)) := ⟨by simp, by simp⟩
  have HD : Hid (d0.size ≤ maxLen) := hd0
  have hm : (d0.size : Int) ≤ 9223372036854775807 := by unfold maxLen at hd0; omega
  have c0 := fun w1 => WalkEnt.encode_any 0 ⟨#[97, 98, 99]⟩ w1 (by decide)
  rw [fact_ok, errv0] at c0
  have z0 := fact_len
  generalize str (encV ((0 : Int), (⟨#[97, 98, 99]⟩ : ByteArray))) = X0 at c0 z0
  clear hd0
  have a23 := aggE
  have z23 := sizeE
  go_enter Try.func4, Try.ntmps4
  go_upto_region 1 with fail
  generalize w.alloc (.cells #[.int .i64 t0, .string d0] 23) = w0 at HB0 HC ⊢
  go_wp2_with fail
  refine (c0 _).mono ?_
  rintro e w1 ⟨rfl, b1⟩
  have k0 := Lists.cell_below b1 HC.out.1
  have k1 := Lists.cell_below b1 HC.out.2
  clear c0
  go_wp2_with fail
  refine (WalkEnt.encode_any t0 d0 _ HD.out).mono ?_
  rintro e w2 ⟨rfl, b2⟩
  replace b1 := bt b1 b2
  replace k0 := Lists.cell_below b1 HC.out.1
  replace k1 := Lists.cell_below b1 HC.out.2
  have HBE : Hid (Below w.heap.size w w2) := bt HB0.out b1
  clear b1 b2
  by_cases hE : entE (t0, d0) = 0
  · rw [hE, errv0]
    have x0 := enc_size hE
    have HX : Hid ((str (encV (t0, d0))).extract 4 (str (encV (t0, d0))).size = d0) := enc_data hE
    have x2 := beq_yes d0
    have hsz := (Entries.ent_ok hE).2.2
    simp only at hsz
    generalize str (encV (t0, d0)) = X at x0 HX
    have x3 : ((X.size : Int) == 4 + (d0.size : Int)) = true := by rw [beq_iff_eq]; omega
    have x4 : (4 : Int) ≤ (X.size : Int) := by omega
    have x5 : X.extract 4 X.size = d0 := HX.out
    have x6 : (d0.size : Int) ≤ 200 := by omega
    have x7 : (0 : Int) ≤ (d0.size : Int) := by omega
    clear hE HX x0 hsz
    go_wp2_with fail
    go_quiet (fail)
    go_wp2_with fail
    go_ret
    exact ⟨rfl, below_drewN HBE.out _⟩
  · rw [errv_pos _ hE]
    unfold entE at hE
    simp only at hE
    by_cases h0 : t0 < 0
    · clear hE
      go_wp2_with fail
      go_ret
      exact ⟨rfl, HBE.out⟩
    · by_cases h1 : 1000000 < t0
      · clear hE
        go_wp2_with fail
        go_ret
        exact ⟨rfl, HBE.out⟩
      · have h2 : (200 : Int) < (d0.size : Int) := by
          rw [if_neg (by omega)] at hE
          by_cases h3 : 200 < d0.size
          · omega
          · rw [if_neg h3] at hE; exact absurd rfl hE
        clear hE
        go_wp2_with fail
        go_ret
        exact ⟨rfl, HBE.out⟩

end Go.Proofs.Ytibmgmadoaencad.WalkEntryLong
