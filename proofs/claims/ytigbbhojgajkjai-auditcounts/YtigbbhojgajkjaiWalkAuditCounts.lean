/-
  The walk of AuditCounts: of so many entries there are as many tiles as the document's All names, each of so many sums.
-/
import Derived.Test.YtigbbhojgajkjaiWalkAuTiles
import Derived.Test.YtigbbhojgajkjaiSomes
import Derived.Test.YtigbbhojgajkjaiWalkSome
import Derived.Test.YtigbbhojgajkjaiWalkTileAll
import Derived.Test.YtigbbhojgajkjaiTileRows
import Derived.BigQuiet
import Derived.Deep.QuietTactic
namespace Go.Proofs.Ytigbbhojgajkjai.WalkAuditCounts
open Go.RowKit
open Lists (Row ints bt)
open Wides (Wide)
open Entries (Entry entsE leafsOf)
open Errs (errv errv0)
open Somes (some_)
open SumRows (Rs)
open IntRows (Rowss)
open Tiles (Tile tiles)
open Audits (tilesL want)

theorem below_drewN {B : Nat} {a w : World} (h : Below B a w) (n : Nat) : Below B a (w.drewN n) := ⟨h.os, h.tape, h.output, h.size, h.block⟩
theorem tiles_some {k : Nat} (h : k ≤ 60) : tilesL (some_ k) = want (some_ k) ∧ (want (some_ k)).length = (tiles k).length := by
  refine ⟨if_pos (Somes.some_ok (by omega)), ?_⟩
  rw [Audits.want_length, Somes.some_length]
theorem wide_some {k i : Nat} {t : Tile} (h : (tiles k)[i]? = some t) : ∃ q : List Int, (want (some_ k))[i]? = some q ∧ q.length = t.2.2 := by
  refine ⟨Tiles.sumsOf (leafsOf (some_ k)) t, ?_, Tiles.sumsOf_length _ _⟩
  rw [Audits.want_at, Somes.some_length, h]
  rfl
theorem data_some {k : Nat} (hk : k ≤ 60) : ∀ e ∈ some_ k, e.2.size ≤ maxLen := fun e he => by
  have := (Entries.ent_ok ((Entries.ents_ok (Somes.some_ok (n := k) (by omega))).2 e he)).2.2
  unfold maxLen
  omega

set_option maxHeartbeats 8000000 in
set_option maxRecDepth 100000 in
theorem walk (n : Int) (_ : (Lit.int .i64 n).wf = true) (w : World) :
    Calls Try.prog 3 #[.int .i64 n] w fun e w' => e = .returned (.bool true) ∧ Below w.heap.size w w' := by
  have HSm : Hid (∀ (k : Nat), k ≤ 60 → ∀ w', Calls Try.prog 5 #[.int .i64 (k : Int)] w' fun e w'' => ∃ v, e = .returned v ∧ w''.ownsRow w'.heap.size 40 2 v k (EntRows.cells (some_ k)) ∧ Below w'.heap.size w' w'') := fun k hk w' => WalkSome.some_any k (by omega) w'
  have HTl : Hid (∀ (k : Nat), k ≤ 60 → ∀ a c w', Wide 2 w' a k c (EntRows.cells (some_ k)) → Calls Try.prog 4 #[.slice a k c] w' fun e w'' => ∃ x y, e = .returned (.tuple #[.slice x (tiles k).length y, .nilIface]) ∧ Rowss w'' x (tiles k).length y (want (some_ k)) ∧ Below w'.heap.size w' w'') := fun k hk a c w' r => by
    have h := WalkAu.tiles_any (some_ k) a k c w' r (data_some hk)
    rw [(tiles_some hk).1, Somes.some_ok (by omega), errv0] at h
    refine h.mono ?_
    rintro e w'' ⟨v, vs, rfl, hrs, b⟩
    obtain ⟨x, y, rfl, hrow⟩ := hrs.rows
    rw [(tiles_some hk).2] at hrow ⊢
    exact ⟨x, y, rfl, hrow, b⟩
  have t2 : (tiles 2).length = 1 := by decide
  have HT2 := HTl.out 2 (by decide)
  rw [t2] at HT2
  have H2 : Hid (∀ a c w', Wide 2 w' a 2 c (EntRows.cells (some_ 2)) → Calls Try.prog 4 #[.slice a 2 c] w' fun e w'' => ∃ b off y ai ci, e = .returned (.tuple #[.slice (some ⟨b, off, none⟩) 1 y, .nilIface]) ∧ w''.cell? ⟨b, off, none⟩ = some (.slice ai 2 ci) ∧ Below w'.heap.size w' w'') := fun a c w' r => by
    refine (HT2 a c w' r).mono ?_
    rintro e w'' ⟨x, y, rfl, hrow, b⟩
    obtain ⟨bk, off, rfl, hc⟩ := hrow.2.2 (by decide)
    obtain ⟨q, q1, q2⟩ := wide_some (k := 2) (i := 0) (t := (0, 0, 2)) (by decide)
    obtain ⟨ai, ci, c1, _⟩ := hc 0 q q1
    rw [q2] at c1
    exact ⟨bk, off, y, ai, ci, rfl, c1, b⟩
  clear HT2
  go_enter Try.func3, Try.ntmps3
  go_wp2_with fail
  refine (HSm.out 2 (by decide) w).mono ?_
  rintro e w1 ⟨v1, rfl, o1, b1⟩
  obtain ⟨a1, c1, rfl, r1⟩ := Wides.owns_wide o1
  have cT := H2.out a1 c1 w1 r1
  have HB1 : Hid (Below w.heap.size w w1) := b1
  clear o1 b1 r1
  go_wp2_with fail
  refine cT.mono ?_
  rintro e w2 ⟨bk, off, y2, ai, ci, rfl, hc2, b2⟩
  have HB2 : Hid (Below w.heap.size w w2) := bt HB1.out b2
  clear cT b2 H2
  by_cases h0 : n < 0
  · go_wp2_with fail
    go_ret
    exact ⟨rfl, HB2.out⟩
  by_cases h1 : 60 < n
  · go_wp2_with fail
    go_ret
    exact ⟨rfl, HB2.out⟩
  obtain ⟨N, rfl⟩ := Int.eq_ofNat_of_zero_le (show 0 ≤ n by omega)
  have hN : N ≤ 60 := by omega
  have cAl := fun w' => WalkTileAll.all_any (N : Int) w'
  rw [show Tiles.sizeE (N : Int) = 0 from if_neg (by omega), show Tiles.allL (N : Int) = tiles N from (if_neg (by omega)).trans (by rw [Int.toNat_natCast]), errv0] at cAl
  obtain ⟨M, HM⟩ : ∃ M, Hid ((tiles N).length = M) := ⟨_, rfl⟩
  have HMb : Hid (M ≤ 200) := by
    show M ≤ 200
    rw [← HM.out]
    exact Tiles.upto_length N 4 (by omega) (by omega)
  have hM200 := HMb.out
  have cT := HTl.out N hN
  rw [HM.out] at cT cAl
  have HAl : Hid (∀ w', Calls Try.prog 6 #[.int .i64 (N : Int)] w' fun e w'' => ∃ v, e = .returned (.tuple #[v, .nilIface]) ∧ w''.ownsRow w'.heap.size 34 3 v M (TileRows.cells (tiles N)) ∧ Below w'.heap.size w' w'') := cAl
  have HT : Hid (∀ a c w', Wide 2 w' a N c (EntRows.cells (some_ N)) → Calls Try.prog 4 #[.slice a N c] w' fun e w'' => ∃ x y, e = .returned (.tuple #[.slice x M y, .nilIface]) ∧ Rowss w'' x M y (want (some_ N)) ∧ Below w'.heap.size w' w'') := cT
  clear cT cAl HTl t2
  go_wp2_with fail
  refine (HSm.out N hN _).mono ?_
  rintro e w3 ⟨v3, rfl, o3, b3⟩
  obtain ⟨a3, c3, rfl, r3⟩ := Wides.owns_wide o3
  have HB3 : Hid (Below w.heap.size w w3) := bt HB2.out b3
  have cT := HT.out a3 c3 w3 r3
  clear o3 b3 r3 hc2 HB2 HB1
  go_wp2_with fail
  refine cT.mono ?_
  rintro e w4 ⟨x4, y4, rfl, r4, b4⟩
  have HB4 : Hid (Below w.heap.size w w4) := bt HB3.out b4
  have HR4 : Hid (Rowss w4 x4 M y4 (want (some_ N))) := r4
  clear cT r4 b4 HB3
  go_wp2_with fail
  refine (HAl.out w4).mono ?_
  rintro e w5 ⟨v5, rfl, o5, b5⟩
  obtain ⟨a5, c5, rfl, r5⟩ := Wides.owns_wide o5
  have HB5 : Hid (Below w.heap.size w w5) := bt HB4.out b5
  have HR5 : Hid (∀ w', Below w5.heap.size w5 w' → Rowss w' x4 M y4 (want (some_ N))) := fun w' b => HR4.out.below (bt b5 b)
  have HT5 : Hid (∀ w', Below w5.heap.size w5 w' → Wide 3 w' a5 M c5 (TileRows.cells (tiles N))) := fun w' b => r5.below b
  have eM : ((M : Int) != (M : Int)) = false := by simp
  clear o5 r5 b5 HR4 HB4
  go_upto_region 11 with fail
  go_loopw [9] (fun iv wr => ∃ i : Nat, i ≤ M ∧ iv = .int .i64 (i : Int) ∧ Hid (Below w5.heap.size w5 wr)) (fun iv _ => M - (intOf iv).toNat)
  case atStart => exact ⟨0, Nat.zero_le _, rfl, Below.refl _ _⟩
  case round =>
    obtain ⟨i, hi, rfl, HBr⟩ := hrel
    by_cases hlt : i < M
    · have i1 : (i : Int) < (M : Int) := by omega
      have hil : i < (tiles N).length := by rw [HM.out]; exact hlt
      obtain ⟨g4, f4, rfl, hc4⟩ := (HR5.out wr HBr.out).2.2 (by omega)
      obtain ⟨g5, f5, rfl, _⟩ := (HT5.out wr HBr.out).2.2 (by omega)
      obtain ⟨q, q1, q2⟩ := wide_some (k := N) (i := i) (List.getElem?_eq_getElem hil)
      obtain ⟨ai4, ci4, p0, _⟩ := hc4 i q q1
      have p2 := (TileRows.at_three (HT5.out wr HBr.out) i hil).2.2
      rw [q2] at p0
      generalize (tiles N)[i] = t at p0 p2
      obtain ⟨t0, t1, t2⟩ := t
      simp only at p0 p2
      have et : ((t2 : Int) != (t2 : Int)) = false := by simp
      clear hc4 q1 q2 hil
      go_wp2_with fail
      go_quiet (fail)
      go_wp2_with fail
      go_roundw
      case rel => exact ⟨i + 1, by omega, by go_num, below_drewN HBr.out _⟩
      case measure => simp [intOf]; omega
    · have i1 : ¬ (i : Int) < (M : Int) := by omega
      go_wp2_with fail
      go_ret
      exact ⟨rfl, bt HB5.out HBr.out⟩

end Go.Proofs.Ytigbbhojgajkjai.WalkAuditCounts
