/-
  What the program's Root of Peaks returns, and what Of makes of a size and parts.
-/
import Derived.Test.YticadkggaanbjaaGreatDoorWalkAppend
namespace Go.Proofs.YticadkggaanbjaaGreatDoor.WalkPeakRoot
open Go.RowKit
open Lists (Row ints bt)
open Keeps (Kept owns_kept owns_open owns_set owns_take owns_row owns_base)
open WalkCheck (errv errv0 errv_pos)
open WalkPeaks (Pk foot info3)

def lenOf : Value → Nat
  | .slice _ n _ => n
  | _ => 0

/-- the root of all, by the parts -/
def rootP (s : Nat) (xs : List Int) : Int := if s = 0 then Sums.sum [] else Peaks.foldj xs

theorem root_none (w : World) (B b : Nat) (v : Value) (xs : List Int) (h : Pk w B b 0 v xs) :
    Calls Tryz.prog 33 #[.pointer (some ⟨b, 0, none⟩)] w fun e w' => e = .returned (.int .i64 (Sums.sum [])) ∧ w' = w := by
  have c0 : w.cell? ⟨b, 0, none⟩ = some (.int .i64 0) := h.lies.cell (i := 0) (by omega)
  clear h
  go_enter Tryz.func33, Tryz.ntmps33
  go_wp2_with (go_at_call 98; refine (WalkSum.sum_any _ _ (by decide)).mono ?_; rintro e w' ⟨rfl, rfl⟩)
  go_ret
  exact ⟨rfl, rfl⟩

set_option maxHeartbeats 1000000 in
theorem root_some (w : World) (B b s : Nat) (v : Value) (xs : List Int) (h : Pk w B b s v xs) (h0 : 1 ≤ s) (h1 : 1 ≤ xs.length) (h2 : xs.length ≤ 1000) (hv : ∀ x ∈ xs, Nums.valid x = true) :
    Calls Tryz.prog 33 #[.pointer (some ⟨b, 0, none⟩)] w fun e w' => e = .returned (.int .i64 (Peaks.foldj xs)) ∧ Below w.heap.size w w' := by
  have c0 : w.cell? ⟨b, 0, none⟩ = some (.int .i64 (s : Int)) := h.lies.cell (i := 0) (by omega)
  have cP := WalkPeaks.parts_any w B b s v xs h h2
  have HV : Hid (∀ x ∈ xs, Nums.valid x = true) := hv
  have i0 : ((s : Int) == 0) = false := by simp; omega
  clear h hv
  go_enter Tryz.func33, Tryz.ntmps33
  go_wp2_with fail
  refine cP.mono ?_
  rintro e w1 ⟨u, rfl, o1, b1⟩
  have HO : Hid (w1.ownsRow w.heap.size 3 1 u xs.length (ints xs)) := o1
  have HB : Hid (Below w.heap.size w w1) := b1
  clear cP o1 b1 c0
  go_wp2_with fail
  go_loopw [3] (fun u wr => ∃ ys : List Int, wr.ownsRow w.heap.size 3 1 u ys.length (ints ys) ∧ 1 ≤ ys.length ∧ ys.length ≤ 1000 ∧ (∀ x ∈ ys, Nums.valid x = true) ∧ Peaks.foldj ys = Peaks.foldj xs ∧ Below w.heap.size w wr) (fun u _ => lenOf u)
  case atStart => exact ⟨xs, HO.out, h1, h2, HV.out, rfl, HB.out⟩
  case round =>
    obtain ⟨ys, o2, y1, y2, yv, yf, hb⟩ := hrel
    obtain ⟨a2, cp2, rfl, hr2, _⟩ := owns_row o2
    have HF : Hid (Peaks.foldj ys = Peaks.foldj xs) := yf
    clear HO HB HV yf
    by_cases hl : 1 < ys.length
    · have i1 : (1 : Int) < (ys.length : Int) := by omega
      obtain ⟨m, hm⟩ : ∃ m, ys.length = m + 2 := ⟨ys.length - 2, by omega⟩
      rw [hm] at o2
      have cJ := WalkJoin.joinLast_any ys (.slice a2 (m + 2) cp2) m w.heap.size wr hm (by omega) o2 yv
      have HB : Hid (Below w.heap.size w wr) := hb
      have HW : Hid (∀ x ∈ Peaks.joinLast ys, Nums.valid x = true) := Peaks.joinLast_valid ys yv
      have HG : Hid (Peaks.foldj (Peaks.joinLast ys) = Peaks.foldj ys) := Peaks.foldj_join ys (by omega)
      have jl := Peaks.joinLast_length ys (by omega)
      have HS : Hid (∀ k, (Value.slice a2 (m + 2) cp2).ownBlock = some k → w.heap.size ≤ k) := fun k hk => (o2.lt k hk).1
      clear o2 hr2 yv hb
      go_wp2_with fail
      refine cJ.mono ?_
      rintro e w4 ⟨v3, rfl, o3, b3, k3⟩
      have HB4 : Hid (Below w.heap.size w w4) := HB.out.trans (k3.below HS.out HB.out.size)
      have HO3 : Hid (w4.ownsRow w.heap.size 3 1 v3 (Peaks.joinLast ys).length (ints (Peaks.joinLast ys))) := by rw [jl, show ys.length - 1 = m + 1 by omega]; exact o3
      have HL : Hid (lenOf v3 = m + 1) := by
        obtain ⟨a3, cp3, rfl, _⟩ := owns_row o3
        rfl
      clear o3 b3 k3 cJ HB
      go_wp2_with fail
      go_roundw
      case rel => exact ⟨Peaks.joinLast ys, HO3.out, by omega, by omega, HW.out, by rw [HG.out, HF.out], HB4.out⟩
      case measure => rw [HL.out]; simp [lenOf]; omega
    · have e1 : ys.length = 1 := by omega
      have i1 : ¬ (1 : Int) < (ys.length : Int) := by omega
      obtain ⟨b2, off2, rfl, hc⟩ := hr2.2.2 (by omega)
      have q0 : wr.cell? ⟨b2, off2, none⟩ = some (.int .i64 (ys.getD 0 0)) := by
        have := hc 0 _ (Lists.ints_at (by omega))
        simpa using this
      have HX : Hid (ys.getD 0 0 = Peaks.foldj xs) := by
        have h := HF.out
        match ys, e1 with
        | [y], _ => exact h
      have HB : Hid (Below w.heap.size w wr) := hb
      have i2 : (0 : Int) < (ys.length : Int) := by omega
      generalize ys.getD 0 0 = y at q0 HX
      generalize ys.length = n at i1 i2 y1 y2
      clear hc hr2 o2 yv hb
      go_wp2_with fail
      go_ret
      exact ⟨by rw [HX.out]; rfl, HB.out⟩


end Go.Proofs.YticadkggaanbjaaGreatDoor.WalkPeakRoot
