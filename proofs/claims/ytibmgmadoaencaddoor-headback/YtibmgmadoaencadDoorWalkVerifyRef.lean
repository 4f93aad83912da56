/-
  What the document's own answers (package witref1) return on heads: Verify, Number, Cut, ReadHead.
-/
import Derived.Test.YtibmgmadoaencadDoorWalkHeadRef
import Derived.Test.YtibmgmadoaencadDoorKeeps
import Derived.Lib.QuietBelow
import Derived.Deep.DeepMust
namespace Go.Proofs.YtibmgmadoaencadDoor.WalkVerifyRef
open Go.RowKit
open Lists (Row strs bt)
open Heads (Head ok headE print said signOf isKey verifyE)
open Decimals (dec dig number words)
open Nums (str text valid)
open HeadVals (hv aggH sizeH)
open Go.Sort (grow)

theorem head_cells (h : Head) (w : World) : (w.alloc (.cells #[.int .i64 h.size, .int .i64 h.root, .int .i64 h.time, .int .i64 h.sign] 59)).cell? ⟨w.heap.size, 0, none⟩ = some (.int .i64 h.size) ∧ (w.alloc (.cells #[.int .i64 h.size, .int .i64 h.root, .int .i64 h.time, .int .i64 h.sign] 59)).cell? ⟨w.heap.size, 1, none⟩ = some (.int .i64 h.root) ∧ (w.alloc (.cells #[.int .i64 h.size, .int .i64 h.root, .int .i64 h.time, .int .i64 h.sign] 59)).cell? ⟨w.heap.size, 2, none⟩ = some (.int .i64 h.time) ∧ (w.alloc (.cells #[.int .i64 h.size, .int .i64 h.root, .int .i64 h.time, .int .i64 h.sign] 59)).cell? ⟨w.heap.size, 3, none⟩ = some (.int .i64 h.sign) := ⟨by simp, by simp, by simp, by simp⟩

set_option maxHeartbeats 1000000 in
theorem verify_any (h : Head) (key : Int) (w : World) :
    Calls Tryd.prog 30 #[hv h, .int .i64 key] w fun e w' => e = .returned (.int .i64 (verifyE h key : Nat)) ∧ Below w.heap.size w w' := by
  have HB : Hid (Below w.heap.size w (w.alloc (.cells #[.int .i64 h.size, .int .i64 h.root, .int .i64 h.time, .int .i64 h.sign] 59))) := (Below.refl _ _).alloc (Nat.le_refl _) _
  obtain ⟨k0, k1, k2, k3⟩ := head_cells h w
  have cH := WalkHeadRef.head_any h
  have cS := WalkHeadRef.signed_any h key
  have HE : Hid (verifyE h key = if isKey key = true ∧ ok h = true then (if h.sign = signOf h key then 0 else 9) else 1) := rfl
  have HO : Hid (headE h = 0 ↔ ok h = true) := Heads.headE_zero
  obtain ⟨a, b, c, d⟩ := h
  unfold hv at cH cS ⊢
  simp only at k0 k1 k2 k3 cH cS HB ⊢
  generalize headE ⟨a, b, c, d⟩ = E at cH HO
  obtain ⟨V, HVE⟩ : ∃ V : Nat, Hid (verifyE ⟨a, b, c, d⟩ key = V) := ⟨_, rfl⟩
  rw [HVE.out]
  rw [HVE.out] at HE
  have a52 := aggH
  have z52 := sizeH
  go_enter Tryd.func30, Tryd.ntmps30
  go_upto_region 1 with fail
  generalize w.alloc (.cells #[.int .i64 a, .int .i64 b, .int .i64 c, .int .i64 d] 59) = w1 at HB k0 k1 k2 k3 ⊢
  go_wp2_with fail
  refine (WalkHeadRef.key_any key _).mono ?_
  rintro e w2 ⟨rfl, rfl⟩
  cases hy : isKey key
  · have HV : Hid (V = 1) := by show _ = _; rw [HE.out]; exact if_neg (fun q => by rw [hy] at q; cases q.1)
    clear hy cH cS
    go_wp2_with fail
    go_ret
    exact ⟨by rw [HV.out]; rfl, HB.out⟩
  · have HY : Hid (isKey key = true) := hy
    clear hy
    go_wp2_with fail
    refine (cH _).mono ?_
    rintro e w3 ⟨rfl, b3⟩
    by_cases h0 : E = 0
    · have hk := HO.out.1 h0
      have hx : (((E : Nat) : Int) != 0) = false := by rw [h0]; rfl
      have k0' := Lists.cell_below b3 k0
      have k1' := Lists.cell_below b3 k1
      have k2' := Lists.cell_below b3 k2
      have k3' := Lists.cell_below b3 k3
      have HB3 : Hid (Below w.heap.size w w3) := bt HB.out b3
      have c1 : ∀ dd os, Calls Tryd.prog 33 #[.agg #[.int .i64 a, .int .i64 b, .int .i64 c, .int .i64 d], .int .i64 key] (grow (redrawn w3 dd) os) fun e w'' => e = .returned (.int .i64 (signOf ⟨a, b, c, d⟩ key)) ∧ ∃ p : Regrown, w'' = grow (redrawn w3 p.d) p.os :=
        fun dd os => Calls.regrown_of (cS _ hk HY.out)
      have HV : Hid (V = if d = signOf ⟨a, b, c, d⟩ key then 0 else 9) := by show _ = _; rw [HE.out]; exact if_pos ⟨HY.out, hk⟩
      generalize signOf ⟨a, b, c, d⟩ key = S at c1 HV
      have r0 := fun dd os => cell_regrown k0' dd os
      have r1 := fun dd os => cell_regrown k1' dd os
      have r2 := fun dd os => cell_regrown k2' dd os
      have r3 := fun dd os => cell_regrown k3' dd os
      clear h0 hk cH cS b3
      by_cases hs : d = S
      · have hq : (d != S) = false := by rw [hs]; simp
        have HW : Hid (V = 0) := by rw [HV.out]; exact if_pos hs
        clear hs
        go_wp2_with fail
        refine wp_region_quiet_below (by kernel_rfl) (by kernel_rfl) ?_
        repeat (quiet_step (fail))
        quiet_step (exact c1 _ _)
        repeat (quiet_step (fail))
        refine wpQuiet_nil ?_
        intro _ hw'
        obtain ⟨⟨dq, osq⟩, hw''⟩ := hw'
        subst hw''
        go_wp2_with fail
        go_ret
        exact ⟨by rw [HW.out]; rfl, bt HB3.out (below_regrown w3 dq osq)⟩
      · have hq : (d != S) = true := by rw [bne_iff_ne]; exact hs
        have HW : Hid (V = 9) := by rw [HV.out]; exact if_neg hs
        clear hs
        go_wp2_with fail
        refine wp_region_quiet_below (by kernel_rfl) (by kernel_rfl) ?_
        repeat (quiet_step (fail))
        quiet_step (exact c1 _ _)
        repeat (quiet_step (fail))
        refine wpQuiet_nil ?_
        intro _ hw'
        obtain ⟨⟨dq, osq⟩, hw''⟩ := hw'
        subst hw''
        go_wp2_with fail
        go_ret
        exact ⟨by rw [HW.out]; rfl, bt HB3.out (below_regrown w3 dq osq)⟩
    · have hx : (((E : Nat) : Int) != 0) = true := by rw [bne_iff_ne]; omega
      have HV : Hid (V = 1) := by show _ = _; rw [HE.out]; exact if_neg (fun q => h0 (HO.out.2 q.2))
      have HB3 : Hid (Below w.heap.size w w3) := bt HB.out b3
      clear h0 cH cS b3
      go_wp2_with fail
      go_ret
      exact ⟨by rw [HV.out]; rfl, HB3.out⟩

end Go.Proofs.YtibmgmadoaencadDoor.WalkVerifyRef
