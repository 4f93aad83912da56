/-
  What package slices does with a few pairs for the stable sort: by insertion.
-/
import Derived.Test.YtbepfeajaoaocafWalkSwap
import Derived.Lib.QuietBelow
namespace Go.Proofs.Ytbepfeajaoaocaf.WalkInsSort
open Go.RowKit
open Lists (bt)
open Keeps (Kept)
open Stores (Pair lt)
open Spots (cmp)
open WalkStoFind (aggP sizeP)
open WalkSwap (At only)
open Stables Merges

/-- how the sort compares: by key -/
abbrev byKey : Value := .func (.func 48) #[] #[]
theorem byKey_any (x0 x1 : ByteArray) (x2 : Bool) (y0 y1 : ByteArray) (y2 : Bool) (w : World) : Calls Try.prog 48 #[.agg #[.string x0, .string x1, .bool x2], .agg #[.string y0, .string y1, .bool y2]] w fun e w' => e = .returned (.int .i64 (cmp x0 y0)) ∧ Below w.heap.size w w' := by
  have b0 : Below w.heap.size w ((w.alloc (.cells #[.string x0, .string x1, .bool x2] 38)).alloc (.cells #[.string y0, .string y1, .bool y2] 38)) := ((Below.refl _ _).alloc (Nat.le_refl _) _).alloc (by simp) _
  go_enter Try.func48, Try.ntmps48
  go_wp2_with fail
  refine (WalkStoFind.compare_any x0 y0 _).mono ?_
  rintro e w1 ⟨rfl, rfl⟩
  go_wp2_with fail
  go_ret
  exact ⟨rfl, b0⟩
/-- what it says, as the sort asks -/
theorem cmp_lt (a b : ByteArray) : decide (cmp a b < 0) = lt a b := by
  cases h : lt a b with
  | true => rw [Spots.cmp_neg h]; rfl
  | false =>
    have : ¬ cmp a b < 0 := by
      by_cases e : a = b
      · rw [e, Spots.cmp_zero]; decide
      · rw [Spots.cmp_pos h e]; decide
    exact decide_eq_false this

set_option maxHeartbeats 4000000 in
set_option maxRecDepth 100000 in
theorem ins_any (d : List Pair) (T : List Value) (g cap a b : Nat) (w : World) (hL : At w g d T) (hd : d.length ≤ 1000000) (h1 : a ≤ b) (h2 : b ≤ d.length) :
    Calls Try.prog 76 #[.slice (some ⟨g, 0, none⟩) d.length cap, .int .i64 (a : Int), .int .i64 (b : Int), byKey] w fun e w' =>
      e = .returned (.tuple #[]) ∧ (∃ d', Sorts a b d d' ∧ At w' g d' T) ∧ Kept (only g) w w' := by
  have a26 := aggP
  have z26 := sizeP
  have HL : Hid (At w g d T) := hL
  have HS : Hid (Sorts a (min (a + 1) b) d d) := sorts_start (by omega) (by omega) (by omega)
  generalize hN : d.length = N at *
  have HN : Hid (d.length = N) := hN
  clear hL hN
  go_enter Try.func76, Try.ntmps76
  go_wp2_with fail
  go_loopw [8] (fun iv wr => ∃ (i : Nat) (dk : List Pair), a + 1 ≤ i ∧ i ≤ N + 1 ∧ iv = .int .i64 (i : Int) ∧ Hid (Sorts a (min i b) d dk) ∧ Hid (At wr g dk T) ∧ Hid (Kept (only g) w wr)) (fun iv _ => N + 1 - (intOf iv).toNat)
  case atStart => exact ⟨a + 1, d, Nat.le_refl _, by omega, by go_num, HS, HL, Kept.refl _ _⟩
  case round =>
    obtain ⟨i, dk, hi1, hi2, rfl, HSk, HLk, HKk⟩ := hrel
    by_cases hlt : i < b
    · have i1 : (i : Int) < (b : Int) := by omega
      have hmin : min i b = i := by omega
      have HSI : Hid (Sinks a i i d dk) := by
        have h := HSk.out
        rw [hmin] at h
        exact sinks_start h (by have := HN.out; omega)
      have hmin2 : min (i + 1) b = i + 1 := by omega
      have HM : Hid (min (i + 1) b = i + 1) := hmin2
      clear HSk hmin hmin2
      go_upto_region 4 with fail
      go_loopw [9] (fun jv wr => ∃ (j : Nat) (dk : List Pair), a ≤ j ∧ j ≤ i ∧ jv = .int .i64 (j : Int) ∧ Hid (Sinks a i j d dk) ∧ Hid (At wr g dk T) ∧ Hid (Kept (only g) w wr)) (fun jv _ => (intOf jv).toNat)
      case atStart => exact ⟨i, dk, by omega, Nat.le_refl _, rfl, HSI, HLk, HKk⟩
      clear HSI HLk HKk
      case round =>
        obtain ⟨j, dk, hj1, hj2, rfl, HSj, HLj, HKj⟩ := hrel
        have hlen := HSj.out.length
        rw [HN.out] at hlen
        by_cases hja : a < j
        · have j1 : (a : Int) < (j : Int) := by omega
          obtain ⟨J, hJ⟩ : ∃ J : Nat, J = j - 1 := ⟨_, rfl⟩
          have e1 : (j : Int) - 1 = (J : Int) := by omega
          have w1 : IntKind.i64.wrap (J : Int) = (J : Int) := by rw [IntKind.wrap_i64]; omega
          have b1 : (J : Int) < (N : Int) := by omega
          have b2 : (j : Int) < (N : Int) := by omega
          obtain ⟨p, hp⟩ : ∃ p, dk[J]? = some p := ⟨dk[J]'(by omega), List.getElem?_eq_getElem _⟩
          obtain ⟨q, hq⟩ : ∃ q, dk[j]? = some q := ⟨dk[j]'(by omega), List.getElem?_eq_getElem _⟩
          obtain ⟨p0, p1, p2⟩ := HLj.out.cell hp
          obtain ⟨q0, q1, q2⟩ := HLj.out.cell hq
          have HX : Hid (lt q.key p.key = true → Sinks a i J d ((dk.set j p).set J q)) := fun hlt => by
            rw [List.set_comm _ _ (by omega), hJ]
            exact sinks_step HSj.out hja (by rw [← hJ]; exact hp) hq hlt
          have HY : Hid (lt q.key p.key = false → Sorts a (i + 1) d dk) := fun hlt => sinks_end HSj.out (.inr ⟨p, q, by rw [← hJ]; exact hp, hq, hlt⟩)
          have HP : Hid (J < dk.length ∧ j < dk.length ∧ J + 1 = j) := ⟨by omega, by omega, by omega⟩
          obtain ⟨pk, pv, pg⟩ := p
          obtain ⟨qk, qv, qg⟩ := q
          simp only at p0 p1 p2 q0 q1 q2
          have s0 := fun dd os => cell_regrown p0 dd os
          have s1 := fun dd os => cell_regrown p1 dd os
          have s2 := fun dd os => cell_regrown p2 dd os
          have t0 := fun dd os => cell_regrown q0 dd os
          have t1 := fun dd os => cell_regrown q1 dd os
          have t2 := fun dd os => cell_regrown q2 dd os
          have f0 : ∀ W, Below wr.heap.size wr W → At W g dk T ∧ Kept (only g) w W := fun W b => ⟨HLj.out.below b, HKj.out.then b⟩
          have HF : Hid (∀ W, Below wr.heap.size wr W → At W g dk T ∧ Kept (only g) w W) := f0
          have HPQ : Hid (dk[J]? = some ⟨pk, pv, pg⟩ ∧ dk[j]? = some ⟨qk, qv, qg⟩) := ⟨hp, hq⟩
          clear hp hq hJ hlen p0 p1 p2 q0 q1 q2 f0 HSj HLj HKj
          cases hl : lt qk pk with
          | true =>
            have x1 := fun dd os => Calls.regrown_of (w := wr) (d := dd) (os := os) (byKey_any qk qv qg pk pv pg _)
            rw [Spots.cmp_neg hl] at x1
            have HX2 := HX.out hl
            have HX3 : Hid (Sinks a i J d ((dk.set j ⟨pk, pv, pg⟩).set J ⟨qk, qv, qg⟩)) := HX2
            clear HX HY hl HX2
            go_upto_region 4 with fail
            refine wp_region_quiet_below (by kernel_rfl) (by kernel_rfl) ?_
            iterate 14 (quiet_step (fail))
            quiet_step (exact x1 _ _)
            iterate 2 (quiet_step (fail))
            refine wpQuiet_nil ?_
            intro _ hw'
            obtain ⟨⟨dq, osq⟩, hw''⟩ := hw'
            subst hw''
            have bb := below_regrown wr dq osq
            clear s0 s1 s2 t0 t1 t2 x1
            generalize «Sort».grow (redrawn wr dq) osq = w4 at bb ⊢
            obtain ⟨l4, k4⟩ := HF.out w4 bb
            have HL4 : Hid (At w4 g dk T) := l4
            have HK4 : Hid (Kept (only g) w w4) := k4
            clear bb HF l4 k4
            go_upto_region 6 with fail
            obtain ⟨p0, p1, p2⟩ := HL4.out.cell HPQ.out.1
            obtain ⟨q0, q1, q2⟩ := HL4.out.cell HPQ.out.2
            have f0 : ∀ j, w4.frozen? ⟨g, j, none⟩ = false := fun j => WideCopy.Lies.frozen HL4.out j
            simp only at p0 p1 p2 q0 q1 q2
            go_region
            obtain ⟨HL5, HK5⟩ := WalkSwap.swapped HL4.out HK4.out HP.out.2.1 HP.out.1 qk qv qg pk pv pg
            clear p0 p1 p2 q0 q1 q2 f0 HL4 HK4
            generalize World.drew _ = w5 at HL5 HK5 ⊢
            go_wp2_with fail
            go_roundw
            case rel => exact ⟨J, _, by have := HP.out; omega, by have := HP.out; omega, rfl, HX3, HL5, HK5⟩
            case measure => have := HP.out; simp [intOf]; omega
          | false =>
            have x1 := fun dd os => Calls.regrown_of (w := wr) (d := dd) (os := os) (byKey_any qk qv qg pk pv pg _)
            have c0 : ¬ cmp qk pk < 0 := by
              have := cmp_lt qk pk
              rw [hl] at this
              exact of_decide_eq_false this
            have HX3 : Hid (Sorts a (min (i + 1) b) d dk) := by show Sorts _ _ _ _; rw [HM.out]; exact HY.out hl
            clear HX HY hl
            generalize cmp qk pk = c at x1 c0
            go_upto_region 4 with fail
            refine wp_region_quiet_below (by kernel_rfl) (by kernel_rfl) ?_
            iterate 14 (quiet_step (fail))
            quiet_step (exact x1 _ _)
            iterate 2 (quiet_step (fail))
            refine wpQuiet_nil ?_
            intro _ hw'
            obtain ⟨⟨dq, osq⟩, hw''⟩ := hw'
            subst hw''
            have bb := below_regrown wr dq osq
            clear s0 s1 s2 t0 t1 t2 x1
            generalize «Sort».grow (redrawn wr dq) osq = w4 at bb ⊢
            obtain ⟨l4, k4⟩ := HF.out w4 bb
            have HL4 : Hid (At w4 g dk T) := l4
            have HK4 : Hid (Kept (only g) w w4) := k4
            clear bb HF l4 k4 HPQ
            go_wp2_with fail
            go_roundw
            case rel => exact ⟨i + 1, dk, by omega, by omega, by go_num, HX3, HL4, HK4⟩
            case measure => simp [intOf]; omega
        · obtain rfl : j = a := by omega
          have j1 : ¬ (j : Int) < (j : Int) := by omega
          have HX3 : Hid (Sorts j (min (i + 1) b) d dk) := by show Sorts _ _ _ _; rw [HM.out]; exact sinks_end HSj.out (.inl rfl)
          have HL4 : Hid (At wr.drew g dk T) := HLj.out.drew
          have HK4 : Hid (Kept (only g) w wr.drew) := HKj.out.drew
          clear HSj HLj HKj hlen
          go_upto_region 4 with fail
          go_region
          generalize World.drew _ = w4 at HL4 HK4 ⊢
          go_wp2_with fail
          go_roundw
          case rel => exact ⟨i + 1, dk, by omega, by omega, by go_num, HX3, HL4, HK4⟩
          case measure => simp [intOf]; omega
    · have i1 : ¬ (i : Int) < (b : Int) := by omega
      have HE : Hid (Sorts a b d dk) := by
        have h := HSk.out
        rw [show min i b = b by omega] at h
        exact h
      go_wp2_with fail
      go_end0
      exact ⟨rfl, ⟨dk, HE.out, HLk.out⟩, HKk.out⟩

end Go.Proofs.Ytbepfeajaoaocaf.WalkInsSort
