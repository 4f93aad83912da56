/-
  What package slices does with two sorted parts side by side for the stable sort: it merges them in place.
-/
import Derived.Test.YtbepfeajaoaocafWalkInsSort
namespace Go.Proofs.Ytbepfeajaoaocaf.WalkSymMerge
open Go.RowKit
open Lists (bt)
open Keeps (Kept)
open Stores (Pair lt)
open Spots (cmp)
open WalkStoFind (aggP sizeP)
open WalkSwap (At only)
open WalkInsSort (byKey byKey_any cmp_lt)
open Stables Merges

theorem mono_left {a m b : Nat} {d : List Pair} (h : Parts a m b d) : Mono (fun x => lt (kx d x) (kx d a)) m b := fun _ _ h1 h2 h3 hq => lt_of_le_of_lt (h.le_right h1 h2 h3) hq
theorem mono_right {a m b : Nat} {d : List Pair} (h : Parts a m b d) : Mono (fun x => !lt (kx d m) (kx d x)) a m := fun x y h1 h2 h3 hq => by
  have hq : lt (kx d m) (kx d y) = false := by simpa using hq
  have := Stores.le_trans (h.le_left h1 h2 h3) hq
  simpa using this

/-- what is left of it -/
def Done (d : List Pair) (T : List Value) (g a b : Nat) (w : World) (e : Ending) (w' : World) : Prop := e = .returned (.tuple #[]) ∧ (∃ d', Sorts a b d d' ∧ At w' g d' T) ∧ Kept (only g) w w'

set_option maxHeartbeats 4000000 in
set_option maxRecDepth 100000 in
/-- one ahead -/
theorem sym_left (d : List Pair) (T : List Value) (g cap a m b : Nat) (w : World) (hL : At w g d T) (hd : d.length ≤ 1000000) (h1 : a + 1 = m) (hp : Parts a m b d) :
    Calls Try.prog 77 #[.slice (some ⟨g, 0, none⟩) d.length cap, .int .i64 (a : Int), .int .i64 (m : Int), .int .i64 (b : Int), byKey] w fun e w' => Done d T g a b w e w' := by
  have a26 := aggP
  have z26 := sizeP
  obtain ⟨r1, r2, r3⟩ := hp.room
  have HL : Hid (At w g d T) := hL
  have HM : Hid (Mono (fun x => lt (kx d x) (kx d a)) m b) := mono_left hp
  have HE : Hid (∀ i d', Between (fun x => lt (kx d x) (kx d a)) m b i i → Climbs a (i - 1) d d' → Sorts a b d d') := fun i d' hb hc => by
    subst h1
    exact climbs_end hp hb hc
  obtain ⟨p, hpa⟩ : ∃ p, d[a]? = some p := ⟨d[a]'(by omega), List.getElem?_eq_getElem _⟩
  have HPA : Hid (d[a]? = some p) := hpa
  have HKA : Hid (kx d a = p.key) := kx_of hpa
  have HC : Hid (Climbs a a d d) := climbs_start (by omega)
  generalize hN : d.length = N at *
  have HN : Hid (d.length = N) := hN
  have e0 : (m : Int) - (a : Int) = 1 := by omega
  have bA : (a : Int) < (N : Int) := by omega
  clear hL hp hpa hN
  go_enter Try.func77, Try.ntmps77
  go_upto_region 3 with fail
  go_loopw [10, 11] (fun iv jv wr => ∃ i j : Nat, m ≤ i ∧ i ≤ j ∧ j ≤ b ∧ iv = .int .i64 (i : Int) ∧ jv = .int .i64 (j : Int) ∧ Hid (Between (fun x => lt (kx d x) (kx d a)) m b i j) ∧ Hid (At wr g d T) ∧ Hid (Kept (only g) w wr)) (fun iv jv _ => (intOf jv).toNat - (intOf iv).toNat)
  case atStart => exact ⟨m, b, Nat.le_refl _, r2, Nat.le_refl _, rfl, rfl, between_start r2, HL, Kept.refl _ _⟩
  case round =>
    obtain ⟨i, j, hi1, hij, hj1, rfl, rfl, HB, HLk, HKk⟩ := hrel
    by_cases hlt : i < j
    · have i1 : (i : Int) < (j : Int) := by omega
      obtain ⟨M, HMd⟩ : ∃ M : Nat, Hid ((i + j) / 2 = M) := ⟨_, rfl⟩
      have k1 : ((i : Int) + (j : Int)) / 2 = (M : Int) := by have := HMd.out; omega
      have m1 : i ≤ M := by have := HMd.out; omega
      have m2 : M < j := by have := HMd.out; omega
      have i2 : (M : Int) < (N : Int) := by omega
      obtain ⟨q, hq⟩ : ∃ q, d[M]? = some q := ⟨d[M]'(by have := HN.out; omega), List.getElem?_eq_getElem _⟩
      have HQ1 : Hid (lt q.key p.key = true → Between (fun x => lt (kx d x) (kx d a)) m b (M + 1) j) := fun hl => between_up HB.out HM.out m1 m2 (by show lt (kx d M) (kx d a) = true; rw [kx_of hq, HKA.out]; exact hl)
      have HQ2 : Hid (lt q.key p.key = false → Between (fun x => lt (kx d x) (kx d a)) m b i M) := fun hl => between_down HB.out HM.out m1 m2 (by show lt (kx d M) (kx d a) = false; rw [kx_of hq, HKA.out]; exact hl)
      obtain ⟨p0, p1, p2⟩ := HLk.out.cell HPA.out
      obtain ⟨q0, q1, q2⟩ := HLk.out.cell hq
      obtain ⟨pk, pv, pg⟩ := p
      obtain ⟨qk, qv, qg⟩ := q
      simp only at p0 p1 p2 q0 q1 q2 HQ1 HQ2
      have s0 := fun dd os => cell_regrown p0 dd os
      have s1 := fun dd os => cell_regrown p1 dd os
      have s2 := fun dd os => cell_regrown p2 dd os
      have t0 := fun dd os => cell_regrown q0 dd os
      have t1 := fun dd os => cell_regrown q1 dd os
      have t2 := fun dd os => cell_regrown q2 dd os
      have x1 := fun dd os => Calls.regrown_of (w := wr) (d := dd) (os := os) (byKey_any qk qv qg pk pv pg _)
      clear hq p0 p1 p2 q0 q1 q2 HMd HB
      cases hl : lt qk pk with
      | true =>
        rw [Spots.cmp_neg hl] at x1
        have HB2 : Hid (Between (fun x => lt (kx d x) (kx d a)) m b (M + 1) j) := HQ1.out hl
        clear HQ1 HQ2 hl
        go_upto_region 5 with fail
        refine wp_region_quiet_below (by kernel_rfl) (by kernel_rfl) ?_
        iterate 9 (quiet_step (fail))
        quiet_step (exact x1 _ _)
        quiet_step (fail)
        refine wpQuiet_nil ?_
        intro _ hw'
        obtain ⟨⟨dq, osq⟩, hw''⟩ := hw'
        subst hw''
        have bb := below_regrown wr dq osq
        clear s0 s1 s2 t0 t1 t2 x1
        generalize «Sort».grow (redrawn wr dq) osq = w4 at bb ⊢
        have HL4 : Hid (At w4 g d T) := HLk.out.below bb
        have HK4 : Hid (Kept (only g) w w4) := HKk.out.then bb
        clear bb HLk HKk
        go_wp2_with fail
        go_roundw
        case rel => exact ⟨M + 1, j, by omega, by omega, hj1, by go_num, rfl, HB2, HL4, HK4⟩
        case measure => simp [intOf]; omega
      | false =>
        have c0 : ¬ cmp qk pk < 0 := by
          have := cmp_lt qk pk
          rw [hl] at this
          exact of_decide_eq_false this
        have HB2 : Hid (Between (fun x => lt (kx d x) (kx d a)) m b i M) := HQ2.out hl
        clear HQ1 HQ2 hl
        generalize cmp qk pk = c at x1 c0
        go_upto_region 5 with fail
        refine wp_region_quiet_below (by kernel_rfl) (by kernel_rfl) ?_
        iterate 9 (quiet_step (fail))
        quiet_step (exact x1 _ _)
        quiet_step (fail)
        refine wpQuiet_nil ?_
        intro _ hw'
        obtain ⟨⟨dq, osq⟩, hw''⟩ := hw'
        subst hw''
        have bb := below_regrown wr dq osq
        clear s0 s1 s2 t0 t1 t2 x1
        generalize «Sort».grow (redrawn wr dq) osq = w4 at bb ⊢
        have HL4 : Hid (At w4 g d T) := HLk.out.below bb
        have HK4 : Hid (Kept (only g) w w4) := HKk.out.then bb
        clear bb HLk HKk
        go_wp2_with fail
        go_roundw
        case rel => exact ⟨i, M, hi1, m1, by omega, rfl, rfl, HB2, HL4, HK4⟩
        case measure => simp [intOf]; omega
    · obtain rfl : i = j := by omega
      have i1 : ¬ (i : Int) < (i : Int) := by omega
      obtain ⟨I, hI⟩ : ∃ I : Nat, I = i - 1 := ⟨_, rfl⟩
      have e1 : (i : Int) - 1 = (I : Int) := by omega
      have w1 : IntKind.i64.wrap (I : Int) = (I : Int) := by rw [IntKind.wrap_i64]; omega
      have HE2 : Hid (∀ d', Climbs a I d d' → Sorts a b d d') := fun d' hc => HE.out i d' HB.out (by rw [← hI]; exact hc)
      have hI1 : a ≤ I := by omega
      have hI2 : I + 1 ≤ b := by omega
      clear HE HB hI
      go_upto_region 9 with fail
      go_loopw [13] (fun kv wr => ∃ (k : Nat) (dk : List Pair), a ≤ k ∧ k ≤ I ∧ kv = .int .i64 (k : Int) ∧ Hid (Climbs a k d dk) ∧ Hid (At wr g dk T) ∧ Hid (Kept (only g) w wr)) (fun kv _ => I - (intOf kv).toNat)
      case atStart => exact ⟨a, d, Nat.le_refl _, hI1, rfl, HC, HLk, HKk⟩
      clear HLk HKk
      case round =>
        obtain ⟨k, dk, hk1, hk2, rfl, HCk, HLk, HKk⟩ := hrel
        by_cases hkI : k < I
        · have j1 : (k : Int) < (I : Int) := by omega
          have hlen := HCk.out.length
          rw [HN.out] at hlen
          obtain ⟨K, hK⟩ : ∃ K : Nat, K = k + 1 := ⟨_, rfl⟩
          have e2 : (k : Int) + 1 = (K : Int) := by omega
          have w2 : IntKind.i64.wrap (K : Int) = (K : Int) := by rw [IntKind.wrap_i64]; omega
          have b1 : (k : Int) < (N : Int) := by omega
          have b2 : (K : Int) < (N : Int) := by omega
          obtain ⟨x, y, hx, hy, hs⟩ := climbs_step HCk.out (by have := HN.out; omega)
          rw [← hK] at hy hs
          have HC2 : Hid (Climbs a K d ((dk.set k y).set K x)) := hs
          have HP : Hid (k < dk.length ∧ K < dk.length ∧ k + 1 = K) := ⟨by omega, by omega, by omega⟩
          obtain ⟨p0, p1, p2⟩ := HLk.out.cell hx
          obtain ⟨q0, q1, q2⟩ := HLk.out.cell hy
          have f0 : ∀ j, wr.frozen? ⟨g, j, none⟩ = false := fun j => WideCopy.Lies.frozen HLk.out j
          obtain ⟨xk, xv, xg⟩ := x
          obtain ⟨yk, yv, yg⟩ := y
          simp only at p0 p1 p2 q0 q1 q2
          clear hx hy hs hlen hK
          go_upto_region 11 with fail
          go_region
          obtain ⟨HL5, HK5⟩ := WalkSwap.swapped HLk.out HKk.out HP.out.1 HP.out.2.1 xk xv xg yk yv yg
          clear p0 p1 p2 q0 q1 q2 f0 HLk HKk
          generalize World.drew _ = w5 at HL5 HK5 ⊢
          go_wp2_with fail
          go_roundw
          case rel => exact ⟨K, _, by omega, by omega, by go_num, HC2, HL5, HK5⟩
          case measure => have := HP.out; simp [intOf]; omega
        · obtain rfl : k = I := by omega
          have j1 : ¬ (k : Int) < (k : Int) := by omega
          go_wp2_with fail
          refine bodyPost_ret (results_none rfl _ _ _) rfl ?_
          exact ⟨rfl, ⟨dk, HE2.out dk HCk.out, HLk.out⟩, HKk.out⟩

set_option maxHeartbeats 4000000 in
set_option maxRecDepth 100000 in
/-- one behind -/
theorem sym_right (d : List Pair) (T : List Value) (g cap a m b : Nat) (w : World) (hL : At w g d T) (hd : d.length ≤ 1000000) (h1 : a + 1 < m) (h2 : m + 1 = b) (hp : Parts a m b d) :
    Calls Try.prog 77 #[.slice (some ⟨g, 0, none⟩) d.length cap, .int .i64 (a : Int), .int .i64 (m : Int), .int .i64 (b : Int), byKey] w fun e w' => Done d T g a b w e w' := by
  have a26 := aggP
  have z26 := sizeP
  obtain ⟨r1, r2, r3⟩ := hp.room
  have HL : Hid (At w g d T) := hL
  have HM : Hid (Mono (fun x => !lt (kx d m) (kx d x)) a m) := mono_right hp
  have HE : Hid (∀ i d', Between (fun x => !lt (kx d m) (kx d x)) a m i i → Falls m i d d' → Sorts a b d d') := fun i d' hb hc => by
    subst h2
    exact falls_end hp hb hc
  obtain ⟨p, hpa⟩ : ∃ p, d[m]? = some p := ⟨d[m]'(by omega), List.getElem?_eq_getElem _⟩
  have HPA : Hid (d[m]? = some p) := hpa
  have HKA : Hid (kx d m = p.key) := kx_of hpa
  have HC : Hid (Falls m m d d) := falls_start (by omega)
  generalize hN : d.length = N at *
  have HN : Hid (d.length = N) := hN
  obtain ⟨D, hD⟩ : ∃ D : Nat, D = m - a := ⟨_, rfl⟩
  have e9 : (m : Int) - (a : Int) = (D : Int) := by omega
  have w9 : IntKind.i64.wrap (D : Int) = (D : Int) := by rw [IntKind.wrap_i64]; omega
  have d9 : ((D : Int) == 1) = false := by simp; omega
  have d8 : ¬ (D : Int) = 1 := by omega
  have e0 : (b : Int) - (m : Int) = 1 := by omega
  have bA : (m : Int) < (N : Int) := by omega
  clear hL hp hpa hN hD
  go_enter Try.func77, Try.ntmps77
  go_upto_region 15 with fail
  clear e9 w9 d9 d8 e0
  go_loopw [14, 15] (fun iv jv wr => ∃ i j : Nat, a ≤ i ∧ i ≤ j ∧ j ≤ m ∧ iv = .int .i64 (i : Int) ∧ jv = .int .i64 (j : Int) ∧ Hid (Between (fun x => !lt (kx d m) (kx d x)) a m i j) ∧ Hid (At wr g d T) ∧ Hid (Kept (only g) w wr)) (fun iv jv _ => (intOf jv).toNat - (intOf iv).toNat)
  case atStart => exact ⟨a, m, Nat.le_refl _, r1, Nat.le_refl _, rfl, rfl, between_start r1, HL, Kept.refl _ _⟩
  case round =>
    obtain ⟨i, j, hi1, hij, hj1, rfl, rfl, HB, HLk, HKk⟩ := hrel
    by_cases hlt : i < j
    · have i1 : (i : Int) < (j : Int) := by omega
      obtain ⟨M, HMd⟩ : ∃ M : Nat, Hid ((i + j) / 2 = M) := ⟨_, rfl⟩
      have k1 : ((i : Int) + (j : Int)) / 2 = (M : Int) := by have := HMd.out; omega
      have m1 : i ≤ M := by have := HMd.out; omega
      have m2 : M < j := by have := HMd.out; omega
      have i2 : (M : Int) < (N : Int) := by omega
      obtain ⟨q, hq⟩ : ∃ q, d[M]? = some q := ⟨d[M]'(by have := HN.out; omega), List.getElem?_eq_getElem _⟩
      have HQ1 : Hid (lt p.key q.key = false → Between (fun x => !lt (kx d m) (kx d x)) a m (M + 1) j) := fun hl => between_up HB.out HM.out m1 m2 (by show (!lt (kx d m) (kx d M)) = true; rw [kx_of hq, HKA.out, hl]; rfl)
      have HQ2 : Hid (lt p.key q.key = true → Between (fun x => !lt (kx d m) (kx d x)) a m i M) := fun hl => between_down HB.out HM.out m1 m2 (by show (!lt (kx d m) (kx d M)) = false; rw [kx_of hq, HKA.out, hl]; rfl)
      obtain ⟨p0, p1, p2⟩ := HLk.out.cell HPA.out
      obtain ⟨q0, q1, q2⟩ := HLk.out.cell hq
      obtain ⟨pk, pv, pg⟩ := p
      obtain ⟨qk, qv, qg⟩ := q
      simp only at p0 p1 p2 q0 q1 q2 HQ1 HQ2
      have s0 := fun dd os => cell_regrown p0 dd os
      have s1 := fun dd os => cell_regrown p1 dd os
      have s2 := fun dd os => cell_regrown p2 dd os
      have t0 := fun dd os => cell_regrown q0 dd os
      have t1 := fun dd os => cell_regrown q1 dd os
      have t2 := fun dd os => cell_regrown q2 dd os
      have x1 := fun dd os => Calls.regrown_of (w := wr) (d := dd) (os := os) (byKey_any pk pv pg qk qv qg _)
      clear hq p0 p1 p2 q0 q1 q2 HMd HB
      cases hl : lt pk qk with
      | true =>
        rw [Spots.cmp_neg hl] at x1
        have HB2 : Hid (Between (fun x => !lt (kx d m) (kx d x)) a m i M) := HQ2.out hl
        clear HQ1 HQ2 hl
        go_upto_region 17 with fail
        refine wp_region_quiet_below (by kernel_rfl) (by kernel_rfl) ?_
        iterate 9 (quiet_step (fail))
        quiet_step (exact x1 _ _)
        iterate 2 (quiet_step (fail))
        refine wpQuiet_nil ?_
        intro _ hw'
        obtain ⟨⟨dq, osq⟩, hw''⟩ := hw'
        subst hw''
        have bb := below_regrown wr dq osq
        clear s0 s1 s2 t0 t1 t2 x1
        generalize «Sort».grow (redrawn wr dq) osq = w4 at bb ⊢
        have HL4 : Hid (At w4 g d T) := HLk.out.below bb
        have HK4 : Hid (Kept (only g) w w4) := HKk.out.then bb
        clear bb HLk HKk
        go_wp2_with fail
        go_roundw
        case rel => exact ⟨i, M, hi1, m1, by omega, rfl, rfl, HB2, HL4, HK4⟩
        case measure => simp [intOf]; omega
      | false =>
        have c0 : ¬ cmp pk qk < 0 := by
          have := cmp_lt pk qk
          rw [hl] at this
          exact of_decide_eq_false this
        have HB2 : Hid (Between (fun x => !lt (kx d m) (kx d x)) a m (M + 1) j) := HQ1.out hl
        clear HQ1 HQ2 hl
        generalize cmp pk qk = c at x1 c0
        go_upto_region 17 with fail
        refine wp_region_quiet_below (by kernel_rfl) (by kernel_rfl) ?_
        iterate 9 (quiet_step (fail))
        quiet_step (exact x1 _ _)
        iterate 2 (quiet_step (fail))
        refine wpQuiet_nil ?_
        intro _ hw'
        obtain ⟨⟨dq, osq⟩, hw''⟩ := hw'
        subst hw''
        have bb := below_regrown wr dq osq
        clear s0 s1 s2 t0 t1 t2 x1
        generalize «Sort».grow (redrawn wr dq) osq = w4 at bb ⊢
        have HL4 : Hid (At w4 g d T) := HLk.out.below bb
        have HK4 : Hid (Kept (only g) w w4) := HKk.out.then bb
        clear bb HLk HKk
        go_wp2_with fail
        go_roundw
        case rel => exact ⟨M + 1, j, by omega, by omega, hj1, by go_num, rfl, HB2, HL4, HK4⟩
        case measure => simp [intOf]; omega
    · obtain rfl : i = j := by omega
      have i1 : ¬ (i : Int) < (i : Int) := by omega
      have HE2 : Hid (∀ d', Falls m i d d' → Sorts a b d d') := fun d' hc => HE.out i d' HB.out hc
      clear HE HB
      go_upto_region 21 with fail
      go_loopw [17] (fun kv wr => ∃ (k : Nat) (dk : List Pair), i ≤ k ∧ k ≤ m ∧ kv = .int .i64 (k : Int) ∧ Hid (Falls m k d dk) ∧ Hid (At wr g dk T) ∧ Hid (Kept (only g) w wr)) (fun kv _ => (intOf kv).toNat)
      case atStart => exact ⟨m, d, hj1, Nat.le_refl _, rfl, HC, HLk, HKk⟩
      clear HLk HKk
      case round =>
        obtain ⟨k, dk, hk1, hk2, rfl, HCk, HLk, HKk⟩ := hrel
        by_cases hkI : i < k
        · have j1 : (i : Int) < (k : Int) := by omega
          have hlen := HCk.out.length
          rw [HN.out] at hlen
          obtain ⟨K, hK⟩ : ∃ K : Nat, K = k - 1 := ⟨_, rfl⟩
          have e2 : (k : Int) - 1 = (K : Int) := by omega
          have w2 : IntKind.i64.wrap (K : Int) = (K : Int) := by rw [IntKind.wrap_i64]; omega
          have b1 : (k : Int) < (N : Int) := by omega
          have b2 : (K : Int) < (N : Int) := by omega
          obtain ⟨x, y, hx, hy, hs⟩ := falls_step HCk.out (by omega)
          rw [← hK] at hx hs
          have HC2 : Hid (Falls m K d ((dk.set k x).set K y)) := by show Falls _ _ _ _; rw [List.set_comm _ _ (by omega)]; exact hs
          have HP : Hid (k < dk.length ∧ K < dk.length ∧ K + 1 = k) := ⟨by omega, by omega, by omega⟩
          obtain ⟨p0, p1, p2⟩ := HLk.out.cell hx
          obtain ⟨q0, q1, q2⟩ := HLk.out.cell hy
          have f0 : ∀ j, wr.frozen? ⟨g, j, none⟩ = false := fun j => WideCopy.Lies.frozen HLk.out j
          obtain ⟨xk, xv, xg⟩ := x
          obtain ⟨yk, yv, yg⟩ := y
          simp only at p0 p1 p2 q0 q1 q2
          clear hx hy hs hlen hK
          go_upto_region 23 with fail
          go_region
          obtain ⟨HL5, HK5⟩ := WalkSwap.swapped HLk.out HKk.out HP.out.1 HP.out.2.1 yk yv yg xk xv xg
          clear p0 p1 p2 q0 q1 q2 f0 HLk HKk
          generalize World.drew _ = w5 at HL5 HK5 ⊢
          go_wp2_with fail
          go_roundw
          case rel => exact ⟨K, _, by omega, by omega, rfl, HC2, HL5, HK5⟩
          case measure => have := HP.out; simp [intOf]; omega
        · obtain rfl : k = i := by omega
          have j1 : ¬ (k : Int) < (k : Int) := by omega
          go_wp2_with fail
          refine bodyPost_ret (results_none rfl _ _ _) rfl ?_
          exact ⟨rfl, ⟨dk, HE2.out dk HCk.out, HLk.out⟩, HKk.out⟩

end Go.Proofs.Ytbepfeajaoaocaf.WalkSymMerge
