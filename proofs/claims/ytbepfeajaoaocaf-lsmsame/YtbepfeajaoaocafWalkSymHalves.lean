/-
  Two sorted parts side by side, each of more than one: package slices turns what is crossed, and merges each half.
-/
import Derived.Test.YtbepfeajaoaocafWalkSymMerge
namespace Go.Proofs.Ytbepfeajaoaocaf.WalkSymHalves
open Go.RowKit
open Lists (bt)
open Keeps (Kept)
open Stores (Pair lt)
open Spots (cmp)
open WalkStoFind (aggP sizeP)
open WalkSwap (At only)
open WalkInsSort (byKey byKey_any cmp_lt)
open WalkSymMerge (Done)
open Stables Merges

set_option maxHeartbeats 8000000 in
set_option maxRecDepth 100000 in
theorem sym_half (d : List Pair) (T : List Value) (g cap a m b : Nat) (w : World) (hL : At w g d T) (hd : d.length ≤ 1000000) (h1 : a + 1 < m) (h2 : m + 1 < b) (hp : Parts a m b d)
    (hrec : ∀ (d' : List Pair) (w' : World) (x y z : Nat), d'.length = d.length → At w' g d' T → x < y → y < z → z - x < b - a → Parts x y z d' →
      Calls Try.prog 77 #[.slice (some ⟨g, 0, none⟩) d.length cap, .int .i64 (x : Int), .int .i64 (y : Int), .int .i64 (z : Int), byKey] w' fun e w'' => Done d' T g x z w' e w'') :
    Calls Try.prog 77 #[.slice (some ⟨g, 0, none⟩) d.length cap, .int .i64 (a : Int), .int .i64 (m : Int), .int .i64 (b : Int), byKey] w fun e w' => Done d T g a b w e w' := by
  have a26 := aggP
  have z26 := sizeP
  obtain ⟨r1, r2, r3⟩ := hp.room
  obtain ⟨c1, c2, c3, c4, c5, c6, c7⟩ := cut_room r1 r2
  have HL : Hid (At w g d T) := hL
  have HM : Hid (Mono (cutQ d ((a + b) / 2 + m)) (lowC a m b) (highC a m b)) := cut_mono hp
  have HR : Hid (∀ (d' : List Pair) (w' : World) (x y z : Nat), d'.length = d.length → At w' g d' T → x < y → y < z → z - x < b - a → Parts x y z d' →
      Calls Try.prog 77 #[.slice (some ⟨g, 0, none⟩) d.length cap, .int .i64 (x : Int), .int .i64 (y : Int), .int .i64 (z : Int), byKey] w' fun e w'' => Done d' T g x z w' e w'') := hrec
  have HRO : Hid (∀ (t : List Pair) (wr : World) (x y z : Nat), At wr g d T → x < y → y < z → Turns y (y - x) (z - y) t d → Calls Try.prog 82 #[.slice (some ⟨g, 0, none⟩) d.length cap, .int .i64 (x : Int), .int .i64 (y : Int), .int .i64 (z : Int), byKey] wr fun e w' => e = .returned (.tuple #[]) ∧ At w' g t T ∧ Kept (only g) wr w') := fun t wr x y z hat h3 h4 ht => WalkSwap.rotate_any byKey d t T g cap x y z wr hat hd h3 h4 ht
  have HCut : Hid (∀ s, Between (cutQ d ((a + b) / 2 + m)) (lowC a m b) (highC a m b) s s → a ≤ s ∧ s ≤ m ∧ s ≤ (a + b) / 2 ∧ m ≤ (a + b) / 2 + m - s ∧ (a + b) / 2 ≤ (a + b) / 2 + m - s ∧ (a + b) / 2 + m - s ≤ b ∧
    ∃ t, Turns m (m - s) ((a + b) / 2 + m - s - m) t d ∧ (s = m ∨ m = (a + b) / 2 + m - s → t = d) ∧ Parts a s ((a + b) / 2) t ∧ Parts ((a + b) / 2) ((a + b) / 2 + m - s) b t ∧ Halves a ((a + b) / 2) b d t) := fun s hs => cut_of hp hs
  have HCl : Hid (∀ c, lowC a m b ≤ c → c < highC a m b → a ≤ c ∧ c < m ∧ m ≤ (a + b) / 2 + m - 1 - c ∧ (a + b) / 2 + m - 1 - c < b) := fun c h3 h4 => by omega
  have HLo : Hid ((lowC a m b = if (a + b) / 2 < m then (a + b) / 2 + m - b else a) ∧ highC a m b = if (a + b) / 2 < m then (a + b) / 2 else m) := ⟨rfl, rfl⟩
  have hlh : lowC a m b ≤ highC a m b := c2
  have hhN : highC a m b ≤ 1000000 := by omega
  have hab : a ≤ (a + b) / 2 ∧ (a + b) / 2 < b ∧ a < (a + b) / 2 ∧ a + b ≤ 2 * ((a + b) / 2) + 1 := by omega
  generalize hC : (a + b) / 2 = C at *
  generalize lowC a m b = lo at *
  generalize highC a m b = hi at *
  generalize hN : d.length = N at *
  have HN : Hid (d.length = N) := hN
  have hb6 : b ≤ 1000000 := by omega
  have hm6 : m ≤ 1000000 := by omega
  have ha6 : a ≤ 1000000 := by omega
  have hC6 : C ≤ 1000000 := by omega
  obtain ⟨D, hD⟩ : ∃ D : Nat, D = m - a := ⟨_, rfl⟩
  obtain ⟨E, hE⟩ : ∃ E : Nat, E = b - m := ⟨_, rfl⟩
  obtain ⟨Q, hQ⟩ : ∃ Q : Nat, Q = C + m := ⟨_, rfl⟩
  have e9 : (m : Int) - (a : Int) = (D : Int) := by omega
  have w9 : IntKind.i64.wrap (D : Int) = (D : Int) := by rw [IntKind.wrap_i64]; omega
  have d9 : ((D : Int) == 1) = false := by simp; omega
  have d8 : ¬ (D : Int) = 1 := by omega
  have e7 : (b : Int) - (m : Int) = (E : Int) := by omega
  have w7 : IntKind.i64.wrap (E : Int) = (E : Int) := by rw [IntKind.wrap_i64]; omega
  have d7 : ((E : Int) == 1) = false := by simp; omega
  have d6 : ¬ (E : Int) = 1 := by omega
  have k1 : ((a : Int) + (b : Int)) / 2 = (C : Int) := by omega
  have e5 : (C : Int) + (m : Int) = (Q : Int) := by omega
  have w5 : IntKind.i64.wrap (Q : Int) = (Q : Int) := by rw [IntKind.wrap_i64]; omega
  rw [← hQ] at HM HCut HCl HLo
  have hQ6 : Q ≤ 2000000 := by omega
  have hQ1 : 1 ≤ Q := by omega
  have HQ : Hid (Q = C + m) := hQ
  have HAB : Hid (a ≤ C ∧ C < b ∧ a < C ∧ a + b ≤ 2 * C + 1) := hab
  clear hL hp hN hD hE hrec c1 c2 c3 c4 c5 c6 c7 hC hQ hab
  go_enter Try.func77, Try.ntmps77
  go_upto_if 140 with fail
  clear e9 w9 d9 d8 e7 w7 d7 d6 k1 e5 w5
  go_cut [20, 21, 140] from 141 to 146 (fun sv rv cv wc => sv = .int .i64 (lo : Int) ∧ rv = .int .i64 (hi : Int) ∧ cv = .bool (decide (C < m)) ∧ w = wc)
  case first => as_aux_lemma =>
    by_cases hc : C < m
    · have i1 : (C : Int) < (m : Int) := by omega
      have h3 := HLo.out
      rw [if_pos hc, if_pos hc] at h3
      have e5 : (Q : Int) - (b : Int) = (lo : Int) := by have := HQ.out; have := HAB.out; omega
      have w5 : IntKind.i64.wrap (lo : Int) = (lo : Int) := by rw [IntKind.wrap_i64]; omega
      have HX : Hid (hi = C) := h3.2
      clear h3
      go_wp2_with fail
      go_meet
      case rel => exact ⟨rfl, by rw [HX.out], by simp [hc], rfl⟩
    · have i1 : ¬ (C : Int) < (m : Int) := by omega
      have h3 := HLo.out
      rw [if_neg hc, if_neg hc] at h3
      have HX : Hid (lo = a ∧ hi = m) := h3
      clear h3
      go_wp2_with fail
      go_meet
      case rel => exact ⟨by rw [HX.out.1], by rw [HX.out.2], by simp [hc], rfl⟩
  obtain ⟨rfl, rfl, rfl, rfl⟩ := hcut
  generalize decide (C < m) = cb
  obtain ⟨P, hP⟩ : ∃ P : Nat, P = Q - 1 := ⟨_, rfl⟩
  have e5 : (Q : Int) - 1 = (P : Int) := by omega
  have w5 : IntKind.i64.wrap (P : Int) = (P : Int) := by rw [IntKind.wrap_i64]; omega
  have HP : Hid (P = Q - 1) := hP
  have hP6 : P ≤ 2000000 := by omega
  clear hP
  go_upto_region 33 with fail
  clear e5 w5
  go_loopw [20, 21] (fun iv jv wr => ∃ i j : Nat, lo ≤ i ∧ i ≤ j ∧ j ≤ hi ∧ iv = .int .i64 (i : Int) ∧ jv = .int .i64 (j : Int) ∧ Hid (Between (cutQ d Q) lo hi i j) ∧ Hid (At wr g d T) ∧ Hid (Kept (only g) w wr)) (fun iv jv _ => (intOf jv).toNat - (intOf iv).toNat)
  case atStart => exact ⟨lo, hi, Nat.le_refl _, hlh, Nat.le_refl _, rfl, rfl, between_start hlh, HL, Kept.refl _ _⟩
  case round =>
    obtain ⟨i, j, hi1, hij, hj1, rfl, rfl, HB, HLk, HKk⟩ := hrel
    by_cases hlt : i < j
    · have i1 : (i : Int) < (j : Int) := by omega
      obtain ⟨M, HMd⟩ : ∃ M : Nat, Hid ((i + j) / 2 = M) := ⟨_, rfl⟩
      have k1 : ((i : Int) + (j : Int)) / 2 = (M : Int) := by have := HMd.out; omega
      have m1 : i ≤ M := by have := HMd.out; omega
      have m2 : M < j := by have := HMd.out; omega
      obtain ⟨n1, n2, n3, n4⟩ := HCl.out M (by omega) (by omega)
      obtain ⟨R, hR⟩ : ∃ R : Nat, R = Q - 1 - M := ⟨_, rfl⟩
      rw [← hR] at n3 n4
      have e5 : (P : Int) - (M : Int) = (R : Int) := by have := HP.out; omega
      have w5 : IntKind.i64.wrap (R : Int) = (R : Int) := by rw [IntKind.wrap_i64]; omega
      have i2 : (M : Int) < (N : Int) := by omega
      have i3 : (R : Int) < (N : Int) := by omega
      obtain ⟨q, hq⟩ : ∃ q, d[M]? = some q := ⟨d[M]'(by have := HN.out; omega), List.getElem?_eq_getElem _⟩
      obtain ⟨p, hp⟩ : ∃ p, d[R]? = some p := ⟨d[R]'(by have := HN.out; omega), List.getElem?_eq_getElem _⟩
      have HQ1 : Hid (lt p.key q.key = false → Between (cutQ d Q) lo hi (M + 1) j) := fun hl => between_up HB.out HM.out m1 m2 (by show (!lt (kx d (Q - 1 - M)) (kx d M)) = true; rw [← hR, kx_of hq, kx_of hp, hl]; rfl)
      have HQ2 : Hid (lt p.key q.key = true → Between (cutQ d Q) lo hi i M) := fun hl => between_down HB.out HM.out m1 m2 (by show (!lt (kx d (Q - 1 - M)) (kx d M)) = false; rw [← hR, kx_of hq, kx_of hp, hl]; rfl)
      obtain ⟨p0, p1, p2⟩ := HLk.out.cell hp
      obtain ⟨q0, q1, q2⟩ := HLk.out.cell hq
      obtain ⟨pk, pv, pg⟩ := p
      obtain ⟨qk, qv, qg⟩ := q
      simp only at p0 p1 p2 q0 q1 q2 HQ1 HQ2
      have s0 := fun dd os => cell_regrown p0 dd os
      have s1 := fun dd os => cell_regrown p1 dd os
      have s2 := fun dd os => cell_regrown p2 dd os
      have t0 := fun dd os => cell_regrown q0 dd os
      have t1 := fun dd os => cell_regrown q1 dd os
      have t2 := fun dd os => cell_regrown q2 dd os
      have x1 := fun dd os => Calls.regrown_of (w := wr) (d := dd) (os := os) (byKey_any pk pv pg qk qv qg _)
      clear hq hp p0 p1 p2 q0 q1 q2 HMd HB hR
      cases hl : lt pk qk with
      | true => as_aux_lemma =>
        rw [Spots.cmp_neg hl] at x1
        have HB2 : Hid (Between (cutQ d Q) lo hi i M) := HQ2.out hl
        clear HQ1 HQ2 hl
        go_upto_region 35 with fail
        refine wp_region_quiet_below (by kernel_rfl) (by kernel_rfl) ?_
        iterate 11 (quiet_step (fail))
        quiet_step (exact x1 _ _)
        iterate 2 (quiet_step (fail))
        refine wpQuiet_nil ?_
        intro _ hw'
        obtain ⟨⟨dq, osq⟩, hw''⟩ := hw'
        subst hw''
        have bb := below_regrown wr dq osq
        clear s0 s1 s2 t0 t1 t2 x1
        generalize «Sort».grow (redrawn wr dq) osq = w4 at bb ⊢
        have HL4 : Hid (At w4 g d T) := HLk.out.below bb
        have HK4 : Hid (Kept (only g) w w4) := HKk.out.then bb
        clear bb HLk HKk e5 w5
        go_wp2_with fail
        go_roundw
        case rel => exact ⟨i, M, hi1, m1, by omega, rfl, rfl, HB2, HL4, HK4⟩
        case measure => simp [intOf]; omega
      | false => as_aux_lemma =>
        have c0 : ¬ cmp pk qk < 0 := by
          have := cmp_lt pk qk
          rw [hl] at this
          exact of_decide_eq_false this
        have HB2 : Hid (Between (cutQ d Q) lo hi (M + 1) j) := HQ1.out hl
        clear HQ1 HQ2 hl
        generalize cmp pk qk = c at x1 c0
        go_upto_region 35 with fail
        refine wp_region_quiet_below (by kernel_rfl) (by kernel_rfl) ?_
        iterate 11 (quiet_step (fail))
        quiet_step (exact x1 _ _)
        iterate 2 (quiet_step (fail))
        refine wpQuiet_nil ?_
        intro _ hw'
        obtain ⟨⟨dq, osq⟩, hw''⟩ := hw'
        subst hw''
        have bb := below_regrown wr dq osq
        clear s0 s1 s2 t0 t1 t2 x1
        generalize «Sort».grow (redrawn wr dq) osq = w4 at bb ⊢
        have HL4 : Hid (At w4 g d T) := HLk.out.below bb
        have HK4 : Hid (Kept (only g) w w4) := HKk.out.then bb
        clear bb HLk HKk e5 w5
        go_wp2_with fail
        go_roundw
        case rel => exact ⟨M + 1, j, by omega, by omega, hj1, by go_num, rfl, HB2, HL4, HK4⟩
        case measure => simp [intOf]; omega
    · obtain rfl : i = j := by omega
      have i1 : ¬ (i : Int) < (i : Int) := by omega
      obtain ⟨s1, s2, s3, s4, s5, s6, t, ht, htd, hp1, hp2, hh⟩ := HCut.out i HB.out
      obtain ⟨F, hF⟩ : ∃ F : Nat, F = Q - i := ⟨_, rfl⟩
      rw [← hF] at s4 s5 s6 ht htd hp2
      have e5 : (Q : Int) - (i : Int) = (F : Int) := by omega
      have w5 : IntKind.i64.wrap (F : Int) = (F : Int) := by rw [IntKind.wrap_i64]; omega
      have HT : Hid (Turns m (m - i) (F - m) t d) := ht
      have HTD : Hid (i = m ∨ m = F → t = d) := htd
      have HP1 : Hid (Parts a i C t) := hp1
      have HP2 : Hid (Parts C F b t) := hp2
      have HH : Hid (Halves a C b d t) := hh
      have HTL : Hid (t.length = N) := by show _ = _; rw [ht.length]; exact HN.out
      clear HB HCut HM HCl HLo ht htd hp1 hp2 hh hF
      go_upto_region 39 with fail
      clear e5 w5
      go_cut [185] from 178 to 184 (fun v wc => v = .bool (decide (i < m ∧ m < F)) ∧ wr = wc)
      case first => as_aux_lemma =>
        by_cases c1 : i < m
        · have j1 : (i : Int) < (m : Int) := by omega
          by_cases c2 : m < F
          · have j2 : (m : Int) < (F : Int) := by omega
            go_wp2_with fail
            go_meet
            case rel => exact ⟨by simp [c1, c2], rfl⟩
          · have j2 : ¬ (m : Int) < (F : Int) := by omega
            go_wp2_with fail
            go_meet
            case rel => exact ⟨by simp [c2], rfl⟩
        · have j1 : ¬ (i : Int) < (m : Int) := by omega
          go_wp2_with fail
          go_meet
          case rel => exact ⟨by simp [c1], rfl⟩
      obtain ⟨rfl, rfl⟩ := hcut
      generalize hB1 : decide (i < m ∧ m < F) = B1
      have HB1 : Hid (decide (i < m ∧ m < F) = B1) := hB1
      clear hB1
      go_upto_if 185 with fail
      go_cut [185] from 186 to 191 (fun _ wc => Hid (At wc g t T) ∧ Hid (Kept (only g) w wc))
      case first => as_aux_lemma =>
        cases B1 with
        | true =>
          have hc := of_decide_eq_true HB1.out
          have c := HRO.out t wr i m F HLk.out hc.1 hc.2 HT.out
          clear hc
          go_wp2_with (go_at_call 82; refine c.mono ?_; rintro e w5 ⟨rfl, l5, k5⟩; have HL5 : Hid (At w5 g t T) := l5; have HK5 : Hid (Kept (only g) w w5) := HKk.out.trans k5 (fun _ q => .inl q); clear l5 k5)
          go_meet
          case rel => exact ⟨HL5, HK5⟩
        | false =>
          have hc := of_decide_eq_false HB1.out
          have HL5 : Hid (At wr g t T) := by show At _ _ _ _; rw [HTD.out (by omega)]; exact HLk.out
          clear hc
          go_wp2_with fail
          go_meet
          case rel => exact ⟨HL5, HKk⟩
      obtain ⟨HL5, HK5⟩ := hcut
      clear HLk HKk HT HTD HRO HB1
      -- the first half
      go_upto_region 41 with fail
      go_cut [199] from 192 to 198 (fun v wd => v = .bool (decide (a < i ∧ i < C)) ∧ wc = wd)
      case first => as_aux_lemma =>
        by_cases c1 : a < i
        · have j1 : (a : Int) < (i : Int) := by omega
          by_cases c2 : i < C
          · have j2 : (i : Int) < (C : Int) := by omega
            go_wp2_with fail
            go_meet
            case rel => exact ⟨by simp [c1, c2], rfl⟩
          · have j2 : ¬ (i : Int) < (C : Int) := by omega
            go_wp2_with fail
            go_meet
            case rel => exact ⟨by simp [c2], rfl⟩
        · have j1 : ¬ (a : Int) < (i : Int) := by omega
          go_wp2_with fail
          go_meet
          case rel => exact ⟨by simp [c1], rfl⟩
      obtain ⟨rfl, rfl⟩ := hcut
      generalize hB2 : decide (a < i ∧ i < C) = B2
      have HB2 : Hid (decide (a < i ∧ i < C) = B2) := hB2
      clear hB2
      go_upto_if 199 with fail
      go_cut [199] from 200 to 205 (fun _ we => ∃ t1, Hid (Sorts a C t t1) ∧ Hid (At we g t1 T) ∧ Hid (Kept (only g) w we))
      case first => as_aux_lemma =>
        cases B2 with
        | true =>
          have hc := of_decide_eq_true HB2.out
          have c := HR.out t wc a i C HTL.out HL5.out hc.1 hc.2 (by have := HAB.out; omega) HP1.out
          clear hc
          go_wp2_with (go_at_call 77; refine c.mono ?_; rintro e w6 ⟨rfl, ⟨t1, o6, l6⟩, k6⟩; have HL6 : Hid (At w6 g t1 T) := l6; have HK6 : Hid (Kept (only g) w w6) := HK5.out.trans k6 (fun _ q => .inl q); have HO6 : Hid (Sorts a C t t1) := o6; clear l6 k6 o6)
          go_meet
          case rel => exact ⟨t1, HO6, HL6, HK6⟩
        | false =>
          have hc := of_decide_eq_false HB2.out
          have HO6 : Hid (Sorts a C t t) := parts_sorts HP1.out (by omega)
          clear hc
          go_wp2_with fail
          go_meet
          case rel => exact ⟨t, HO6, HL5, HK5⟩
      obtain ⟨t1, HO6, HL6, HK6⟩ := hcut
      have HP3 : Hid (Parts C F b t1) := parts_behind HP2.out HO6.out
      have HTL1 : Hid (t1.length = N) := by show _ = _; rw [HO6.out.length]; exact HTL.out
      clear HL5 HK5 HP1 HP2 HB2 HTL
      -- the second half
      go_upto_region 43 with fail
      go_cut [213] from 206 to 212 (fun v wf => v = .bool (decide (C < F ∧ F < b)) ∧ wc = wf)
      case first => as_aux_lemma =>
        by_cases c1 : C < F
        · have j1 : (C : Int) < (F : Int) := by omega
          by_cases c2 : F < b
          · have j2 : (F : Int) < (b : Int) := by omega
            go_wp2_with fail
            go_meet
            case rel => exact ⟨by simp [c1, c2], rfl⟩
          · have j2 : ¬ (F : Int) < (b : Int) := by omega
            go_wp2_with fail
            go_meet
            case rel => exact ⟨by simp [c2], rfl⟩
        · have j1 : ¬ (C : Int) < (F : Int) := by omega
          go_wp2_with fail
          go_meet
          case rel => exact ⟨by simp [c1], rfl⟩
      obtain ⟨rfl, rfl⟩ := hcut
      by_cases hc : C < F ∧ F < b
      · rw [decide_eq_true hc]
        have c := HR.out t1 wc C F b HTL1.out HL6.out hc.1 hc.2 (by have := HAB.out; omega) HP3.out
        clear hc
        go_wp2_with (go_at_call 77; refine c.mono ?_; rintro e w7 ⟨rfl, ⟨t2, o7, l7⟩, k7⟩; have HL7 : Hid (At w7 g t2 T) := l7; have HK7 : Hid (Kept (only g) w w7) := HK6.out.trans k7 (fun _ q => .inl q); have HO7 : Hid (Sorts C b t1 t2) := o7; clear l7 k7 o7)
        go_end0
        exact ⟨rfl, ⟨t2, halves_sorts HH.out HO6.out HO7.out, HL7.out⟩, HK7.out⟩
      · rw [decide_eq_false hc]
        have HO7 : Hid (Sorts C b t1 t1) := parts_sorts HP3.out (by omega)
        clear hc
        go_wp2_with fail
        go_end0
        exact ⟨rfl, ⟨t1, halves_sorts HH.out HO6.out HO7.out, HL6.out⟩, HK6.out⟩

/-- two sorted parts become one -/
theorem sym_any : ∀ (K : Nat) (d : List Pair) (T : List Value) (g cap a m b : Nat) (w : World), b - a ≤ K → At w g d T → d.length ≤ 1000000 → a < m → m < b → Parts a m b d →
    Calls Try.prog 77 #[.slice (some ⟨g, 0, none⟩) d.length cap, .int .i64 (a : Int), .int .i64 (m : Int), .int .i64 (b : Int), byKey] w fun e w' => Done d T g a b w e w'
  | 0, _, _, _, _, _, _, _, _, hK, _, _, h1, h2, _ => by omega
  | K + 1, d, T, g, cap, a, m, b, w, hK, hL, hd, h1, h2, hp => by
    by_cases c1 : a + 1 = m
    · exact WalkSymMerge.sym_left d T g cap a m b w hL hd c1 hp
    · by_cases c2 : m + 1 = b
      · exact WalkSymMerge.sym_right d T g cap a m b w hL hd (by omega) c2 hp
      · refine sym_half d T g cap a m b w hL hd (by omega) (by omega) hp fun d' w' x y z hl hat h3 h4 h5 hp' => ?_
        have := sym_any K d' T g cap x y z w' (by omega) hat (by omega) h3 h4 hp'
        rw [hl] at this
        exact this

end Go.Proofs.Ytbepfeajaoaocaf.WalkSymHalves
