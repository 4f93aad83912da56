/-
  What slices.CompactFunc does with pairs that the call owns: of each run of one key the first is left.
-/
import Derived.Test.YtbepfeajaoaocafWalkDelete
namespace Go.Proofs.Ytbepfeajaoaocaf.WalkCompact
open Go.RowKit
open Lists (bt)
open Keeps (Kept)
open Stores (Pair)
open PairRows (cells cells_append cells_length cells_at)
open WideCopy (Lies)
open WalkStoFind (aggP sizeP)
open WalkSwap (At only)
open WalkDelete (Cut CutO cut_owns zeroP run_clear)
open Blocks (firsts firsts_next firsts_len)

theorem list_eq (x y : ByteArray) : (x.toList == y.toList) = decide (x = y) := by
  by_cases h : x = y
  · rw [decide_eq_true h, h]; simp
  · rw [decide_eq_false h]; simpa using fun e => h (Stores.toList_inj e)
abbrev sameKey : Value := .func (.func 51) #[] #[]
theorem sameKey_any (x0 x1 : ByteArray) (x2 : Bool) (y0 y1 : ByteArray) (y2 : Bool) (w : World) : Calls Try.prog 51 #[.agg #[.string x0, .string x1, .bool x2], .agg #[.string y0, .string y1, .bool y2]] w fun e w' => e = .returned (.bool (decide (x0 = y0))) ∧ Below w.heap.size w w' := by
  have b0 : Below w.heap.size w ((w.alloc (.cells #[.string x0, .string x1, .bool x2] 38)).alloc (.cells #[.string y0, .string y1, .bool y2] 38)) := ((Below.refl _ _).alloc (Nat.le_refl _) _).alloc (by simp) _
  go_enter Try.func51, Try.ntmps51
  go_wp2_with fail
  go_ret
  exact ⟨by rw [list_eq]; rfl, b0⟩

/-- k of the first j are left, those from j - 1 on are as they were -/
structure Runs (d : List Pair) (k j : Nat) (dk : List Pair) : Prop where
  len : dk.length = d.length
  low : dk.take k = firsts (d.take j)
  cnt : (firsts (d.take j)).length = k
  high : dk.drop (j - 1) = d.drop (j - 1)
theorem Runs.at {d dk : List Pair} {k j : Nat} (h : Runs d k j dk) {i : Nat} (hi : j - 1 ≤ i) : dk[i]? = d[i]? := by
  have := congrArg (fun l => l[i - (j - 1)]?) h.high
  simp only [List.getElem?_drop] at this
  rw [show j - 1 + (i - (j - 1)) = i by omega] at this
  exact this
theorem firsts_step {d : List Pair} {j : Nat} {p q : Pair} (hj : 1 ≤ j) (hp : d[j - 1]? = some p) (hq : d[j]? = some q) : firsts (d.take (j + 1)) = firsts (d.take j) ++ (if q.key = p.key then [] else [q]) := by
  obtain ⟨h1, rfl⟩ := List.getElem?_eq_some_iff.1 hp
  obtain ⟨h2, rfl⟩ := List.getElem?_eq_some_iff.1 hq
  obtain ⟨i, rfl⟩ : ∃ i, j = i + 1 := ⟨j - 1, by omega⟩
  exact firsts_next h2
theorem Runs.skip {d dk : List Pair} {k j : Nat} {p q : Pair} (h : Runs d k j dk) (hj : 1 ≤ j) (hp : d[j - 1]? = some p) (hq : d[j]? = some q) (he : q.key = p.key) : Runs d k (j + 1) dk := by
  have e := firsts_step hj hp hq
  rw [if_pos he, List.append_nil] at e
  refine ⟨h.len, by rw [e]; exact h.low, by rw [e]; exact h.cnt, ?_⟩
  have := congrArg (fun l => l.drop 1) h.high
  simp only [List.drop_drop] at this
  rw [show j - 1 + 1 = j + 1 - 1 by omega] at this
  exact this
theorem Runs.keep {d dk : List Pair} {k j : Nat} {p q : Pair} (h : Runs d k j dk) (hj : 1 ≤ j) (hp : d[j - 1]? = some p) (hq : d[j]? = some q) (he : ¬ q.key = p.key) (hkj : k < j) : Runs d (k + 1) (j + 1) (dk.set k q) := by
  have e := firsts_step hj hp hq
  rw [if_neg he] at e
  have hl := h.len
  have hjl := (List.getElem?_eq_some_iff.1 hq).1
  refine ⟨by simpa using hl, ?_, by rw [e, List.length_append, h.cnt]; rfl, ?_⟩
  · rw [e, ← h.low, List.take_set, List.take_succ_eq_append_getElem (by omega), List.set_append_right _ _ (by rw [List.length_take]; omega), List.length_take, show k - min k dk.length = 0 by omega]
    rfl
  · have := congrArg (fun l => l.drop 1) h.high
    simp only [List.drop_drop] at this
    rw [List.drop_set, if_pos (by omega), show j + 1 - 1 = j - 1 + 1 by omega]
    exact this

set_option maxHeartbeats 4000000 in
set_option maxRecDepth 100000 in
theorem compact_some (d : List Pair) (T : List Value) (g cap : Nat) (w : World) (hL : At w g d T) (hd : d.length ≤ 1000000) (hcap : d.length ≤ cap) (hc6 : cap ≤ maxLen) :
    Calls Try.prog 50 #[.slice (some ⟨g, 0, none⟩) d.length cap, sameKey] w fun e w' => Cut (firsts d) d T g cap w e w' := by
  have a26 := aggP
  have z26 := sizeP
  have HL : Hid (At w g d T) := hL
  have hc63 : cap ≤ 9223372036854775807 := by unfold maxLen at hc6; exact hc6
  have HFull : Hid (∀ w1, firsts d = d → At w1 g d T → Kept (only g) w w1 → Cut (firsts d) d T g cap w (.returned (.slice (some ⟨g, 0, none⟩) d.length cap)) w1) := fun w1 h1 h2 h3 => by
    rw [h1]
    exact ⟨rfl, ⟨d, rfl, List.take_length, h2⟩, h3⟩
  generalize hN : d.length = N at *
  have HN : Hid (d.length = N) := hN
  clear hL hN hc6
  by_cases h2 : N < 2
  · have i1 : (N : Int) < 2 := by omega
    have hf : firsts d = d := by
      have hl := HN.out
      match d, hl with
      | [], _ => rfl
      | [p], _ => rfl
      | p :: q :: l, hl => simp at hl; omega
    have HE := HFull.out w hf HL.out (Kept.refl _ _)
    clear hf HFull
    go_enter Try.func50, Try.ntmps50
    go_wp2_with fail
    go_ret
    exact HE
  · have i1 : ¬ (N : Int) < 2 := by omega
    have HF1 : Hid (firsts (d.take 1) = d.take 1) := by
      have hl := HN.out
      match d, hl with
      | [], hl => rfl
      | p :: l, _ => rfl
    go_enter Try.func50, Try.ntmps50
    go_upto_region 4 with fail
    go_loopw [5, 6, 7] (fun kv _ _ wr => ∃ k : Nat, 1 ≤ k ∧ k ≤ N ∧ kv = .int .i64 (k : Int) ∧ Hid (firsts (d.take k) = d.take k) ∧ Hid (At wr g d T) ∧ Hid (Kept (only g) w wr)) (fun kv _ _ _ => N - (intOf kv).toNat)
    case atStart => exact ⟨1, Nat.le_refl _, by omega, rfl, HF1, HL, Kept.refl _ _⟩
    clear HF1 HL
    case round =>
      obtain ⟨k, hk1, hk2, rfl, HFk, HLk, HKk⟩ := hrel
      by_cases hlt : k < N
      · have j1 : (k : Int) < (N : Int) := by omega
        obtain ⟨K, hK⟩ : ∃ K : Nat, K = k - 1 := ⟨_, rfl⟩
        have e1 : (k : Int) - 1 = (K : Int) := by omega
        have w1 : IntKind.i64.wrap (K : Int) = (K : Int) := by rw [IntKind.wrap_i64]; omega
        have b1 : (K : Int) < (N : Int) := by omega
        obtain ⟨p, hp⟩ : ∃ p, d[K]? = some p := ⟨d[K]'(by have := HN.out; omega), List.getElem?_eq_getElem _⟩
        obtain ⟨q, hq⟩ : ∃ q, d[k]? = some q := ⟨d[k]'(by have := HN.out; omega), List.getElem?_eq_getElem _⟩
        have hstep := firsts_step hk1 (by rw [← hK]; exact hp) hq
        have HX1 : Hid (¬ q.key = p.key → firsts (d.take (k + 1)) = d.take (k + 1)) := fun he => by
          rw [hstep, if_neg he, HFk.out]
          obtain ⟨h3, h4⟩ := List.getElem?_eq_some_iff.1 hq
          rw [List.take_succ_eq_append_getElem h3, h4]
        have HX2 : Hid (q.key = p.key → Runs d k (k + 1) d) := fun he => by
          have e : firsts (d.take (k + 1)) = d.take k := by rw [hstep, if_pos he, List.append_nil, HFk.out]
          exact ⟨rfl, e.symm, by rw [e, List.length_take, HN.out]; omega, rfl⟩
        obtain ⟨p0, p1, p2⟩ := HLk.out.cell hp
        obtain ⟨q0, q1, q2⟩ := HLk.out.cell hq
        obtain ⟨pk, pv, pg⟩ := p
        obtain ⟨qk, qv, qg⟩ := q
        simp only at p0 p1 p2 q0 q1 q2 HX1 HX2
        have s0 := fun dd os => cell_regrown p0 dd os
        have s1 := fun dd os => cell_regrown p1 dd os
        have s2 := fun dd os => cell_regrown p2 dd os
        have t0 := fun dd os => cell_regrown q0 dd os
        have t1 := fun dd os => cell_regrown q1 dd os
        have t2 := fun dd os => cell_regrown q2 dd os
        have x1 := fun dd os => Calls.regrown_of (w := wr) (d := dd) (os := os) (sameKey_any qk qv qg pk pv pg _)
        clear hp hq p0 p1 p2 q0 q1 q2 hstep HFk hK
        by_cases he : qk = pk
        · rw [decide_eq_true he] at x1
          have HR : Hid (Runs d k (k + 1) d) := HX2.out he
          clear HX1 HX2 he
          go_upto_region 6 with fail
          refine wp_region_quiet_below (by kernel_rfl) (by kernel_rfl) ?_
          iterate 10 (quiet_step (fail))
          quiet_step (exact x1 _ _)
          refine wpQuiet_nil ?_
          intro _ hw'
          obtain ⟨⟨dq, osq⟩, hw''⟩ := hw'
          subst hw''
          have bb := below_regrown wr dq osq
          clear s0 s1 s2 t0 t1 t2 x1
          generalize «Sort».grow (redrawn wr dq) osq = w4 at bb ⊢
          have HL4 : Hid (At w4 g d T) := HLk.out.below bb
          have HK4 : Hid (Kept (only g) w w4) := HKk.out.then bb
          clear bb HLk HKk
          have i2 : ((N : Int) - (k : Int)).toNat = N - k := by omega
          have i3 : (k : Int) ≤ (N : Int) := by omega
          have i4 : ¬ cap = k := by omega
          go_upto_region 9 with fail
          obtain ⟨M, hM⟩ : ∃ M : Nat, N - k = M := ⟨_, rfl⟩
          rw [hM]
          have HM : Hid (k + M = N) := by show k + M = N; omega
          have hM1 : 1 ≤ M := by omega
          have hM6 : M ≤ 1000000 := by omega
          clear i2 i3 i4 hM e1 w1 b1
          generalize cap - k = cap2
          go_loopw [5, 7] (fun av bv wr => ∃ (a b : Nat) (dk : List Pair), 1 ≤ b ∧ b ≤ M ∧ a < k + b ∧ av = .int .i64 (a : Int) ∧ bv = .int .i64 (b : Int) ∧ Hid (Runs d a (k + b) dk) ∧ Hid (At wr g dk T) ∧ Hid (Kept (only g) w wr)) (fun _ bv _ => M - (intOf bv).toNat)
          case atStart => exact ⟨k, 1, d, Nat.le_refl _, hM1, by omega, rfl, rfl, HR, HL4, HK4⟩
          clear HR HL4 HK4
          case round =>
            obtain ⟨a, b, dk, hb1, hb2, hab, rfl, rfl, HR, HLk, HKk⟩ := hrel
            by_cases hbM : b < M
            · have j2 : (b : Int) < (M : Int) := by omega
              obtain ⟨J, hJ⟩ : ∃ J : Nat, J = b - 1 := ⟨_, rfl⟩
              have e1 : (b : Int) - 1 = (J : Int) := by omega
              have w1 : IntKind.i64.wrap (J : Int) = (J : Int) := by rw [IntKind.wrap_i64]; omega
              have b1 : (J : Int) < (M : Int) := by omega
              obtain ⟨p, hp⟩ : ∃ p, d[k + b - 1]? = some p := ⟨d[k + b - 1]'(by have := HN.out; have := HM.out; omega), List.getElem?_eq_getElem _⟩
              obtain ⟨q, hq⟩ : ∃ q, d[k + b]? = some q := ⟨d[k + b]'(by have := HN.out; have := HM.out; omega), List.getElem?_eq_getElem _⟩
              have HX1 : Hid (q.key = p.key → Runs d a (k + (b + 1)) dk) := fun he => HR.out.skip (by omega) hp hq he
              have HX2 : Hid (¬ q.key = p.key → Runs d (a + 1) (k + (b + 1)) (dk.set a q)) := fun he => HR.out.keep (by omega) hp hq he hab
              have hp2 : dk[k + J]? = some p := by rw [HR.out.at (by omega), show k + J = k + b - 1 by omega]; exact hp
              have hq2 : dk[k + b]? = some q := by rw [HR.out.at (by omega)]; exact hq
              have HP : Hid (a < dk.length ∧ a < N) := by have := HR.out.len; have := HN.out; have := HM.out; exact ⟨by omega, by omega⟩
              obtain ⟨p0, p1, p2⟩ := HLk.out.cell hp2
              obtain ⟨q0, q1, q2⟩ := HLk.out.cell hq2
              rw [show (k + J) * 3 = k * 3 + J * 3 by omega] at p0 p1 p2
              rw [show (k + b) * 3 = k * 3 + b * 3 by omega] at q0 q1 q2
              obtain ⟨pk, pv, pg⟩ := p
              obtain ⟨qk, qv, qg⟩ := q
              have HQ2 : Hid (dk[k + b]? = some ⟨qk, qv, qg⟩) := hq2
              simp only at p0 p1 p2 q0 q1 q2 HX1 HX2
              have s0 := fun dd os => cell_regrown p0 dd os
              have s1 := fun dd os => cell_regrown p1 dd os
              have s2 := fun dd os => cell_regrown p2 dd os
              have t0 := fun dd os => cell_regrown q0 dd os
              have t1 := fun dd os => cell_regrown q1 dd os
              have t2 := fun dd os => cell_regrown q2 dd os
              have x1 := fun dd os => Calls.regrown_of (w := wr) (d := dd) (os := os) (sameKey_any qk qv qg pk pv pg _)
              clear hp hq hp2 hq2 p0 p1 p2 q0 q1 q2 hJ HR
              by_cases he : qk = pk
              · rw [decide_eq_true he] at x1
                have HR2 : Hid (Runs d a (k + (b + 1)) dk) := HX1.out he
                clear HX1 HX2 he HQ2
                go_upto_region 11 with fail
                refine wp_region_quiet_below (by kernel_rfl) (by kernel_rfl) ?_
                iterate 10 (quiet_step (fail))
                quiet_step (exact x1 _ _)
                quiet_step (fail)
                refine wpQuiet_nil ?_
                intro _ hw'
                obtain ⟨⟨dq, osq⟩, hw''⟩ := hw'
                subst hw''
                have bb := below_regrown wr dq osq
                clear s0 s1 s2 t0 t1 t2 x1
                generalize «Sort».grow (redrawn wr dq) osq = w5 at bb ⊢
                have HL5 : Hid (At w5 g dk T) := HLk.out.below bb
                have HK5 : Hid (Kept (only g) w w5) := HKk.out.then bb
                clear bb HLk HKk
                go_wp2_with fail
                go_roundw
                case rel => exact ⟨a, b + 1, dk, by omega, by omega, by omega, rfl, by go_num, HR2, HL5, HK5⟩
                case measure => simp [intOf]; omega
              · rw [decide_eq_false he] at x1
                have HR2 : Hid (Runs d (a + 1) (k + (b + 1)) (dk.set a ⟨qk, qv, qg⟩)) := HX2.out he
                clear HX1 HX2 he
                go_upto_region 11 with fail
                refine wp_region_quiet_below (by kernel_rfl) (by kernel_rfl) ?_
                iterate 10 (quiet_step (fail))
                quiet_step (exact x1 _ _)
                quiet_step (fail)
                refine wpQuiet_nil ?_
                intro _ hw'
                obtain ⟨⟨dq, osq⟩, hw''⟩ := hw'
                subst hw''
                have bb := below_regrown wr dq osq
                clear s0 s1 s2 t0 t1 t2 x1
                generalize «Sort».grow (redrawn wr dq) osq = w5 at bb ⊢
                have HL5 : Hid (At w5 g dk T) := HLk.out.below bb
                have HK5 : Hid (Kept (only g) w w5) := HKk.out.then bb
                clear bb HLk HKk e1 w1 b1
                obtain ⟨q0, q1, q2⟩ := HL5.out.cell HQ2.out
                rw [show (k + b) * 3 = k * 3 + b * 3 by omega] at q0 q1 q2
                simp only at q0 q1 q2
                obtain ⟨y, hy⟩ : ∃ y, dk[a]? = some y := ⟨dk[a]'HP.out.1, List.getElem?_eq_getElem _⟩
                obtain ⟨c0, c1, c2⟩ := HL5.out.cell hy
                have f0 : ∀ j, w5.frozen? ⟨g, j, none⟩ = false := fun j => Lies.frozen HL5.out j
                have j3 : (a : Int) < (N : Int) := by have := HP.out.2; omega
                have HL6 : Hid (At (((w5.setCell ⟨g, a * 3, none⟩ (.string qk)).setCell ⟨g, a * 3 + 1, none⟩ (.string qv)).setCell ⟨g, a * 3 + 2, none⟩ (.bool qg)) g (dk.set a ⟨qk, qv, qg⟩) T) := HL5.out.put a HP.out.1 ⟨qk, qv, qg⟩
                have HK6 : Hid (Kept (only g) w (((w5.setCell ⟨g, a * 3, none⟩ (.string qk)).setCell ⟨g, a * 3 + 1, none⟩ (.string qv)).setCell ⟨g, a * 3 + 2, none⟩ (.bool qg))) := WalkSwap.kept_put HK5.out (rfl : only g g) _ _ _ _ _ _
                clear hy HL5 HK5
                go_upto_region 13 with fail
                generalize World.setCell _ _ _ = w6 at HL6 HK6 ⊢
                clear q0 q1 q2 f0 c0 c1 c2
                go_wp2_with fail
                go_roundw
                case rel => exact ⟨a + 1, b + 1, _, by omega, by omega, by omega, by go_num, by go_num, HR2, HL6, HK6⟩
                case measure => simp [intOf]; omega
            · obtain rfl : b = M := by omega
              have j2 : ¬ (b : Int) < (b : Int) := by omega
              have hl := HR.out.len
              have hln := HN.out
              have hkb := HM.out
              obtain ⟨w6, hcl, hat, hk6⟩ := run_clear HLk.out a (by omega)
              rw [hl, hln] at hcl hat
              have hfull : firsts (d.take (k + b)) = firsts d := by rw [List.take_of_length_le (by omega)]
              have hcnt := HR.out.cnt
              rw [hfull] at hcnt
              have HE : Hid (Cut (firsts d) d T g cap w (.returned (.slice (some ⟨g, 0, none⟩) a cap)) w6) := by
                refine ⟨by rw [hcnt], ⟨dk.take a ++ List.replicate (N - a) zeroP, ?_, ?_, hat⟩, HKk.out.trans hk6 fun _ q => .inl q⟩
                · rw [List.length_append, List.length_take, List.length_replicate]; omega
                · rw [hcnt, List.take_append_of_le_length (by rw [List.length_take]; omega), List.take_take, Nat.min_self, HR.out.low, hfull]
              have i1 : (a : Int) ≤ (N : Int) := by omega
              have i2 : ((N : Int) - (a : Int)).toNat = N - a := by omega
              have i3 : ¬ cap = a := by omega
              clear hl hln hat hk6 hfull hcnt HR HLk HKk hkb
              go_wp2_with fail
              go_ret
              exact HE.out
        · rw [decide_eq_false he] at x1
          have HR : Hid (firsts (d.take (k + 1)) = d.take (k + 1)) := HX1.out he
          clear HX1 HX2 he
          go_upto_region 6 with fail
          refine wp_region_quiet_below (by kernel_rfl) (by kernel_rfl) ?_
          iterate 10 (quiet_step (fail))
          quiet_step (exact x1 _ _)
          refine wpQuiet_nil ?_
          intro _ hw'
          obtain ⟨⟨dq, osq⟩, hw''⟩ := hw'
          subst hw''
          have bb := below_regrown wr dq osq
          clear s0 s1 s2 t0 t1 t2 x1
          generalize «Sort».grow (redrawn wr dq) osq = w4 at bb ⊢
          have HL4 : Hid (At w4 g d T) := HLk.out.below bb
          have HK4 : Hid (Kept (only g) w w4) := HKk.out.then bb
          clear bb HLk HKk
          go_wp2_with fail
          go_roundw
          case rel => exact ⟨k + 1, by omega, by omega, by go_num, HR, HL4, HK4⟩
          case measure => simp [intOf]; omega
      · obtain rfl : k = N := by omega
        have j1 : ¬ (k : Int) < (k : Int) := by omega
        have HE := HFull.out wr (by have h := HFk.out; rw [List.take_of_length_le (by have := HN.out; omega)] at h; exact h) HLk.out HKk.out
        clear HFull
        go_wp2_with fail
        go_ret
        exact HE

theorem compact_none (cap : Nat) (w : World) : Calls Try.prog 50 #[.slice none 0 cap, sameKey] w fun e w' => e = .returned (.slice none 0 cap) ∧ w' = w := by
  go_enter Try.func50, Try.ntmps50
  go_wp2_with fail
  go_ret
  exact ⟨rfl, rfl⟩
theorem compact_any (d : List Pair) (v : Value) (B : Nat) (w : World) (ho : w.ownsRow B 38 3 v d.length (cells d)) (hd : d.length ≤ 1000000) :
    Calls Try.prog 50 #[v, sameKey] w fun e w' => CutO (firsts d) B v w e w' := by
  have hle := firsts_len d
  by_cases h0 : 0 < d.length
  · obtain ⟨g, cap, T, rfl, hg, hat, hc, hm, hl⟩ := WalkStable.owns_at ho rfl h0
    exact (compact_some d T g cap w hat hd hc hm).mono fun e w' h => cut_owns hg (by omega) hm hl hle h
  · obtain rfl : d = [] := List.length_eq_zero_iff.1 (by omega)
    rcases ho.2 with ⟨rfl, _⟩ | ⟨g, cap, cur, rfl, hg, hh, hc, hm, hs, ht⟩
    · refine (compact_none 0 w).mono ?_
      rintro e w1 ⟨rfl, rfl⟩
      exact ⟨_, rfl, World.ownsRow_nil _ _ _ _, rfl, Kept.refl _ _⟩
    · exact (compact_some [] cur.toList g cap w (by show WideCopy.Lies w g _ (cells [] ++ cur.toList); simpa [WideCopy.Lies, cells] using hh) (by decide) (Nat.zero_le _) hm).mono fun e w' h => cut_owns hg (Nat.zero_le _) hm (by simpa using hs) hle h

end Go.Proofs.Ytbepfeajaoaocaf.WalkCompact
