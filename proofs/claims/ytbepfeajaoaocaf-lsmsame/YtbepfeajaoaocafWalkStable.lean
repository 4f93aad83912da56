/-
  What slices.SortStableFunc does with pairs that the call owns: they are sorted by key, those of one key stay in their order.
-/
import Derived.Test.YtbepfeajaoaocafWalkSymHalves
import Derived.Test.YtbepfeajaoaocafBlocks
namespace Go.Proofs.Ytbepfeajaoaocaf.WalkStable
open Go.RowKit
open Lists (bt)
open Keeps (Kept)
open Stores (Pair lt)
open PairRows (cells cells_append cells_length)
open WideCopy (Lies owns_lies owns_of_lies)
open WalkSwap (At only)
open WalkInsSort (byKey)
open Stables Merges Blocks

set_option maxHeartbeats 8000000 in
set_option maxRecDepth 100000 in
theorem stable_some (d : List Pair) (T : List Value) (g cap : Nat) (w : World) (hL : At w g d T) (hd : d.length ≤ 1000000) :
    Calls Try.prog 69 #[.slice (some ⟨g, 0, none⟩) d.length cap, .int .i64 (d.length : Int), byKey] w fun e w' =>
      e = .returned (.tuple #[]) ∧ (∃ d', Sorted d' ∧ Same d d' ∧ At w' g d' T) ∧ Kept (only g) w w' := by
  have HL : Hid (At w g d T) := hL
  have HI : Hid (∀ (dk : List Pair) (wr : World) (a b : Nat), dk.length = d.length → At wr g dk T → a ≤ b → b ≤ d.length → Calls Try.prog 76 #[.slice (some ⟨g, 0, none⟩) d.length cap, .int .i64 (a : Int), .int .i64 (b : Int), byKey] wr fun e w' =>
      e = .returned (.tuple #[]) ∧ (∃ d', Sorts a b dk d' ∧ At w' g d' T) ∧ Kept (only g) wr w') := fun dk wr a b hl hat h1 h2 => by
    have := WalkInsSort.ins_any dk T g cap a b wr hat (by omega) h1 (by omega)
    rw [hl] at this
    exact this
  have HM : Hid (∀ (dk : List Pair) (wr : World) (a m b : Nat), dk.length = d.length → At wr g dk T → a < m → m < b → Parts a m b dk → Calls Try.prog 77 #[.slice (some ⟨g, 0, none⟩) d.length cap, .int .i64 (a : Int), .int .i64 (m : Int), .int .i64 (b : Int), byKey] wr fun e w' => WalkSymMerge.Done dk T g a b wr e w') := fun dk wr a m b hl hat h1 h2 hp => by
    have := WalkSymHalves.sym_any (b - a) dk T g cap a m b wr (Nat.le_refl _) hat (by omega) h1 h2 hp
    rw [hl] at this
    exact this
  generalize hN : d.length = N at *
  have HN : Hid (d.length = N) := hN
  clear hL hN
  go_enter Try.func69, Try.ntmps69
  go_upto_region 2 with fail
  go_loopw [7, 8] (fun av bv wr => ∃ (a b : Nat) (dk : List Pair), b = a + 20 ∧ a ≤ N ∧ av = .int .i64 (a : Int) ∧ bv = .int .i64 (b : Int) ∧ Hid (Laying 20 a d dk) ∧ Hid (At wr g dk T) ∧ Hid (Kept (only g) w wr)) (fun av _ _ => N - (intOf av).toNat)
  case atStart => exact ⟨0, 20, d, rfl, Nat.zero_le _, rfl, rfl, laying_start 20 d, HL, Kept.refl _ _⟩
  case round =>
    obtain ⟨a, b, dk, hb, ha, rfl, rfl, HD, HLk, HKk⟩ := hrel
    have hl : dk.length = N := by rw [HD.out.length]; exact HN.out
    by_cases hbn : b ≤ N
    · have i1 : (b : Int) ≤ (N : Int) := by omega
      have c := HI.out dk wr a b hl HLk.out (by omega) hbn
      have HX : Hid (∀ d', Sorts a b dk d' → Laying 20 b d d') := fun d' hs => by
        subst hb
        exact laying_step HD.out hs
      have HB : Hid (b = a + 20) := hb
      clear hl HD HLk hb
      go_wp2_with (go_at_call 76; refine c.mono ?_; rintro e w5 ⟨rfl, ⟨d5, s5, l5⟩, k5⟩; have HD5 : Hid (Laying 20 b d d5) := HX.out _ s5; have HL5 : Hid (At w5 g d5 T) := l5; have HK5 : Hid (Kept (only g) w w5) := HKk.out.trans k5 (fun _ q => .inl q); clear s5 l5 k5)
      go_roundw
      case rel => exact ⟨b, b + 20, d5, rfl, hbn, rfl, by go_num, HD5, HL5, HK5⟩
      case measure => have := HB.out; simp [intOf]; omega
    · have i1 : ¬ (b : Int) ≤ (N : Int) := by omega
      have c := HI.out dk wr a N hl HLk.out ha (Nat.le_refl _)
      have HX : Hid (∀ d', Sorts a N dk d' → Blocks 20 d d') := fun d' hs => laying_end HD.out (by omega) (by rw [hl]; exact hs)
      clear hl HD HLk hb
      go_upto_region 7 with (go_at_call 76; refine c.mono ?_; rintro e w5 ⟨rfl, ⟨d5, s5, l5⟩, k5⟩; have HD5 : Hid (Blocks 20 d d5) := HX.out _ s5; have HL5 : Hid (At w5 g d5 T) := l5; have HK5 : Hid (Kept (only g) w w5) := HKk.out.trans k5 (fun _ q => .inl q); clear s5 l5 k5)
      go_loopw [6, 7, 8, 9] (fun sv _ _ _ wr => ∃ (s : Nat) (dk : List Pair), 1 ≤ s ∧ s ≤ 2000000 ∧ sv = .int .i64 (s : Int) ∧ Hid (Blocks s d dk) ∧ Hid (At wr g dk T) ∧ Hid (Kept (only g) w wr)) (fun sv _ _ _ _ => N - (intOf sv).toNat)
      case atStart => exact ⟨20, d5, by omega, by omega, rfl, HD5, HL5, HK5⟩
      clear HD5 HL5 HK5 HX HKk c
      case round =>
        obtain ⟨s, dk, hs1, hs2, rfl, HD, HLk, HKk⟩ := hrel
        by_cases hsn : s < N
        · have i2 : (s : Int) < (N : Int) := by omega
          obtain ⟨S, hS⟩ : ∃ S : Nat, S = 2 * s := ⟨_, rfl⟩
          have e1 : 2 * (s : Int) = (S : Int) := by omega
          have e2 : (s : Int) * 2 = (S : Int) := by omega
          have w1 : IntKind.i64.wrap (S : Int) = (S : Int) := by rw [IntKind.wrap_i64]; omega
          have HS : Hid (S = 2 * s) := hS
          have hS6 : S ≤ 2000000 := by omega
          clear hS
          go_upto_region 9 with fail
          go_loopw [7, 8] (fun av bv wr => ∃ (a b : Nat) (dk : List Pair), Hid (b = a + S) ∧ a ≤ N ∧ b ≤ 4000000 ∧ av = .int .i64 (a : Int) ∧ bv = .int .i64 (b : Int) ∧ Hid (Merging s a d dk) ∧ Hid (At wr g dk T) ∧ Hid (Kept (only g) w wr)) (fun av _ _ => N - (intOf av).toNat)
          case atStart => exact ⟨0, S, dk, by show S = 0 + S; omega, Nat.zero_le _, by omega, rfl, rfl, merging_start HD.out, HLk, HKk⟩
          clear HD HLk HKk
          case round =>
            obtain ⟨a, b, dk, HB, ha, hb4, rfl, rfl, HD, HLk, HKk⟩ := hrel
            have hl : dk.length = N := by rw [HD.out.length]; exact HN.out
            obtain ⟨m, hm⟩ : ∃ m : Nat, m = a + s := ⟨_, rfl⟩
            have e3 : (a : Int) + (s : Int) = (m : Int) := by omega
            have w3 : IntKind.i64.wrap (m : Int) = (m : Int) := by rw [IntKind.wrap_i64]; omega
            by_cases hbn : b ≤ N
            · have i3 : (b : Int) ≤ (N : Int) := by omega
              have hbs : b = a + 2 * s := by have h1 := HB.out; have h2 := HS.out; omega
              have c := HM.out dk wr a m b hl HLk.out (by omega) (by omega) (by rw [hm, hbs]; exact merging_parts HD.out (by omega))
              have HX : Hid (∀ d', Sorts a b dk d' → Merging s b d d') := fun d' h => by
                rw [hbs] at h ⊢
                exact merging_step HD.out (by omega) h
              obtain ⟨b2, hb2⟩ : ∃ b2 : Nat, b2 = b + S := ⟨_, rfl⟩
              have e4 : (b : Int) + (S : Int) = (b2 : Int) := by omega
              have w4 : IntKind.i64.wrap (b2 : Int) = (b2 : Int) := by rw [IntKind.wrap_i64]; omega
              have HB2 : Hid (b2 = b + S) := hb2
              have hb24 : b2 ≤ 4000000 := by omega
              have HM1 : Hid (a < b) := by show a < b; omega
              clear hl HD HLk hm hbs hb2 HB
              go_wp2_with (go_at_call 77; refine c.mono ?_; rintro e w6 ⟨rfl, ⟨d6, s6, l6⟩, k6⟩; have HD6 : Hid (Merging s b d d6) := HX.out _ s6; have HL6 : Hid (At w6 g d6 T) := l6; have HK6 : Hid (Kept (only g) w w6) := HKk.out.trans k6 (fun _ q => .inl q); clear s6 l6 k6)
              go_roundw
              case rel => exact ⟨b, b2, d6, HB2, hbn, hb24, rfl, rfl, HD6, HL6, HK6⟩
              case measure => have := HM1.out; simp [intOf]; omega
            · have i3 : ¬ (b : Int) ≤ (N : Int) := by omega
              have hbs : b = a + 2 * s := by have h1 := HB.out; have h2 := HS.out; omega
              by_cases hmn : m < N
              · have i4 : (m : Int) < (N : Int) := by omega
                obtain ⟨hpa, hfi⟩ := merging_last HD.out (by omega) (by omega)
                rw [hl] at hpa hfi
                have c := HM.out dk wr a m N hl HLk.out (by omega) hmn (by rw [hm]; exact hpa)
                have HX : Hid (∀ d', Sorts a N dk d' → Blocks S d d') := fun d' h => by rw [HS.out]; exact hfi d' h
                clear hl HD HLk hm hbs HB hpa hfi
                go_wp2_with (go_at_call 77; refine c.mono ?_; rintro e w6 ⟨rfl, ⟨d6, s6, l6⟩, k6⟩; have HD6 : Hid (Blocks S d d6) := HX.out _ s6; have HL6 : Hid (At w6 g d6 T) := l6; have HK6 : Hid (Kept (only g) w w6) := HKk.out.trans k6 (fun _ q => .inl q); clear s6 l6 k6)
                go_roundw
                case rel => exact ⟨S, d6, by have := HS.out; omega, hS6, rfl, HD6, HL6, HK6⟩
                case measure => have := HS.out; simp [intOf]; omega
              · have i4 : ¬ (m : Int) < (N : Int) := by omega
                have HD6 : Hid (Blocks S d dk) := by show Blocks _ _ _; rw [HS.out]; exact merging_none HD.out (by omega)
                clear hl HD hm hbs HB
                go_wp2_with fail
                go_roundw
                case rel => exact ⟨S, dk, by have := HS.out; omega, hS6, rfl, HD6, HLk, HKk⟩
                case measure => have := HS.out; simp [intOf]; omega
        · have i2 : ¬ (s : Int) < (N : Int) := by omega
          have hfin := blocks_done HD.out (by rw [HD.out.length, HN.out]; omega)
          have HE : Hid (Sorted dk ∧ Same d dk) := hfin
          clear hfin HD
          go_wp2_with fail
          go_end0
          exact ⟨rfl, ⟨dk, HE.out.1, HE.out.2, HLk.out⟩, HKk.out⟩

/-- of none -/
theorem ins_none (cap : Nat) (w : World) : Calls Try.prog 76 #[.slice none 0 cap, .int .i64 0, .int .i64 0, byKey] w fun e w' => e = .returned (.tuple #[]) ∧ w' = w := by
  go_enter Try.func76, Try.ntmps76
  go_wp2_with fail
  refine wp_loop_rounds 1 ?_
  rw [rounds_succ]
  go_wp2_with fail
  go_end0
  exact ⟨rfl, rfl⟩
theorem stable_none (cap : Nat) (w : World) : Calls Try.prog 69 #[.slice none 0 cap, .int .i64 0, byKey] w fun e w' => e = .returned (.tuple #[]) ∧ w' = w := by
  go_enter Try.func69, Try.ntmps69
  go_wp2_with fail
  refine wp_loop_rounds 1 ?_
  rw [rounds_succ]
  go_wp2_with (go_at_call 76; refine (ins_none cap _).mono ?_; rintro e w1 ⟨rfl, rfl⟩)
  refine wp_loop_rounds 1 ?_
  rw [rounds_succ]
  go_wp2_with fail
  go_end0
  exact ⟨rfl, rfl⟩
theorem sort_none (cap : Nat) (w : World) : Calls Try.prog 47 #[.slice none 0 cap, byKey] w fun e w' => e = .returned (.tuple #[]) ∧ w' = w := by
  go_enter Try.func47, Try.ntmps47
  go_wp2_with (go_at_call 69; refine (stable_none cap _).mono ?_; rintro e w1 ⟨rfl, rfl⟩)
  go_end0
  exact ⟨rfl, rfl⟩
theorem sort_some (d : List Pair) (T : List Value) (g cap : Nat) (w : World) (hL : At w g d T) (hd : d.length ≤ 1000000) :
    Calls Try.prog 47 #[.slice (some ⟨g, 0, none⟩) d.length cap, byKey] w fun e w' =>
      e = .returned (.tuple #[]) ∧ (∃ d', Sorted d' ∧ Same d d' ∧ At w' g d' T) ∧ Kept (only g) w w' := by
  have c := stable_some d T g cap w hL hd
  generalize hN : d.length = N at *
  clear hL hN
  go_enter Try.func47, Try.ntmps47
  go_wp2_with (go_at_call 69; refine c.mono ?_; rintro e w1 ⟨rfl, h1⟩)
  go_end0
  exact ⟨rfl, h1⟩
/-- a row that the call owns, opened: its pairs and what is behind them -/
theorem owns_at {w : World} {B n : Nat} {v : Value} {d : List Pair} (h : w.ownsRow B 38 3 v n (cells d)) (hn : n = d.length) (h0 : 0 < n) : ∃ g cap T, v = .slice (some ⟨g, 0, none⟩) d.length cap ∧ B ≤ g ∧ At w g d T ∧ d.length ≤ cap ∧ cap ≤ maxLen ∧ d.length * 3 + T.length = cap * 3 := by
  subst hn
  obtain ⟨g, cap, R, rfl, hg, hl, hc, hm, hs, ht⟩ := owns_lies h h0
  have hd := cells_length d
  have hR : R = cells d ++ R.drop (d.length * 3) := by rw [← ht, List.take_append_drop]
  refine ⟨g, cap, R.drop (d.length * 3), rfl, hg, ?_, hc, hm, ?_⟩
  · show Lies w g _ _
    rw [← hR]
    exact hl
  · rw [List.length_drop]
    have := Nat.mul_le_mul_right 3 hc
    omega
theorem at_owns {w : World} {B g cap m : Nat} {d : List Pair} {T : List Value} (h : At w g d T) (hg : B ≤ g) (hm : m ≤ d.length) (hc : m ≤ cap) (hx : cap ≤ maxLen) (hl : d.length * 3 + T.length = cap * 3) : w.ownsRow B 38 3 (.slice (some ⟨g, 0, none⟩) m cap) (d.take m).length (cells (d.take m)) := by
  have hd := cells_length d
  have e : (d.take m).length = m := by rw [List.length_take]; omega
  rw [e]
  refine owns_of_lies hg h hc hx (by rw [List.length_append]; omega) ?_
  rw [List.take_append_of_le_length (by omega), WalkStoIns.cells_take]
/-- sorted in place -/
theorem sort_any (d : List Pair) (v : Value) (B : Nat) (w : World) (ho : w.ownsRow B 38 3 v d.length (cells d)) (hd : d.length ≤ 1000000) :
    Calls Try.prog 47 #[v, byKey] w fun e w' =>
      e = .returned (.tuple #[]) ∧ (∃ d', Sorted d' ∧ Same d d' ∧ w'.ownsRow B 38 3 v d'.length (cells d')) ∧ Kept (fun k => v.ownBlock = some k) w w' := by
  by_cases h0 : 0 < d.length
  · obtain ⟨g, cap, T, rfl, hg, hat, hc, hm, hl⟩ := owns_at ho rfl h0
    refine (sort_some d T g cap w hat hd).mono ?_
    rintro e w1 ⟨rfl, ⟨d', h1, h2, h3⟩, k1⟩
    have hlen := h2.1
    refine ⟨rfl, ⟨d', h1, h2, ?_⟩, k1.mono fun k hk => by rw [hk]; rfl⟩
    have := at_owns (m := d'.length) h3 hg (Nat.le_refl _) (by omega) hm (by omega)
    rw [List.take_length] at this
    rw [hlen]
    exact this
  · obtain rfl : d = [] := List.length_eq_zero_iff.1 (by omega)
    rcases ho.2 with ⟨rfl, _⟩ | ⟨g, cap, cur, rfl, hg, hh, hc, hm, hs, ht⟩
    · refine (sort_none 0 w).mono ?_
      rintro e w1 ⟨rfl, rfl⟩
      exact ⟨rfl, ⟨[], sorted_nil, Same.refl _, ho⟩, Kept.refl _ _⟩
    · refine (sort_some [] cur.toList g cap w (by show WideCopy.Lies w g _ (cells [] ++ cur.toList); simpa [WideCopy.Lies, cells] using hh) (by decide)).mono ?_
      rintro e w1 ⟨rfl, ⟨d', h1, h2, h3⟩, k1⟩
      have hlen := h2.1
      obtain rfl : d' = [] := List.length_eq_zero_iff.1 (by simpa using hlen.symm)
      refine ⟨rfl, ⟨[], h1, h2, ?_⟩, k1.mono fun k hk => by rw [hk]; rfl⟩
      exact at_owns (d := []) (m := 0) h3 hg (Nat.le_refl _) (Nat.zero_le _) hm (by simpa using hs)

end Go.Proofs.Ytbepfeajaoaocaf.WalkStable
