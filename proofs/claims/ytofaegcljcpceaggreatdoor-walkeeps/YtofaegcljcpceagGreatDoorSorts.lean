/-
  What package slices does with pairs that change places, for the stable sort: a range with a range, and two parts side by side.
-/
import Derived.Test.YtofaegcljcpceagGreatDoorWalkStoIns
import Derived.Test.YtofaegcljcpceagGreatDoorPlains
import Derived.BigRegion
import Derived.Lib.QuietBelow
namespace Go.Proofs.YtofaegcljcpceagGreatDoor.WalkSwap
open Go.RowKit
open Keeps (Kept)
open Stores (Pair)
open PairRows (cells cells_append cells_length cells_at)
open WideCopy (Lies)
open WalkStoFind (aggP sizeP)
open Stables Merges

/-- the pairs d lie in block g, whatever is behind them -/
abbrev At (w : World) (g : Nat) (d : List Pair) (T : List Value) : Prop := Lies w g 31 (cells d ++ T)
theorem cells_put3 (l : List Pair) (i : Nat) (hi : i < l.length) (p : Pair) : (((cells l).set (i * 3) (.string p.key)).set (i * 3 + 1) (.string p.val)).set (i * 3 + 2) (.bool p.gone) = cells (l.set i p) := by
  induction l generalizing i with
  | nil => cases hi
  | cons q l ih =>
    cases i with
    | zero => rfl
    | succ i =>
      have e : (i + 1) * 3 = i * 3 + 3 := by omega
      rw [e]
      exact congrArg (fun t => Value.string q.key :: Value.string q.val :: Value.bool q.gone :: t) (ih i (Nat.lt_of_succ_lt_succ hi))
theorem At.cell {w : World} {g : Nat} {d : List Pair} {T : List Value} (h : At w g d T) {i : Nat} {p : Pair} (hp : d[i]? = some p) :
    w.cell? ⟨g, i * 3, none⟩ = some (.string p.key) ∧ w.cell? ⟨g, i * 3 + 1, none⟩ = some (.string p.val) ∧ w.cell? ⟨g, i * 3 + 2, none⟩ = some (.bool p.gone) := by
  obtain ⟨hi, rfl⟩ := List.getElem?_eq_some_iff.1 hp
  obtain ⟨c0, c1, c2⟩ := cells_at d i hi
  have hl := cells_length d
  rw [Lies.cell h, Lies.cell h, Lies.cell h, List.getElem?_append_left (by omega), List.getElem?_append_left (by omega), List.getElem?_append_left (by omega)]
  exact ⟨c0, c1, c2⟩
theorem lies_set {w : World} {g : Nat} {e : TypeId} {R : List Value} (h : Lies w g e R) (j : Nat) (u : Value) : Lies (w.setCell ⟨g, j, none⟩ u) g e (R.set j u) := by
  show (w.setCell ⟨g, j, none⟩ u).heap[g]? = _
  have h1 : w.heap[g]? = some (.cells R.toArray e (0, 0)) := h
  simp [World.setCell, Array.getElem?_modify, h1]
/-- one pair is written -/
theorem At.put {w : World} {g : Nat} {d : List Pair} {T : List Value} (h : At w g d T) (i : Nat) (hi : i < d.length) (p : Pair) :
    At (((w.setCell ⟨g, i * 3, none⟩ (.string p.key)).setCell ⟨g, i * 3 + 1, none⟩ (.string p.val)).setCell ⟨g, i * 3 + 2, none⟩ (.bool p.gone)) g (d.set i p) T := by
  have h1 := lies_set (lies_set (lies_set h (i * 3) (.string p.key)) (i * 3 + 1) (.string p.val)) (i * 3 + 2) (.bool p.gone)
  have hl := cells_length d
  rw [List.set_append_left _ _ (by omega), List.set_append_left _ _ (by rw [List.length_set]; omega), List.set_append_left _ _ (by rw [List.length_set, List.length_set]; omega), cells_put3 d i hi p] at h1
  exact h1
theorem kept_put {S : Nat → Prop} {a w : World} (h : Kept S a w) {g : Nat} (hg : S g) (i j k : Nat) (u v x : Value) : Kept S a (((w.setCell ⟨g, i, none⟩ u).setCell ⟨g, j, none⟩ v).setCell ⟨g, k, none⟩ x) :=
  ((h.setCell (.inl hg) _).setCell (.inl hg) _).setCell (.inl hg) _
theorem At.kept {S : Nat → Prop} {w w' : World} {g : Nat} {d : List Pair} {T : List Value} (h : At w g d T) (k : Kept S w w') (hS : ¬ S g) : At w' g d T := Lies.kept h k hS
theorem At.below {w w' : World} {g : Nat} {d : List Pair} {T : List Value} (h : At w g d T) (k : Below w.heap.size w w') : At w' g d T := Lies.kept h (Kept.of_below (fun _ => False) k) fun q => q
abbrev only (g : Nat) : Nat → Prop := fun k => k = g
/-- two pairs change places -/
theorem At.swap {w : World} {g : Nat} {d : List Pair} {T : List Value} (h : At w g d T) {i j : Nat} (hi : i < d.length) (hj : j < d.length) (p q : Pair) :
    At (((((((w.setCell ⟨g, i * 3, none⟩ (.string q.key)).setCell ⟨g, i * 3 + 1, none⟩ (.string q.val)).setCell ⟨g, i * 3 + 2, none⟩ (.bool q.gone)).setCell ⟨g, j * 3, none⟩ (.string p.key)).setCell ⟨g, j * 3 + 1, none⟩ (.string p.val)).setCell ⟨g, j * 3 + 2, none⟩ (.bool p.gone))) g ((d.set i q).set j p) T :=
  (h.put i hi q).put j (by simpa using hj) p

theorem At.drew {w : World} {g : Nat} {d : List Pair} {T : List Value} (h : At w g d T) : At w.drew g d T := h
theorem swapped {w0 w : World} {g : Nat} {d : List Pair} {T : List Value} (h : At w g d T) (k : Kept (only g) w0 w) {i j : Nat} (hi : i < d.length) (hj : j < d.length) (pk pv : ByteArray) (pg : Bool) (qk qv : ByteArray) (qg : Bool) :
    Hid (At (((((((w.setCell ⟨g, i * 3, none⟩ (.string qk)).setCell ⟨g, i * 3 + 1, none⟩ (.string qv)).setCell ⟨g, i * 3 + 2, none⟩ (.bool qg)).setCell ⟨g, j * 3, none⟩ (.string pk)).setCell ⟨g, j * 3 + 1, none⟩ (.string pv)).setCell ⟨g, j * 3 + 2, none⟩ (.bool pg)).drew) g ((d.set i ⟨qk, qv, qg⟩).set j ⟨pk, pv, pg⟩) T) ∧
    Hid (Kept (only g) w0 (((((((w.setCell ⟨g, i * 3, none⟩ (.string qk)).setCell ⟨g, i * 3 + 1, none⟩ (.string qv)).setCell ⟨g, i * 3 + 2, none⟩ (.bool qg)).setCell ⟨g, j * 3, none⟩ (.string pk)).setCell ⟨g, j * 3 + 1, none⟩ (.string pv)).setCell ⟨g, j * 3 + 2, none⟩ (.bool pg)).drew)) :=
  ⟨(h.swap hi hj ⟨pk, pv, pg⟩ ⟨qk, qv, qg⟩).drew, (kept_put (kept_put k (rfl : only g g) _ _ _ _ _ _) (rfl : only g g) _ _ _ _ _ _).drew⟩

set_option maxHeartbeats 4000000 in
set_option maxRecDepth 100000 in
theorem swapRange_any (fv : Value) (d : List Pair) (T : List Value) (g cap a b n : Nat) (w : World) (hL : At w g d T) (hd : d.length ≤ 1000000) (h : a + n ≤ b) (hb : b + n ≤ d.length) :
    Calls Tryz.prog 104 #[.slice (some ⟨g, 0, none⟩) d.length cap, .int .i64 (a : Int), .int .i64 (b : Int), .int .i64 (n : Int), fv] w fun e w' =>
      e = .returned (.tuple #[]) ∧ (∃ d', Swaps a b n n d d' ∧ At w' g d' T) ∧ Kept (only g) w w' := by
  have a26 := aggP
  have z26 := sizeP
  have HL : Hid (At w g d T) := hL
  have HS : Hid (Swaps a b n 0 d d) := swaps_start h hb
  generalize hN : d.length = N at *
  have HN : Hid (d.length = N) := hN
  clear hL hN
  go_enter Tryz.func104, Tryz.ntmps104
  go_wp2_with fail
  go_loopw [10] (fun i wr => ∃ (k : Nat) (dk : List Pair), k ≤ n ∧ i = .int .i64 (k : Int) ∧ Hid (Swaps a b n k d dk) ∧ Hid (At wr g dk T) ∧ Hid (Kept (only g) w wr)) (fun i _ => n - (intOf i).toNat)
  case atStart => exact ⟨0, d, Nat.zero_le _, rfl, HS, HL, Kept.refl _ _⟩
  case round =>
    obtain ⟨k, dk, hk, rfl, HSk, HLk, HKk⟩ := hrel
    by_cases hlt : k < n
    · have i1 : (k : Int) < (n : Int) := by omega
      obtain ⟨p, q, hp, hq, hs⟩ := swaps_step HSk.out hlt
      obtain ⟨p0, p1, p2⟩ := HLk.out.cell hp
      obtain ⟨q0, q1, q2⟩ := HLk.out.cell hq
      have HP : Hid (a + k < dk.length ∧ b + k < dk.length) := by have := HSk.out.length; have := HN.out; exact ⟨by omega, by omega⟩
      have HS2 : Hid (Swaps a b n (k + 1) d ((dk.set (a + k) q).set (b + k) p)) := hs
      have f0 : ∀ j, wr.frozen? ⟨g, j, none⟩ = false := fun j => Lies.frozen HLk.out j
      obtain ⟨A, hA⟩ : ∃ A : Nat, A = a + k := ⟨_, rfl⟩
      obtain ⟨B, hB⟩ : ∃ B : Nat, B = b + k := ⟨_, rfl⟩
      rw [← hA] at p0 p1 p2 HP HS2
      rw [← hB] at q0 q1 q2 HP HS2
      have e1 : (a : Int) + (k : Int) = (A : Int) := by omega
      have e2 : (b : Int) + (k : Int) = (B : Int) := by omega
      have w1 : IntKind.i64.wrap (A : Int) = (A : Int) := by rw [IntKind.wrap_i64]; omega
      have w2 : IntKind.i64.wrap (B : Int) = (B : Int) := by rw [IntKind.wrap_i64]; omega
      have b1 : (A : Int) < (N : Int) := by omega
      have b2 : (B : Int) < (N : Int) := by omega
      obtain ⟨pk, pv, pg⟩ := p
      obtain ⟨qk, qv, qg⟩ := q
      simp only at p0 p1 p2 q0 q1 q2
      clear hp hq hs hA hB
      go_upto_region 3 with fail
      go_region
      obtain ⟨HL2, HK2⟩ := swapped HLk.out HKk.out HP.out.1 HP.out.2 pk pv pg qk qv qg
      clear p0 p1 p2 q0 q1 q2 f0 HLk HKk
      generalize World.drew _ = wn at HL2 HK2 ⊢
      go_wp2_with fail
      go_roundw
      case rel => exact ⟨k + 1, _, by omega, by go_num, HS2, HL2, HK2⟩
      case measure => simp [intOf]; omega
    · obtain rfl : k = n := by omega
      have i1 : ¬ (k : Int) < (k : Int) := by omega
      go_wp2_with fail
      go_end0
      exact ⟨rfl, ⟨dk, HSk.out, HLk.out⟩, HKk.out⟩

set_option maxHeartbeats 4000000 in
set_option maxRecDepth 100000 in
theorem rotate_any (fv : Value) (d t : List Pair) (T : List Value) (g cap a m b : Nat) (w : World) (hL : At w g d T) (hd : d.length ≤ 1000000) (h1 : a < m) (h2 : m < b) (ht : Turns m (m - a) (b - m) t d) :
    Calls Tryz.prog 96 #[.slice (some ⟨g, 0, none⟩) d.length cap, .int .i64 (a : Int), .int .i64 (m : Int), .int .i64 (b : Int), fv] w fun e w' =>
      e = .returned (.tuple #[]) ∧ At w' g t T ∧ Kept (only g) w w' := by
  have HL : Hid (At w g d T) := hL
  have HT : Hid (Turns m (m - a) (b - m) t d) := ht
  generalize hN : d.length = N at *
  have HC : Hid (∀ (dk : List Pair) (wr : World) (x y n : Nat), dk.length = N → At wr g dk T → x + n ≤ y → y + n ≤ N → Calls Tryz.prog 104 #[.slice (some ⟨g, 0, none⟩) N cap, .int .i64 (x : Int), .int .i64 (y : Int), .int .i64 (n : Int), fv] wr fun e w' => e = .returned (.tuple #[]) ∧ (∃ d', Swaps x y n n dk d' ∧ At w' g d' T) ∧ Kept (only g) wr w') := by
    intro dk wr x y n hl hat h3 h4
    have := swapRange_any fv dk T g cap x y n wr hat (by omega) h3 (by omega)
    rw [hl] at this
    exact this
  have HTN : Hid (t.length = N) := by show _ = _; rw [ht.length, hN]
  have hr := ht.room
  rw [hN] at hr
  obtain ⟨I, hI⟩ : ∃ I : Nat, I = m - a := ⟨_, rfl⟩
  obtain ⟨J, hJ⟩ : ∃ J : Nat, J = b - m := ⟨_, rfl⟩
  rw [← hI, ← hJ] at HT
  have e1 : (m : Int) - (a : Int) = (I : Int) := by omega
  have e2 : (b : Int) - (m : Int) = (J : Int) := by omega
  have w1 : IntKind.i64.wrap (I : Int) = (I : Int) := by rw [IntKind.wrap_i64]; omega
  have w2 : IntKind.i64.wrap (J : Int) = (J : Int) := by rw [IntKind.wrap_i64]; omega
  have hI0 : 0 < I := by omega
  have hJ0 : 0 < J := by omega
  have hm : m ≤ 1000000 := by omega
  have hI1 : I ≤ 1000000 := by omega
  have hJ1 : J ≤ 1000000 := by omega
  clear hL ht hr hI hJ hN
  go_enter Tryz.func96, Tryz.ntmps96
  go_upto_region 2 with fail
  clear e1 e2 w1 w2
  go_loopw [10, 11] (fun iv jv wr => ∃ (i j : Nat) (dk : List Pair), 0 < i ∧ 0 < j ∧ i ≤ 1000000 ∧ j ≤ 1000000 ∧ iv = .int .i64 (i : Int) ∧ jv = .int .i64 (j : Int) ∧ Hid (Turns m i j t dk) ∧ Hid (At wr g dk T) ∧ Hid (Kept (only g) w wr)) (fun iv jv _ => (intOf iv).toNat + (intOf jv).toNat)
  case atStart => exact ⟨I, J, d, hI0, hJ0, hI1, hJ1, rfl, rfl, HT, HL, Kept.refl _ _⟩
  case round =>
    obtain ⟨i, j, dk, hi0, hj0, hi1, hj1, rfl, rfl, HTk, HLk, HKk⟩ := hrel
    have hl : dk.length = N := by rw [← HTk.out.length]; exact HTN.out
    obtain ⟨r1, r2⟩ := HTk.out.room
    rw [hl] at r2
    obtain ⟨M, hM⟩ : ∃ M : Nat, M = m - i := ⟨_, rfl⟩
    have e1 : (m : Int) - (i : Int) = (M : Int) := by omega
    have w1 : IntKind.i64.wrap (M : Int) = (M : Int) := by rw [IntKind.wrap_i64]; omega
    rcases Nat.lt_trichotomy i j with hij | hij | hij
    · -- more behind
      obtain ⟨Q, hQ⟩ : ∃ Q : Nat, Q = m + j := ⟨_, rfl⟩
      obtain ⟨R, hR⟩ : ∃ R : Nat, R = m + j - i := ⟨_, rfl⟩
      obtain ⟨J2, hJ2⟩ : ∃ J2 : Nat, J2 = j - i := ⟨_, rfl⟩
      have e2 : (m : Int) + (j : Int) = (Q : Int) := by omega
      have e3 : (Q : Int) - (i : Int) = (R : Int) := by omega
      have e4 : (j : Int) - (i : Int) = (J2 : Int) := by omega
      have w2 : IntKind.i64.wrap (Q : Int) = (Q : Int) := by rw [IntKind.wrap_i64]; omega
      have w3 : IntKind.i64.wrap (R : Int) = (R : Int) := by rw [IntKind.wrap_i64]; omega
      have w4 : IntKind.i64.wrap (J2 : Int) = (J2 : Int) := by rw [IntKind.wrap_i64]; omega
      have c := HC.out dk wr M R i hl HLk.out (by omega) (by omega)
      have i1 : ((i : Int) == (j : Int)) = false := by simp; omega
      have i2 : ¬ (j : Int) < (i : Int) := by omega
      have HX : Hid (∀ d', Swaps M R i i dk d' → Turns m i J2 t d') := fun d' hs => by rw [hJ2]; exact turns_right HTk.out hij (by rw [← hM, ← hR]; exact hs)
      have HJ : Hid (0 < J2 ∧ J2 ≤ 1000000 ∧ J2 + i = j) := ⟨by omega, by omega, by omega⟩
      clear hM hQ hR hJ2 hl r1 r2 HLk HTk
      go_wp2_with (go_at_call 104; refine c.mono ?_; rintro e w5 ⟨rfl, ⟨d5, s5, l5⟩, k5⟩; have T5 := HX.out _ s5; have HL5 : Hid (At w5 g d5 T) := l5; have HK5 : Hid (Kept (only g) w w5) := HKk.out.trans k5 (fun _ q => .inl q); have HT5 : Hid (Turns m i J2 t d5) := T5; clear s5 l5 k5 T5)
      go_roundw
      case rel => exact ⟨i, J2, d5, hi0, HJ.out.1, hi1, HJ.out.2.1, rfl, rfl, HT5, HL5, HK5⟩
      case measure => have := HJ.out; simp [intOf]; omega
    · -- as many
      subst hij
      have c := HC.out dk wr M m i hl HLk.out (by omega) (by omega)
      have i1 : ((i : Int) == (i : Int)) = true := by simp
      have HX : Hid (∀ d', Swaps M m i i dk d' → d' = t) := fun d' hs => turns_end HTk.out (by rw [← hM]; exact hs)
      clear hM hl r1 r2 HLk HTk
      go_wp2_with (go_at_call 104; refine c.mono ?_; rintro e w5 ⟨rfl, ⟨d5, s5, l5⟩, k5⟩; have T5 := HX.out _ s5; rw [T5] at l5; have HL5 : Hid (At w5 g t T) := l5; have HK5 : Hid (Kept (only g) w w5) := HKk.out.trans k5 (fun _ q => .inl q); clear s5 l5 k5 T5)
      go_end0
      exact ⟨rfl, HL5.out, HK5.out⟩
    · -- more ahead
      obtain ⟨I2, hI2⟩ : ∃ I2 : Nat, I2 = i - j := ⟨_, rfl⟩
      have e4 : (i : Int) - (j : Int) = (I2 : Int) := by omega
      have w4 : IntKind.i64.wrap (I2 : Int) = (I2 : Int) := by rw [IntKind.wrap_i64]; omega
      have c := HC.out dk wr M m j hl HLk.out (by omega) (by omega)
      have i1 : ((i : Int) == (j : Int)) = false := by simp; omega
      have i2 : (j : Int) < (i : Int) := by omega
      have HX : Hid (∀ d', Swaps M m j j dk d' → Turns m I2 j t d') := fun d' hs => by rw [hI2]; exact turns_left HTk.out hij (by rw [← hM]; exact hs)
      have HJ : Hid (0 < I2 ∧ I2 ≤ 1000000 ∧ I2 + j = i) := ⟨by omega, by omega, by omega⟩
      clear hM hI2 hl r1 r2 HLk HTk
      go_wp2_with (go_at_call 104; refine c.mono ?_; rintro e w5 ⟨rfl, ⟨d5, s5, l5⟩, k5⟩; have T5 := HX.out _ s5; have HL5 : Hid (At w5 g d5 T) := l5; have HK5 : Hid (Kept (only g) w w5) := HKk.out.trans k5 (fun _ q => .inl q); have HT5 : Hid (Turns m I2 j t d5) := T5; clear s5 l5 k5 T5)
      go_roundw
      case rel => exact ⟨I2, j, d5, HJ.out.1, hj0, HJ.out.2.1, hj1, rfl, rfl, HT5, HL5, HK5⟩
      case measure => have := HJ.out; simp [intOf]; omega

end Go.Proofs.YtofaegcljcpceagGreatDoor.WalkSwap

/-
  What package slices does with a few pairs for the stable sort: by insertion.
-/
namespace Go.Proofs.YtofaegcljcpceagGreatDoor.WalkInsSort
open Go.RowKit
open Lists (bt)
open Keeps (Kept)
open Stores (Pair lt)
open Spots (cmp)
open WalkStoFind (aggP sizeP)
open WalkSwap (At only)
open Stables Merges

/-- how the sort compares: by key -/
abbrev byKey : Value := .func (.func 45) #[] #[]
theorem byKey_any (x0 x1 : ByteArray) (x2 : Bool) (y0 y1 : ByteArray) (y2 : Bool) (w : World) : Calls Tryz.prog 45 #[.agg #[.string x0, .string x1, .bool x2], .agg #[.string y0, .string y1, .bool y2]] w fun e w' => e = .returned (.int .i64 (cmp x0 y0)) ∧ Below w.heap.size w w' := by
  have b0 : Below w.heap.size w ((w.alloc (.cells #[.string x0, .string x1, .bool x2] 31)).alloc (.cells #[.string y0, .string y1, .bool y2] 31)) := ((Below.refl _ _).alloc (Nat.le_refl _) _).alloc (by simp) _
  go_enter Tryz.func45, Tryz.ntmps45
  go_wp2_with fail
  refine (WalkStoFind.compare_any x0 y0 _).mono ?_
  rintro e w1 ⟨rfl, rfl⟩
  go_wp2_with fail
  go_ret
  exact ⟨rfl, b0⟩
/-- what it says, as the sort asks -/
theorem cmp_lt (a b : ByteArray) : decide (cmp a b < 0) = lt a b := by
  cases h : lt a b with
  | true => rw [Spots.cmp_neg h]; rfl
  | false =>
    have : ¬ cmp a b < 0 := by
      by_cases e : a = b
      · rw [e, Spots.cmp_zero]; decide
      · rw [Spots.cmp_pos h e]; decide
    exact decide_eq_false this

set_option maxHeartbeats 4000000 in
set_option maxRecDepth 100000 in
theorem ins_any (d : List Pair) (T : List Value) (g cap a b : Nat) (w : World) (hL : At w g d T) (hd : d.length ≤ 1000000) (h1 : a ≤ b) (h2 : b ≤ d.length) :
    Calls Tryz.prog 86 #[.slice (some ⟨g, 0, none⟩) d.length cap, .int .i64 (a : Int), .int .i64 (b : Int), byKey] w fun e w' =>
      e = .returned (.tuple #[]) ∧ (∃ d', Sorts a b d d' ∧ At w' g d' T) ∧ Kept (only g) w w' := by
  have a26 := aggP
  have z26 := sizeP
  have HL : Hid (At w g d T) := hL
  have HS : Hid (Sorts a (min (a + 1) b) d d) := sorts_start (by omega) (by omega) (by omega)
  generalize hN : d.length = N at *
  have HN : Hid (d.length = N) := hN
  clear hL hN
  go_enter Tryz.func86, Tryz.ntmps86
  go_wp2_with fail
  go_loopw [8] (fun iv wr => ∃ (i : Nat) (dk : List Pair), a + 1 ≤ i ∧ i ≤ N + 1 ∧ iv = .int .i64 (i : Int) ∧ Hid (Sorts a (min i b) d dk) ∧ Hid (At wr g dk T) ∧ Hid (Kept (only g) w wr)) (fun iv _ => N + 1 - (intOf iv).toNat)
  case atStart => exact ⟨a + 1, d, Nat.le_refl _, by omega, by go_num, HS, HL, Kept.refl _ _⟩
  case round =>
    obtain ⟨i, dk, hi1, hi2, rfl, HSk, HLk, HKk⟩ := hrel
    by_cases hlt : i < b
    · have i1 : (i : Int) < (b : Int) := by omega
      have hmin : min i b = i := by omega
      have HSI : Hid (Sinks a i i d dk) := by
        have h := HSk.out
        rw [hmin] at h
        exact sinks_start h (by have := HN.out; omega)
      have hmin2 : min (i + 1) b = i + 1 := by omega
      have HM : Hid (min (i + 1) b = i + 1) := hmin2
      clear HSk hmin hmin2
      go_upto_region 4 with fail
      go_loopw [9] (fun jv wr => ∃ (j : Nat) (dk : List Pair), a ≤ j ∧ j ≤ i ∧ jv = .int .i64 (j : Int) ∧ Hid (Sinks a i j d dk) ∧ Hid (At wr g dk T) ∧ Hid (Kept (only g) w wr)) (fun jv _ => (intOf jv).toNat)
      case atStart => exact ⟨i, dk, by omega, Nat.le_refl _, rfl, HSI, HLk, HKk⟩
      clear HSI HLk HKk
      case round =>
        obtain ⟨j, dk, hj1, hj2, rfl, HSj, HLj, HKj⟩ := hrel
        have hlen := HSj.out.length
        rw [HN.out] at hlen
        by_cases hja : a < j
        · have j1 : (a : Int) < (j : Int) := by omega
          obtain ⟨J, hJ⟩ : ∃ J : Nat, J = j - 1 := ⟨_, rfl⟩
          have e1 : (j : Int) - 1 = (J : Int) := by omega
          have w1 : IntKind.i64.wrap (J : Int) = (J : Int) := by rw [IntKind.wrap_i64]; omega
          have b1 : (J : Int) < (N : Int) := by omega
          have b2 : (j : Int) < (N : Int) := by omega
          obtain ⟨p, hp⟩ : ∃ p, dk[J]? = some p := ⟨dk[J]'(by omega), List.getElem?_eq_getElem _⟩
          obtain ⟨q, hq⟩ : ∃ q, dk[j]? = some q := ⟨dk[j]'(by omega), List.getElem?_eq_getElem _⟩
          obtain ⟨p0, p1, p2⟩ := HLj.out.cell hp
          obtain ⟨q0, q1, q2⟩ := HLj.out.cell hq
          have HX : Hid (lt q.key p.key = true → Sinks a i J d ((dk.set j p).set J q)) := fun hlt => by
            rw [List.set_comm _ _ (by omega), hJ]
            exact sinks_step HSj.out hja (by rw [← hJ]; exact hp) hq hlt
          have HY : Hid (lt q.key p.key = false → Sorts a (i + 1) d dk) := fun hlt => sinks_end HSj.out (.inr ⟨p, q, by rw [← hJ]; exact hp, hq, hlt⟩)
          have HP : Hid (J < dk.length ∧ j < dk.length ∧ J + 1 = j) := ⟨by omega, by omega, by omega⟩
          obtain ⟨pk, pv, pg⟩ := p
          obtain ⟨qk, qv, qg⟩ := q
          simp only at p0 p1 p2 q0 q1 q2
          have s0 := fun dd os => cell_regrown p0 dd os
          have s1 := fun dd os => cell_regrown p1 dd os
          have s2 := fun dd os => cell_regrown p2 dd os
          have t0 := fun dd os => cell_regrown q0 dd os
          have t1 := fun dd os => cell_regrown q1 dd os
          have t2 := fun dd os => cell_regrown q2 dd os
          have f0 : ∀ W, Below wr.heap.size wr W → At W g dk T ∧ Kept (only g) w W := fun W b => ⟨HLj.out.below b, HKj.out.then b⟩
          have HF : Hid (∀ W, Below wr.heap.size wr W → At W g dk T ∧ Kept (only g) w W) := f0
          have HPQ : Hid (dk[J]? = some ⟨pk, pv, pg⟩ ∧ dk[j]? = some ⟨qk, qv, qg⟩) := ⟨hp, hq⟩
          clear hp hq hJ hlen p0 p1 p2 q0 q1 q2 f0 HSj HLj HKj
          cases hl : lt qk pk with
          | true =>
            have x1 := fun dd os => Calls.regrown_of (w := wr) (d := dd) (os := os) (byKey_any qk qv qg pk pv pg _)
            rw [Spots.cmp_neg hl] at x1
            have HX2 := HX.out hl
            have HX3 : Hid (Sinks a i J d ((dk.set j ⟨pk, pv, pg⟩).set J ⟨qk, qv, qg⟩)) := HX2
            clear HX HY hl HX2
            go_upto_region 4 with fail
            refine wp_region_quiet_below (by kernel_rfl) (by kernel_rfl) ?_
            iterate 14 (quiet_step (fail))
            quiet_step (exact x1 _ _)
            iterate 2 (quiet_step (fail))
            refine wpQuiet_nil ?_
            intro _ hw'
            obtain ⟨⟨dq, osq⟩, hw''⟩ := hw'
            subst hw''
            have bb := below_regrown wr dq osq
            clear s0 s1 s2 t0 t1 t2 x1
            generalize «Sort».grow (redrawn wr dq) osq = w4 at bb ⊢
            obtain ⟨l4, k4⟩ := HF.out w4 bb
            have HL4 : Hid (At w4 g dk T) := l4
            have HK4 : Hid (Kept (only g) w w4) := k4
            clear bb HF l4 k4
            go_upto_region 6 with fail
            obtain ⟨p0, p1, p2⟩ := HL4.out.cell HPQ.out.1
            obtain ⟨q0, q1, q2⟩ := HL4.out.cell HPQ.out.2
            have f0 : ∀ j, w4.frozen? ⟨g, j, none⟩ = false := fun j => WideCopy.Lies.frozen HL4.out j
            simp only at p0 p1 p2 q0 q1 q2
            go_region
            obtain ⟨HL5, HK5⟩ := WalkSwap.swapped HL4.out HK4.out HP.out.2.1 HP.out.1 qk qv qg pk pv pg
            clear p0 p1 p2 q0 q1 q2 f0 HL4 HK4
            generalize World.drew _ = w5 at HL5 HK5 ⊢
            go_wp2_with fail
            go_roundw
            case rel => exact ⟨J, _, by have := HP.out; omega, by have := HP.out; omega, rfl, HX3, HL5, HK5⟩
            case measure => have := HP.out; simp [intOf]; omega
          | false =>
            have x1 := fun dd os => Calls.regrown_of (w := wr) (d := dd) (os := os) (byKey_any qk qv qg pk pv pg _)
            have c0 : ¬ cmp qk pk < 0 := by
              have := cmp_lt qk pk
              rw [hl] at this
              exact of_decide_eq_false this
            have HX3 : Hid (Sorts a (min (i + 1) b) d dk) := by show Sorts _ _ _ _; rw [HM.out]; exact HY.out hl
            clear HX HY hl
            generalize cmp qk pk = c at x1 c0
            go_upto_region 4 with fail
            refine wp_region_quiet_below (by kernel_rfl) (by kernel_rfl) ?_
            iterate 14 (quiet_step (fail))
            quiet_step (exact x1 _ _)
            iterate 2 (quiet_step (fail))
            refine wpQuiet_nil ?_
            intro _ hw'
            obtain ⟨⟨dq, osq⟩, hw''⟩ := hw'
            subst hw''
            have bb := below_regrown wr dq osq
            clear s0 s1 s2 t0 t1 t2 x1
            generalize «Sort».grow (redrawn wr dq) osq = w4 at bb ⊢
            obtain ⟨l4, k4⟩ := HF.out w4 bb
            have HL4 : Hid (At w4 g dk T) := l4
            have HK4 : Hid (Kept (only g) w w4) := k4
            clear bb HF l4 k4 HPQ
            go_wp2_with fail
            go_roundw
            case rel => exact ⟨i + 1, dk, by omega, by omega, by go_num, HX3, HL4, HK4⟩
            case measure => simp [intOf]; omega
        · obtain rfl : j = a := by omega
          have j1 : ¬ (j : Int) < (j : Int) := by omega
          have HX3 : Hid (Sorts j (min (i + 1) b) d dk) := by show Sorts _ _ _ _; rw [HM.out]; exact sinks_end HSj.out (.inl rfl)
          have HL4 : Hid (At wr.drew g dk T) := HLj.out.drew
          have HK4 : Hid (Kept (only g) w wr.drew) := HKj.out.drew
          clear HSj HLj HKj hlen
          go_upto_region 4 with fail
          go_region
          generalize World.drew _ = w4 at HL4 HK4 ⊢
          go_wp2_with fail
          go_roundw
          case rel => exact ⟨i + 1, dk, by omega, by omega, by go_num, HX3, HL4, HK4⟩
          case measure => simp [intOf]; omega
    · have i1 : ¬ (i : Int) < (b : Int) := by omega
      have HE : Hid (Sorts a b d dk) := by
        have h := HSk.out
        rw [show min i b = b by omega] at h
        exact h
      go_wp2_with fail
      go_end0
      exact ⟨rfl, ⟨dk, HE.out, HLk.out⟩, HKk.out⟩

end Go.Proofs.YtofaegcljcpceagGreatDoor.WalkInsSort

/-
  What package slices does with two sorted parts side by side for the stable sort: it merges them in place.
-/
namespace Go.Proofs.YtofaegcljcpceagGreatDoor.WalkSymMerge
open Go.RowKit
open Lists (bt)
open Keeps (Kept)
open Stores (Pair lt)
open Spots (cmp)
open WalkStoFind (aggP sizeP)
open WalkSwap (At only)
open WalkInsSort (byKey byKey_any cmp_lt)
open Stables Merges

theorem mono_left {a m b : Nat} {d : List Pair} (h : Parts a m b d) : Mono (fun x => lt (kx d x) (kx d a)) m b := fun _ _ h1 h2 h3 hq => lt_of_le_of_lt (h.le_right h1 h2 h3) hq
theorem mono_right {a m b : Nat} {d : List Pair} (h : Parts a m b d) : Mono (fun x => !lt (kx d m) (kx d x)) a m := fun x y h1 h2 h3 hq => by
  have hq : lt (kx d m) (kx d y) = false := by simpa using hq
  have := Stores.le_trans (h.le_left h1 h2 h3) hq
  simpa using this

/-- what is left of it -/
def Done (d : List Pair) (T : List Value) (g a b : Nat) (w : World) (e : Ending) (w' : World) : Prop := e = .returned (.tuple #[]) ∧ (∃ d', Sorts a b d d' ∧ At w' g d' T) ∧ Kept (only g) w w'

set_option maxHeartbeats 4000000 in
set_option maxRecDepth 100000 in
/-- one ahead -/
theorem sym_left (d : List Pair) (T : List Value) (g cap a m b : Nat) (w : World) (hL : At w g d T) (hd : d.length ≤ 1000000) (h1 : a + 1 = m) (hp : Parts a m b d) :
    Calls Tryz.prog 87 #[.slice (some ⟨g, 0, none⟩) d.length cap, .int .i64 (a : Int), .int .i64 (m : Int), .int .i64 (b : Int), byKey] w fun e w' => Done d T g a b w e w' := by
  have a26 := aggP
  have z26 := sizeP
  obtain ⟨r1, r2, r3⟩ := hp.room
  have HL : Hid (At w g d T) := hL
  have HM : Hid (Mono (fun x => lt (kx d x) (kx d a)) m b) := mono_left hp
  have HE : Hid (∀ i d', Between (fun x => lt (kx d x) (kx d a)) m b i i → Climbs a (i - 1) d d' → Sorts a b d d') := fun i d' hb hc => by
    subst h1
    exact climbs_end hp hb hc
  obtain ⟨p, hpa⟩ : ∃ p, d[a]? = some p := ⟨d[a]'(by omega), List.getElem?_eq_getElem _⟩
  have HPA : Hid (d[a]? = some p) := hpa
  have HKA : Hid (kx d a = p.key) := kx_of hpa
  have HC : Hid (Climbs a a d d) := climbs_start (by omega)
  generalize hN : d.length = N at *
  have HN : Hid (d.length = N) := hN
  have e0 : (m : Int) - (a : Int) = 1 := by omega
  have bA : (a : Int) < (N : Int) := by omega
  clear hL hp hpa hN
  go_enter Tryz.func87, Tryz.ntmps87
  go_upto_region 3 with fail
  go_loopw [10, 11] (fun iv jv wr => ∃ i j : Nat, m ≤ i ∧ i ≤ j ∧ j ≤ b ∧ iv = .int .i64 (i : Int) ∧ jv = .int .i64 (j : Int) ∧ Hid (Between (fun x => lt (kx d x) (kx d a)) m b i j) ∧ Hid (At wr g d T) ∧ Hid (Kept (only g) w wr)) (fun iv jv _ => (intOf jv).toNat - (intOf iv).toNat)
  case atStart => exact ⟨m, b, Nat.le_refl _, r2, Nat.le_refl _, rfl, rfl, between_start r2, HL, Kept.refl _ _⟩
  case round =>
    obtain ⟨i, j, hi1, hij, hj1, rfl, rfl, HB, HLk, HKk⟩ := hrel
    by_cases hlt : i < j
    · have i1 : (i : Int) < (j : Int) := by omega
      obtain ⟨M, HMd⟩ : ∃ M : Nat, Hid ((i + j) / 2 = M) := ⟨_, rfl⟩
      have k1 : ((i : Int) + (j : Int)) / 2 = (M : Int) := by have := HMd.out; omega
      have m1 : i ≤ M := by have := HMd.out; omega
      have m2 : M < j := by have := HMd.out; omega
      have i2 : (M : Int) < (N : Int) := by omega
      obtain ⟨q, hq⟩ : ∃ q, d[M]? = some q := ⟨d[M]'(by have := HN.out; omega), List.getElem?_eq_getElem _⟩
      have HQ1 : Hid (lt q.key p.key = true → Between (fun x => lt (kx d x) (kx d a)) m b (M + 1) j) := fun hl => between_up HB.out HM.out m1 m2 (by show lt (kx d M) (kx d a) = true; rw [kx_of hq, HKA.out]; exact hl)
      have HQ2 : Hid (lt q.key p.key = false → Between (fun x => lt (kx d x) (kx d a)) m b i M) := fun hl => between_down HB.out HM.out m1 m2 (by show lt (kx d M) (kx d a) = false; rw [kx_of hq, HKA.out]; exact hl)
      obtain ⟨p0, p1, p2⟩ := HLk.out.cell HPA.out
      obtain ⟨q0, q1, q2⟩ := HLk.out.cell hq
      obtain ⟨pk, pv, pg⟩ := p
      obtain ⟨qk, qv, qg⟩ := q
      simp only at p0 p1 p2 q0 q1 q2 HQ1 HQ2
      have s0 := fun dd os => cell_regrown p0 dd os
      have s1 := fun dd os => cell_regrown p1 dd os
      have s2 := fun dd os => cell_regrown p2 dd os
      have t0 := fun dd os => cell_regrown q0 dd os
      have t1 := fun dd os => cell_regrown q1 dd os
      have t2 := fun dd os => cell_regrown q2 dd os
      have x1 := fun dd os => Calls.regrown_of (w := wr) (d := dd) (os := os) (byKey_any qk qv qg pk pv pg _)
      clear hq p0 p1 p2 q0 q1 q2 HMd HB
      cases hl : lt qk pk with
      | true =>
        rw [Spots.cmp_neg hl] at x1
        have HB2 : Hid (Between (fun x => lt (kx d x) (kx d a)) m b (M + 1) j) := HQ1.out hl
        clear HQ1 HQ2 hl
        go_upto_region 5 with fail
        refine wp_region_quiet_below (by kernel_rfl) (by kernel_rfl) ?_
        iterate 9 (quiet_step (fail))
        quiet_step (exact x1 _ _)
        quiet_step (fail)
        refine wpQuiet_nil ?_
        intro _ hw'
        obtain ⟨⟨dq, osq⟩, hw''⟩ := hw'
        subst hw''
        have bb := below_regrown wr dq osq
        clear s0 s1 s2 t0 t1 t2 x1
        generalize «Sort».grow (redrawn wr dq) osq = w4 at bb ⊢
        have HL4 : Hid (At w4 g d T) := HLk.out.below bb
        have HK4 : Hid (Kept (only g) w w4) := HKk.out.then bb
        clear bb HLk HKk
        go_wp2_with fail
        go_roundw
        case rel => exact ⟨M + 1, j, by omega, by omega, hj1, by go_num, rfl, HB2, HL4, HK4⟩
        case measure => simp [intOf]; omega
      | false =>
        have c0 : ¬ cmp qk pk < 0 := by
          have := cmp_lt qk pk
          rw [hl] at this
          exact of_decide_eq_false this
        have HB2 : Hid (Between (fun x => lt (kx d x) (kx d a)) m b i M) := HQ2.out hl
        clear HQ1 HQ2 hl
        generalize cmp qk pk = c at x1 c0
        go_upto_region 5 with fail
        refine wp_region_quiet_below (by kernel_rfl) (by kernel_rfl) ?_
        iterate 9 (quiet_step (fail))
        quiet_step (exact x1 _ _)
        quiet_step (fail)
        refine wpQuiet_nil ?_
        intro _ hw'
        obtain ⟨⟨dq, osq⟩, hw''⟩ := hw'
        subst hw''
        have bb := below_regrown wr dq osq
        clear s0 s1 s2 t0 t1 t2 x1
        generalize «Sort».grow (redrawn wr dq) osq = w4 at bb ⊢
        have HL4 : Hid (At w4 g d T) := HLk.out.below bb
        have HK4 : Hid (Kept (only g) w w4) := HKk.out.then bb
        clear bb HLk HKk
        go_wp2_with fail
        go_roundw
        case rel => exact ⟨i, M, hi1, m1, by omega, rfl, rfl, HB2, HL4, HK4⟩
        case measure => simp [intOf]; omega
    · obtain rfl : i = j := by omega
      have i1 : ¬ (i : Int) < (i : Int) := by omega
      obtain ⟨I, hI⟩ : ∃ I : Nat, I = i - 1 := ⟨_, rfl⟩
      have e1 : (i : Int) - 1 = (I : Int) := by omega
      have w1 : IntKind.i64.wrap (I : Int) = (I : Int) := by rw [IntKind.wrap_i64]; omega
      have HE2 : Hid (∀ d', Climbs a I d d' → Sorts a b d d') := fun d' hc => HE.out i d' HB.out (by rw [← hI]; exact hc)
      have hI1 : a ≤ I := by omega
      have hI2 : I + 1 ≤ b := by omega
      clear HE HB hI
      go_upto_region 9 with fail
      go_loopw [13] (fun kv wr => ∃ (k : Nat) (dk : List Pair), a ≤ k ∧ k ≤ I ∧ kv = .int .i64 (k : Int) ∧ Hid (Climbs a k d dk) ∧ Hid (At wr g dk T) ∧ Hid (Kept (only g) w wr)) (fun kv _ => I - (intOf kv).toNat)
      case atStart => exact ⟨a, d, Nat.le_refl _, hI1, rfl, HC, HLk, HKk⟩
      clear HLk HKk
      case round =>
        obtain ⟨k, dk, hk1, hk2, rfl, HCk, HLk, HKk⟩ := hrel
        by_cases hkI : k < I
        · have j1 : (k : Int) < (I : Int) := by omega
          have hlen := HCk.out.length
          rw [HN.out] at hlen
          obtain ⟨K, hK⟩ : ∃ K : Nat, K = k + 1 := ⟨_, rfl⟩
          have e2 : (k : Int) + 1 = (K : Int) := by omega
          have w2 : IntKind.i64.wrap (K : Int) = (K : Int) := by rw [IntKind.wrap_i64]; omega
          have b1 : (k : Int) < (N : Int) := by omega
          have b2 : (K : Int) < (N : Int) := by omega
          obtain ⟨x, y, hx, hy, hs⟩ := climbs_step HCk.out (by have := HN.out; omega)
          rw [← hK] at hy hs
          have HC2 : Hid (Climbs a K d ((dk.set k y).set K x)) := hs
          have HP : Hid (k < dk.length ∧ K < dk.length ∧ k + 1 = K) := ⟨by omega, by omega, by omega⟩
          obtain ⟨p0, p1, p2⟩ := HLk.out.cell hx
          obtain ⟨q0, q1, q2⟩ := HLk.out.cell hy
          have f0 : ∀ j, wr.frozen? ⟨g, j, none⟩ = false := fun j => WideCopy.Lies.frozen HLk.out j
          obtain ⟨xk, xv, xg⟩ := x
          obtain ⟨yk, yv, yg⟩ := y
          simp only at p0 p1 p2 q0 q1 q2
          clear hx hy hs hlen hK
          go_upto_region 11 with fail
          go_region
          obtain ⟨HL5, HK5⟩ := WalkSwap.swapped HLk.out HKk.out HP.out.1 HP.out.2.1 xk xv xg yk yv yg
          clear p0 p1 p2 q0 q1 q2 f0 HLk HKk
          generalize World.drew _ = w5 at HL5 HK5 ⊢
          go_wp2_with fail
          go_roundw
          case rel => exact ⟨K, _, by omega, by omega, by go_num, HC2, HL5, HK5⟩
          case measure => have := HP.out; simp [intOf]; omega
        · obtain rfl : k = I := by omega
          have j1 : ¬ (k : Int) < (k : Int) := by omega
          go_wp2_with fail
          refine bodyPost_ret (results_none rfl _ _ _) rfl ?_
          exact ⟨rfl, ⟨dk, HE2.out dk HCk.out, HLk.out⟩, HKk.out⟩

set_option maxHeartbeats 4000000 in
set_option maxRecDepth 100000 in
/-- one behind -/
theorem sym_right (d : List Pair) (T : List Value) (g cap a m b : Nat) (w : World) (hL : At w g d T) (hd : d.length ≤ 1000000) (h1 : a + 1 < m) (h2 : m + 1 = b) (hp : Parts a m b d) :
    Calls Tryz.prog 87 #[.slice (some ⟨g, 0, none⟩) d.length cap, .int .i64 (a : Int), .int .i64 (m : Int), .int .i64 (b : Int), byKey] w fun e w' => Done d T g a b w e w' := by
  have a26 := aggP
  have z26 := sizeP
  obtain ⟨r1, r2, r3⟩ := hp.room
  have HL : Hid (At w g d T) := hL
  have HM : Hid (Mono (fun x => !lt (kx d m) (kx d x)) a m) := mono_right hp
  have HE : Hid (∀ i d', Between (fun x => !lt (kx d m) (kx d x)) a m i i → Falls m i d d' → Sorts a b d d') := fun i d' hb hc => by
    subst h2
    exact falls_end hp hb hc
  obtain ⟨p, hpa⟩ : ∃ p, d[m]? = some p := ⟨d[m]'(by omega), List.getElem?_eq_getElem _⟩
  have HPA : Hid (d[m]? = some p) := hpa
  have HKA : Hid (kx d m = p.key) := kx_of hpa
  have HC : Hid (Falls m m d d) := falls_start (by omega)
  generalize hN : d.length = N at *
  have HN : Hid (d.length = N) := hN
  obtain ⟨D, hD⟩ : ∃ D : Nat, D = m - a := ⟨_, rfl⟩
  have e9 : (m : Int) - (a : Int) = (D : Int) := by omega
  have w9 : IntKind.i64.wrap (D : Int) = (D : Int) := by rw [IntKind.wrap_i64]; omega
  have d9 : ((D : Int) == 1) = false := by simp; omega
  have d8 : ¬ (D : Int) = 1 := by omega
  have e0 : (b : Int) - (m : Int) = 1 := by omega
  have bA : (m : Int) < (N : Int) := by omega
  clear hL hp hpa hN hD
  go_enter Tryz.func87, Tryz.ntmps87
  go_upto_region 15 with fail
  clear e9 w9 d9 d8 e0
  go_loopw [14, 15] (fun iv jv wr => ∃ i j : Nat, a ≤ i ∧ i ≤ j ∧ j ≤ m ∧ iv = .int .i64 (i : Int) ∧ jv = .int .i64 (j : Int) ∧ Hid (Between (fun x => !lt (kx d m) (kx d x)) a m i j) ∧ Hid (At wr g d T) ∧ Hid (Kept (only g) w wr)) (fun iv jv _ => (intOf jv).toNat - (intOf iv).toNat)
  case atStart => exact ⟨a, m, Nat.le_refl _, r1, Nat.le_refl _, rfl, rfl, between_start r1, HL, Kept.refl _ _⟩
  case round =>
    obtain ⟨i, j, hi1, hij, hj1, rfl, rfl, HB, HLk, HKk⟩ := hrel
    by_cases hlt : i < j
    · have i1 : (i : Int) < (j : Int) := by omega
      obtain ⟨M, HMd⟩ : ∃ M : Nat, Hid ((i + j) / 2 = M) := ⟨_, rfl⟩
      have k1 : ((i : Int) + (j : Int)) / 2 = (M : Int) := by have := HMd.out; omega
      have m1 : i ≤ M := by have := HMd.out; omega
      have m2 : M < j := by have := HMd.out; omega
      have i2 : (M : Int) < (N : Int) := by omega
      obtain ⟨q, hq⟩ : ∃ q, d[M]? = some q := ⟨d[M]'(by have := HN.out; omega), List.getElem?_eq_getElem _⟩
      have HQ1 : Hid (lt p.key q.key = false → Between (fun x => !lt (kx d m) (kx d x)) a m (M + 1) j) := fun hl => between_up HB.out HM.out m1 m2 (by show (!lt (kx d m) (kx d M)) = true; rw [kx_of hq, HKA.out, hl]; rfl)
      have HQ2 : Hid (lt p.key q.key = true → Between (fun x => !lt (kx d m) (kx d x)) a m i M) := fun hl => between_down HB.out HM.out m1 m2 (by show (!lt (kx d m) (kx d M)) = false; rw [kx_of hq, HKA.out, hl]; rfl)
      obtain ⟨p0, p1, p2⟩ := HLk.out.cell HPA.out
      obtain ⟨q0, q1, q2⟩ := HLk.out.cell hq
      obtain ⟨pk, pv, pg⟩ := p
      obtain ⟨qk, qv, qg⟩ := q
      simp only at p0 p1 p2 q0 q1 q2 HQ1 HQ2
      have s0 := fun dd os => cell_regrown p0 dd os
      have s1 := fun dd os => cell_regrown p1 dd os
      have s2 := fun dd os => cell_regrown p2 dd os
      have t0 := fun dd os => cell_regrown q0 dd os
      have t1 := fun dd os => cell_regrown q1 dd os
      have t2 := fun dd os => cell_regrown q2 dd os
      have x1 := fun dd os => Calls.regrown_of (w := wr) (d := dd) (os := os) (byKey_any pk pv pg qk qv qg _)
      clear hq p0 p1 p2 q0 q1 q2 HMd HB
      cases hl : lt pk qk with
      | true =>
        rw [Spots.cmp_neg hl] at x1
        have HB2 : Hid (Between (fun x => !lt (kx d m) (kx d x)) a m i M) := HQ2.out hl
        clear HQ1 HQ2 hl
        go_upto_region 17 with fail
        refine wp_region_quiet_below (by kernel_rfl) (by kernel_rfl) ?_
        iterate 9 (quiet_step (fail))
        quiet_step (exact x1 _ _)
        iterate 2 (quiet_step (fail))
        refine wpQuiet_nil ?_
        intro _ hw'
        obtain ⟨⟨dq, osq⟩, hw''⟩ := hw'
        subst hw''
        have bb := below_regrown wr dq osq
        clear s0 s1 s2 t0 t1 t2 x1
        generalize «Sort».grow (redrawn wr dq) osq = w4 at bb ⊢
        have HL4 : Hid (At w4 g d T) := HLk.out.below bb
        have HK4 : Hid (Kept (only g) w w4) := HKk.out.then bb
        clear bb HLk HKk
        go_wp2_with fail
        go_roundw
        case rel => exact ⟨i, M, hi1, m1, by omega, rfl, rfl, HB2, HL4, HK4⟩
        case measure => simp [intOf]; omega
      | false =>
        have c0 : ¬ cmp pk qk < 0 := by
          have := cmp_lt pk qk
          rw [hl] at this
          exact of_decide_eq_false this
        have HB2 : Hid (Between (fun x => !lt (kx d m) (kx d x)) a m (M + 1) j) := HQ1.out hl
        clear HQ1 HQ2 hl
        generalize cmp pk qk = c at x1 c0
        go_upto_region 17 with fail
        refine wp_region_quiet_below (by kernel_rfl) (by kernel_rfl) ?_
        iterate 9 (quiet_step (fail))
        quiet_step (exact x1 _ _)
        iterate 2 (quiet_step (fail))
        refine wpQuiet_nil ?_
        intro _ hw'
        obtain ⟨⟨dq, osq⟩, hw''⟩ := hw'
        subst hw''
        have bb := below_regrown wr dq osq
        clear s0 s1 s2 t0 t1 t2 x1
        generalize «Sort».grow (redrawn wr dq) osq = w4 at bb ⊢
        have HL4 : Hid (At w4 g d T) := HLk.out.below bb
        have HK4 : Hid (Kept (only g) w w4) := HKk.out.then bb
        clear bb HLk HKk
        go_wp2_with fail
        go_roundw
        case rel => exact ⟨M + 1, j, by omega, by omega, hj1, by go_num, rfl, HB2, HL4, HK4⟩
        case measure => simp [intOf]; omega
    · obtain rfl : i = j := by omega
      have i1 : ¬ (i : Int) < (i : Int) := by omega
      have HE2 : Hid (∀ d', Falls m i d d' → Sorts a b d d') := fun d' hc => HE.out i d' HB.out hc
      clear HE HB
      go_upto_region 21 with fail
      go_loopw [17] (fun kv wr => ∃ (k : Nat) (dk : List Pair), i ≤ k ∧ k ≤ m ∧ kv = .int .i64 (k : Int) ∧ Hid (Falls m k d dk) ∧ Hid (At wr g dk T) ∧ Hid (Kept (only g) w wr)) (fun kv _ => (intOf kv).toNat)
      case atStart => exact ⟨m, d, hj1, Nat.le_refl _, rfl, HC, HLk, HKk⟩
      clear HLk HKk
      case round =>
        obtain ⟨k, dk, hk1, hk2, rfl, HCk, HLk, HKk⟩ := hrel
        by_cases hkI : i < k
        · have j1 : (i : Int) < (k : Int) := by omega
          have hlen := HCk.out.length
          rw [HN.out] at hlen
          obtain ⟨K, hK⟩ : ∃ K : Nat, K = k - 1 := ⟨_, rfl⟩
          have e2 : (k : Int) - 1 = (K : Int) := by omega
          have w2 : IntKind.i64.wrap (K : Int) = (K : Int) := by rw [IntKind.wrap_i64]; omega
          have b1 : (k : Int) < (N : Int) := by omega
          have b2 : (K : Int) < (N : Int) := by omega
          obtain ⟨x, y, hx, hy, hs⟩ := falls_step HCk.out (by omega)
          rw [← hK] at hx hs
          have HC2 : Hid (Falls m K d ((dk.set k x).set K y)) := by show Falls _ _ _ _; rw [List.set_comm _ _ (by omega)]; exact hs
          have HP : Hid (k < dk.length ∧ K < dk.length ∧ K + 1 = k) := ⟨by omega, by omega, by omega⟩
          obtain ⟨p0, p1, p2⟩ := HLk.out.cell hx
          obtain ⟨q0, q1, q2⟩ := HLk.out.cell hy
          have f0 : ∀ j, wr.frozen? ⟨g, j, none⟩ = false := fun j => WideCopy.Lies.frozen HLk.out j
          obtain ⟨xk, xv, xg⟩ := x
          obtain ⟨yk, yv, yg⟩ := y
          simp only at p0 p1 p2 q0 q1 q2
          clear hx hy hs hlen hK
          go_upto_region 23 with fail
          go_region
          obtain ⟨HL5, HK5⟩ := WalkSwap.swapped HLk.out HKk.out HP.out.1 HP.out.2.1 yk yv yg xk xv xg
          clear p0 p1 p2 q0 q1 q2 f0 HLk HKk
          generalize World.drew _ = w5 at HL5 HK5 ⊢
          go_wp2_with fail
          go_roundw
          case rel => exact ⟨K, _, by omega, by omega, rfl, HC2, HL5, HK5⟩
          case measure => have := HP.out; simp [intOf]; omega
        · obtain rfl : k = i := by omega
          have j1 : ¬ (k : Int) < (k : Int) := by omega
          go_wp2_with fail
          refine bodyPost_ret (results_none rfl _ _ _) rfl ?_
          exact ⟨rfl, ⟨dk, HE2.out dk HCk.out, HLk.out⟩, HKk.out⟩

end Go.Proofs.YtofaegcljcpceagGreatDoor.WalkSymMerge

/-
  Two sorted parts side by side, each of more than one: package slices turns what is crossed, and merges each half.
-/
namespace Go.Proofs.YtofaegcljcpceagGreatDoor.WalkSymHalves
open Go.RowKit
open Lists (bt)
open Keeps (Kept)
open Stores (Pair lt)
open Spots (cmp)
open WalkStoFind (aggP sizeP)
open WalkSwap (At only)
open WalkInsSort (byKey byKey_any cmp_lt)
open WalkSymMerge (Done)
open Stables Merges

set_option maxHeartbeats 8000000 in
set_option maxRecDepth 100000 in
theorem sym_half (d : List Pair) (T : List Value) (g cap a m b : Nat) (w : World) (hL : At w g d T) (hd : d.length ≤ 1000000) (h1 : a + 1 < m) (h2 : m + 1 < b) (hp : Parts a m b d)
    (hrec : ∀ (d' : List Pair) (w' : World) (x y z : Nat), d'.length = d.length → At w' g d' T → x < y → y < z → z - x < b - a → Parts x y z d' →
      Calls Tryz.prog 87 #[.slice (some ⟨g, 0, none⟩) d.length cap, .int .i64 (x : Int), .int .i64 (y : Int), .int .i64 (z : Int), byKey] w' fun e w'' => Done d' T g x z w' e w'') :
    Calls Tryz.prog 87 #[.slice (some ⟨g, 0, none⟩) d.length cap, .int .i64 (a : Int), .int .i64 (m : Int), .int .i64 (b : Int), byKey] w fun e w' => Done d T g a b w e w' := by
  have a26 := aggP
  have z26 := sizeP
  obtain ⟨r1, r2, r3⟩ := hp.room
  obtain ⟨c1, c2, c3, c4, c5, c6, c7⟩ := cut_room r1 r2
  have HL : Hid (At w g d T) := hL
  have HM : Hid (Mono (cutQ d ((a + b) / 2 + m)) (lowC a m b) (highC a m b)) := cut_mono hp
  have HR : Hid (∀ (d' : List Pair) (w' : World) (x y z : Nat), d'.length = d.length → At w' g d' T → x < y → y < z → z - x < b - a → Parts x y z d' →
      Calls Tryz.prog 87 #[.slice (some ⟨g, 0, none⟩) d.length cap, .int .i64 (x : Int), .int .i64 (y : Int), .int .i64 (z : Int), byKey] w' fun e w'' => Done d' T g x z w' e w'') := hrec
  have HRO : Hid (∀ (t : List Pair) (wr : World) (x y z : Nat), At wr g d T → x < y → y < z → Turns y (y - x) (z - y) t d → Calls Tryz.prog 96 #[.slice (some ⟨g, 0, none⟩) d.length cap, .int .i64 (x : Int), .int .i64 (y : Int), .int .i64 (z : Int), byKey] wr fun e w' => e = .returned (.tuple #[]) ∧ At w' g t T ∧ Kept (only g) wr w') := fun t wr x y z hat h3 h4 ht => WalkSwap.rotate_any byKey d t T g cap x y z wr hat hd h3 h4 ht
  have HCut : Hid (∀ s, Between (cutQ d ((a + b) / 2 + m)) (lowC a m b) (highC a m b) s s → a ≤ s ∧ s ≤ m ∧ s ≤ (a + b) / 2 ∧ m ≤ (a + b) / 2 + m - s ∧ (a + b) / 2 ≤ (a + b) / 2 + m - s ∧ (a + b) / 2 + m - s ≤ b ∧
    ∃ t, Turns m (m - s) ((a + b) / 2 + m - s - m) t d ∧ (s = m ∨ m = (a + b) / 2 + m - s → t = d) ∧ Parts a s ((a + b) / 2) t ∧ Parts ((a + b) / 2) ((a + b) / 2 + m - s) b t ∧ Halves a ((a + b) / 2) b d t) := fun s hs => cut_of hp hs
  have HCl : Hid (∀ c, lowC a m b ≤ c → c < highC a m b → a ≤ c ∧ c < m ∧ m ≤ (a + b) / 2 + m - 1 - c ∧ (a + b) / 2 + m - 1 - c < b) := fun c h3 h4 => by omega
  have HLo : Hid ((lowC a m b = if (a + b) / 2 < m then (a + b) / 2 + m - b else a) ∧ highC a m b = if (a + b) / 2 < m then (a + b) / 2 else m) := ⟨rfl, rfl⟩
  have hlh : lowC a m b ≤ highC a m b := c2
  have hhN : highC a m b ≤ 1000000 := by omega
  have hab : a ≤ (a + b) / 2 ∧ (a + b) / 2 < b ∧ a < (a + b) / 2 ∧ a + b ≤ 2 * ((a + b) / 2) + 1 := by omega
  generalize hC : (a + b) / 2 = C at *
  generalize lowC a m b = lo at *
  generalize highC a m b = hi at *
  generalize hN : d.length = N at *
  have HN : Hid (d.length = N) := hN
  have hb6 : b ≤ 1000000 := by omega
  have hm6 : m ≤ 1000000 := by omega
  have ha6 : a ≤ 1000000 := by omega
  have hC6 : C ≤ 1000000 := by omega
  obtain ⟨D, hD⟩ : ∃ D : Nat, D = m - a := ⟨_, rfl⟩
  obtain ⟨E, hE⟩ : ∃ E : Nat, E = b - m := ⟨_, rfl⟩
  obtain ⟨Q, hQ⟩ : ∃ Q : Nat, Q = C + m := ⟨_, rfl⟩
  have e9 : (m : Int) - (a : Int) = (D : Int) := by omega
  have w9 : IntKind.i64.wrap (D : Int) = (D : Int) := by rw [IntKind.wrap_i64]; omega
  have d9 : ((D : Int) == 1) = false := by simp; omega
  have d8 : ¬ (D : Int) = 1 := by omega
  have e7 : (b : Int) - (m : Int) = (E : Int) := by omega
  have w7 : IntKind.i64.wrap (E : Int) = (E : Int) := by rw [IntKind.wrap_i64]; omega
  have d7 : ((E : Int) == 1) = false := by simp; omega
  have d6 : ¬ (E : Int) = 1 := by omega
  have k1 : ((a : Int) + (b : Int)) / 2 = (C : Int) := by omega
  have e5 : (C : Int) + (m : Int) = (Q : Int) := by omega
  have w5 : IntKind.i64.wrap (Q : Int) = (Q : Int) := by rw [IntKind.wrap_i64]; omega
  rw [← hQ] at HM HCut HCl HLo
  have hQ6 : Q ≤ 2000000 := by omega
  have hQ1 : 1 ≤ Q := by omega
  have HQ : Hid (Q = C + m) := hQ
  have HAB : Hid (a ≤ C ∧ C < b ∧ a < C ∧ a + b ≤ 2 * C + 1) := hab
  clear hL hp hN hD hE hrec c1 c2 c3 c4 c5 c6 c7 hC hQ hab
  go_enter Tryz.func87, Tryz.ntmps87
  go_upto_if 140 with fail
  clear e9 w9 d9 d8 e7 w7 d7 d6 k1 e5 w5
  go_cut [20, 21, 140] from 141 to 146 (fun sv rv cv wc => sv = .int .i64 (lo : Int) ∧ rv = .int .i64 (hi : Int) ∧ cv = .bool (decide (C < m)) ∧ w = wc)
  case first => as_aux_lemma =>
    by_cases hc : C < m
    · have i1 : (C : Int) < (m : Int) := by omega
      have h3 := HLo.out
      rw [if_pos hc, if_pos hc] at h3
      have e5 : (Q : Int) - (b : Int) = (lo : Int) := by have := HQ.out; have := HAB.out; omega
      have w5 : IntKind.i64.wrap (lo : Int) = (lo : Int) := by rw [IntKind.wrap_i64]; omega
      have HX : Hid (hi = C) := h3.2
      clear h3
      go_wp2_with fail
      go_meet
      case rel => exact ⟨rfl, by rw [HX.out], by simp [hc], rfl⟩
    · have i1 : ¬ (C : Int) < (m : Int) := by omega
      have h3 := HLo.out
      rw [if_neg hc, if_neg hc] at h3
      have HX : Hid (lo = a ∧ hi = m) := h3
      clear h3
      go_wp2_with fail
      go_meet
      case rel => exact ⟨by rw [HX.out.1], by rw [HX.out.2], by simp [hc], rfl⟩
  obtain ⟨rfl, rfl, rfl, rfl⟩ := hcut
  generalize decide (C < m) = cb
  obtain ⟨P, hP⟩ : ∃ P : Nat, P = Q - 1 := ⟨_, rfl⟩
  have e5 : (Q : Int) - 1 = (P : Int) := by omega
  have w5 : IntKind.i64.wrap (P : Int) = (P : Int) := by rw [IntKind.wrap_i64]; omega
  have HP : Hid (P = Q - 1) := hP
  have hP6 : P ≤ 2000000 := by omega
  clear hP
  go_upto_region 33 with fail
  clear e5 w5
  go_loopw [20, 21] (fun iv jv wr => ∃ i j : Nat, lo ≤ i ∧ i ≤ j ∧ j ≤ hi ∧ iv = .int .i64 (i : Int) ∧ jv = .int .i64 (j : Int) ∧ Hid (Between (cutQ d Q) lo hi i j) ∧ Hid (At wr g d T) ∧ Hid (Kept (only g) w wr)) (fun iv jv _ => (intOf jv).toNat - (intOf iv).toNat)
  case atStart => exact ⟨lo, hi, Nat.le_refl _, hlh, Nat.le_refl _, rfl, rfl, between_start hlh, HL, Kept.refl _ _⟩
  case round =>
    obtain ⟨i, j, hi1, hij, hj1, rfl, rfl, HB, HLk, HKk⟩ := hrel
    by_cases hlt : i < j
    · have i1 : (i : Int) < (j : Int) := by omega
      obtain ⟨M, HMd⟩ : ∃ M : Nat, Hid ((i + j) / 2 = M) := ⟨_, rfl⟩
      have k1 : ((i : Int) + (j : Int)) / 2 = (M : Int) := by have := HMd.out; omega
      have m1 : i ≤ M := by have := HMd.out; omega
      have m2 : M < j := by have := HMd.out; omega
      obtain ⟨n1, n2, n3, n4⟩ := HCl.out M (by omega) (by omega)
      obtain ⟨R, hR⟩ : ∃ R : Nat, R = Q - 1 - M := ⟨_, rfl⟩
      rw [← hR] at n3 n4
      have e5 : (P : Int) - (M : Int) = (R : Int) := by have := HP.out; omega
      have w5 : IntKind.i64.wrap (R : Int) = (R : Int) := by rw [IntKind.wrap_i64]; omega
      have i2 : (M : Int) < (N : Int) := by omega
      have i3 : (R : Int) < (N : Int) := by omega
      obtain ⟨q, hq⟩ : ∃ q, d[M]? = some q := ⟨d[M]'(by have := HN.out; omega), List.getElem?_eq_getElem _⟩
      obtain ⟨p, hp⟩ : ∃ p, d[R]? = some p := ⟨d[R]'(by have := HN.out; omega), List.getElem?_eq_getElem _⟩
      have HQ1 : Hid (lt p.key q.key = false → Between (cutQ d Q) lo hi (M + 1) j) := fun hl => between_up HB.out HM.out m1 m2 (by show (!lt (kx d (Q - 1 - M)) (kx d M)) = true; rw [← hR, kx_of hq, kx_of hp, hl]; rfl)
      have HQ2 : Hid (lt p.key q.key = true → Between (cutQ d Q) lo hi i M) := fun hl => between_down HB.out HM.out m1 m2 (by show (!lt (kx d (Q - 1 - M)) (kx d M)) = false; rw [← hR, kx_of hq, kx_of hp, hl]; rfl)
      obtain ⟨p0, p1, p2⟩ := HLk.out.cell hp
      obtain ⟨q0, q1, q2⟩ := HLk.out.cell hq
      obtain ⟨pk, pv, pg⟩ := p
      obtain ⟨qk, qv, qg⟩ := q
      simp only at p0 p1 p2 q0 q1 q2 HQ1 HQ2
      have s0 := fun dd os => cell_regrown p0 dd os
      have s1 := fun dd os => cell_regrown p1 dd os
      have s2 := fun dd os => cell_regrown p2 dd os
      have t0 := fun dd os => cell_regrown q0 dd os
      have t1 := fun dd os => cell_regrown q1 dd os
      have t2 := fun dd os => cell_regrown q2 dd os
      have x1 := fun dd os => Calls.regrown_of (w := wr) (d := dd) (os := os) (byKey_any pk pv pg qk qv qg _)
      clear hq hp p0 p1 p2 q0 q1 q2 HMd HB hR
      cases hl : lt pk qk with
      | true => as_aux_lemma =>
        rw [Spots.cmp_neg hl] at x1
        have HB2 : Hid (Between (cutQ d Q) lo hi i M) := HQ2.out hl
        clear HQ1 HQ2 hl
        go_upto_region 35 with fail
        refine wp_region_quiet_below (by kernel_rfl) (by kernel_rfl) ?_
        iterate 11 (quiet_step (fail))
        quiet_step (exact x1 _ _)
        iterate 2 (quiet_step (fail))
        refine wpQuiet_nil ?_
        intro _ hw'
        obtain ⟨⟨dq, osq⟩, hw''⟩ := hw'
        subst hw''
        have bb := below_regrown wr dq osq
        clear s0 s1 s2 t0 t1 t2 x1
        generalize «Sort».grow (redrawn wr dq) osq = w4 at bb ⊢
        have HL4 : Hid (At w4 g d T) := HLk.out.below bb
        have HK4 : Hid (Kept (only g) w w4) := HKk.out.then bb
        clear bb HLk HKk e5 w5
        go_wp2_with fail
        go_roundw
        case rel => exact ⟨i, M, hi1, m1, by omega, rfl, rfl, HB2, HL4, HK4⟩
        case measure => simp [intOf]; omega
      | false => as_aux_lemma =>
        have c0 : ¬ cmp pk qk < 0 := by
          have := cmp_lt pk qk
          rw [hl] at this
          exact of_decide_eq_false this
        have HB2 : Hid (Between (cutQ d Q) lo hi (M + 1) j) := HQ1.out hl
        clear HQ1 HQ2 hl
        generalize cmp pk qk = c at x1 c0
        go_upto_region 35 with fail
        refine wp_region_quiet_below (by kernel_rfl) (by kernel_rfl) ?_
        iterate 11 (quiet_step (fail))
        quiet_step (exact x1 _ _)
        iterate 2 (quiet_step (fail))
        refine wpQuiet_nil ?_
        intro _ hw'
        obtain ⟨⟨dq, osq⟩, hw''⟩ := hw'
        subst hw''
        have bb := below_regrown wr dq osq
        clear s0 s1 s2 t0 t1 t2 x1
        generalize «Sort».grow (redrawn wr dq) osq = w4 at bb ⊢
        have HL4 : Hid (At w4 g d T) := HLk.out.below bb
        have HK4 : Hid (Kept (only g) w w4) := HKk.out.then bb
        clear bb HLk HKk e5 w5
        go_wp2_with fail
        go_roundw
        case rel => exact ⟨M + 1, j, by omega, by omega, hj1, by go_num, rfl, HB2, HL4, HK4⟩
        case measure => simp [intOf]; omega
    · obtain rfl : i = j := by omega
      have i1 : ¬ (i : Int) < (i : Int) := by omega
      obtain ⟨s1, s2, s3, s4, s5, s6, t, ht, htd, hp1, hp2, hh⟩ := HCut.out i HB.out
      obtain ⟨F, hF⟩ : ∃ F : Nat, F = Q - i := ⟨_, rfl⟩
      rw [← hF] at s4 s5 s6 ht htd hp2
      have e5 : (Q : Int) - (i : Int) = (F : Int) := by omega
      have w5 : IntKind.i64.wrap (F : Int) = (F : Int) := by rw [IntKind.wrap_i64]; omega
      have HT : Hid (Turns m (m - i) (F - m) t d) := ht
      have HTD : Hid (i = m ∨ m = F → t = d) := htd
      have HP1 : Hid (Parts a i C t) := hp1
      have HP2 : Hid (Parts C F b t) := hp2
      have HH : Hid (Halves a C b d t) := hh
      have HTL : Hid (t.length = N) := by show _ = _; rw [ht.length]; exact HN.out
      clear HB HCut HM HCl HLo ht htd hp1 hp2 hh hF
      go_upto_region 39 with fail
      clear e5 w5
      go_cut [185] from 178 to 184 (fun v wc => v = .bool (decide (i < m ∧ m < F)) ∧ wr = wc)
      case first => as_aux_lemma =>
        by_cases c1 : i < m
        · have j1 : (i : Int) < (m : Int) := by omega
          by_cases c2 : m < F
          · have j2 : (m : Int) < (F : Int) := by omega
            go_wp2_with fail
            go_meet
            case rel => exact ⟨by simp [c1, c2], rfl⟩
          · have j2 : ¬ (m : Int) < (F : Int) := by omega
            go_wp2_with fail
            go_meet
            case rel => exact ⟨by simp [c2], rfl⟩
        · have j1 : ¬ (i : Int) < (m : Int) := by omega
          go_wp2_with fail
          go_meet
          case rel => exact ⟨by simp [c1], rfl⟩
      obtain ⟨rfl, rfl⟩ := hcut
      generalize hB1 : decide (i < m ∧ m < F) = B1
      have HB1 : Hid (decide (i < m ∧ m < F) = B1) := hB1
      clear hB1
      go_upto_if 185 with fail
      go_cut [185] from 186 to 191 (fun _ wc => Hid (At wc g t T) ∧ Hid (Kept (only g) w wc))
      case first => as_aux_lemma =>
        cases B1 with
        | true =>
          have hc := of_decide_eq_true HB1.out
          have c := HRO.out t wr i m F HLk.out hc.1 hc.2 HT.out
          clear hc
          go_wp2_with (go_at_call 96; refine c.mono ?_; rintro e w5 ⟨rfl, l5, k5⟩; have HL5 : Hid (At w5 g t T) := l5; have HK5 : Hid (Kept (only g) w w5) := HKk.out.trans k5 (fun _ q => .inl q); clear l5 k5)
          go_meet
          case rel => exact ⟨HL5, HK5⟩
        | false =>
          have hc := of_decide_eq_false HB1.out
          have HL5 : Hid (At wr g t T) := by show At _ _ _ _; rw [HTD.out (by omega)]; exact HLk.out
          clear hc
          go_wp2_with fail
          go_meet
          case rel => exact ⟨HL5, HKk⟩
      obtain ⟨HL5, HK5⟩ := hcut
      clear HLk HKk HT HTD HRO HB1
      -- the first half
      go_upto_region 41 with fail
      go_cut [199] from 192 to 198 (fun v wd => v = .bool (decide (a < i ∧ i < C)) ∧ wc = wd)
      case first => as_aux_lemma =>
        by_cases c1 : a < i
        · have j1 : (a : Int) < (i : Int) := by omega
          by_cases c2 : i < C
          · have j2 : (i : Int) < (C : Int) := by omega
            go_wp2_with fail
            go_meet
            case rel => exact ⟨by simp [c1, c2], rfl⟩
          · have j2 : ¬ (i : Int) < (C : Int) := by omega
            go_wp2_with fail
            go_meet
            case rel => exact ⟨by simp [c2], rfl⟩
        · have j1 : ¬ (a : Int) < (i : Int) := by omega
          go_wp2_with fail
          go_meet
          case rel => exact ⟨by simp [c1], rfl⟩
      obtain ⟨rfl, rfl⟩ := hcut
      generalize hB2 : decide (a < i ∧ i < C) = B2
      have HB2 : Hid (decide (a < i ∧ i < C) = B2) := hB2
      clear hB2
      go_upto_if 199 with fail
      go_cut [199] from 200 to 205 (fun _ we => ∃ t1, Hid (Sorts a C t t1) ∧ Hid (At we g t1 T) ∧ Hid (Kept (only g) w we))
      case first => as_aux_lemma =>
        cases B2 with
        | true =>
          have hc := of_decide_eq_true HB2.out
          have c := HR.out t wc a i C HTL.out HL5.out hc.1 hc.2 (by have := HAB.out; omega) HP1.out
          clear hc
          go_wp2_with (go_at_call 87; refine c.mono ?_; rintro e w6 ⟨rfl, ⟨t1, o6, l6⟩, k6⟩; have HL6 : Hid (At w6 g t1 T) := l6; have HK6 : Hid (Kept (only g) w w6) := HK5.out.trans k6 (fun _ q => .inl q); have HO6 : Hid (Sorts a C t t1) := o6; clear l6 k6 o6)
          go_meet
          case rel => exact ⟨t1, HO6, HL6, HK6⟩
        | false =>
          have hc := of_decide_eq_false HB2.out
          have HO6 : Hid (Sorts a C t t) := parts_sorts HP1.out (by omega)
          clear hc
          go_wp2_with fail
          go_meet
          case rel => exact ⟨t, HO6, HL5, HK5⟩
      obtain ⟨t1, HO6, HL6, HK6⟩ := hcut
      have HP3 : Hid (Parts C F b t1) := parts_behind HP2.out HO6.out
      have HTL1 : Hid (t1.length = N) := by show _ = _; rw [HO6.out.length]; exact HTL.out
      clear HL5 HK5 HP1 HP2 HB2 HTL
      -- the second half
      go_upto_region 43 with fail
      go_cut [213] from 206 to 212 (fun v wf => v = .bool (decide (C < F ∧ F < b)) ∧ wc = wf)
      case first => as_aux_lemma =>
        by_cases c1 : C < F
        · have j1 : (C : Int) < (F : Int) := by omega
          by_cases c2 : F < b
          · have j2 : (F : Int) < (b : Int) := by omega
            go_wp2_with fail
            go_meet
            case rel => exact ⟨by simp [c1, c2], rfl⟩
          · have j2 : ¬ (F : Int) < (b : Int) := by omega
            go_wp2_with fail
            go_meet
            case rel => exact ⟨by simp [c2], rfl⟩
        · have j1 : ¬ (C : Int) < (F : Int) := by omega
          go_wp2_with fail
          go_meet
          case rel => exact ⟨by simp [c1], rfl⟩
      obtain ⟨rfl, rfl⟩ := hcut
      by_cases hc : C < F ∧ F < b
      · rw [decide_eq_true hc]
        have c := HR.out t1 wc C F b HTL1.out HL6.out hc.1 hc.2 (by have := HAB.out; omega) HP3.out
        clear hc
        go_wp2_with (go_at_call 87; refine c.mono ?_; rintro e w7 ⟨rfl, ⟨t2, o7, l7⟩, k7⟩; have HL7 : Hid (At w7 g t2 T) := l7; have HK7 : Hid (Kept (only g) w w7) := HK6.out.trans k7 (fun _ q => .inl q); have HO7 : Hid (Sorts C b t1 t2) := o7; clear l7 k7 o7)
        go_end0
        exact ⟨rfl, ⟨t2, halves_sorts HH.out HO6.out HO7.out, HL7.out⟩, HK7.out⟩
      · rw [decide_eq_false hc]
        have HO7 : Hid (Sorts C b t1 t1) := parts_sorts HP3.out (by omega)
        clear hc
        go_wp2_with fail
        go_end0
        exact ⟨rfl, ⟨t1, halves_sorts HH.out HO6.out HO7.out, HL6.out⟩, HK6.out⟩

/-- two sorted parts become one -/
theorem sym_any : ∀ (K : Nat) (d : List Pair) (T : List Value) (g cap a m b : Nat) (w : World), b - a ≤ K → At w g d T → d.length ≤ 1000000 → a < m → m < b → Parts a m b d →
    Calls Tryz.prog 87 #[.slice (some ⟨g, 0, none⟩) d.length cap, .int .i64 (a : Int), .int .i64 (m : Int), .int .i64 (b : Int), byKey] w fun e w' => Done d T g a b w e w'
  | 0, _, _, _, _, _, _, _, _, hK, _, _, h1, h2, _ => by omega
  | K + 1, d, T, g, cap, a, m, b, w, hK, hL, hd, h1, h2, hp => by
    by_cases c1 : a + 1 = m
    · exact WalkSymMerge.sym_left d T g cap a m b w hL hd c1 hp
    · by_cases c2 : m + 1 = b
      · exact WalkSymMerge.sym_right d T g cap a m b w hL hd (by omega) c2 hp
      · refine sym_half d T g cap a m b w hL hd (by omega) (by omega) hp fun d' w' x y z hl hat h3 h4 h5 hp' => ?_
        have := sym_any K d' T g cap x y z w' (by omega) hat (by omega) h3 h4 hp'
        rw [hl] at this
        exact this

end Go.Proofs.YtofaegcljcpceagGreatDoor.WalkSymHalves

/-
  What slices.SortStableFunc does with pairs that the call owns: they are sorted by key, those of one key stay in their order.
-/
namespace Go.Proofs.YtofaegcljcpceagGreatDoor.WalkStable
open Go.RowKit
open Lists (bt)
open Keeps (Kept)
open Stores (Pair lt)
open PairRows (cells cells_append cells_length)
open WideCopy (Lies owns_lies owns_of_lies)
open WalkSwap (At only)
open WalkInsSort (byKey)
open Stables Merges Blocks

set_option maxHeartbeats 8000000 in
set_option maxRecDepth 100000 in
theorem stable_some (d : List Pair) (T : List Value) (g cap : Nat) (w : World) (hL : At w g d T) (hd : d.length ≤ 1000000) :
    Calls Tryz.prog 71 #[.slice (some ⟨g, 0, none⟩) d.length cap, .int .i64 (d.length : Int), byKey] w fun e w' =>
      e = .returned (.tuple #[]) ∧ (∃ d', Sorted d' ∧ Same d d' ∧ At w' g d' T) ∧ Kept (only g) w w' := by
  have HL : Hid (At w g d T) := hL
  have HI : Hid (∀ (dk : List Pair) (wr : World) (a b : Nat), dk.length = d.length → At wr g dk T → a ≤ b → b ≤ d.length → Calls Tryz.prog 86 #[.slice (some ⟨g, 0, none⟩) d.length cap, .int .i64 (a : Int), .int .i64 (b : Int), byKey] wr fun e w' =>
      e = .returned (.tuple #[]) ∧ (∃ d', Sorts a b dk d' ∧ At w' g d' T) ∧ Kept (only g) wr w') := fun dk wr a b hl hat h1 h2 => by
    have := WalkInsSort.ins_any dk T g cap a b wr hat (by omega) h1 (by omega)
    rw [hl] at this
    exact this
  have HM : Hid (∀ (dk : List Pair) (wr : World) (a m b : Nat), dk.length = d.length → At wr g dk T → a < m → m < b → Parts a m b dk → Calls Tryz.prog 87 #[.slice (some ⟨g, 0, none⟩) d.length cap, .int .i64 (a : Int), .int .i64 (m : Int), .int .i64 (b : Int), byKey] wr fun e w' => WalkSymMerge.Done dk T g a b wr e w') := fun dk wr a m b hl hat h1 h2 hp => by
    have := WalkSymHalves.sym_any (b - a) dk T g cap a m b wr (Nat.le_refl _) hat (by omega) h1 h2 hp
    rw [hl] at this
    exact this
  generalize hN : d.length = N at *
  have HN : Hid (d.length = N) := hN
  clear hL hN
  go_enter Tryz.func71, Tryz.ntmps71
  go_upto_region 2 with fail
  go_loopw [7, 8] (fun av bv wr => ∃ (a b : Nat) (dk : List Pair), b = a + 20 ∧ a ≤ N ∧ av = .int .i64 (a : Int) ∧ bv = .int .i64 (b : Int) ∧ Hid (Laying 20 a d dk) ∧ Hid (At wr g dk T) ∧ Hid (Kept (only g) w wr)) (fun av _ _ => N - (intOf av).toNat)
  case atStart => exact ⟨0, 20, d, rfl, Nat.zero_le _, rfl, rfl, laying_start 20 d, HL, Kept.refl _ _⟩
  case round =>
    obtain ⟨a, b, dk, hb, ha, rfl, rfl, HD, HLk, HKk⟩ := hrel
    have hl : dk.length = N := by rw [HD.out.length]; exact HN.out
    by_cases hbn : b ≤ N
    · have i1 : (b : Int) ≤ (N : Int) := by omega
      have c := HI.out dk wr a b hl HLk.out (by omega) hbn
      have HX : Hid (∀ d', Sorts a b dk d' → Laying 20 b d d') := fun d' hs => by
        subst hb
        exact laying_step HD.out hs
      have HB : Hid (b = a + 20) := hb
      clear hl HD HLk hb
      go_wp2_with (go_at_call 86; refine c.mono ?_; rintro e w5 ⟨rfl, ⟨d5, s5, l5⟩, k5⟩; have HD5 : Hid (Laying 20 b d d5) := HX.out _ s5; have HL5 : Hid (At w5 g d5 T) := l5; have HK5 : Hid (Kept (only g) w w5) := HKk.out.trans k5 (fun _ q => .inl q); clear s5 l5 k5)
      go_roundw
      case rel => exact ⟨b, b + 20, d5, rfl, hbn, rfl, by go_num, HD5, HL5, HK5⟩
      case measure => have := HB.out; simp [intOf]; omega
    · have i1 : ¬ (b : Int) ≤ (N : Int) := by omega
      have c := HI.out dk wr a N hl HLk.out ha (Nat.le_refl _)
      have HX : Hid (∀ d', Sorts a N dk d' → Blocks 20 d d') := fun d' hs => laying_end HD.out (by omega) (by rw [hl]; exact hs)
      clear hl HD HLk hb
      go_upto_region 7 with (go_at_call 86; refine c.mono ?_; rintro e w5 ⟨rfl, ⟨d5, s5, l5⟩, k5⟩; have HD5 : Hid (Blocks 20 d d5) := HX.out _ s5; have HL5 : Hid (At w5 g d5 T) := l5; have HK5 : Hid (Kept (only g) w w5) := HKk.out.trans k5 (fun _ q => .inl q); clear s5 l5 k5)
      go_loopw [6, 7, 8, 9] (fun sv _ _ _ wr => ∃ (s : Nat) (dk : List Pair), 1 ≤ s ∧ s ≤ 2000000 ∧ sv = .int .i64 (s : Int) ∧ Hid (Blocks s d dk) ∧ Hid (At wr g dk T) ∧ Hid (Kept (only g) w wr)) (fun sv _ _ _ _ => N - (intOf sv).toNat)
      case atStart => exact ⟨20, d5, by omega, by omega, rfl, HD5, HL5, HK5⟩
      clear HD5 HL5 HK5 HX HKk c
      case round =>
        obtain ⟨s, dk, hs1, hs2, rfl, HD, HLk, HKk⟩ := hrel
        by_cases hsn : s < N
        · have i2 : (s : Int) < (N : Int) := by omega
          obtain ⟨S, hS⟩ : ∃ S : Nat, S = 2 * s := ⟨_, rfl⟩
          have e1 : 2 * (s : Int) = (S : Int) := by omega
          have e2 : (s : Int) * 2 = (S : Int) := by omega
          have w1 : IntKind.i64.wrap (S : Int) = (S : Int) := by rw [IntKind.wrap_i64]; omega
          have HS : Hid (S = 2 * s) := hS
          have hS6 : S ≤ 2000000 := by omega
          clear hS
          go_upto_region 9 with fail
          go_loopw [7, 8] (fun av bv wr => ∃ (a b : Nat) (dk : List Pair), Hid (b = a + S) ∧ a ≤ N ∧ b ≤ 4000000 ∧ av = .int .i64 (a : Int) ∧ bv = .int .i64 (b : Int) ∧ Hid (Merging s a d dk) ∧ Hid (At wr g dk T) ∧ Hid (Kept (only g) w wr)) (fun av _ _ => N - (intOf av).toNat)
          case atStart => exact ⟨0, S, dk, by show S = 0 + S; omega, Nat.zero_le _, by omega, rfl, rfl, merging_start HD.out, HLk, HKk⟩
          clear HD HLk HKk
          case round =>
            obtain ⟨a, b, dk, HB, ha, hb4, rfl, rfl, HD, HLk, HKk⟩ := hrel
            have hl : dk.length = N := by rw [HD.out.length]; exact HN.out
            obtain ⟨m, hm⟩ : ∃ m : Nat, m = a + s := ⟨_, rfl⟩
            have e3 : (a : Int) + (s : Int) = (m : Int) := by omega
            have w3 : IntKind.i64.wrap (m : Int) = (m : Int) := by rw [IntKind.wrap_i64]; omega
            by_cases hbn : b ≤ N
            · have i3 : (b : Int) ≤ (N : Int) := by omega
              have hbs : b = a + 2 * s := by have h1 := HB.out; have h2 := HS.out; omega
              have c := HM.out dk wr a m b hl HLk.out (by omega) (by omega) (by rw [hm, hbs]; exact merging_parts HD.out (by omega))
              have HX : Hid (∀ d', Sorts a b dk d' → Merging s b d d') := fun d' h => by
                rw [hbs] at h ⊢
                exact merging_step HD.out (by omega) h
              obtain ⟨b2, hb2⟩ : ∃ b2 : Nat, b2 = b + S := ⟨_, rfl⟩
              have e4 : (b : Int) + (S : Int) = (b2 : Int) := by omega
              have w4 : IntKind.i64.wrap (b2 : Int) = (b2 : Int) := by rw [IntKind.wrap_i64]; omega
              have HB2 : Hid (b2 = b + S) := hb2
              have hb24 : b2 ≤ 4000000 := by omega
              have HM1 : Hid (a < b) := by show a < b; omega
              clear hl HD HLk hm hbs hb2 HB
              go_wp2_with (go_at_call 87; refine c.mono ?_; rintro e w6 ⟨rfl, ⟨d6, s6, l6⟩, k6⟩; have HD6 : Hid (Merging s b d d6) := HX.out _ s6; have HL6 : Hid (At w6 g d6 T) := l6; have HK6 : Hid (Kept (only g) w w6) := HKk.out.trans k6 (fun _ q => .inl q); clear s6 l6 k6)
              go_roundw
              case rel => exact ⟨b, b2, d6, HB2, hbn, hb24, rfl, rfl, HD6, HL6, HK6⟩
              case measure => have := HM1.out; simp [intOf]; omega
            · have i3 : ¬ (b : Int) ≤ (N : Int) := by omega
              have hbs : b = a + 2 * s := by have h1 := HB.out; have h2 := HS.out; omega
              by_cases hmn : m < N
              · have i4 : (m : Int) < (N : Int) := by omega
                obtain ⟨hpa, hfi⟩ := merging_last HD.out (by omega) (by omega)
                rw [hl] at hpa hfi
                have c := HM.out dk wr a m N hl HLk.out (by omega) hmn (by rw [hm]; exact hpa)
                have HX : Hid (∀ d', Sorts a N dk d' → Blocks S d d') := fun d' h => by rw [HS.out]; exact hfi d' h
                clear hl HD HLk hm hbs HB hpa hfi
                go_wp2_with (go_at_call 87; refine c.mono ?_; rintro e w6 ⟨rfl, ⟨d6, s6, l6⟩, k6⟩; have HD6 : Hid (Blocks S d d6) := HX.out _ s6; have HL6 : Hid (At w6 g d6 T) := l6; have HK6 : Hid (Kept (only g) w w6) := HKk.out.trans k6 (fun _ q => .inl q); clear s6 l6 k6)
                go_roundw
                case rel => exact ⟨S, d6, by have := HS.out; omega, hS6, rfl, HD6, HL6, HK6⟩
                case measure => have := HS.out; simp [intOf]; omega
              · have i4 : ¬ (m : Int) < (N : Int) := by omega
                have HD6 : Hid (Blocks S d dk) := by show Blocks _ _ _; rw [HS.out]; exact merging_none HD.out (by omega)
                clear hl HD hm hbs HB
                go_wp2_with fail
                go_roundw
                case rel => exact ⟨S, dk, by have := HS.out; omega, hS6, rfl, HD6, HLk, HKk⟩
                case measure => have := HS.out; simp [intOf]; omega
        · have i2 : ¬ (s : Int) < (N : Int) := by omega
          have hfin := blocks_done HD.out (by rw [HD.out.length, HN.out]; omega)
          have HE : Hid (Sorted dk ∧ Same d dk) := hfin
          clear hfin HD
          go_wp2_with fail
          go_end0
          exact ⟨rfl, ⟨dk, HE.out.1, HE.out.2, HLk.out⟩, HKk.out⟩

/-- of none -/
theorem ins_none (cap : Nat) (w : World) : Calls Tryz.prog 86 #[.slice none 0 cap, .int .i64 0, .int .i64 0, byKey] w fun e w' => e = .returned (.tuple #[]) ∧ w' = w := by
  go_enter Tryz.func86, Tryz.ntmps86
  go_wp2_with fail
  refine wp_loop_rounds 1 ?_
  rw [rounds_succ]
  go_wp2_with fail
  go_end0
  exact ⟨rfl, rfl⟩
theorem stable_none (cap : Nat) (w : World) : Calls Tryz.prog 71 #[.slice none 0 cap, .int .i64 0, byKey] w fun e w' => e = .returned (.tuple #[]) ∧ w' = w := by
  go_enter Tryz.func71, Tryz.ntmps71
  go_wp2_with fail
  refine wp_loop_rounds 1 ?_
  rw [rounds_succ]
  go_wp2_with (go_at_call 86; refine (ins_none cap _).mono ?_; rintro e w1 ⟨rfl, rfl⟩)
  refine wp_loop_rounds 1 ?_
  rw [rounds_succ]
  go_wp2_with fail
  go_end0
  exact ⟨rfl, rfl⟩
theorem sort_none (cap : Nat) (w : World) : Calls Tryz.prog 44 #[.slice none 0 cap, byKey] w fun e w' => e = .returned (.tuple #[]) ∧ w' = w := by
  go_enter Tryz.func44, Tryz.ntmps44
  go_wp2_with (go_at_call 71; refine (stable_none cap _).mono ?_; rintro e w1 ⟨rfl, rfl⟩)
  go_end0
  exact ⟨rfl, rfl⟩
theorem sort_some (d : List Pair) (T : List Value) (g cap : Nat) (w : World) (hL : At w g d T) (hd : d.length ≤ 1000000) :
    Calls Tryz.prog 44 #[.slice (some ⟨g, 0, none⟩) d.length cap, byKey] w fun e w' =>
      e = .returned (.tuple #[]) ∧ (∃ d', Sorted d' ∧ Same d d' ∧ At w' g d' T) ∧ Kept (only g) w w' := by
  have c := stable_some d T g cap w hL hd
  generalize hN : d.length = N at *
  clear hL hN
  go_enter Tryz.func44, Tryz.ntmps44
  go_wp2_with (go_at_call 71; refine c.mono ?_; rintro e w1 ⟨rfl, h1⟩)
  go_end0
  exact ⟨rfl, h1⟩
/-- a row that the call owns, opened: its pairs and what is behind them -/
theorem owns_at {w : World} {B n : Nat} {v : Value} {d : List Pair} (h : w.ownsRow B 31 3 v n (cells d)) (hn : n = d.length) (h0 : 0 < n) : ∃ g cap T, v = .slice (some ⟨g, 0, none⟩) d.length cap ∧ B ≤ g ∧ At w g d T ∧ d.length ≤ cap ∧ cap ≤ maxLen ∧ d.length * 3 + T.length = cap * 3 := by
  subst hn
  obtain ⟨g, cap, R, rfl, hg, hl, hc, hm, hs, ht⟩ := owns_lies h h0
  have hd := cells_length d
  have hR : R = cells d ++ R.drop (d.length * 3) := by rw [← ht, List.take_append_drop]
  refine ⟨g, cap, R.drop (d.length * 3), rfl, hg, ?_, hc, hm, ?_⟩
  · show Lies w g _ _
    rw [← hR]
    exact hl
  · rw [List.length_drop]
    have := Nat.mul_le_mul_right 3 hc
    omega
theorem at_owns {w : World} {B g cap m : Nat} {d : List Pair} {T : List Value} (h : At w g d T) (hg : B ≤ g) (hm : m ≤ d.length) (hc : m ≤ cap) (hx : cap ≤ maxLen) (hl : d.length * 3 + T.length = cap * 3) : w.ownsRow B 31 3 (.slice (some ⟨g, 0, none⟩) m cap) (d.take m).length (cells (d.take m)) := by
  have hd := cells_length d
  have e : (d.take m).length = m := by rw [List.length_take]; omega
  rw [e]
  refine owns_of_lies hg h hc hx (by rw [List.length_append]; omega) ?_
  rw [List.take_append_of_le_length (by omega), WalkStoIns.cells_take]
/-- sorted in place -/
theorem sort_any (d : List Pair) (v : Value) (B : Nat) (w : World) (ho : w.ownsRow B 31 3 v d.length (cells d)) (hd : d.length ≤ 1000000) :
    Calls Tryz.prog 44 #[v, byKey] w fun e w' =>
      e = .returned (.tuple #[]) ∧ (∃ d', Sorted d' ∧ Same d d' ∧ w'.ownsRow B 31 3 v d'.length (cells d')) ∧ Kept (fun k => v.ownBlock = some k) w w' := by
  by_cases h0 : 0 < d.length
  · obtain ⟨g, cap, T, rfl, hg, hat, hc, hm, hl⟩ := owns_at ho rfl h0
    refine (sort_some d T g cap w hat hd).mono ?_
    rintro e w1 ⟨rfl, ⟨d', h1, h2, h3⟩, k1⟩
    have hlen := h2.1
    refine ⟨rfl, ⟨d', h1, h2, ?_⟩, k1.mono fun k hk => by rw [hk]; rfl⟩
    have := at_owns (m := d'.length) h3 hg (Nat.le_refl _) (by omega) hm (by omega)
    rw [List.take_length] at this
    rw [hlen]
    exact this
  · obtain rfl : d = [] := List.length_eq_zero_iff.1 (by omega)
    rcases ho.2 with ⟨rfl, _⟩ | ⟨g, cap, cur, rfl, hg, hh, hc, hm, hs, ht⟩
    · refine (sort_none 0 w).mono ?_
      rintro e w1 ⟨rfl, rfl⟩
      exact ⟨rfl, ⟨[], sorted_nil, Same.refl _, ho⟩, Kept.refl _ _⟩
    · refine (sort_some [] cur.toList g cap w (by show WideCopy.Lies w g _ (cells [] ++ cur.toList); simpa [WideCopy.Lies, cells] using hh) (by decide)).mono ?_
      rintro e w1 ⟨rfl, ⟨d', h1, h2, h3⟩, k1⟩
      have hlen := h2.1
      obtain rfl : d' = [] := List.length_eq_zero_iff.1 (by simpa using hlen.symm)
      refine ⟨rfl, ⟨[], h1, h2, ?_⟩, k1.mono fun k hk => by rw [hk]; rfl⟩
      exact at_owns (d := []) (m := 0) h3 hg (Nat.le_refl _) (Nat.zero_le _) hm (by simpa using hs)

end Go.Proofs.YtofaegcljcpceagGreatDoor.WalkStable

/-
  What slices.IndexFunc and slices.DeleteFunc do with pairs: the first that is so, and all that are so left out.
-/
namespace Go.Proofs.YtofaegcljcpceagGreatDoor.WalkDelete
open Go.RowKit
open Lists (bt)
open Keeps (Kept)
open Wides (Wide)
open Stores (Pair)
open PairRows (cells cells_append cells_length cells_at)
open WideCopy (Lies)
open WalkStoFind (aggP sizeP)
open WalkSwap (At only)

/-! clear -/
def zeroP : Pair := ⟨⟨#[]⟩, ⟨#[]⟩, false⟩
theorem zero_cells (n : Nat) : (Builtin.zeroCells #[.string ⟨#[]⟩, .string ⟨#[]⟩, .bool false] n).toList = cells (List.replicate n zeroP) := by
  apply List.ext_getElem?
  intro j
  have hl : (Builtin.zeroCells #[.string ⟨#[]⟩, .string ⟨#[]⟩, .bool false] n).toList.length = n * 3 := by
    rw [Array.length_toList, size_zeroCells]
    rfl
  have hc : (cells (List.replicate n zeroP)).length = n * 3 := by rw [cells_length, List.length_replicate]
  by_cases hj : j < n * 3
  · obtain ⟨c0, c1, c2⟩ := cells_at (List.replicate n zeroP) (j / 3) (by rw [List.length_replicate]; omega)
    rw [List.getElem_replicate] at c0 c1 c2
    have hz : (Builtin.zeroCells #[.string ⟨#[]⟩, .string ⟨#[]⟩, .bool false] n).toList[j]? = some ((#[.string ⟨#[]⟩, .string ⟨#[]⟩, .bool false] : Array Value)[j % 3]!) := by
      have hj2 : j < n * (#[.string ⟨#[]⟩, .string ⟨#[]⟩, .bool false] : Array Value).size := hj
      simp only [Builtin.zeroCells, Array.getElem?_toList, Array.getElem?_map, Array.getElem?_range, hj2, if_true, Option.map_some]
      rfl
    rw [hz]
    have hr : j % 3 = 0 ∨ j % 3 = 1 ∨ j % 3 = 2 := by omega
    rcases hr with hr | hr | hr
    · rw [hr, show j = j / 3 * 3 by omega, c0]; rfl
    · rw [hr, show j = j / 3 * 3 + 1 by omega, c1]; rfl
    · rw [hr, show j = j / 3 * 3 + 2 by omega, c2]; rfl
  · rw [List.getElem?_eq_none (by omega), List.getElem?_eq_none (by omega)]
theorem zeroV (w : World) : (zeroValue 31).run Tryz.prog w = .ok (.agg #[.string ⟨#[]⟩, .string ⟨#[]⟩, .bool false]) w := by kernel_rfl
/-- what lies from i on is emptied -/
theorem run_clear {w : World} {g : Nat} {d : List Pair} {T : List Value} (h : At w g d T) (i : Nat) (hi : i < d.length) :
    ∃ w', (∀ ty c, (Builtin.clear_ #[32] ty #[.slice (some ⟨g, i * 3, none⟩) (d.length - i) c]).run Tryz.prog w = .ok (.tuple #[]) w') ∧ At w' g (d.take i ++ List.replicate (d.length - i) zeroP) T ∧ Kept (only g) w w' := by
  have hd := cells_length d
  have hcl : (cells (List.replicate (d.length - i) zeroP)).length = (d.length - i) * 3 := by rw [cells_length, List.length_replicate]
  have hst := run_storeCells_at Tryz.prog g (i * 3) 31 (cells (List.replicate (d.length - i) zeroP)) 0 (cells d ++ T).toArray w h (by simp only [List.size_toArray, List.length_append]; omega) (WalkStoIns.ones _)
  refine ⟨_, fun ty c => ?_, ?_, WideCopy.kept_setRow w g (((cells d ++ T).toArray.toList.take (i * 3 + 0) ++ cells (List.replicate (d.length - i) zeroP) ++ (cells d ++ T).toArray.toList.drop (i * 3 + 0 + (cells (List.replicate (d.length - i) zeroP)).length))).toArray⟩
  · have hn : ¬ d.length - i = 0 := by omega
    generalize hN : d.length - i = n at *
    cases n with
    | zero => exact absurd rfl hn
    | succ n =>
      have hz := zero_cells (n + 1)
      simp only [Builtin.clear_, List.getElem?_toArray, List.getElem?_cons_zero, Sem.run_bind, run_underlying Tryz.underlying32, Result.andThen_ok, zeroV, Value.cells]
      rw [hz, hst]
      rfl
  · have h2 := setRow_heap w g _ (((cells d ++ T).toArray.toList.take (i * 3 + 0) ++ cells (List.replicate (d.length - i) zeroP) ++ (cells d ++ T).toArray.toList.drop (i * 3 + 0 + (cells (List.replicate (d.length - i) zeroP)).length))).toArray _ _ h
    have e : (cells d ++ T).toArray.toList.take (i * 3 + 0) ++ cells (List.replicate (d.length - i) zeroP) ++ (cells d ++ T).toArray.toList.drop (i * 3 + 0 + (cells (List.replicate (d.length - i) zeroP)).length) = cells (d.take i ++ List.replicate (d.length - i) zeroP) ++ T := by
      rw [cells_append, WalkStoIns.cells_take, hcl]
      simp only [Nat.add_zero]
      congr 1
      · rw [List.take_append_of_le_length (by omega)]
      · rw [show i * 3 + (d.length - i) * 3 = (cells d).length by omega, List.drop_left]
    rw [e] at h2 ⊢
    exact h2

/-! the first that is so -/
def Index (f : Pair → Bool) (l : List Pair) (w : World) (e : Ending) (w' : World) : Prop :=
  ((∃ (i : Nat) (p : Pair), l[i]? = some p ∧ (∀ q ∈ l.take i, f q = false) ∧ f p = true ∧ e = .returned (.int .i64 (i : Int))) ∨ ((∀ q ∈ l, f q = false) ∧ e = .returned (.int .i64 (-1)))) ∧ Below w.heap.size w w'

set_option maxHeartbeats 4000000 in
set_option maxRecDepth 100000 in
theorem index_any (l : List Pair) (a : Option Addr) (n cap : Nat) (w : World) (hr : Wide 3 w a n cap (cells l)) (hn : n ≤ 1000000) (g : FuncId) (caps : Array Value) (hg : Enters Tryz.prog g) (f : Pair → Bool)
    (hf : ∀ (p : Pair) (w1 : World), Below w.heap.size w w1 → Calls Tryz.prog g (#[.agg #[.string p.key, .string p.val, .bool p.gone]] ++ caps) w1 fun e w' => e = .returned (.bool (f p)) ∧ Below w1.heap.size w1 w') :
    Calls Tryz.prog 67 #[.slice a n cap, .func (.func g) #[] caps] w fun e w' => Index f l w e w' := by
  have hln := PairRows.len_of hr
  have HR : Hid (Wide 3 w a n cap (cells l)) := hr
  have HN : Hid (l.length = n) := hln
  have HF : Hid (∀ (p : Pair) (w1 : World), Below w.heap.size w w1 → Calls Tryz.prog g (#[.agg #[.string p.key, .string p.val, .bool p.gone]] ++ caps) w1 fun e w' => e = .returned (.bool (f p)) ∧ Below w1.heap.size w1 w') := hf
  have a26 := aggP
  have z26 := sizeP
  clear hr hln hf
  go_enter Tryz.func67, Tryz.ntmps67
  go_upto_region 2 with fail
  go_loopw [8] (fun kv wr => ∃ k : Nat, k ≤ n ∧ kv = .int .i64 (k : Int) ∧ Hid (∀ q ∈ l.take k, f q = false) ∧ Hid (Below w.heap.size w wr)) (fun kv _ => n - (intOf kv).toNat)
  case atStart => exact ⟨0, Nat.zero_le _, rfl, (fun q hq => by cases hq), Below.refl _ _⟩
  case round =>
    obtain ⟨k, hk, rfl, HA, HB⟩ := hrel
    by_cases hlt : k < n
    · have i1 : (k : Int) < (n : Int) := by omega
      have hkl : k < l.length := by have := HN.out; omega
      obtain ⟨b1, off1, rfl, _⟩ := (HR.out.below HB.out).2.2 (by omega)
      obtain ⟨p0, p1, p2⟩ := PairRows.at_three (HR.out.below HB.out) k hkl
      have HX1 : Hid (f l[k] = false → ∀ q ∈ l.take (k + 1), f q = false) := fun h => Stores.ahead_next (P := fun q => f q = false) k hkl HA.out h
      have HX2 : Hid (l[k]? = some l[k]) := List.getElem?_eq_getElem hkl
      have cF := HF.out l[k] wr HB.out
      generalize l[k] = x at p0 p1 p2 HX1 HX2 cF
      obtain ⟨x0, x1, x2⟩ := x
      simp only at p0 p1 p2 cF
      clear hkl
      cases hfx : f ⟨x0, x1, x2⟩ with
      | false =>
        rw [hfx] at cF
        have HY : Hid (∀ q ∈ l.take (k + 1), f q = false) := HX1.out hfx
        clear hfx HX1 HX2
        go_wp2_with (rw [hg, Oper.upon_enter]; refine cF.mono ?_; rintro e w5 ⟨rfl, b5⟩; have HB5 : Hid (Below w.heap.size w w5) := bt HB.out b5; clear b5)
        go_roundw
        case rel => exact ⟨k + 1, by omega, by go_num, HY, HB5⟩
        case measure => simp [intOf]; omega
      | true =>
        rw [hfx] at cF
        have HY : Hid (f ⟨x0, x1, x2⟩ = true) := hfx
        clear hfx HX1
        go_wp2_with (rw [hg, Oper.upon_enter]; refine cF.mono ?_; rintro e w5 ⟨rfl, b5⟩; have HB5 : Hid (Below w.heap.size w w5) := bt HB.out b5; clear b5)
        go_ret
        exact ⟨.inl ⟨k, _, HX2.out, HA.out, HY.out, rfl⟩, HB5.out⟩
    · obtain rfl : k = n := by omega
      have HE : Hid (∀ q ∈ l, f q = false) := by
        have h := HA.out
        rw [List.take_of_length_le (by have := HN.out; omega)] at h
        exact h
      have i1 : ¬ (k : Int) < (k : Int) := by omega
      clear HA
      go_wp2_with fail
      go_ret
      exact ⟨.inr ⟨HE.out, rfl⟩, HB.out⟩

/-! those that are gone are left out -/
abbrev isGone : Value := .func (.func 50) #[] #[]
theorem isGone_any (x0 x1 : ByteArray) (x2 : Bool) (w : World) : Calls Tryz.prog 50 #[.agg #[.string x0, .string x1, .bool x2]] w fun e w' => e = .returned (.bool x2) ∧ Below w.heap.size w w' := by
  have b0 : Below w.heap.size w (w.alloc (.cells #[.string x0, .string x1, .bool x2] 31)) := (Below.refl _ _).alloc (Nat.le_refl _) _
  go_enter Tryz.func50, Tryz.ntmps50
  go_wp2_with fail
  go_ret
  exact ⟨rfl, b0⟩
/-- the first j looked at, i of them there, those behind j as they were -/
structure Left (f : Pair → Bool) (d : List Pair) (i j : Nat) (dk : List Pair) : Prop where
  len : dk.length = d.length
  low : dk.take i = (d.take j).filter f
  cnt : ((d.take j).filter f).length = i
  high : dk.drop j = d.drop j
theorem Left.at {f : Pair → Bool} {d dk : List Pair} {i j : Nat} (h : Left f d i j dk) {k : Nat} (hk : j ≤ k) : dk[k]? = d[k]? := by
  have := congrArg (fun l => l[k - j]?) h.high
  simp only [List.getElem?_drop] at this
  rw [show j + (k - j) = k by omega] at this
  exact this
theorem Left.skip {f : Pair → Bool} {d dk : List Pair} {i j : Nat} {p : Pair} (h : Left f d i j dk) (hp : d[j]? = some p) (hf : f p = false) : Left f d i (j + 1) dk := by
  obtain ⟨hj, rfl⟩ := List.getElem?_eq_some_iff.1 hp
  have e : (d.take (j + 1)).filter f = (d.take j).filter f := by rw [List.take_succ_eq_append_getElem hj, List.filter_append]; simp [hf]
  refine ⟨h.len, by rw [e]; exact h.low, by rw [e]; exact h.cnt, ?_⟩
  rw [← List.drop_drop, ← List.drop_drop, h.high]
theorem Left.keep {f : Pair → Bool} {d dk : List Pair} {i j : Nat} {p : Pair} (h : Left f d i j dk) (hp : d[j]? = some p) (hf : f p = true) (hij : i ≤ j) : Left f d (i + 1) (j + 1) (dk.set i p) := by
  obtain ⟨hj, rfl⟩ := List.getElem?_eq_some_iff.1 hp
  have e : (d.take (j + 1)).filter f = (d.take j).filter f ++ [d[j]] := by rw [List.take_succ_eq_append_getElem hj, List.filter_append]; simp [hf]
  have hl := h.len
  refine ⟨by simpa using hl, ?_, by rw [e, List.length_append, h.cnt]; rfl, ?_⟩
  · rw [e, ← h.low, List.take_set, List.take_succ_eq_append_getElem (by omega), List.set_append_right _ _ (by rw [List.length_take]; omega), List.length_take, show i - min i dk.length = 0 by omega]
    rfl
  · rw [List.drop_set, if_pos (by omega), ← List.drop_drop, ← List.drop_drop, h.high]

/-- what is left in place: the first m of the row -/
def Cut (l : List Pair) (d : List Pair) (T : List Value) (g cap : Nat) (w : World) (e : Ending) (w' : World) : Prop :=
  e = .returned (.slice (some ⟨g, 0, none⟩) l.length cap) ∧ (∃ d', d'.length = d.length ∧ d'.take l.length = l ∧ At w' g d' T) ∧ Kept (only g) w w'
def stays (p : Pair) : Bool := !p.gone
theorem enters3 : Enters Tryz.prog 50 := enters_of Tryz.func50 (by kernel_rfl) rfl

set_option maxHeartbeats 4000000 in
set_option maxRecDepth 100000 in
theorem delete_some (d : List Pair) (T : List Value) (g cap : Nat) (w : World) (hL : At w g d T) (hd : d.length ≤ 1000000) (hcap : d.length ≤ cap) (hc6 : cap ≤ maxLen) :
    Calls Tryz.prog 49 #[.slice (some ⟨g, 0, none⟩) d.length cap, isGone] w fun e w' => Cut (d.filter stays) d T g cap w e w' := by
  have a26 := aggP
  have z26 := sizeP
  have hW : Wide 3 w (some ⟨g, 0, none⟩) d.length cap (cells d) := ⟨cells_length d, hcap, fun _ => ⟨g, 0, rfl, fun j u hj => by
    rw [Nat.zero_add, Lies.cell hL, List.getElem?_append_left (List.getElem?_eq_some_iff.1 hj).1]
    exact hj⟩⟩
  have cI := index_any d (some ⟨g, 0, none⟩) d.length cap w hW hd 50 #[] enters3 (fun p => p.gone) (fun p w1 _ => isGone_any p.key p.val p.gone w1)
  have HL : Hid (At w g d T) := hL
  have hc63 : cap ≤ 9223372036854775807 := by unfold maxLen at hc6; exact hc6
  generalize hN : d.length = N at *
  have HN : Hid (d.length = N) := hN
  clear hL hW hN hc6
  go_enter Tryz.func49, Tryz.ntmps49
  go_wp2_with fail
  refine cI.mono ?_
  clear cI
  rintro e w1 ⟨hor, b1⟩
  have HL1 : Hid (At w1 g d T) := HL.out.below b1
  have HK1 : Hid (Kept (only g) w w1) := Kept.of_below _ b1
  clear b1 HL
  rcases hor with ⟨i, p, hp, hah, hgone, rfl⟩ | ⟨hall, rfl⟩
  · have hgone : p.gone = true := hgone
    have hah : ∀ q ∈ d.take i, q.gone = false := hah
    have hiN : i < N := by have := (List.getElem?_eq_some_iff.1 hp).1; have := HN.out; omega
    have hfil : (d.take i).filter stays = d.take i := List.filter_eq_self.2 fun q hq => by show (!q.gone) = true; rw [hah q hq]; rfl
    have HS : Hid (Left stays d i (i + 1) d) := by
      have h0 : Left stays d i i d := ⟨rfl, hfil.symm, by rw [hfil, List.length_take, HN.out]; omega, rfl⟩
      exact h0.skip hp (by show (!p.gone) = false; rw [hgone]; decide)
    have i0 : ((i : Int) == -1) = false := by simp
    have i9 : ¬ (i : Int) = -1 := by omega
    clear hp hah hgone hfil
    go_upto_region 5 with fail
    go_loopw [5, 6, 7] (fun iv jv _ wr => ∃ (i j : Nat) (dk : List Pair), i < j ∧ j ≤ N ∧ iv = .int .i64 (i : Int) ∧ jv = .int .i64 (j : Int) ∧ Hid (Left stays d i j dk) ∧ Hid (At wr g dk T) ∧ Hid (Kept (only g) w wr)) (fun _ jv _ _ => N - (intOf jv).toNat)
    case atStart => exact ⟨i, i + 1, d, by omega, by omega, rfl, by go_num, HS, HL1, HK1⟩
    clear HS HL1 HK1 i0 i9
    case round =>
      obtain ⟨i, j, dk, hij, hj, rfl, rfl, HS, HLk, HKk⟩ := hrel
      by_cases hlt : j < N
      · have j1 : (j : Int) < (N : Int) := by omega
        obtain ⟨x, hx⟩ : ∃ x, d[j]? = some x := ⟨d[j]'(by have := HN.out; omega), List.getElem?_eq_getElem _⟩
        have hxk : dk[j]? = some x := by rw [HS.out.at (Nat.le_refl _)]; exact hx
        obtain ⟨p0, p1, p2⟩ := HLk.out.cell hxk
        have HX1 : Hid (x.gone = true → Left stays d i (j + 1) dk) := fun h => HS.out.skip hx (by show (!x.gone) = false; rw [h]; rfl)
        have HX2 : Hid (x.gone = false → Left stays d (i + 1) (j + 1) (dk.set i x)) := fun h => HS.out.keep hx (by show (!x.gone) = true; rw [h]; rfl) (by omega)
        have HP : Hid (i < dk.length) := by have := HS.out.len; have := HN.out; show i < _; omega
        obtain ⟨x0, x1, x2⟩ := x
        simp only at p0 p1 p2 HX1 HX2
        clear hx hxk
        go_upto_region 8 with fail
        have b0 : Below wr.heap.size wr (wr.alloc (.cells #[.string x0, .string x1, .bool x2] 31)) := (Below.refl _ _).alloc (Nat.le_refl _) _
        have q0 : (wr.alloc (.cells #[.string x0, .string x1, .bool x2] 31)).cell? ⟨wr.heap.size, 0, none⟩ = some (.string x0) := by simp
        have q1 : (wr.alloc (.cells #[.string x0, .string x1, .bool x2] 31)).cell? ⟨wr.heap.size, 1, none⟩ = some (.string x1) := by simp
        have q2 : (wr.alloc (.cells #[.string x0, .string x1, .bool x2] 31)).cell? ⟨wr.heap.size, 2, none⟩ = some (.bool x2) := by simp
        have HL2 : Hid (At (wr.alloc (.cells #[.string x0, .string x1, .bool x2] 31)) g dk T) := HLk.out.below b0
        have HK2 : Hid (Kept (only g) w (wr.alloc (.cells #[.string x0, .string x1, .bool x2] 31))) := HKk.out.then b0
        clear p0 p1 p2 b0 HLk HKk
        generalize wr.alloc (.cells #[.string x0, .string x1, .bool x2] 31) = ws at HL2 HK2 q0 q1 q2 ⊢
        generalize wr.heap.size = pb at q0 q1 q2 ⊢
        have cF := isGone_any x0 x1 x2 ws
        cases x2 with
        | true =>
          have HY : Hid (Left stays d i (j + 1) dk) := HX1.out rfl
          clear HX1 HX2
          go_wp2_with fail
          refine cF.mono ?_
          rintro e w5 ⟨rfl, b5⟩
          have HL5 : Hid (At w5 g dk T) := HL2.out.below b5
          have HK5 : Hid (Kept (only g) w w5) := HK2.out.then b5
          clear b5 q0 q1 q2 HL2 HK2 cF
          go_wp2_with fail
          go_roundw
          case rel => exact ⟨i, j + 1, dk, by omega, by omega, rfl, by go_num, HY, HL5, HK5⟩
          case measure => simp [intOf]; omega
        | false =>
          have HY : Hid (Left stays d (i + 1) (j + 1) (dk.set i ⟨x0, x1, false⟩)) := HX2.out rfl
          clear HX1 HX2
          go_wp2_with fail
          refine cF.mono ?_
          rintro e w5 ⟨rfl, b5⟩
          have HL5 : Hid (At w5 g dk T) := HL2.out.below b5
          have HK5 : Hid (Kept (only g) w w5) := HK2.out.then b5
          have r0 := Lists.cell_below b5 q0
          have r1 := Lists.cell_below b5 q1
          have r2 := Lists.cell_below b5 q2
          have f0 : ∀ j, w5.frozen? ⟨g, j, none⟩ = false := fun j => Lies.frozen HL5.out j
          obtain ⟨y, hy⟩ : ∃ y, dk[i]? = some y := ⟨dk[i]'HP.out, List.getElem?_eq_getElem _⟩
          obtain ⟨c0, c1, c2⟩ := HL5.out.cell hy
          have i1 : (i : Int) < (N : Int) := by omega
          have HL6 : Hid (At (((w5.setCell ⟨g, i * 3, none⟩ (.string x0)).setCell ⟨g, i * 3 + 1, none⟩ (.string x1)).setCell ⟨g, i * 3 + 2, none⟩ (.bool false)) g (dk.set i ⟨x0, x1, false⟩) T) := HL5.out.put i HP.out ⟨x0, x1, false⟩
          have HK6 : Hid (Kept (only g) w (((w5.setCell ⟨g, i * 3, none⟩ (.string x0)).setCell ⟨g, i * 3 + 1, none⟩ (.string x1)).setCell ⟨g, i * 3 + 2, none⟩ (.bool false))) := WalkSwap.kept_put HK5.out (rfl : only g g) _ _ _ _ _ _
          clear b5 q0 q1 q2 HL2 HK2 cF hy HL5 HK5
          go_upto_region 10 with fail
          generalize World.setCell _ _ _ = w6 at HL6 HK6 ⊢
          clear r0 r1 r2 f0 c0 c1 c2
          go_wp2_with fail
          go_roundw
          case rel => exact ⟨i + 1, j + 1, _, by omega, by omega, by go_num, by go_num, HY, HL6, HK6⟩
          case measure => simp [intOf]; omega
      · obtain rfl : j = N := by omega
        have j1 : ¬ (j : Int) < (j : Int) := by omega
        have hl := HS.out.len
        have hln := HN.out
        obtain ⟨w6, hcl, hat, hk6⟩ := run_clear HLk.out i (by omega)
        rw [hl, hln] at hcl hat
        have hfull : (d.take j).filter stays = d.filter stays := by rw [List.take_of_length_le (by omega)]
        have hcnt := HS.out.cnt
        rw [hfull] at hcnt
        have HE : Hid (Cut (d.filter stays) d T g cap w (.returned (.slice (some ⟨g, 0, none⟩) i cap)) w6) := by
          refine ⟨by rw [hcnt], ⟨dk.take i ++ List.replicate (j - i) zeroP, ?_, ?_, hat⟩, HKk.out.trans hk6 fun _ q => .inl q⟩
          · rw [List.length_append, List.length_take, List.length_replicate]; omega
          · rw [hcnt, List.take_append_of_le_length (by rw [List.length_take]; omega), List.take_take, Nat.min_self, HS.out.low, hfull]
        have i1 : (i : Int) ≤ (j : Int) := by omega
        have i2 : ((j : Int) - (i : Int)).toNat = j - i := by omega
        have i3 : ¬ cap = i := by omega
        clear hl hln hat hk6 hfull hcnt HS HLk HKk
        go_wp2_with fail
        go_ret
        exact HE.out
  · have hall : ∀ q ∈ d, q.gone = false := hall
    have hfil : d.filter stays = d := List.filter_eq_self.2 fun q hq => by show (!q.gone) = true; rw [hall q hq]; rfl
    have HE : Hid (Cut (d.filter stays) d T g cap w (.returned (.slice (some ⟨g, 0, none⟩) N cap)) w1) := by
      rw [hfil]
      exact ⟨by rw [HN.out], ⟨d, rfl, List.take_length, HL1.out⟩, HK1.out⟩
    clear hall hfil
    go_wp2_with fail
    go_ret
    exact HE.out

/-- of none -/
theorem delete_none (cap : Nat) (w : World) : Calls Tryz.prog 49 #[.slice none 0 cap, isGone] w fun e w' => e = .returned (.slice none 0 cap) ∧ Below w.heap.size w w' := by
  have cI := index_any [] none 0 cap w (Wide.nil _ _ _ _) (by decide) 50 #[] enters3 (fun p => p.gone) (fun p w1 _ => isGone_any p.key p.val p.gone w1)
  go_enter Tryz.func49, Tryz.ntmps49
  go_wp2_with fail
  refine cI.mono ?_
  clear cI
  rintro e w1 ⟨hor, b1⟩
  rcases hor with ⟨i, p, hp, _⟩ | ⟨_, rfl⟩
  · simp at hp
  · go_wp2_with fail
    go_ret
    exact ⟨rfl, b1⟩
/-- a row of the call's own, cut to what is left -/
def CutO (l : List Pair) (B : Nat) (v : Value) (w : World) (e : Ending) (w' : World) : Prop :=
  ∃ v', e = .returned v' ∧ w'.ownsRow B 31 3 v' l.length (cells l) ∧ v'.ownBlock = v.ownBlock ∧ Kept (fun k => v.ownBlock = some k) w w'
theorem cut_owns {l d : List Pair} {T : List Value} {g cap B : Nat} {w : World} (hg : B ≤ g) (hc : l.length ≤ cap) (hm : cap ≤ maxLen) (hl : d.length * 3 + T.length = cap * 3) (hld : l.length ≤ d.length) {e : Ending} {w' : World} (h : Cut l d T g cap w e w') : CutO l B (.slice (some ⟨g, 0, none⟩) d.length cap) w e w' := by
  obtain ⟨rfl, ⟨d', h1, h2, h3⟩, k⟩ := h
  refine ⟨_, rfl, ?_, rfl, k.mono fun i hi => by rw [hi]; rfl⟩
  have := WalkStable.at_owns (m := l.length) h3 hg (by omega) hc hm (by omega)
  rw [h2] at this
  exact this
theorem delete_any (d : List Pair) (v : Value) (B : Nat) (w : World) (ho : w.ownsRow B 31 3 v d.length (cells d)) (hd : d.length ≤ 1000000) :
    Calls Tryz.prog 49 #[v, isGone] w fun e w' => CutO (d.filter stays) B v w e w' := by
  have hle := List.length_filter_le stays d
  by_cases h0 : 0 < d.length
  · obtain ⟨g, cap, T, rfl, hg, hat, hc, hm, hl⟩ := WalkStable.owns_at ho rfl h0
    exact (delete_some d T g cap w hat hd hc hm).mono fun e w' h => cut_owns hg (by omega) hm hl hle h
  · obtain rfl : d = [] := List.length_eq_zero_iff.1 (by omega)
    rcases ho.2 with ⟨rfl, _⟩ | ⟨g, cap, cur, rfl, hg, hh, hc, hm, hs, ht⟩
    · refine (delete_none 0 w).mono ?_
      rintro e w1 ⟨rfl, b1⟩
      exact ⟨_, rfl, World.ownsRow_nil _ _ _ _, rfl, Kept.of_below _ b1⟩
    · exact (delete_some [] cur.toList g cap w (by show WideCopy.Lies w g _ (cells [] ++ cur.toList); simpa [WideCopy.Lies, cells] using hh) (by decide) (Nat.zero_le _) hm).mono fun e w' h => cut_owns hg (Nat.zero_le _) hm (by simpa using hs) hle h

end Go.Proofs.YtofaegcljcpceagGreatDoor.WalkDelete

/-
  What slices.CompactFunc does with pairs that the call owns: of each run of one key the first is left.
-/
namespace Go.Proofs.YtofaegcljcpceagGreatDoor.WalkCompact
open Go.RowKit
open Lists (bt)
open Keeps (Kept)
open Stores (Pair)
open PairRows (cells cells_append cells_length cells_at)
open WideCopy (Lies)
open WalkStoFind (aggP sizeP)
open WalkSwap (At only)
open WalkDelete (Cut CutO cut_owns zeroP run_clear)
open Blocks (firsts firsts_next firsts_len)

theorem list_eq (x y : ByteArray) : (x.toList == y.toList) = decide (x = y) := by
  by_cases h : x = y
  · rw [decide_eq_true h, h]; simp
  · rw [decide_eq_false h]; simpa using fun e => h (Stores.toList_inj e)
abbrev sameKey : Value := .func (.func 48) #[] #[]
theorem sameKey_any (x0 x1 : ByteArray) (x2 : Bool) (y0 y1 : ByteArray) (y2 : Bool) (w : World) : Calls Tryz.prog 48 #[.agg #[.string x0, .string x1, .bool x2], .agg #[.string y0, .string y1, .bool y2]] w fun e w' => e = .returned (.bool (decide (x0 = y0))) ∧ Below w.heap.size w w' := by
  have b0 : Below w.heap.size w ((w.alloc (.cells #[.string x0, .string x1, .bool x2] 31)).alloc (.cells #[.string y0, .string y1, .bool y2] 31)) := ((Below.refl _ _).alloc (Nat.le_refl _) _).alloc (by simp) _
  go_enter Tryz.func48, Tryz.ntmps48
  go_wp2_with fail
  go_ret
  exact ⟨by rw [list_eq]; rfl, b0⟩

/-- k of the first j are left, those from j - 1 on are as they were -/
structure Runs (d : List Pair) (k j : Nat) (dk : List Pair) : Prop where
  len : dk.length = d.length
  low : dk.take k = firsts (d.take j)
  cnt : (firsts (d.take j)).length = k
  high : dk.drop (j - 1) = d.drop (j - 1)
theorem Runs.at {d dk : List Pair} {k j : Nat} (h : Runs d k j dk) {i : Nat} (hi : j - 1 ≤ i) : dk[i]? = d[i]? := by
  have := congrArg (fun l => l[i - (j - 1)]?) h.high
  simp only [List.getElem?_drop] at this
  rw [show j - 1 + (i - (j - 1)) = i by omega] at this
  exact this
theorem firsts_step {d : List Pair} {j : Nat} {p q : Pair} (hj : 1 ≤ j) (hp : d[j - 1]? = some p) (hq : d[j]? = some q) : firsts (d.take (j + 1)) = firsts (d.take j) ++ (if q.key = p.key then [] else [q]) := by
  obtain ⟨h1, rfl⟩ := List.getElem?_eq_some_iff.1 hp
  obtain ⟨h2, rfl⟩ := List.getElem?_eq_some_iff.1 hq
  obtain ⟨i, rfl⟩ : ∃ i, j = i + 1 := ⟨j - 1, by omega⟩
  exact firsts_next h2
theorem Runs.skip {d dk : List Pair} {k j : Nat} {p q : Pair} (h : Runs d k j dk) (hj : 1 ≤ j) (hp : d[j - 1]? = some p) (hq : d[j]? = some q) (he : q.key = p.key) : Runs d k (j + 1) dk := by
  have e := firsts_step hj hp hq
  rw [if_pos he, List.append_nil] at e
  refine ⟨h.len, by rw [e]; exact h.low, by rw [e]; exact h.cnt, ?_⟩
  have := congrArg (fun l => l.drop 1) h.high
  simp only [List.drop_drop] at this
  rw [show j - 1 + 1 = j + 1 - 1 by omega] at this
  exact this
theorem Runs.keep {d dk : List Pair} {k j : Nat} {p q : Pair} (h : Runs d k j dk) (hj : 1 ≤ j) (hp : d[j - 1]? = some p) (hq : d[j]? = some q) (he : ¬ q.key = p.key) (hkj : k < j) : Runs d (k + 1) (j + 1) (dk.set k q) := by
  have e := firsts_step hj hp hq
  rw [if_neg he] at e
  have hl := h.len
  have hjl := (List.getElem?_eq_some_iff.1 hq).1
  refine ⟨by simpa using hl, ?_, by rw [e, List.length_append, h.cnt]; rfl, ?_⟩
  · rw [e, ← h.low, List.take_set, List.take_succ_eq_append_getElem (by omega), List.set_append_right _ _ (by rw [List.length_take]; omega), List.length_take, show k - min k dk.length = 0 by omega]
    rfl
  · have := congrArg (fun l => l.drop 1) h.high
    simp only [List.drop_drop] at this
    rw [List.drop_set, if_pos (by omega), show j + 1 - 1 = j - 1 + 1 by omega]
    exact this

set_option maxHeartbeats 4000000 in
set_option maxRecDepth 100000 in
theorem compact_some (d : List Pair) (T : List Value) (g cap : Nat) (w : World) (hL : At w g d T) (hd : d.length ≤ 1000000) (hcap : d.length ≤ cap) (hc6 : cap ≤ maxLen) :
    Calls Tryz.prog 47 #[.slice (some ⟨g, 0, none⟩) d.length cap, sameKey] w fun e w' => Cut (firsts d) d T g cap w e w' := by
  have a26 := aggP
  have z26 := sizeP
  have HL : Hid (At w g d T) := hL
  have hc63 : cap ≤ 9223372036854775807 := by unfold maxLen at hc6; exact hc6
  have HFull : Hid (∀ w1, firsts d = d → At w1 g d T → Kept (only g) w w1 → Cut (firsts d) d T g cap w (.returned (.slice (some ⟨g, 0, none⟩) d.length cap)) w1) := fun w1 h1 h2 h3 => by
    rw [h1]
    exact ⟨rfl, ⟨d, rfl, List.take_length, h2⟩, h3⟩
  generalize hN : d.length = N at *
  have HN : Hid (d.length = N) := hN
  clear hL hN hc6
  by_cases h2 : N < 2
  · have i1 : (N : Int) < 2 := by omega
    have hf : firsts d = d := by
      have hl := HN.out
      match d, hl with
      | [], _ => rfl
      | [p], _ => rfl
      | p :: q :: l, hl => simp at hl; omega
    have HE := HFull.out w hf HL.out (Kept.refl _ _)
    clear hf HFull
    go_enter Tryz.func47, Tryz.ntmps47
    go_wp2_with fail
    go_ret
    exact HE
  · have i1 : ¬ (N : Int) < 2 := by omega
    have HF1 : Hid (firsts (d.take 1) = d.take 1) := by
      have hl := HN.out
      match d, hl with
      | [], hl => rfl
      | p :: l, _ => rfl
    go_enter Tryz.func47, Tryz.ntmps47
    go_upto_region 4 with fail
    go_loopw [5, 6, 7] (fun kv _ _ wr => ∃ k : Nat, 1 ≤ k ∧ k ≤ N ∧ kv = .int .i64 (k : Int) ∧ Hid (firsts (d.take k) = d.take k) ∧ Hid (At wr g d T) ∧ Hid (Kept (only g) w wr)) (fun kv _ _ _ => N - (intOf kv).toNat)
    case atStart => exact ⟨1, Nat.le_refl _, by omega, rfl, HF1, HL, Kept.refl _ _⟩
    clear HF1 HL
    case round =>
      obtain ⟨k, hk1, hk2, rfl, HFk, HLk, HKk⟩ := hrel
      by_cases hlt : k < N
      · have j1 : (k : Int) < (N : Int) := by omega
        obtain ⟨K, hK⟩ : ∃ K : Nat, K = k - 1 := ⟨_, rfl⟩
        have e1 : (k : Int) - 1 = (K : Int) := by omega
        have w1 : IntKind.i64.wrap (K : Int) = (K : Int) := by rw [IntKind.wrap_i64]; omega
        have b1 : (K : Int) < (N : Int) := by omega
        obtain ⟨p, hp⟩ : ∃ p, d[K]? = some p := ⟨d[K]'(by have := HN.out; omega), List.getElem?_eq_getElem _⟩
        obtain ⟨q, hq⟩ : ∃ q, d[k]? = some q := ⟨d[k]'(by have := HN.out; omega), List.getElem?_eq_getElem _⟩
        have hstep := firsts_step hk1 (by rw [← hK]; exact hp) hq
        have HX1 : Hid (¬ q.key = p.key → firsts (d.take (k + 1)) = d.take (k + 1)) := fun he => by
          rw [hstep, if_neg he, HFk.out]
          obtain ⟨h3, h4⟩ := List.getElem?_eq_some_iff.1 hq
          rw [List.take_succ_eq_append_getElem h3, h4]
        have HX2 : Hid (q.key = p.key → Runs d k (k + 1) d) := fun he => by
          have e : firsts (d.take (k + 1)) = d.take k := by rw [hstep, if_pos he, List.append_nil, HFk.out]
          exact ⟨rfl, e.symm, by rw [e, List.length_take, HN.out]; omega, rfl⟩
        obtain ⟨p0, p1, p2⟩ := HLk.out.cell hp
        obtain ⟨q0, q1, q2⟩ := HLk.out.cell hq
        obtain ⟨pk, pv, pg⟩ := p
        obtain ⟨qk, qv, qg⟩ := q
        simp only at p0 p1 p2 q0 q1 q2 HX1 HX2
        have s0 := fun dd os => cell_regrown p0 dd os
        have s1 := fun dd os => cell_regrown p1 dd os
        have s2 := fun dd os => cell_regrown p2 dd os
        have t0 := fun dd os => cell_regrown q0 dd os
        have t1 := fun dd os => cell_regrown q1 dd os
        have t2 := fun dd os => cell_regrown q2 dd os
        have x1 := fun dd os => Calls.regrown_of (w := wr) (d := dd) (os := os) (sameKey_any qk qv qg pk pv pg _)
        clear hp hq p0 p1 p2 q0 q1 q2 hstep HFk hK
        by_cases he : qk = pk
        · rw [decide_eq_true he] at x1
          have HR : Hid (Runs d k (k + 1) d) := HX2.out he
          clear HX1 HX2 he
          go_upto_region 6 with fail
          refine wp_region_quiet_below (by kernel_rfl) (by kernel_rfl) ?_
          iterate 10 (quiet_step (fail))
          quiet_step (exact x1 _ _)
          refine wpQuiet_nil ?_
          intro _ hw'
          obtain ⟨⟨dq, osq⟩, hw''⟩ := hw'
          subst hw''
          have bb := below_regrown wr dq osq
          clear s0 s1 s2 t0 t1 t2 x1
          generalize «Sort».grow (redrawn wr dq) osq = w4 at bb ⊢
          have HL4 : Hid (At w4 g d T) := HLk.out.below bb
          have HK4 : Hid (Kept (only g) w w4) := HKk.out.then bb
          clear bb HLk HKk
          have i2 : ((N : Int) - (k : Int)).toNat = N - k := by omega
          have i3 : (k : Int) ≤ (N : Int) := by omega
          have i4 : ¬ cap = k := by omega
          go_upto_region 9 with fail
          obtain ⟨M, hM⟩ : ∃ M : Nat, N - k = M := ⟨_, rfl⟩
          rw [hM]
          have HM : Hid (k + M = N) := by show k + M = N; omega
          have hM1 : 1 ≤ M := by omega
          have hM6 : M ≤ 1000000 := by omega
          clear i2 i3 i4 hM e1 w1 b1
          generalize cap - k = cap2
          go_loopw [5, 7] (fun av bv wr => ∃ (a b : Nat) (dk : List Pair), 1 ≤ b ∧ b ≤ M ∧ a < k + b ∧ av = .int .i64 (a : Int) ∧ bv = .int .i64 (b : Int) ∧ Hid (Runs d a (k + b) dk) ∧ Hid (At wr g dk T) ∧ Hid (Kept (only g) w wr)) (fun _ bv _ => M - (intOf bv).toNat)
          case atStart => exact ⟨k, 1, d, Nat.le_refl _, hM1, by omega, rfl, rfl, HR, HL4, HK4⟩
          clear HR HL4 HK4
          case round =>
            obtain ⟨a, b, dk, hb1, hb2, hab, rfl, rfl, HR, HLk, HKk⟩ := hrel
            by_cases hbM : b < M
            · have j2 : (b : Int) < (M : Int) := by omega
              obtain ⟨J, hJ⟩ : ∃ J : Nat, J = b - 1 := ⟨_, rfl⟩
              have e1 : (b : Int) - 1 = (J : Int) := by omega
              have w1 : IntKind.i64.wrap (J : Int) = (J : Int) := by rw [IntKind.wrap_i64]; omega
              have b1 : (J : Int) < (M : Int) := by omega
              obtain ⟨p, hp⟩ : ∃ p, d[k + b - 1]? = some p := ⟨d[k + b - 1]'(by have := HN.out; have := HM.out; omega), List.getElem?_eq_getElem _⟩
              obtain ⟨q, hq⟩ : ∃ q, d[k + b]? = some q := ⟨d[k + b]'(by have := HN.out; have := HM.out; omega), List.getElem?_eq_getElem _⟩
              have HX1 : Hid (q.key = p.key → Runs d a (k + (b + 1)) dk) := fun he => HR.out.skip (by omega) hp hq he
              have HX2 : Hid (¬ q.key = p.key → Runs d (a + 1) (k + (b + 1)) (dk.set a q)) := fun he => HR.out.keep (by omega) hp hq he hab
              have hp2 : dk[k + J]? = some p := by rw [HR.out.at (by omega), show k + J = k + b - 1 by omega]; exact hp
              have hq2 : dk[k + b]? = some q := by rw [HR.out.at (by omega)]; exact hq
              have HP : Hid (a < dk.length ∧ a < N) := by have := HR.out.len; have := HN.out; have := HM.out; exact ⟨by omega, by omega⟩
              obtain ⟨p0, p1, p2⟩ := HLk.out.cell hp2
              obtain ⟨q0, q1, q2⟩ := HLk.out.cell hq2
              rw [show (k + J) * 3 = k * 3 + J * 3 by omega] at p0 p1 p2
              rw [show (k + b) * 3 = k * 3 + b * 3 by omega] at q0 q1 q2
              obtain ⟨pk, pv, pg⟩ := p
              obtain ⟨qk, qv, qg⟩ := q
              have HQ2 : Hid (dk[k + b]? = some ⟨qk, qv, qg⟩) := hq2
              simp only at p0 p1 p2 q0 q1 q2 HX1 HX2
              have s0 := fun dd os => cell_regrown p0 dd os
              have s1 := fun dd os => cell_regrown p1 dd os
              have s2 := fun dd os => cell_regrown p2 dd os
              have t0 := fun dd os => cell_regrown q0 dd os
              have t1 := fun dd os => cell_regrown q1 dd os
              have t2 := fun dd os => cell_regrown q2 dd os
              have x1 := fun dd os => Calls.regrown_of (w := wr) (d := dd) (os := os) (sameKey_any qk qv qg pk pv pg _)
              clear hp hq hp2 hq2 p0 p1 p2 q0 q1 q2 hJ HR
              by_cases he : qk = pk
              · rw [decide_eq_true he] at x1
                have HR2 : Hid (Runs d a (k + (b + 1)) dk) := HX1.out he
                clear HX1 HX2 he HQ2
                go_upto_region 11 with fail
                refine wp_region_quiet_below (by kernel_rfl) (by kernel_rfl) ?_
                iterate 10 (quiet_step (fail))
                quiet_step (exact x1 _ _)
                quiet_step (fail)
                refine wpQuiet_nil ?_
                intro _ hw'
                obtain ⟨⟨dq, osq⟩, hw''⟩ := hw'
                subst hw''
                have bb := below_regrown wr dq osq
                clear s0 s1 s2 t0 t1 t2 x1
                generalize «Sort».grow (redrawn wr dq) osq = w5 at bb ⊢
                have HL5 : Hid (At w5 g dk T) := HLk.out.below bb
                have HK5 : Hid (Kept (only g) w w5) := HKk.out.then bb
                clear bb HLk HKk
                go_wp2_with fail
                go_roundw
                case rel => exact ⟨a, b + 1, dk, by omega, by omega, by omega, rfl, by go_num, HR2, HL5, HK5⟩
                case measure => simp [intOf]; omega
              · rw [decide_eq_false he] at x1
                have HR2 : Hid (Runs d (a + 1) (k + (b + 1)) (dk.set a ⟨qk, qv, qg⟩)) := HX2.out he
                clear HX1 HX2 he
                go_upto_region 11 with fail
                refine wp_region_quiet_below (by kernel_rfl) (by kernel_rfl) ?_
                iterate 10 (quiet_step (fail))
                quiet_step (exact x1 _ _)
                quiet_step (fail)
                refine wpQuiet_nil ?_
                intro _ hw'
                obtain ⟨⟨dq, osq⟩, hw''⟩ := hw'
                subst hw''
                have bb := below_regrown wr dq osq
                clear s0 s1 s2 t0 t1 t2 x1
                generalize «Sort».grow (redrawn wr dq) osq = w5 at bb ⊢
                have HL5 : Hid (At w5 g dk T) := HLk.out.below bb
                have HK5 : Hid (Kept (only g) w w5) := HKk.out.then bb
                clear bb HLk HKk e1 w1 b1
                obtain ⟨q0, q1, q2⟩ := HL5.out.cell HQ2.out
                rw [show (k + b) * 3 = k * 3 + b * 3 by omega] at q0 q1 q2
                simp only at q0 q1 q2
                obtain ⟨y, hy⟩ : ∃ y, dk[a]? = some y := ⟨dk[a]'HP.out.1, List.getElem?_eq_getElem _⟩
                obtain ⟨c0, c1, c2⟩ := HL5.out.cell hy
                have f0 : ∀ j, w5.frozen? ⟨g, j, none⟩ = false := fun j => Lies.frozen HL5.out j
                have j3 : (a : Int) < (N : Int) := by have := HP.out.2; omega
                have HL6 : Hid (At (((w5.setCell ⟨g, a * 3, none⟩ (.string qk)).setCell ⟨g, a * 3 + 1, none⟩ (.string qv)).setCell ⟨g, a * 3 + 2, none⟩ (.bool qg)) g (dk.set a ⟨qk, qv, qg⟩) T) := HL5.out.put a HP.out.1 ⟨qk, qv, qg⟩
                have HK6 : Hid (Kept (only g) w (((w5.setCell ⟨g, a * 3, none⟩ (.string qk)).setCell ⟨g, a * 3 + 1, none⟩ (.string qv)).setCell ⟨g, a * 3 + 2, none⟩ (.bool qg))) := WalkSwap.kept_put HK5.out (rfl : only g g) _ _ _ _ _ _
                clear hy HL5 HK5
                go_upto_region 13 with fail
                generalize World.setCell _ _ _ = w6 at HL6 HK6 ⊢
                clear q0 q1 q2 f0 c0 c1 c2
                go_wp2_with fail
                go_roundw
                case rel => exact ⟨a + 1, b + 1, _, by omega, by omega, by omega, by go_num, by go_num, HR2, HL6, HK6⟩
                case measure => simp [intOf]; omega
            · obtain rfl : b = M := by omega
              have j2 : ¬ (b : Int) < (b : Int) := by omega
              have hl := HR.out.len
              have hln := HN.out
              have hkb := HM.out
              obtain ⟨w6, hcl, hat, hk6⟩ := run_clear HLk.out a (by omega)
              rw [hl, hln] at hcl hat
              have hfull : firsts (d.take (k + b)) = firsts d := by rw [List.take_of_length_le (by omega)]
              have hcnt := HR.out.cnt
              rw [hfull] at hcnt
              have HE : Hid (Cut (firsts d) d T g cap w (.returned (.slice (some ⟨g, 0, none⟩) a cap)) w6) := by
                refine ⟨by rw [hcnt], ⟨dk.take a ++ List.replicate (N - a) zeroP, ?_, ?_, hat⟩, HKk.out.trans hk6 fun _ q => .inl q⟩
                · rw [List.length_append, List.length_take, List.length_replicate]; omega
                · rw [hcnt, List.take_append_of_le_length (by rw [List.length_take]; omega), List.take_take, Nat.min_self, HR.out.low, hfull]
              have i1 : (a : Int) ≤ (N : Int) := by omega
              have i2 : ((N : Int) - (a : Int)).toNat = N - a := by omega
              have i3 : ¬ cap = a := by omega
              clear hl hln hat hk6 hfull hcnt HR HLk HKk hkb
              go_wp2_with fail
              go_ret
              exact HE.out
        · rw [decide_eq_false he] at x1
          have HR : Hid (firsts (d.take (k + 1)) = d.take (k + 1)) := HX1.out he
          clear HX1 HX2 he
          go_upto_region 6 with fail
          refine wp_region_quiet_below (by kernel_rfl) (by kernel_rfl) ?_
          iterate 10 (quiet_step (fail))
          quiet_step (exact x1 _ _)
          refine wpQuiet_nil ?_
          intro _ hw'
          obtain ⟨⟨dq, osq⟩, hw''⟩ := hw'
          subst hw''
          have bb := below_regrown wr dq osq
          clear s0 s1 s2 t0 t1 t2 x1
          generalize «Sort».grow (redrawn wr dq) osq = w4 at bb ⊢
          have HL4 : Hid (At w4 g d T) := HLk.out.below bb
          have HK4 : Hid (Kept (only g) w w4) := HKk.out.then bb
          clear bb HLk HKk
          go_wp2_with fail
          go_roundw
          case rel => exact ⟨k + 1, by omega, by omega, by go_num, HR, HL4, HK4⟩
          case measure => simp [intOf]; omega
      · obtain rfl : k = N := by omega
        have j1 : ¬ (k : Int) < (k : Int) := by omega
        have HE := HFull.out wr (by have h := HFk.out; rw [List.take_of_length_le (by have := HN.out; omega)] at h; exact h) HLk.out HKk.out
        clear HFull
        go_wp2_with fail
        go_ret
        exact HE

theorem compact_none (cap : Nat) (w : World) : Calls Tryz.prog 47 #[.slice none 0 cap, sameKey] w fun e w' => e = .returned (.slice none 0 cap) ∧ w' = w := by
  go_enter Tryz.func47, Tryz.ntmps47
  go_wp2_with fail
  go_ret
  exact ⟨rfl, rfl⟩
theorem compact_any (d : List Pair) (v : Value) (B : Nat) (w : World) (ho : w.ownsRow B 31 3 v d.length (cells d)) (hd : d.length ≤ 1000000) :
    Calls Tryz.prog 47 #[v, sameKey] w fun e w' => CutO (firsts d) B v w e w' := by
  have hle := firsts_len d
  by_cases h0 : 0 < d.length
  · obtain ⟨g, cap, T, rfl, hg, hat, hc, hm, hl⟩ := WalkStable.owns_at ho rfl h0
    exact (compact_some d T g cap w hat hd hc hm).mono fun e w' h => cut_owns hg (by omega) hm hl hle h
  · obtain rfl : d = [] := List.length_eq_zero_iff.1 (by omega)
    rcases ho.2 with ⟨rfl, _⟩ | ⟨g, cap, cur, rfl, hg, hh, hc, hm, hs, ht⟩
    · refine (compact_none 0 w).mono ?_
      rintro e w1 ⟨rfl, rfl⟩
      exact ⟨_, rfl, World.ownsRow_nil _ _ _ _, rfl, Kept.refl _ _⟩
    · exact (compact_some [] cur.toList g cap w (by show WideCopy.Lies w g _ (cells [] ++ cur.toList); simpa [WideCopy.Lies, cells] using hh) (by decide) (Nat.zero_le _) hm).mono fun e w' h => cut_owns hg (Nat.zero_le _) hm (by simpa using hs) hle h

end Go.Proofs.YtofaegcljcpceagGreatDoor.WalkCompact

