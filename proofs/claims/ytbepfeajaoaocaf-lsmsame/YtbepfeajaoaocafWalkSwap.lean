/-
  What package slices does with pairs that change places, for the stable sort: a range with a range, and two parts side by side.
-/
import Derived.Test.YtbepfeajaoaocafWalkStoIns
import Derived.Test.YtbepfeajaoaocafMerges
import Derived.BigRegion
namespace Go.Proofs.Ytbepfeajaoaocaf.WalkSwap
open Go.RowKit
open Keeps (Kept)
open Stores (Pair)
open PairRows (cells cells_append cells_length cells_at)
open WideCopy (Lies)
open WalkStoFind (aggP sizeP)
open Stables Merges

/-- the pairs d lie in block g, whatever is behind them -/
abbrev At (w : World) (g : Nat) (d : List Pair) (T : List Value) : Prop := Lies w g 38 (cells d ++ T)
theorem cells_put3 (l : List Pair) (i : Nat) (hi : i < l.length) (p : Pair) : (((cells l).set (i * 3) (.string p.key)).set (i * 3 + 1) (.string p.val)).set (i * 3 + 2) (.bool p.gone) = cells (l.set i p) := by
  induction l generalizing i with
  | nil => cases hi
  | cons q l ih =>
    cases i with
    | zero => rfl
    | succ i =>
      have e : (i + 1) * 3 = i * 3 + 3 := by omega
      rw [e]
      exact congrArg (fun t => Value.string q.key :: Value.string q.val :: Value.bool q.gone :: t) (ih i (Nat.lt_of_succ_lt_succ hi))
theorem At.cell {w : World} {g : Nat} {d : List Pair} {T : List Value} (h : At w g d T) {i : Nat} {p : Pair} (hp : d[i]? = some p) :
    w.cell? ⟨g, i * 3, none⟩ = some (.string p.key) ∧ w.cell? ⟨g, i * 3 + 1, none⟩ = some (.string p.val) ∧ w.cell? ⟨g, i * 3 + 2, none⟩ = some (.bool p.gone) := by
  obtain ⟨hi, rfl⟩ := List.getElem?_eq_some_iff.1 hp
  obtain ⟨c0, c1, c2⟩ := cells_at d i hi
  have hl := cells_length d
  rw [Lies.cell h, Lies.cell h, Lies.cell h, List.getElem?_append_left (by omega), List.getElem?_append_left (by omega), List.getElem?_append_left (by omega)]
  exact ⟨c0, c1, c2⟩
theorem lies_set {w : World} {g : Nat} {e : TypeId} {R : List Value} (h : Lies w g e R) (j : Nat) (u : Value) : Lies (w.setCell ⟨g, j, none⟩ u) g e (R.set j u) := by
  show (w.setCell ⟨g, j, none⟩ u).heap[g]? = _
  have h1 : w.heap[g]? = some (.cells R.toArray e (0, 0)) := h
  simp [World.setCell, Array.getElem?_modify, h1]
/-- one pair is written -/
theorem At.put {w : World} {g : Nat} {d : List Pair} {T : List Value} (h : At w g d T) (i : Nat) (hi : i < d.length) (p : Pair) :
    At (((w.setCell ⟨g, i * 3, none⟩ (.string p.key)).setCell ⟨g, i * 3 + 1, none⟩ (.string p.val)).setCell ⟨g, i * 3 + 2, none⟩ (.bool p.gone)) g (d.set i p) T := by
  have h1 := lies_set (lies_set (lies_set h (i * 3) (.string p.key)) (i * 3 + 1) (.string p.val)) (i * 3 + 2) (.bool p.gone)
  have hl := cells_length d
  rw [List.set_append_left _ _ (by omega), List.set_append_left _ _ (by rw [List.length_set]; omega), List.set_append_left _ _ (by rw [List.length_set, List.length_set]; omega), cells_put3 d i hi p] at h1
  exact h1
theorem kept_put {S : Nat → Prop} {a w : World} (h : Kept S a w) {g : Nat} (hg : S g) (i j k : Nat) (u v x : Value) : Kept S a (((w.setCell ⟨g, i, none⟩ u).setCell ⟨g, j, none⟩ v).setCell ⟨g, k, none⟩ x) :=
  ((h.setCell (.inl hg) _).setCell (.inl hg) _).setCell (.inl hg) _
theorem At.kept {S : Nat → Prop} {w w' : World} {g : Nat} {d : List Pair} {T : List Value} (h : At w g d T) (k : Kept S w w') (hS : ¬ S g) : At w' g d T := Lies.kept h k hS
theorem At.below {w w' : World} {g : Nat} {d : List Pair} {T : List Value} (h : At w g d T) (k : Below w.heap.size w w') : At w' g d T := Lies.kept h (Kept.of_below (fun _ => False) k) fun q => q
abbrev only (g : Nat) : Nat → Prop := fun k => k = g
/-- two pairs change places -/
theorem At.swap {w : World} {g : Nat} {d : List Pair} {T : List Value} (h : At w g d T) {i j : Nat} (hi : i < d.length) (hj : j < d.length) (p q : Pair) :
    At (((((((w.setCell ⟨g, i * 3, none⟩ (.string q.key)).setCell ⟨g, i * 3 + 1, none⟩ (.string q.val)).setCell ⟨g, i * 3 + 2, none⟩ (.bool q.gone)).setCell ⟨g, j * 3, none⟩ (.string p.key)).setCell ⟨g, j * 3 + 1, none⟩ (.string p.val)).setCell ⟨g, j * 3 + 2, none⟩ (.bool p.gone))) g ((d.set i q).set j p) T :=
  (h.put i hi q).put j (by simpa using hj) p

theorem At.drew {w : World} {g : Nat} {d : List Pair} {T : List Value} (h : At w g d T) : At w.drew g d T := h
theorem swapped {w0 w : World} {g : Nat} {d : List Pair} {T : List Value} (h : At w g d T) (k : Kept (only g) w0 w) {i j : Nat} (hi : i < d.length) (hj : j < d.length) (pk pv : ByteArray) (pg : Bool) (qk qv : ByteArray) (qg : Bool) :
    Hid (At (((((((w.setCell ⟨g, i * 3, none⟩ (.string qk)).setCell ⟨g, i * 3 + 1, none⟩ (.string qv)).setCell ⟨g, i * 3 + 2, none⟩ (.bool qg)).setCell ⟨g, j * 3, none⟩ (.string pk)).setCell ⟨g, j * 3 + 1, none⟩ (.string pv)).setCell ⟨g, j * 3 + 2, none⟩ (.bool pg)).drew) g ((d.set i ⟨qk, qv, qg⟩).set j ⟨pk, pv, pg⟩) T) ∧
    Hid (Kept (only g) w0 (((((((w.setCell ⟨g, i * 3, none⟩ (.string qk)).setCell ⟨g, i * 3 + 1, none⟩ (.string qv)).setCell ⟨g, i * 3 + 2, none⟩ (.bool qg)).setCell ⟨g, j * 3, none⟩ (.string pk)).setCell ⟨g, j * 3 + 1, none⟩ (.string pv)).setCell ⟨g, j * 3 + 2, none⟩ (.bool pg)).drew)) :=
  ⟨(h.swap hi hj ⟨pk, pv, pg⟩ ⟨qk, qv, qg⟩).drew, (kept_put (kept_put k (rfl : only g g) _ _ _ _ _ _) (rfl : only g g) _ _ _ _ _ _).drew⟩

set_option maxHeartbeats 4000000 in
set_option maxRecDepth 100000 in
theorem swapRange_any (fv : Value) (d : List Pair) (T : List Value) (g cap a b n : Nat) (w : World) (hL : At w g d T) (hd : d.length ≤ 1000000) (h : a + n ≤ b) (hb : b + n ≤ d.length) :
    Calls Try.prog 83 #[.slice (some ⟨g, 0, none⟩) d.length cap, .int .i64 (a : Int), .int .i64 (b : Int), .int .i64 (n : Int), fv] w fun e w' =>
      e = .returned (.tuple #[]) ∧ (∃ d', Swaps a b n n d d' ∧ At w' g d' T) ∧ Kept (only g) w w' := by
  have a26 := aggP
  have z26 := sizeP
  have HL : Hid (At w g d T) := hL
  have HS : Hid (Swaps a b n 0 d d) := swaps_start h hb
  generalize hN : d.length = N at *
  have HN : Hid (d.length = N) := hN
  clear hL hN
  go_enter Try.func83, Try.ntmps83
  go_wp2_with fail
  go_loopw [10] (fun i wr => ∃ (k : Nat) (dk : List Pair), k ≤ n ∧ i = .int .i64 (k : Int) ∧ Hid (Swaps a b n k d dk) ∧ Hid (At wr g dk T) ∧ Hid (Kept (only g) w wr)) (fun i _ => n - (intOf i).toNat)
  case atStart => exact ⟨0, d, Nat.zero_le _, rfl, HS, HL, Kept.refl _ _⟩
  case round =>
    obtain ⟨k, dk, hk, rfl, HSk, HLk, HKk⟩ := hrel
    by_cases hlt : k < n
    · have i1 : (k : Int) < (n : Int) := by omega
      obtain ⟨p, q, hp, hq, hs⟩ := swaps_step HSk.out hlt
      obtain ⟨p0, p1, p2⟩ := HLk.out.cell hp
      obtain ⟨q0, q1, q2⟩ := HLk.out.cell hq
      have HP : Hid (a + k < dk.length ∧ b + k < dk.length) := by have := HSk.out.length; have := HN.out; exact ⟨by omega, by omega⟩
      have HS2 : Hid (Swaps a b n (k + 1) d ((dk.set (a + k) q).set (b + k) p)) := hs
      have f0 : ∀ j, wr.frozen? ⟨g, j, none⟩ = false := fun j => Lies.frozen HLk.out j
      obtain ⟨A, hA⟩ : ∃ A : Nat, A = a + k := ⟨_, rfl⟩
      obtain ⟨B, hB⟩ : ∃ B : Nat, B = b + k := ⟨_, rfl⟩
      rw [← hA] at p0 p1 p2 HP HS2
      rw [← hB] at q0 q1 q2 HP HS2
      have e1 : (a : Int) + (k : Int) = (A : Int) := by omega
      have e2 : (b : Int) + (k : Int) = (B : Int) := by omega
      have w1 : IntKind.i64.wrap (A : Int) = (A : Int) := by rw [IntKind.wrap_i64]; omega
      have w2 : IntKind.i64.wrap (B : Int) = (B : Int) := by rw [IntKind.wrap_i64]; omega
      have b1 : (A : Int) < (N : Int) := by omega
      have b2 : (B : Int) < (N : Int) := by omega
      obtain ⟨pk, pv, pg⟩ := p
      obtain ⟨qk, qv, qg⟩ := q
      simp only at p0 p1 p2 q0 q1 q2
      clear hp hq hs hA hB
      go_upto_region 3 with fail
      go_region
      obtain ⟨HL2, HK2⟩ := swapped HLk.out HKk.out HP.out.1 HP.out.2 pk pv pg qk qv qg
      clear p0 p1 p2 q0 q1 q2 f0 HLk HKk
      generalize World.drew _ = wn at HL2 HK2 ⊢
      go_wp2_with fail
      go_roundw
      case rel => exact ⟨k + 1, _, by omega, by go_num, HS2, HL2, HK2⟩
      case measure => simp [intOf]; omega
    · obtain rfl : k = n := by omega
      have i1 : ¬ (k : Int) < (k : Int) := by omega
      go_wp2_with fail
      go_end0
      exact ⟨rfl, ⟨dk, HSk.out, HLk.out⟩, HKk.out⟩

set_option maxHeartbeats 4000000 in
set_option maxRecDepth 100000 in
theorem rotate_any (fv : Value) (d t : List Pair) (T : List Value) (g cap a m b : Nat) (w : World) (hL : At w g d T) (hd : d.length ≤ 1000000) (h1 : a < m) (h2 : m < b) (ht : Turns m (m - a) (b - m) t d) :
    Calls Try.prog 82 #[.slice (some ⟨g, 0, none⟩) d.length cap, .int .i64 (a : Int), .int .i64 (m : Int), .int .i64 (b : Int), fv] w fun e w' =>
      e = .returned (.tuple #[]) ∧ At w' g t T ∧ Kept (only g) w w' := by
  have HL : Hid (At w g d T) := hL
  have HT : Hid (Turns m (m - a) (b - m) t d) := ht
  generalize hN : d.length = N at *
  have HC : Hid (∀ (dk : List Pair) (wr : World) (x y n : Nat), dk.length = N → At wr g dk T → x + n ≤ y → y + n ≤ N → Calls Try.prog 83 #[.slice (some ⟨g, 0, none⟩) N cap, .int .i64 (x : Int), .int .i64 (y : Int), .int .i64 (n : Int), fv] wr fun e w' => e = .returned (.tuple #[]) ∧ (∃ d', Swaps x y n n dk d' ∧ At w' g d' T) ∧ Kept (only g) wr w') := by
    intro dk wr x y n hl hat h3 h4
    have := swapRange_any fv dk T g cap x y n wr hat (by omega) h3 (by omega)
    rw [hl] at this
    exact this
  have HTN : Hid (t.length = N) := by show _ = _; rw [ht.length, hN]
  have hr := ht.room
  rw [hN] at hr
  obtain ⟨I, hI⟩ : ∃ I : Nat, I = m - a := ⟨_, rfl⟩
  obtain ⟨J, hJ⟩ : ∃ J : Nat, J = b - m := ⟨_, rfl⟩
  rw [← hI, ← hJ] at HT
  have e1 : (m : Int) - (a : Int) = (I : Int) := by omega
  have e2 : (b : Int) - (m : Int) = (J : Int) := by omega
  have w1 : IntKind.i64.wrap (I : Int) = (I : Int) := by rw [IntKind.wrap_i64]; omega
  have w2 : IntKind.i64.wrap (J : Int) = (J : Int) := by rw [IntKind.wrap_i64]; omega
  have hI0 : 0 < I := by omega
  have hJ0 : 0 < J := by omega
  have hm : m ≤ 1000000 := by omega
  have hI1 : I ≤ 1000000 := by omega
  have hJ1 : J ≤ 1000000 := by omega
  clear hL ht hr hI hJ hN
  go_enter Try.func82, Try.ntmps82
  go_upto_region 2 with fail
  clear e1 e2 w1 w2
  go_loopw [10, 11] (fun iv jv wr => ∃ (i j : Nat) (dk : List Pair), 0 < i ∧ 0 < j ∧ i ≤ 1000000 ∧ j ≤ 1000000 ∧ iv = .int .i64 (i : Int) ∧ jv = .int .i64 (j : Int) ∧ Hid (Turns m i j t dk) ∧ Hid (At wr g dk T) ∧ Hid (Kept (only g) w wr)) (fun iv jv _ => (intOf iv).toNat + (intOf jv).toNat)
  case atStart => exact ⟨I, J, d, hI0, hJ0, hI1, hJ1, rfl, rfl, HT, HL, Kept.refl _ _⟩
  case round =>
    obtain ⟨i, j, dk, hi0, hj0, hi1, hj1, rfl, rfl, HTk, HLk, HKk⟩ := hrel
    have hl : dk.length = N := by rw [← HTk.out.length]; exact HTN.out
    obtain ⟨r1, r2⟩ := HTk.out.room
    rw [hl] at r2
    obtain ⟨M, hM⟩ : ∃ M : Nat, M = m - i := ⟨_, rfl⟩
    have e1 : (m : Int) - (i : Int) = (M : Int) := by omega
    have w1 : IntKind.i64.wrap (M : Int) = (M : Int) := by rw [IntKind.wrap_i64]; omega
    rcases Nat.lt_trichotomy i j with hij | hij | hij
    · -- more behind
      obtain ⟨Q, hQ⟩ : ∃ Q : Nat, Q = m + j := ⟨_, rfl⟩
      obtain ⟨R, hR⟩ : ∃ R : Nat, R = m + j - i := ⟨_, rfl⟩
      obtain ⟨J2, hJ2⟩ : ∃ J2 : Nat, J2 = j - i := ⟨_, rfl⟩
      have e2 : (m : Int) + (j : Int) = (Q : Int) := by omega
      have e3 : (Q : Int) - (i : Int) = (R : Int) := by omega
      have e4 : (j : Int) - (i : Int) = (J2 : Int) := by omega
      have w2 : IntKind.i64.wrap (Q : Int) = (Q : Int) := by rw [IntKind.wrap_i64]; omega
      have w3 : IntKind.i64.wrap (R : Int) = (R : Int) := by rw [IntKind.wrap_i64]; omega
      have w4 : IntKind.i64.wrap (J2 : Int) = (J2 : Int) := by rw [IntKind.wrap_i64]; omega
      have c := HC.out dk wr M R i hl HLk.out (by omega) (by omega)
      have i1 : ((i : Int) == (j : Int)) = false := by simp; omega
      have i2 : ¬ (j : Int) < (i : Int) := by omega
      have HX : Hid (∀ d', Swaps M R i i dk d' → Turns m i J2 t d') := fun d' hs => by rw [hJ2]; exact turns_right HTk.out hij (by rw [← hM, ← hR]; exact hs)
      have HJ : Hid (0 < J2 ∧ J2 ≤ 1000000 ∧ J2 + i = j) := ⟨by omega, by omega, by omega⟩
      clear hM hQ hR hJ2 hl r1 r2 HLk HTk
      go_wp2_with (go_at_call 83; refine c.mono ?_; rintro e w5 ⟨rfl, ⟨d5, s5, l5⟩, k5⟩; have T5 := HX.out _ s5; have HL5 : Hid (At w5 g d5 T) := l5; have HK5 : Hid (Kept (only g) w w5) := HKk.out.trans k5 (fun _ q => .inl q); have HT5 : Hid (Turns m i J2 t d5) := T5; clear s5 l5 k5 T5)
      go_roundw
      case rel => exact ⟨i, J2, d5, hi0, HJ.out.1, hi1, HJ.out.2.1, rfl, rfl, HT5, HL5, HK5⟩
      case measure => have := HJ.out; simp [intOf]; omega
    · -- as many
      subst hij
      have c := HC.out dk wr M m i hl HLk.out (by omega) (by omega)
      have i1 : ((i : Int) == (i : Int)) = true := by simp
      have HX : Hid (∀ d', Swaps M m i i dk d' → d' = t) := fun d' hs => turns_end HTk.out (by rw [← hM]; exact hs)
      clear hM hl r1 r2 HLk HTk
      go_wp2_with (go_at_call 83; refine c.mono ?_; rintro e w5 ⟨rfl, ⟨d5, s5, l5⟩, k5⟩; have T5 := HX.out _ s5; rw [T5] at l5; have HL5 : Hid (At w5 g t T) := l5; have HK5 : Hid (Kept (only g) w w5) := HKk.out.trans k5 (fun _ q => .inl q); clear s5 l5 k5 T5)
      go_end0
      exact ⟨rfl, HL5.out, HK5.out⟩
    · -- more ahead
      obtain ⟨I2, hI2⟩ : ∃ I2 : Nat, I2 = i - j := ⟨_, rfl⟩
      have e4 : (i : Int) - (j : Int) = (I2 : Int) := by omega
      have w4 : IntKind.i64.wrap (I2 : Int) = (I2 : Int) := by rw [IntKind.wrap_i64]; omega
      have c := HC.out dk wr M m j hl HLk.out (by omega) (by omega)
      have i1 : ((i : Int) == (j : Int)) = false := by simp; omega
      have i2 : (j : Int) < (i : Int) := by omega
      have HX : Hid (∀ d', Swaps M m j j dk d' → Turns m I2 j t d') := fun d' hs => by rw [hI2]; exact turns_left HTk.out hij (by rw [← hM]; exact hs)
      have HJ : Hid (0 < I2 ∧ I2 ≤ 1000000 ∧ I2 + j = i) := ⟨by omega, by omega, by omega⟩
      clear hM hI2 hl r1 r2 HLk HTk
      go_wp2_with (go_at_call 83; refine c.mono ?_; rintro e w5 ⟨rfl, ⟨d5, s5, l5⟩, k5⟩; have T5 := HX.out _ s5; have HL5 : Hid (At w5 g d5 T) := l5; have HK5 : Hid (Kept (only g) w w5) := HKk.out.trans k5 (fun _ q => .inl q); have HT5 : Hid (Turns m I2 j t d5) := T5; clear s5 l5 k5 T5)
      go_roundw
      case rel => exact ⟨I2, j, d5, HJ.out.1, hj0, HJ.out.2.1, hj1, rfl, rfl, HT5, HL5, HK5⟩
      case measure => have := HJ.out; simp [intOf]; omega

end Go.Proofs.Ytbepfeajaoaocaf.WalkSwap
