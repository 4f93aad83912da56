/-
  What the program's search among places returns, slices.BinarySearch at ints; and what batch.walk does: it tells each part in turn to the function that it was handed.
-/
import Derived.Test.YtndhbimgicnhkaaDoorBatchTrips
import Derived.Test.YtndhbimgicnhkaaDoorWalkCheck
import Derived.Test.YtndhbimgicnhkaaDoorKeeps
import Derived.Shelf.Abstract
import Derived.Deep.DeepMust
import Derived.Deep.CutBlock
namespace Go.Proofs.YtndhbimgicnhkaaDoor.WalkBaWalk
open Go.RowKit
open Lists (Row ints bt)
open Trees (half half_lt half_pos)
open BatchSets (rising)
open BatchTrips

theorem isNaN_c (x : Int) (w : World) : Calls Tryd.prog 55 #[.int .i64 x] w fun e w' => e = .returned (.bool false) ∧ w' = w := by
  go_enter Tryd.func55, Tryd.ntmps55
  have i1 : (x != x) = false := by simp
  go_wp2_with fail
  go_ret
  exact ⟨rfl, rfl⟩
theorem isNaN_s (x : Int) (w : World) : Calls Tryd.prog 46 #[.int .i64 x] w fun e w' => e = .returned (.bool false) ∧ w' = w := by
  go_enter Tryd.func46, Tryd.ntmps46
  have i1 : (x != x) = false := by simp
  go_wp2_with fail
  go_ret
  exact ⟨rfl, rfl⟩
theorem less_any (x y : Int) (w : World) : Calls Tryd.prog 45 #[.int .i64 x, .int .i64 y] w fun e w' => e = .returned (.bool (decide (x < y))) ∧ w' = w := by
  by_cases h : x < y
  · have HH : Hid (decide (x < y) = true) := decide_eq_true h
    go_enter Tryd.func45, Tryd.ntmps45
    go_wp2_with (go_at_call 55; refine (isNaN_c _ _).mono ?_; rintro e w' ⟨rfl, rfl⟩)
    go_ret
    exact ⟨by rw [HH.out]; rfl, rfl⟩
  · have HH : Hid (decide (x < y) = false) := decide_eq_false h
    go_enter Tryd.func45, Tryd.ntmps45
    go_wp2_with (go_at_call 55; refine (isNaN_c _ _).mono ?_; rintro e w' ⟨rfl, rfl⟩)
    go_ret
    exact ⟨by rw [HH.out]; rfl, rfl⟩

theorem rising_get {a : List Int} (h : rising a) {i j : Nat} (hij : i ≤ j) (hj : j < a.length) : a.getD i 0 ≤ a.getD j 0 := by
  rcases Nat.lt_or_ge i j with q | q
  · have := BatchSets.rising_far h i j q hj
    rw [List.getD_eq_getElem?_getD, List.getD_eq_getElem?_getD, List.getElem?_eq_getElem (by omega), List.getElem?_eq_getElem hj]
    show a[i] ≤ a[j]
    omega
  · obtain rfl : i = j := by omega
    omega

/-- what the search answers -/
def Found (l : List Int) (m : Int) (w : World) (e : Ending) (w' : World) : Prop := ∃ r, e = .returned (.tuple #[.int .i64 (low l m : Nat), .bool r]) ∧ w' = w

set_option maxHeartbeats 4000000 in
set_option maxRecDepth 100000 in
theorem search_any (l : List Int) (m : Int) (a : Option Addr) (n cap : Nat) (w : World) (hr : Row w a n cap (ints l)) (hn : n ≤ 400) (hris : rising l) :
    Calls Tryd.prog 36 #[.slice a n cap, .int .i64 m] w fun e w' => Found l m w e w' := by
  have hln : l.length = n := by rw [← hr.1, Lists.ints_length]
  have HR : Hid (Row w a n cap (ints l)) := hr
  have HL : Hid (l.length = n) := hln
  have HI : Hid (rising l) := hris
  clear hr hris hln
  go_enter Tryd.func36, Tryd.ntmps36
  go_wp2_with fail
  go_loop [7, 8] (fun s7 s8 => ∃ lo hi : Nat, s7 = .int .i64 (lo : Int) ∧ s8 = .int .i64 (hi : Int) ∧ lo ≤ hi ∧ hi ≤ n ∧ Hid (∀ j : Nat, j < lo → l.getD j 0 < m) ∧ Hid (∀ j : Nat, hi ≤ j → j < l.length → m ≤ l.getD j 0)) (fun s7 s8 => (intOf s8).toNat - (intOf s7).toNat)
  case atStart => exact ⟨0, n, rfl, rfl, Nat.zero_le _, Nat.le_refl _, fun j h0 => absurd h0 (Nat.not_lt_zero _), fun j h h0 => absurd h0 (by have := HL.out; omega)⟩
  case round =>
    obtain ⟨lo, hi, rfl, rfl, h1, h2, HA, HB⟩ := hrel
    by_cases hlt : lo < hi
    · have i1 : (lo : Int) < (hi : Int) := by omega
      obtain ⟨M, HM⟩ : ∃ M : Nat, Hid ((lo + hi) / 2 = M) := ⟨_, rfl⟩
      have k1 : ((lo : Int) + (hi : Int)) / 2 = (M : Int) := by have := HM.out; omega
      have m1 : lo ≤ M := by have := HM.out; omega
      have m2 : M < hi := by have := HM.out; omega
      have i2 : (M : Int) < (n : Int) := by omega
      have hml : M < l.length := by have := HL.out; omega
      obtain ⟨b1, off1, rfl, hc⟩ := HR.out.2.2 (by omega)
      have c0 := hc M _ (Lists.ints_at hml)
      have HX1 : Hid (l.getD M 0 < m → ∀ j : Nat, j < M + 1 → l.getD j 0 < m) := fun h j hj => Int.lt_of_le_of_lt (rising_get HI.out (by omega) hml) h
      have HX2 : Hid (m ≤ l.getD M 0 → ∀ j : Nat, M ≤ j → j < l.length → m ≤ l.getD j 0) := fun h j hj hjl => Int.le_trans h (rising_get HI.out hj hjl)
      generalize l.getD M 0 = x at c0 HX1 HX2
      have cC := less_any x m w
      clear hc HM hml
      by_cases hx : x < m
      · rw [decide_eq_true hx] at cC
        have HN := HX1.out hx
        clear HX1 HX2 hx
        go_wp2_with fail
        refine cC.mono ?_
        rintro e w1 ⟨rfl, rfl⟩
        go_wp2_with fail
        go_round
        case rel => exact ⟨M + 1, hi, by go_num, rfl, by omega, h2, HN, HB⟩
        case measure => simp [intOf]; omega
      · rw [decide_eq_false hx] at cC
        have HN := HX2.out (by omega)
        clear HX1 HX2 hx
        go_wp2_with fail
        refine cC.mono ?_
        rintro e w1 ⟨rfl, rfl⟩
        go_wp2_with fail
        go_round
        case rel => exact ⟨lo, M, rfl, rfl, m1, by omega, HA, HN⟩
        case measure => simp [intOf]; omega
    · obtain rfl : lo = hi := by omega
      have HS : Hid (lo = low l m) := low_is (by have := HL.out; omega) HA.out HB.out
      have i1 : ¬ (lo : Int) < (lo : Int) := by omega
      clear HA HB h1 hlt
      by_cases hln : lo < n
      · have i2 : (lo : Int) < (n : Int) := by omega
        have hml : lo < l.length := by have := HL.out; omega
        obtain ⟨b1, off1, rfl, hc⟩ := HR.out.2.2 (by omega)
        have c0 := hc lo _ (Lists.ints_at hml)
        generalize l.getD lo 0 = x at c0
        clear hc hml
        by_cases he : x = m
        · subst he
          have i3 : (x == x) = true := by simp
          go_wp2_with (go_at_call 46; refine (isNaN_s _ _).mono ?_; rintro e w' ⟨rfl, rfl⟩)
          go_ret2
          exact ⟨true, by rw [← HS.out]; rfl, rfl⟩
        · have i3 : (x == m) = false := by simpa using he
          go_wp2_with (go_at_call 46; refine (isNaN_s _ _).mono ?_; rintro e w' ⟨rfl, rfl⟩)
          go_ret2
          exact ⟨false, by rw [← HS.out]; rfl, rfl⟩
      · have i2 : ¬ (lo : Int) < (n : Int) := by omega
        go_wp2_with fail
        go_ret2
        exact ⟨false, by rw [← HS.out]; rfl, rfl⟩

theorem rising_take {l : List Int} (h : rising l) (k : Nat) : rising (l.take k) := List.Pairwise.sublist (List.take_sublist k l) h
theorem rising_drop {l : List Int} (h : rising l) (k : Nat) : rising (l.drop k) := List.Pairwise.sublist (List.drop_sublist k l) h

set_option maxHeartbeats 4000000 in
set_option maxRecDepth 100000 in
/-- where what is told goes on with Inv, the way through all parts does -/
theorem walk_any (g : FuncId) (caps : Array Value) (hg : Enters Tryd.prog g) (w0 : World) {σ : Type} (Goes : Nat → Nat → Nat → σ → σ → Prop) (Inv : σ → World → Prop) (hB : ∀ s w, Inv s w → Below w0.heap.size w0 w)
    (hT : ∀ (lo hi c : Nat) (L H C : Int) s t w, L = lo → H = hi → C = c → Goes lo hi c s t → Inv s w → Calls Tryd.prog g (#[.int .i64 L, .int .i64 H, .int .i64 C] ++ caps) w fun e w' => e = .returned (.tuple #[]) ∧ Inv t w') :
    ∀ {lo hi : Nat} {l : List Int} {s t : σ}, Trip Goes lo hi l s t → ∀ (L H : Int) (a : Option Addr) (n cap : Nat) (w : World), L = lo → H = hi → hi ≤ 200 → n ≤ 400 → rising l → Row w0 a n cap (ints l) → Inv s w →
      Calls Tryd.prog 21 #[.int .i64 L, .int .i64 H, .slice a n cap, .func (.func g) #[] caps] w fun e w' => e = .returned (.tuple #[]) ∧ Inv t w' := by
  intro lo hi l s t q
  induction q with
  | @leaf lo hi l s t h1 h2 h3 =>
    intro L H a n cap w hL hH h200 hn hris hr hI
    have hln : l.length = n := by rw [← hr.1, Lists.ints_length]
    have c1 := hT lo hi l.length L H (n : Int) s t w hL hH (by omega) h3 hI
    have b1 : L < H := by omega
    have b2 : H ≤ 200 := by omega
    have b3 : 0 ≤ L := by omega
    by_cases hz : n = 0
    · clear hT h3 hI hris hr h1 hL hH h2
      subst hz
      go_enter Tryd.func21, Tryd.ntmps21
      go_wp2_with fail
      rw [hg, Oper.upon_enter]
      refine c1.mono ?_
      rintro e w1 ⟨rfl, h⟩
      clear c1
      go_wp2_with fail
      go_end0
      exact ⟨rfl, h⟩
    · have i1 : (0 : Int) < (n : Int) := by omega
      have i2 : ¬ (1 : Int) < H - L := by omega
      clear hT h3 hI hris hr h1 hL hH h2
      go_enter Tryd.func21, Tryd.ntmps21
      go_wp2_with fail
      rw [hg, Oper.upon_enter]
      refine c1.mono ?_
      rintro e w1 ⟨rfl, h⟩
      clear c1
      go_wp2_with fail
      go_end0
      exact ⟨rfl, h⟩
  | @two lo hi l s t u v h1 h2 _ _ h3 ia ib =>
    intro L H a n cap w hL hH h200 hn hris hr hI
    have hln : l.length = n := by rw [← hr.1, Lists.ints_length]
    have kl := half_lt (hi - lo) h1
    have kp := half_pos (hi - lo)
    have i1 : (0 : Int) < (n : Int) := by omega
    have i2 : (1 : Int) < H - L := by omega
    have b2 : H ≤ 200 := by omega
    have b3 : 0 ≤ L := by omega
    have cS : ∀ w, Calls Tryd.prog 35 #[.int .i64 (H - L)] w fun e w' => e = .returned (.tuple #[.int .i64 (half (hi - lo) : Nat), .nilIface]) ∧ w' = w := fun w => by
      rw [show H - L = ((hi - lo : Nat) : Int) by omega]
      exact WalkCheck.split_yes (hi - lo) w h1 (by omega)
    have jl := low_le l ((lo + half (hi - lo) : Nat) : Int)
    have em : L + ((half (hi - lo) : Nat) : Int) = ((lo + half (hi - lo) : Nat) : Int) := by omega
    have cB := fun w1 (r : Row w1 a n cap (ints l)) => search_any l (L + ((half (hi - lo) : Nat) : Int)) a n cap w1 r hn hris
    rw [em] at cB
    have hr2 := hr.2.1
    have r1 : Row w0 a (low l ((lo + half (hi - lo) : Nat) : Int)) cap (ints (l.take (low l ((lo + half (hi - lo) : Nat) : Int)))) := by
      rw [Lists.ints_take]
      exact hr.take _ (by omega)
    have r2 := hr.cut (low l ((lo + half (hi - lo) : Nat) : Int)) n (by omega) (Nat.le_refl _)
    rw [show (ints l).take n = ints l by rw [← hr.1, List.take_length], ← Lists.ints_drop] at r2
    have c1 := fun w1 => ia L (L + ((half (hi - lo) : Nat) : Int)) a _ cap w1 hL (by omega) (by omega) (by omega) (rising_take hris _) r1
    have c2 := fun w1 => ib (L + ((half (hi - lo) : Nat) : Int)) H _ _ _ w1 (by omega) hH h200 (by omega) (rising_drop hris _) r2
    have c3 := fun w1 => hT lo hi l.length L H (n : Int) u v w1 hL hH (by omega) h3
    have hrb := hr.below (hB s w hI)
    have cB' := cB w hrb
    have c1' := c1 w hI
    have cS' := cS w
    clear ia ib h3 hI hr hris cS cB hT hrb r1 r2 c1 h2
    have HM : Hid (((lo + half (hi - lo) : Nat) : Int) = L + ((half (hi - lo) : Nat) : Int)) := em.symm
    generalize ((lo + half (hi - lo) : Nat) : Int) = m at cB' c1' c2 jl HM em
    obtain ⟨j, hj⟩ : ∃ j, low l m = j := ⟨_, rfl⟩
    have HJ : Hid (low l m = j) := hj
    rw [hj] at c1' c2 jl
    generalize half (hi - lo) = k at *
    have i3 : (j : Int) ≤ (cap : Int) := by omega
    have i4 : (j : Int) ≤ (n : Int) := by omega
    have i5 : (0 : Int) ≤ (j : Int) := by omega
    have i6 : L + (k : Int) < H := by omega
    have i7 : m < H := by omega
    rw [em] at c1' c2
    clear hj jl h1 kl hL hH HM
    go_enter Tryd.func21, Tryd.ntmps21
    go_wp2_with fail
    refine cS'.mono ?_
    rintro e w1 ⟨rfl, rfl⟩
    clear cS'
    go_wp2_with fail
    refine cB'.mono ?_
    rintro e w1 ⟨r, rfl, rfl⟩
    rw [HJ.out]
    clear cB'
    by_cases hc : cap = j
    · rw [if_pos hc] at c2
      subst hc
      rw [show n - cap = 0 by omega, Nat.sub_self] at c2
      go_wp2_with fail
      refine c1'.mono ?_
      rintro e w2 ⟨rfl, hI2⟩
      have c2' := c2 w2 hI2
      clear c2 c1'
      go_wp2_with fail
      refine c2'.mono ?_
      rintro e w3 ⟨rfl, hI3⟩
      have c3' := c3 w3 hI3
      clear c3 c2'
      go_wp2_with fail
      rw [hg, Oper.upon_enter]
      refine c3'.mono ?_
      rintro e w4 ⟨rfl, hI4⟩
      clear c3'
      go_wp2_with fail
      go_end0
      exact ⟨rfl, hI4⟩
    · rw [if_neg hc] at c2
      go_wp2_with fail
      refine c1'.mono ?_
      rintro e w2 ⟨rfl, hI2⟩
      have c2' := c2 w2 hI2
      clear c2 c1'
      go_wp2_with fail
      refine c2'.mono ?_
      rintro e w3 ⟨rfl, hI3⟩
      have c3' := c3 w3 hI3
      clear c3 c2'
      go_wp2_with fail
      rw [hg, Oper.upon_enter]
      refine c3'.mono ?_
      rintro e w4 ⟨rfl, hI4⟩
      clear c3'
      go_wp2_with fail
      go_end0
      exact ⟨rfl, hI4⟩

end Go.Proofs.YtndhbimgicnhkaaDoor.WalkBaWalk
