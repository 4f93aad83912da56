/-
  What the program's looks at places and sums return: slices.ContainsFunc at ints, checkPlaces, rise, anyIsNone; and batch.Long.
-/
import Derived.Test.YtndhbimgicnhkaaDoorWalkBaWalk
import Derived.Test.YtndhbimgicnhkaaDoorErrs
import Derived.BigQuiet
import Derived.Deep.QuietTactic
namespace Go.Proofs.YtndhbimgicnhkaaDoor.WalkBaOne
open Go.RowKit
open Lists (Row ints bt)
open Keeps (Kept)
open Errs (errv errv0 errv_pos)
open BatchFaults (inside rises placesE longE longV)
open BatchSets (rising)
open BatchTrips
open WalkBaWalk (walk_any)

theorem any_snoc (P : Int → Bool) (l : List Int) (k : Nat) (h : k < l.length) : (l.take (k + 1)).any P = ((l.take k).any P || P (l.getD k 0)) := by
  rw [List.take_succ_eq_append_getElem h, List.any_append, List.getD_eq_getElem?_getD, List.getElem?_eq_getElem h]
  simp
theorem any_yes (P : Int → Bool) (l : List Int) (k : Nat) (h : k < l.length) (hp : P (l.getD k 0) = true) : l.any P = true := by
  rw [List.any_eq_true]
  refine ⟨l.getD k 0, ?_, hp⟩
  rw [List.getD_eq_getElem?_getD, List.getElem?_eq_getElem h]
  exact List.getElem_mem _

/-- where the first one is -/
def At (P : Int → Bool) (l : List Int) (w : World) (e : Ending) (w' : World) : Prop := ∃ i : Int, e = .returned (.int .i64 i) ∧ (l.any P = false → i = -1) ∧ (l.any P = true → 0 ≤ i) ∧ w' = w

set_option maxHeartbeats 2000000 in
set_option maxRecDepth 100000 in
theorem index_any (g : FuncId) (caps : Array Value) (hg : Enters Tryd.prog g) (P : Int → Bool) (w : World) (hT : ∀ x : Int, Calls Tryd.prog g (#[.int .i64 x] ++ caps) w fun e w' => e = .returned (.bool (P x)) ∧ w' = w)
    (l : List Int) (a : Option Addr) (n cap : Nat) (hn : n ≤ 17592186043904) (hr : Row w a n cap (ints l)) :
    Calls Tryd.prog 43 #[.slice a n cap, .func (.func g) #[] caps] w fun e w' => At P l w e w' := by
  have hln : l.length = n := by rw [← hr.1, Lists.ints_length]
  have HR : Hid (Row w a n cap (ints l)) := hr
  have HL : Hid (l.length = n) := hln
  clear hr hln
  go_enter Tryd.func43, Tryd.ntmps43
  go_wp2_with fail
  go_loop [8] (fun i => ∃ k : Nat, k ≤ n ∧ i = .int .i64 k ∧ Hid ((l.take k).any P = false)) (fun i => n - (intOf i).toNat)
  case atStart => exact ⟨0, Nat.zero_le _, rfl, rfl⟩
  case round =>
    obtain ⟨k, hk, rfl, HA⟩ := hrel
    by_cases hlt : k < n
    · have hkl : k < l.length := by have := HL.out; omega
      obtain ⟨b, off, rfl, hc⟩ := HR.out.2.2 (by omega)
      have hcell := hc k _ (Lists.ints_at hkl)
      clear hc
      have HS : Hid ((l.take (k + 1)).any P = ((l.take k).any P || P (l.getD k 0))) := any_snoc P l k hkl
      have HN : Hid (P (l.getD k 0) = true → l.any P = true) := any_yes P l k hkl
      generalize l.getD k 0 = x at hcell HS HN
      have c1 := hT x
      clear hkl
      cases hx : P x
      · have hx' : Hid (P x = false) := hx
        rw [hx] at c1
        clear hx
        go_wp2_with fail
        rw [hg, Oper.upon_enter]
        refine c1.mono ?_
        rintro e w1 ⟨rfl, rfl⟩
        go_wp2_with fail
        go_round
        case rel => exact ⟨k + 1, by omega, by go_num, by rw [HS.out, HA.out, hx'.out]; rfl⟩
        case measure => simp [intOf]; omega
      · have hx' : Hid (P x = true) := hx
        rw [hx] at c1
        clear hx
        go_wp2_with fail
        rw [hg, Oper.upon_enter]
        refine c1.mono ?_
        rintro e w1 ⟨rfl, rfl⟩
        go_wp2_with fail
        go_ret
        exact ⟨_, rfl, fun h => (by rw [HN.out hx'.out] at h; cases h), fun _ => by omega, rfl⟩
    · go_wp2_with fail
      go_ret
      exact ⟨_, rfl, fun _ => rfl, fun h => (by have := HA.out; rw [List.take_of_length_le (by have := HL.out; omega), h] at this; cases this), rfl⟩

set_option maxHeartbeats 2000000 in
set_option maxRecDepth 100000 in
theorem contains_any (g : FuncId) (caps : Array Value) (hg : Enters Tryd.prog g) (P : Int → Bool) (w : World) (hT : ∀ x : Int, Calls Tryd.prog g (#[.int .i64 x] ++ caps) w fun e w' => e = .returned (.bool (P x)) ∧ w' = w)
    (l : List Int) (a : Option Addr) (n cap : Nat) (hn : n ≤ 17592186043904) (hr : Row w a n cap (ints l)) :
    Calls Tryd.prog 31 #[.slice a n cap, .func (.func g) #[] caps] w fun e w' => e = .returned (.bool (l.any P)) ∧ w' = w := by
  have c1 := index_any g caps hg P w hT l a n cap hn hr
  clear hr hT
  go_enter Tryd.func31, Tryd.ntmps31
  go_wp2_with fail
  refine c1.mono ?_
  rintro e w' ⟨i, rfl, hy, hno, rfl⟩
  clear c1
  cases h : l.any P
  · have h0 := hy h
    subst h0
    have H : Hid (l.any P = false) := h
    clear hy hno h
    go_wp2_with fail
    go_ret
    exact ⟨by rw [H.out]; rfl, rfl⟩
  · have h0 := hno h
    have H : Hid (l.any P = true) := h
    clear hy hno h
    go_wp2_with fail
    go_ret
    exact ⟨by rw [H.out]; rfl, rfl⟩

theorem outside_any (x size : Int) (b : Nat) (w : World) (hc : w.cell? ⟨b, 0, none⟩ = some (.int .i64 size)) :
    Calls Tryd.prog 33 (#[.int .i64 x] ++ #[.pointer (some ⟨b, 0, none⟩)]) w fun e w' => e = .returned (.bool (!decide (0 ≤ x ∧ x < size))) ∧ w' = w := by
  show Calls Tryd.prog 33 #[.int .i64 x, .pointer (some ⟨b, 0, none⟩)] w _
  by_cases h0 : x < 0
  · have HH : Hid ((!decide (0 ≤ x ∧ x < size)) = true) := by show _ = _; rw [decide_eq_false (by omega)]; rfl
    rw [HH.out]
    go_enter Tryd.func33, Tryd.ntmps33
    go_wp2_with fail
    go_ret
    exact ⟨rfl, rfl⟩
  · by_cases h1 : size ≤ x
    · have HH : Hid ((!decide (0 ≤ x ∧ x < size)) = true) := by show _ = _; rw [decide_eq_false (by omega)]; rfl
      rw [HH.out]
      go_enter Tryd.func33, Tryd.ntmps33
      go_wp2_with fail
      go_ret
      exact ⟨rfl, rfl⟩
    · have HH : Hid ((!decide (0 ≤ x ∧ x < size)) = false) := by show _ = _; rw [decide_eq_true (by omega)]; rfl
      rw [HH.out]
      go_enter Tryd.func33, Tryd.ntmps33
      go_wp2_with fail
      go_ret
      exact ⟨rfl, rfl⟩
theorem enters1 : Enters Tryd.prog 33 := enters_of Tryd.func33 (by kernel_rfl) rfl
theorem inside_is (size : Int) (l : List Int) : (l.any fun x => !decide (0 ≤ x ∧ x < size)) = !inside size l := by
  unfold BatchFaults.inside
  rw [List.not_all_eq_any_not]

theorem isSum_is (x : Int) (w : World) : Calls Tryd.prog 27 #[.int .i64 x] w fun e w' => e = .returned (.bool (Nums.valid x)) ∧ w' = w := by
  cases h : Nums.valid x
  · exact WalkMix.isSum_no x w h
  · exact WalkMix.isSum_yes x w h
theorem none_any (x : Int) (w : World) : Calls Tryd.prog 40 (#[.int .i64 x] ++ #[]) w fun e w' => e = .returned (.bool (!Nums.valid x)) ∧ w' = w := by
  show Calls Tryd.prog 40 #[.int .i64 x] w _
  have c1 := isSum_is x w
  generalize Nums.valid x = v at c1
  cases v
  · go_enter Tryd.func40, Tryd.ntmps40
    go_wp2_with (go_at_call 27; refine c1.mono ?_; rintro e w' ⟨rfl, rfl⟩)
    go_ret
    exact ⟨rfl, rfl⟩
  · go_enter Tryd.func40, Tryd.ntmps40
    go_wp2_with (go_at_call 27; refine c1.mono ?_; rintro e w' ⟨rfl, rfl⟩)
    go_ret
    exact ⟨rfl, rfl⟩
theorem enters2 : Enters Tryd.prog 40 := enters_of Tryd.func40 (by kernel_rfl) rfl
theorem allOk_is (l : List Int) : (l.any fun x => !Nums.valid x) = !Trees.allOk l := by
  unfold Trees.allOk
  rw [List.not_all_eq_any_not]
theorem anyNone_any (l : List Int) (a : Option Addr) (n cap : Nat) (w : World) (hn : n ≤ 17592186043904) (hr : Row w a n cap (ints l)) :
    Calls Tryd.prog 28 #[.slice a n cap] w fun e w' => e = .returned (.bool (!Trees.allOk l)) ∧ w' = w := by
  have c1 := contains_any 40 #[] enters2 (fun x => !Nums.valid x) w (fun x => none_any x w) l a n cap hn hr
  rw [allOk_is] at c1
  clear hr
  go_enter Tryd.func28, Tryd.ntmps28
  go_wp2_with fail
  refine c1.mono ?_
  rintro e w' ⟨rfl, rfl⟩
  go_wp2_with fail
  go_ret
  exact ⟨rfl, rfl⟩

theorem below_drewN {B : Nat} {a w : World} (h : Below B a w) (n : Nat) : Below B a (w.drewN n) := ⟨h.os, h.tape, h.output, h.size, h.block⟩
theorem rises_no {l : List Int} {k : Nat} (h1 : 1 ≤ k) (h2 : k < l.length) (h : ¬ l.getD (k - 1) 0 < l.getD k 0) : rises l = false := by
  cases q : rises l
  · rfl
  · have := BatchFaults.rises_at.1 q (k - 1) (by omega)
    rw [show k - 1 + 1 = k by omega] at this
    exact absurd this h

set_option maxHeartbeats 2000000 in
set_option maxRecDepth 100000 in
theorem rise_any (l : List Int) (a : Option Addr) (n cap : Nat) (w : World) (hn : n ≤ 400) (hr : Row w a n cap (ints l)) :
    Calls Tryd.prog 34 #[.slice a n cap] w fun e w' => e = .returned (.bool (rises l)) ∧ Below w.heap.size w w' := by
  have hln : l.length = n := by rw [← hr.1, Lists.ints_length]
  have HR : Hid (Row w a n cap (ints l)) := hr
  have HL : Hid (l.length = n) := hln
  clear hr hln
  go_enter Tryd.func34, Tryd.ntmps34
  go_wp2_with fail
  go_loopw [3] (fun i wr => ∃ k : Nat, 1 ≤ k ∧ i = .int .i64 k ∧ Hid (∀ j, j + 1 < k → j + 1 < l.length → l.getD j 0 < l.getD (j + 1) 0) ∧ Below w.heap.size w wr) (fun i _ => n - (intOf i).toNat)
  case atStart => exact ⟨1, Nat.le_refl _, rfl, fun j h => by omega, Below.refl _ _⟩
  case round =>
    obtain ⟨k, hk, rfl, HA, hb⟩ := hrel
    by_cases hlt : k < n
    · have hkl : k < l.length := by have := HL.out; omega
      obtain ⟨b, off, rfl, hc⟩ := (HR.out.below hb).2.2 (by omega)
      have c0 := hc (k - 1) _ (Lists.ints_at (by omega))
      have c1 := hc k _ (Lists.ints_at hkl)
      have HN : Hid (¬ l.getD (k - 1) 0 < l.getD k 0 → rises l = false) := rises_no hk hkl
      have HY : Hid (l.getD (k - 1) 0 < l.getD k 0 → ∀ j, j + 1 < k + 1 → j + 1 < l.length → l.getD j 0 < l.getD (j + 1) 0) := fun h j q1 q2 => by
        by_cases e : j + 1 < k
        · exact HA.out j e q2
        · obtain rfl : k = j + 1 := by omega
          exact h
      generalize l.getD (k - 1) 0 = x at c0 HN HY
      generalize l.getD k 0 = y at c1 HN HY
      have j0 : (0 : Int) ≤ (k : Int) - 1 := by omega
      have j1 : (k : Int) - 1 < (n : Int) := by omega
      have j2 : (k : Int) < (n : Int) := by omega
      have j3 : ((k : Int) - 1).toNat = k - 1 := by omega
      have HBw : Hid (Below w.heap.size w wr) := hb
      clear hc HA hkl hb
      by_cases hx : x < y
      · have HZ := HY.out hx
        clear HY HN
        go_wp2_with fail
        go_quiet (fail)
        go_wp2_with fail
        go_roundw
        case rel => exact ⟨k + 1, by omega, by go_num, HZ, below_drewN HBw.out _⟩
        case measure => simp [intOf]; omega
      · have HZ : Hid (rises l = false) := HN.out hx
        clear HY HN
        go_wp2_with fail
        go_quiet (fail)
        go_wp2_with fail
        go_ret
        exact ⟨by rw [HZ.out]; rfl, below_drewN HBw.out _⟩
    · have HZ : Hid (rises l = true) := BatchFaults.rises_at.2 fun j hj => HA.out j (by have := HL.out; omega) hj
      go_wp2_with fail
      go_ret
      exact ⟨by rw [HZ.out]; rfl, hb⟩

theorem placesE_full {size : Int} {l : List Int} (h : 400 < l.length) : placesE size l = 4 := if_pos h
theorem placesE_out {size : Int} {l : List Int} (h : l.length ≤ 400) (hi : inside size l = false) : placesE size l = 1 := by
  unfold BatchFaults.placesE
  rw [if_neg (by omega), if_pos hi]
theorem placesE_clash {size : Int} {l : List Int} (h : l.length ≤ 400) (hi : inside size l = true) (hc : rises l = false) : placesE size l = 7 := by
  unfold BatchFaults.placesE
  rw [if_neg (by omega), if_neg (by rw [hi]; decide), if_pos hc]
theorem placesE_fine {size : Int} {l : List Int} (h : l.length ≤ 400) (hi : inside size l = true) (hc : rises l = true) : placesE size l = 0 := by
  unfold BatchFaults.placesE
  rw [if_neg (by omega), if_neg (by rw [hi]; decide), if_neg (by rw [hc]; decide)]

set_option maxHeartbeats 2000000 in
set_option maxRecDepth 100000 in
theorem places_any (l : List Int) (a : Option Addr) (n cap : Nat) (size : Int) (w : World) (hn : n ≤ 17592186043904) (hr : Row w a n cap (ints l)) :
    Calls Tryd.prog 20 #[.slice a n cap, .int .i64 size] w fun e w' => e = .returned (errv (placesE size l)) ∧ Below w.heap.size w w' := by
  have hln : l.length = n := by rw [← hr.1, Lists.ints_length]
  have b0 : Below w.heap.size w (w.alloc (.cells #[.int .i64 size] 3)) := (Below.refl _ _).alloc (Nat.le_refl _) _
  by_cases h0 : 400 < n
  · rw [placesE_full (by omega), errv_pos 4 (by decide)]
    have i1 : (400 : Int) < (n : Int) := by omega
    clear hr hln
    go_enter Tryd.func20, Tryd.ntmps20
    go_wp2_with fail
    go_ret
    exact ⟨rfl, b0⟩
  have i1 : ¬ (400 : Int) < (n : Int) := by omega
  have r1 := hr.below b0
  have c1 := contains_any 33 #[.pointer (some ⟨w.heap.size, 0, none⟩)] enters1 (fun x => !decide (0 ≤ x ∧ x < size)) (w.alloc (.cells #[.int .i64 size] 3)) (fun x => outside_any x size _ _ (by simp)) l a n cap hn r1
  rw [inside_is] at c1
  have c2 := rise_any l a n cap _ (by omega) r1
  clear r1 hr
  cases h1 : inside size l with
  | false =>
    rw [placesE_out (by omega) h1, errv_pos 1 (by decide)]
    rw [h1] at c1
    clear h1 hln c2
    go_enter Tryd.func20, Tryd.ntmps20
    go_wp2_with fail
    refine c1.mono ?_
    rintro e w1 ⟨rfl, rfl⟩
    go_wp2_with fail
    go_ret
    exact ⟨rfl, b0⟩
  | true =>
    rw [h1] at c1
    cases h2 : rises l with
    | false =>
      rw [placesE_clash (by omega) h1 h2, errv_pos 7 (by decide)]
      rw [h2] at c2
      clear h1 h2 hln
      go_enter Tryd.func20, Tryd.ntmps20
      go_wp2_with fail
      refine c1.mono ?_
      rintro e w1 ⟨rfl, rfl⟩
      go_wp2_with fail
      refine c2.mono ?_
      rintro e w1 ⟨rfl, b1⟩
      go_wp2_with fail
      go_ret
      exact ⟨rfl, bt b0 b1⟩
    | true =>
      rw [placesE_fine (by omega) h1 h2, errv0]
      rw [h2] at c2
      clear h1 h2 hln
      go_enter Tryd.func20, Tryd.ntmps20
      go_wp2_with fail
      refine c1.mono ?_
      rintro e w1 ⟨rfl, rfl⟩
      go_wp2_with fail
      refine c2.mono ?_
      rintro e w1 ⟨rfl, b1⟩
      go_wp2_with fail
      go_ret
      exact ⟨rfl, bt b0 b1⟩

/-- as many as were told are counted, in a variable of the call's own -/
structure Inv (w : World) (s : Nat) (w1 : World) : Prop where
  cell : w1.cell? ⟨w.heap.size, 0, none⟩ = some (.int .i64 (s : Int))
  free : w1.frozen? ⟨w.heap.size, 0, none⟩ = false
  below : Below w.heap.size w w1
theorem enters3 : Enters Tryd.prog 25 := enters_of Tryd.func25 (by kernel_rfl) rfl
set_option maxHeartbeats 2000000 in
set_option maxRecDepth 100000 in
theorem told (w : World) (lo hi c : Nat) (L H C : Int) (s t : Nat) (w1 : World) (_ : L = lo) (_ : H = hi) (hC : C = c) (h : Counts lo hi c s t) (hI : Inv w s w1) :
    Calls Tryd.prog 25 (#[.int .i64 L, .int .i64 H, .int .i64 C] ++ #[.pointer (some ⟨w.heap.size, 0, none⟩)]) w1 fun e w' => e = .returned (.tuple #[]) ∧ Inv w t w' := by
  obtain ⟨h1, h2⟩ := h
  show Calls Tryd.prog 25 #[.int .i64 L, .int .i64 H, .int .i64 C, .pointer (some ⟨w.heap.size, 0, none⟩)] w1 _
  have hc := hI.cell
  have hf := hI.free
  by_cases hz : c = 0
  · have i1 : (C == 0) = true := by rw [beq_iff_eq]; omega
    rw [if_pos hz] at h2
    have HN : Hid (Inv w t (w1.setCell ⟨w.heap.size, 0, none⟩ (.int .i64 ((s : Int) + 1)))) := by
      refine ⟨?_, (World.frozen?_setCell _ _ _ _).trans hf, hI.below.setCell (Nat.le_refl _) _⟩
      rw [World.cell?_setCell_same _ _ _ hc, h2]
      simp
    clear hI h2 hz hC
    go_enter Tryd.func25, Tryd.ntmps25
    go_wp2_with fail
    go_end0
    exact ⟨rfl, HN.out⟩
  · have i1 : (C == 0) = false := by rw [beq_eq_false_iff_ne]; omega
    rw [if_neg hz] at h2
    have HN : Hid (Inv w t w1) := by rw [h2]; exact hI
    clear hI h2 hz hC
    go_enter Tryd.func25, Tryd.ntmps25
    go_wp2_with fail
    go_end0
    exact ⟨rfl, HN.out⟩

theorem start (w1 : World) : Inv w1 0 (w1.alloc (.cells #[.int .i64 0] 3)) := ⟨by simp, by simp, (Below.refl _ _).alloc (Nat.le_refl _) _⟩

set_option maxHeartbeats 2000000 in
set_option maxRecDepth 100000 in
theorem long_any (size : Int) (a : List Int) (x : Option Addr) (m cap : Nat) (w : World) (hr : Row w x m cap (ints a)) (hm : m ≤ 17592186043904) : Calls Tryd.prog 11 #[.int .i64 size, .slice x m cap] w fun e w' => e = .returned (.tuple #[.int .i64 (longV size a : Nat), errv (longE size a)]) ∧ Below w.heap.size w w' := by
  have hln : a.length = m := by rw [← hr.1, Lists.ints_length]
  by_cases h0 : size < 1
  · have e1 : longE size a = 1 := if_pos (.inl h0)
    have e2 : longV size a = 0 := if_neg (by rw [e1]; decide)
    rw [e1, e2, errv_pos 1 (by decide)]
    clear hr hln e1 e2
    go_enter Tryd.func11, Tryd.ntmps11
    go_wp2_with fail
    go_ret2
    exact ⟨rfl, Below.refl _ _⟩
  by_cases h1 : 200 < size
  · have e1 : longE size a = 1 := if_pos (.inr h1)
    have e2 : longV size a = 0 := if_neg (by rw [e1]; decide)
    rw [e1, e2, errv_pos 1 (by decide)]
    clear hr hln e1 e2
    go_enter Tryd.func11, Tryd.ntmps11
    go_wp2_with fail
    go_ret2
    exact ⟨rfl, Below.refl _ _⟩
  have e0 : longE size a = placesE size a := if_neg (by omega)
  have c1 := places_any a x m cap size w hm hr
  by_cases h2 : placesE size a = 0
  · rw [h2] at e0
    rw [h2, errv0] at c1
    obtain ⟨p1, p2, p3⟩ := BatchFaults.placesE_ok h2
    obtain ⟨n, rfl⟩ := Int.eq_ofNat_of_zero_le (show 0 ≤ size by omega)
    have e2 : longV n a = Batches.long a 0 n := by
      unfold BatchFaults.longV
      rw [if_pos e0, Int.toNat_natCast]
    rw [e0, e2, errv0]
    have T := trip_counts p3 (n := n) (by omega) (by omega) p2
    have C := fun (w1 : World) (b : Below w.heap.size w w1) => walk_any 25 #[.pointer (some ⟨w1.heap.size, 0, none⟩)] enters3 w1 Counts (Inv w1) (fun _ _ h => h.below) (told w1) T 0 (n : Int) x m cap _ rfl rfl (by omega) (by omega) p3 (hr.below b) (start w1)
    generalize Batches.long a 0 n = k at C
    clear hr hln e0 e2 h2 p1 p2 p3 T
    go_enter Tryd.func11, Tryd.ntmps11
    go_wp2_with fail
    refine c1.mono ?_
    rintro e w1 ⟨rfl, b1⟩
    have C1 := C w1 b1
    clear C c1
    go_wp2_with fail
    refine C1.mono ?_
    rintro e w2 ⟨rfl, J⟩
    have jc := J.cell
    have jb := bt b1 J.below
    clear C1 J
    go_wp2_with fail
    go_ret2
    exact ⟨rfl, jb⟩
  · have e2 : longV size a = 0 := if_neg (by rw [e0]; exact h2)
    rw [e0, e2, errv_pos _ h2]
    rw [errv_pos _ h2] at c1
    clear hr hln e0 e2 h2
    go_enter Tryd.func11, Tryd.ntmps11
    go_wp2_with fail
    refine c1.mono ?_
    rintro e w1 ⟨rfl, b1⟩
    go_wp2_with fail
    go_ret2
    exact ⟨rfl, b1⟩

end Go.Proofs.YtndhbimgicnhkaaDoor.WalkBaOne
