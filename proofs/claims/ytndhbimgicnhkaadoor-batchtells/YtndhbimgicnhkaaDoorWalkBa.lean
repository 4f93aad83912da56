/-
  What the program's batch.Make, Long and Check return, for all leafs, places, sums and proofs: the contracts that the laws use.
-/
import Derived.Test.YtndhbimgicnhkaaDoorWalkBaMake
import Derived.Test.YtndhbimgicnhkaaDoorWalkBaFrom
namespace Go.Proofs.YtndhbimgicnhkaaDoor.WalkBa
open Go.RowKit
open Lists (Row ints bt)
open Errs (errv errv0 errv_pos)
open BatchFaults
open WalkBaOne (anyNone_any isSum_is)

theorem make_any (l : List Int) (y : Option Addr) (ml cl : Nat) (a : List Int) (x : Option Addr) (m cap : Nat) (w : World) (hl : Row w y ml cl (ints l)) (hr : Row w x m cap (ints a)) (hm : m ≤ 17592186043904) : Calls Tryd.prog 7 #[.slice y ml cl, .slice x m cap] w fun e w' => ∃ v, e = .returned (.tuple #[v, errv (makeE l a)]) ∧ w'.ownsRow w.heap.size 3 1 v (makeL l a).length (ints (makeL l a)) ∧ Below w.heap.size w w' := WalkBaMake.make_any l y ml cl a x m cap w hl hr hm
theorem long_any (size : Int) (a : List Int) (x : Option Addr) (m cap : Nat) (w : World) (hr : Row w x m cap (ints a)) (hm : m ≤ 17592186043904) : Calls Tryd.prog 11 #[.int .i64 size, .slice x m cap] w fun e w' => e = .returned (.tuple #[.int .i64 (longV size a : Nat), errv (longE size a)]) ∧ Below w.heap.size w w' := WalkBaOne.long_any size a x m cap w hr hm

theorem sums_of {l : List Int} (h : Trees.allOk l = true) : BatchTrips.allSums l := fun x hx => List.all_eq_true.1 h x hx

set_option maxHeartbeats 4000000 in
set_option maxRecDepth 100000 in
theorem check_any (root size : Int) (a : List Int) (x : Option Addr) (m cap : Nat) (s : List Int) (xs : Option Addr) (ms cs : Nat) (p : List Int) (xp : Option Addr) (mp cp : Nat) (w : World) (hr : Row w x m cap (ints a)) (hs : Row w xs ms cs (ints s)) (hp : Row w xp mp cp (ints p)) (hm : m ≤ 17592186043904) (hms : ms ≤ 17592186043904) (hmp : mp ≤ 17592186043904) : Calls Tryd.prog 15 #[.int .i64 root, .int .i64 size, .slice x m cap, .slice xs ms cs, .slice xp mp cp] w fun e w' => e = .returned (errv (checkE root size a s p)) ∧ Below w.heap.size w w' := by
  have la : a.length = m := by rw [← hr.1, Lists.ints_length]
  have ls : s.length = ms := by rw [← hs.1, Lists.ints_length]
  have lp : p.length = mp := by rw [← hp.1, Lists.ints_length]
  have cL := long_any size a x m cap w hr hm
  by_cases h0 : ¬ longE size a = 0
  · rw [show checkE root size a s p = longE size a from if_pos h0, errv_pos _ h0]
    rw [errv_pos _ h0] at cL
    clear hr hs hp la ls lp h0
    go_enter Tryd.func15, Tryd.ntmps15
    go_wp2_with fail
    refine cL.mono ?_
    rintro e w1 ⟨rfl, b1⟩
    go_wp2_with fail
    go_ret
    exact ⟨rfl, b1⟩
  replace h0 := Decidable.not_not.1 h0
  rw [h0, errv0] at cL
  have cR := isSum_is root
  have cS := fun w1 (b : Below w.heap.size w w1) => anyNone_any s xs ms cs w1 hms (hs.below b)
  have cP := fun w1 (b : Below w.heap.size w w1) => anyNone_any p xp mp cp w1 hmp (hp.below b)
  by_cases h1 : (Nums.valid root && Trees.allOk s && Trees.allOk p) = false
  · rw [show checkE root size a s p = 1 by unfold checkE; rw [if_neg (fun z => z h0), if_pos h1], errv_pos 1 (by decide)]
    generalize Nums.valid root = vr at cR h1
    generalize Trees.allOk s = vs at cS h1
    generalize Trees.allOk p = vp at cP h1
    clear hr hs hp la ls lp h0
    cases vr with
    | false =>
      clear h1
      go_enter Tryd.func15, Tryd.ntmps15
      go_wp2_with fail
      refine cL.mono ?_
      rintro e w1 ⟨rfl, b1⟩
      go_wp2_with fail
      refine (cR w1).mono ?_
      rintro e w2 ⟨rfl, rfl⟩
      go_wp2_with fail
      go_ret
      exact ⟨rfl, b1⟩
    | true =>
      cases vs with
      | false =>
        clear h1
        go_enter Tryd.func15, Tryd.ntmps15
        go_wp2_with fail
        refine cL.mono ?_
        rintro e w1 ⟨rfl, b1⟩
        go_wp2_with fail
        refine (cR w1).mono ?_
        rintro e w2 ⟨rfl, rfl⟩
        go_wp2_with fail
        refine (cS _ b1).mono ?_
        rintro e w2 ⟨rfl, rfl⟩
        go_wp2_with fail
        go_ret
        exact ⟨rfl, b1⟩
      | true =>
        obtain rfl : vp = false := by simpa using h1
        clear h1
        go_enter Tryd.func15, Tryd.ntmps15
        go_wp2_with fail
        refine cL.mono ?_
        rintro e w1 ⟨rfl, b1⟩
        go_wp2_with fail
        refine (cR w1).mono ?_
        rintro e w2 ⟨rfl, rfl⟩
        go_wp2_with fail
        refine (cS _ b1).mono ?_
        rintro e w2 ⟨rfl, rfl⟩
        go_wp2_with fail
        refine (cP _ b1).mono ?_
        rintro e w2 ⟨rfl, rfl⟩
        go_wp2_with fail
        go_ret
        exact ⟨rfl, b1⟩
  obtain ⟨v1, v2, v3⟩ : Nums.valid root = true ∧ Trees.allOk s = true ∧ Trees.allOk p = true := by simpa using h1
  have cE : checkE root size a s p = if s.length ≠ a.length ∨ p.length ≠ longV size a then 3 else if Batches.up a 0 size.toNat s p ≠ root then 8 else 0 := by
    unfold checkE
    rw [if_neg (fun z => z h0), if_neg h1]
  rw [v1] at cR
  rw [v2] at cS
  rw [v3] at cP
  rw [cE]
  clear cE h1
  by_cases h2 : s.length ≠ a.length ∨ p.length ≠ longV size a
  · rw [if_pos h2, errv_pos 3 (by decide)]
    rw [la, ls, lp] at h2
    generalize longV size a = k at cL h2
    clear hr hs hp la ls lp h0 v1 v2 v3
    by_cases h3 : ms = m
    · have i1 : ((ms : Int) != (m : Int)) = false := by simp [h3]
      have i2 : ((mp : Int) != (k : Int)) = true := by
        rcases h2 with h2 | h2
        · exact absurd h3 h2
        · simp; omega
      clear h2 h3
      go_enter Tryd.func15, Tryd.ntmps15
      go_wp2_with fail
      refine cL.mono ?_
      rintro e w1 ⟨rfl, b1⟩
      go_wp2_with fail
      refine (cR w1).mono ?_
      rintro e w2 ⟨rfl, rfl⟩
      go_wp2_with fail
      refine (cS _ b1).mono ?_
      rintro e w2 ⟨rfl, rfl⟩
      go_wp2_with fail
      refine (cP _ b1).mono ?_
      rintro e w2 ⟨rfl, rfl⟩
      go_wp2_with fail
      go_ret
      exact ⟨rfl, b1⟩
    · have i1 : ((ms : Int) != (m : Int)) = true := by simp; omega
      clear h2 h3
      go_enter Tryd.func15, Tryd.ntmps15
      go_wp2_with fail
      refine cL.mono ?_
      rintro e w1 ⟨rfl, b1⟩
      go_wp2_with fail
      refine (cR w1).mono ?_
      rintro e w2 ⟨rfl, rfl⟩
      go_wp2_with fail
      refine (cS _ b1).mono ?_
      rintro e w2 ⟨rfl, rfl⟩
      go_wp2_with fail
      refine (cP _ b1).mono ?_
      rintro e w2 ⟨rfl, rfl⟩
      go_wp2_with fail
      go_ret
      exact ⟨rfl, b1⟩
  rw [if_neg h2]
  have h3 : s.length = a.length ∧ p.length = longV size a := by omega
  obtain ⟨q1, q2, q3⟩ := longE_ok h0
  obtain ⟨p1, p2, p3⟩ := placesE_ok q3
  obtain ⟨n, rfl⟩ := Int.eq_ofNat_of_zero_le (show 0 ≤ size by omega)
  have eL : longV (n : Int) a = Batches.long a 0 n := by
    unfold longV
    rw [if_pos h0, Int.toNat_natCast]
  have cF := fun w1 (b : Below w.heap.size w w1) => WalkBaFrom.rootFrom_any n a s p x m cap xs ms cs xp mp cp w1 (by omega) (by omega) (hr.below b) (hs.below b) (hp.below b) (by omega) p3 p2 (sums_of v2) (sums_of v3) h3.1.symm (by rw [← eL]; exact h3.2.symm)
  rw [Int.toNat_natCast]
  have i1 : ((ms : Int) != (m : Int)) = false := by simp; omega
  have i2 : ((mp : Int) != (longV (n : Int) a : Nat)) = false := by simp; omega
  generalize longV (n : Int) a = k at cL i2
  generalize Batches.up a 0 n s p = r at cF
  clear hr hs hp la ls lp h0 v1 v2 v3 h2 h3 q1 q2 q3 p1 p2 p3 eL
  by_cases h4 : r = root
  · rw [if_neg (fun z => z h4), errv0]
    have i3 : (r != root) = false := by simp [h4]
    clear h4
    go_enter Tryd.func15, Tryd.ntmps15
    go_wp2_with fail
    refine cL.mono ?_
    rintro e w1 ⟨rfl, b1⟩
    go_wp2_with fail
    refine (cR w1).mono ?_
    rintro e w2 ⟨rfl, rfl⟩
    go_wp2_with fail
    refine (cS _ b1).mono ?_
    rintro e w2 ⟨rfl, rfl⟩
    go_wp2_with fail
    refine (cP _ b1).mono ?_
    rintro e w2 ⟨rfl, rfl⟩
    go_wp2_with fail
    refine (cF _ b1).mono ?_
    rintro e w3 ⟨rfl, b3⟩
    go_wp2_with fail
    go_ret
    exact ⟨rfl, bt b1 b3⟩
  · rw [if_pos h4, errv_pos 8 (by decide)]
    have i3 : (r != root) = true := by simpa using h4
    clear h4
    go_enter Tryd.func15, Tryd.ntmps15
    go_wp2_with fail
    refine cL.mono ?_
    rintro e w1 ⟨rfl, b1⟩
    go_wp2_with fail
    refine (cR w1).mono ?_
    rintro e w2 ⟨rfl, rfl⟩
    go_wp2_with fail
    refine (cS _ b1).mono ?_
    rintro e w2 ⟨rfl, rfl⟩
    go_wp2_with fail
    refine (cP _ b1).mono ?_
    rintro e w2 ⟨rfl, rfl⟩
    go_wp2_with fail
    refine (cF _ b1).mono ?_
    rintro e w3 ⟨rfl, b3⟩
    go_wp2_with fail
    go_ret
    exact ⟨rfl, bt b1 b3⟩

end Go.Proofs.YtndhbimgicnhkaaDoor.WalkBa
