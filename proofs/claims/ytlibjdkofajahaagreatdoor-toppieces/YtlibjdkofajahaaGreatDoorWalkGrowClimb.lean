/-
  What grow's climb does: it tells each part that a proof has the root of, in turn, to the function that it was handed; and what its within and its steps return.
-/
import Derived.Test.YtlibjdkofajahaaGreatDoorWalkSplit
import Derived.Test.YtlibjdkofajahaaGreatDoorGrowPlain
import Derived.Test.YtlibjdkofajahaaGreatDoorListRows
import Derived.Shelf.Abstract
namespace Go.Proofs.YtlibjdkofajahaaGreatDoor.WalkGrowClimb
open Go.RowKit
open Keeps (Kept)
open GrowWays (parts parts_first parts_same parts_left parts_right)
open Trees (half half_lt half_pos)

theorem prefix_left {α : Type} {a b c : List α} (h : (a ++ b) <+: c) : a <+: c := (List.prefix_append a b).trans h

set_option maxHeartbeats 1000000 in
set_option maxRecDepth 100000 in
/-- what is told keeps Inv, of what was told by then: so does climb -/
theorem climb_any (g : FuncId) (caps : Array Value) (hg : Enters Tryz.prog g) (P : List (Nat × Nat)) (Inv : List (Nat × Nat) → World → Prop)
    (hT : ∀ ps (a b : Nat) (A B : Int) w, A = a → B = b → (ps ++ [(a, b)]) <+: P → Inv ps w →
      Calls Tryz.prog g (#[.int .i64 A, .int .i64 B] ++ caps) w fun e w' => e = .returned (.tuple #[]) ∧ Inv (ps ++ [(a, b)]) w') :
    ∀ (f o lo hi : Nat) (O L H : Int) (w : World) (ps : List (Nat × Nat)), O = o → L = lo → H = hi → hi - lo < f → lo < o → o ≤ hi → hi ≤ 200 → (ps ++ parts o lo hi) <+: P → Inv ps w →
      Calls Tryz.prog 77 #[.int .i64 O, .int .i64 L, .int .i64 H, .func (.func g) #[] caps] w fun e w' => e = .returned (.tuple #[]) ∧ Inv (ps ++ parts o lo hi) w'
  | 0, _, _, _, _, _, _, _, _, _, _, _, h, _, _, _, _, _ => by omega
  | f + 1, o, lo, hi, O, L, H, w, ps, hO, hL, hH, hf, h1, h2, h3, hP, hInv => by
    have b0 : 0 ≤ L := by omega
    have b1 : L < H := by omega
    have b2 : H ≤ 200 := by omega
    rcases Nat.lt_or_ge o hi with hd | hd
    · have hd2 : 2 ≤ hi - lo := by omega
      have kl := half_lt (hi - lo) hd2
      have kp := half_pos (hi - lo)
      have i1 : (O == H) = false := by rw [beq_eq_false_iff_ne]; omega
      have cS := fun w => WalkSplit.split_yes (H - L) (hi - lo) w (by omega) hd2 (by omega)
      generalize hk : half (hi - lo) = k at kl kp cS
      by_cases hlt : o ≤ lo + k
      · have e := parts_left o lo hi k h1 hd hk hlt
        rw [e, ← List.append_assoc] at hP
        have c1 := climb_any g caps hg P Inv hT f o lo (lo + k) O L (L + (k : Int)) w ps hO hL (by omega) (by omega) h1 hlt (by omega) (prefix_left hP) hInv
        have c2 := fun w1 (h : Inv (ps ++ parts o lo (lo + k)) w1) => hT (ps ++ parts o lo (lo + k)) (lo + k) hi (L + (k : Int)) H w1 (by omega) hH hP h
        rw [e, ← List.append_assoc]
        have i2 : O ≤ L + (k : Int) := by omega
        have i3 : L + (k : Int) < H := by omega
        clear hO hL hH hf hP hInv hT h1 h2 h3 hd e hk kl hlt
        generalize ps ++ parts o lo (lo + k) = qs at c1 c2 ⊢
        go_enter Tryz.func77, Tryz.ntmps77
        go_wp2_with fail
        refine (cS _).mono ?_
        rintro e w1 ⟨rfl, rfl⟩
        go_wp2_with fail
        refine c1.mono ?_
        rintro e w2 ⟨rfl, h2⟩
        have c3 := c2 w2 h2
        clear c1 c2
        go_wp2_with fail
        rw [hg, Oper.upon_enter]
        refine c3.mono ?_
        rintro e w3 ⟨rfl, h3⟩
        clear c3
        go_wp2_with fail
        go_end0
        exact ⟨rfl, h3⟩
      · have e := parts_right o lo hi k h1 hd hk hlt
        rw [e, ← List.append_assoc] at hP
        have c1 := climb_any g caps hg P Inv hT f o (lo + k) hi O (L + (k : Int)) H w ps hO (by omega) hH (by omega) (by omega) h2 (by omega) (prefix_left hP) hInv
        have c2 := fun w1 (h : Inv (ps ++ parts o (lo + k) hi) w1) => hT (ps ++ parts o (lo + k) hi) lo (lo + k) L (L + (k : Int)) w1 hL (by omega) hP h
        rw [e, ← List.append_assoc]
        have i2 : ¬ O ≤ L + (k : Int) := by omega
        have i3 : L + (k : Int) < H := by omega
        clear hO hL hH hf hP hInv hT h1 h2 h3 hd e hk kl hlt
        generalize ps ++ parts o (lo + k) hi = qs at c1 c2 ⊢
        go_enter Tryz.func77, Tryz.ntmps77
        go_wp2_with fail
        refine (cS _).mono ?_
        rintro e w1 ⟨rfl, rfl⟩
        go_wp2_with fail
        refine c1.mono ?_
        rintro e w2 ⟨rfl, h2⟩
        have c3 := c2 w2 h2
        clear c1 c2
        go_wp2_with fail
        rw [hg, Oper.upon_enter]
        refine c3.mono ?_
        rintro e w3 ⟨rfl, h3⟩
        clear c3
        go_wp2_with fail
        go_end0
        exact ⟨rfl, h3⟩
    · obtain rfl : o = hi := by omega
      have i1 : (O == H) = true := by rw [beq_iff_eq]; omega
      rcases Nat.eq_zero_or_pos lo with h4 | h4
      · subst h4
        rw [parts_first o h1, List.append_nil]
        have i2 : ¬ L > 0 := by omega
        have HI : Hid (Inv ps w) := hInv
        clear hO hL hH hf hP hInv hT h1 h2 h3 hd
        go_enter Tryz.func77, Tryz.ntmps77
        go_wp2_with fail
        (try simp only [Exit.inBlock, Exit.then]); refine bodyPost_ret (results_none rfl _ _ _) rfl ?_
        exact ⟨rfl, HI.out⟩
      · rw [parts_same o lo h1 h4] at hP ⊢
        have c3 := hT ps lo o L H w hL hH hP hInv
        have i2 : L > 0 := by omega
        clear hO hL hH hf hP hInv hT h1 h2 h3 hd
        go_enter Tryz.func77, Tryz.ntmps77
        go_wp2_with fail
        rw [hg, Oper.upon_enter]
        refine c3.mono ?_
        rintro e w3 ⟨rfl, h3⟩
        clear c3
        go_wp2_with fail
        (try simp only [Exit.inBlock, Exit.then]); refine bodyPost_ret (results_none rfl _ _ _) rfl ?_
        exact ⟨rfl, h3⟩

open GrowsE (inGrow)
theorem within_any (o n m : Int) (w : World) :
    Calls Tryz.prog 76 #[.int .i64 o, .int .i64 n, .int .i64 m] w fun e w' => e = .returned (.bool (inGrow o n m)) ∧ w' = w := by
  by_cases h0 : 1 ≤ o
  · by_cases h1 : o ≤ n
    · by_cases h2 : n ≤ m
      · have HH : Hid (inGrow o n m = true) := decide_eq_true ⟨h0, h1, h2⟩
        go_enter Tryz.func76, Tryz.ntmps76
        go_wp2_with fail
        go_ret
        exact ⟨by rw [HH.out]; rfl, rfl⟩
      · have HH : Hid (inGrow o n m = false) := decide_eq_false fun h => h2 h.2.2
        go_enter Tryz.func76, Tryz.ntmps76
        go_wp2_with fail
        go_ret
        exact ⟨by rw [HH.out]; rfl, rfl⟩
    · have HH : Hid (inGrow o n m = false) := decide_eq_false fun h => h1 h.2.1
      go_enter Tryz.func76, Tryz.ntmps76
      go_wp2_with fail
      go_ret
      exact ⟨by rw [HH.out]; rfl, rfl⟩
  · have HH : Hid (inGrow o n m = false) := decide_eq_false fun h => h0 h.1
    go_enter Tryz.func76, Tryz.ntmps76
    go_wp2_with fail
    go_ret
    exact ⟨by rw [HH.out]; rfl, rfl⟩
theorem inGrow_yes {o n : Nat} {m : Int} (h1 : 1 ≤ o) (h2 : o ≤ n) (hn : (n : Int) ≤ m) : inGrow o n m = true := decide_eq_true ⟨by omega, by omega, hn⟩

end Go.Proofs.YtlibjdkofajahaaGreatDoor.WalkGrowClimb
