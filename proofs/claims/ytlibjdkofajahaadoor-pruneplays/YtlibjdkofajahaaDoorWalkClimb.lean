/-
  What the program's climb does: it tells each part beside the way up, in turn, to the function that it was handed.
-/
import Derived.Test.YtlibjdkofajahaaDoorWalkSplit
import Derived.Test.YtlibjdkofajahaaDoorClimbs
import Derived.Shelf.Abstract
namespace Go.Proofs.YtlibjdkofajahaaDoor.WalkClimb
open Go.RowKit
open Climbs (beside beside_one beside_left beside_right)
open Trees (half half_lt half_pos)

theorem prefix_left {α : Type} {a b c : List α} (h : (a ++ b) <+: c) : a <+: c := (List.prefix_append a b).trans h

set_option maxHeartbeats 1000000 in
set_option maxRecDepth 100000 in
/-- what is told keeps Inv, of what was told by then: so does climb -/
theorem climb_any (g : FuncId) (caps : Array Value) (hg : Enters Tryd.prog g) (P : List (Nat × Nat)) (Inv : List (Nat × Nat) → World → Prop)
    (hT : ∀ ps (a b : Nat) (A B : Int) w, A = a → B = b → (ps ++ [(a, b)]) <+: P → Inv ps w →
      Calls Tryd.prog g (#[.int .i64 A, .int .i64 B] ++ caps) w fun e w' => e = .returned (.tuple #[]) ∧ Inv (ps ++ [(a, b)]) w') :
    ∀ (f i lo hi : Nat) (I L H : Int) (w : World) (ps : List (Nat × Nat)), I = i → L = lo → H = hi → hi - lo < f → lo ≤ i → i < hi → hi ≤ 200 → (ps ++ beside i lo hi) <+: P → Inv ps w →
      Calls Tryd.prog 26 #[.int .i64 I, .int .i64 L, .int .i64 H, .func (.func g) #[] caps] w fun e w' => e = .returned (.tuple #[]) ∧ Inv (ps ++ beside i lo hi) w'
  | 0, _, _, _, _, _, _, _, _, _, _, _, h, _, _, _, _, _ => by omega
  | f + 1, i, lo, hi, I, L, H, w, ps, hI, hL, hH, hf, h1, h2, h3, hP, hInv => by
    have b0 : 0 ≤ L := by omega
    have b1 : L < H := by omega
    have b2 : H ≤ 200 := by omega
    by_cases hd : hi - lo = 1
    · rw [beside_one i lo hi (by omega), List.append_nil]
      have i1 : (H - L == 1) = true := by rw [beq_iff_eq]; omega
      have HI : Hid (Inv ps w) := hInv
      clear hI hL hH hf hP hInv hT h1 h2 h3 hd
      go_enter Tryd.func26, Tryd.ntmps26
      go_wp2_with fail
      (try simp only [Exit.inBlock, Exit.then]); refine bodyPost_ret (results_none rfl _ _ _) rfl ?_
      exact ⟨rfl, HI.out⟩
    · have hd2 : 2 ≤ hi - lo := by omega
      have kl := half_lt (hi - lo) hd2
      have kp := half_pos (hi - lo)
      have i1 : (H - L == 1) = false := by rw [beq_eq_false_iff_ne]; omega
      have cS := fun w => WalkSplit.split_yes (H - L) (hi - lo) w (by omega) hd2 (by omega)
      generalize hk : half (hi - lo) = k at kl kp cS
      by_cases hlt : i < lo + k
      · have e := beside_left i lo hi k hd2 hk hlt
        rw [e, ← List.append_assoc] at hP
        have c1 := climb_any g caps hg P Inv hT f i lo (lo + k) I L (L + (k : Int)) w ps hI hL (by omega) (by omega) h1 hlt (by omega) (prefix_left hP) hInv
        have c2 := fun w1 (h : Inv (ps ++ beside i lo (lo + k)) w1) => hT (ps ++ beside i lo (lo + k)) (lo + k) hi (L + (k : Int)) H w1 (by omega) hH hP h
        rw [e, ← List.append_assoc]
        have i2 : I < L + (k : Int) := by omega
        have i3 : L + (k : Int) < H := by omega
        clear hI hL hH hf hP hInv hT h1 h2 h3 hd e hk kl hlt
        generalize ps ++ beside i lo (lo + k) = qs at c1 c2 ⊢
        go_enter Tryd.func26, Tryd.ntmps26
        go_wp2_with fail
        refine (cS _).mono ?_
        rintro e w1 ⟨rfl, rfl⟩
        go_wp2_with fail
        refine c1.mono ?_
        rintro e w2 ⟨rfl, h2⟩
        have c3 := c2 w2 h2
        clear c1 c2
        go_wp2_with fail
        rw [hg, Oper.upon_enter]
        refine c3.mono ?_
        rintro e w3 ⟨rfl, h3⟩
        clear c3
        go_wp2_with fail
        go_end0
        exact ⟨rfl, h3⟩
      · have e := beside_right i lo hi k hd2 hk hlt
        rw [e, ← List.append_assoc] at hP
        have c1 := climb_any g caps hg P Inv hT f i (lo + k) hi I (L + (k : Int)) H w ps hI (by omega) hH (by omega) (by omega) h2 (by omega) (prefix_left hP) hInv
        have c2 := fun w1 (h : Inv (ps ++ beside i (lo + k) hi) w1) => hT (ps ++ beside i (lo + k) hi) lo (lo + k) L (L + (k : Int)) w1 hL (by omega) hP h
        rw [e, ← List.append_assoc]
        have i2 : ¬ I < L + (k : Int) := by omega
        have i3 : L + (k : Int) < H := by omega
        clear hI hL hH hf hP hInv hT h1 h2 h3 hd e hk kl hlt
        generalize ps ++ beside i (lo + k) hi = qs at c1 c2 ⊢
        go_enter Tryd.func26, Tryd.ntmps26
        go_wp2_with fail
        refine (cS _).mono ?_
        rintro e w1 ⟨rfl, rfl⟩
        go_wp2_with fail
        refine c1.mono ?_
        rintro e w2 ⟨rfl, h2⟩
        have c3 := c2 w2 h2
        clear c1 c2
        go_wp2_with fail
        rw [hg, Oper.upon_enter]
        refine c3.mono ?_
        rintro e w3 ⟨rfl, h3⟩
        clear c3
        go_wp2_with fail
        go_end0
        exact ⟨rfl, h3⟩

end Go.Proofs.YtlibjdkofajahaaDoor.WalkClimb
