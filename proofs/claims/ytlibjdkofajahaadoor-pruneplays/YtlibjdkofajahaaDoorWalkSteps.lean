/-
  What the program's proof.Steps returns, for every two numbers.
-/
import Derived.Test.YtlibjdkofajahaaDoorWalkClimb
import Derived.Test.YtlibjdkofajahaaDoorKeeps
namespace Go.Proofs.YtlibjdkofajahaaDoor.WalkSteps
open Go.RowKit
open Keeps (Kept)
open Climbs (beside)
open WalkClimb (climb_any)

/-- is the i-th one of the first n, of at most m? -/
def inside (i n m : Int) : Bool := decide (0 ≤ i ∧ i < n ∧ n ≤ m)
theorem within_any (i n m : Int) (w : World) :
    Calls Tryd.prog 25 #[.int .i64 i, .int .i64 n, .int .i64 m] w fun e w' => e = .returned (.bool (inside i n m)) ∧ w' = w := by
  by_cases h0 : 0 ≤ i
  · by_cases h1 : i < n
    · by_cases h2 : n ≤ m
      · have HH : Hid (inside i n m = true) := decide_eq_true ⟨h0, h1, h2⟩
        go_enter Tryd.func25, Tryd.ntmps25
        go_wp2_with fail
        go_ret
        exact ⟨by rw [HH.out]; rfl, rfl⟩
      · have HH : Hid (inside i n m = false) := decide_eq_false fun h => h2 h.2.2
        go_enter Tryd.func25, Tryd.ntmps25
        go_wp2_with fail
        go_ret
        exact ⟨by rw [HH.out]; rfl, rfl⟩
    · have HH : Hid (inside i n m = false) := decide_eq_false fun h => h1 h.2.1
      go_enter Tryd.func25, Tryd.ntmps25
      go_wp2_with fail
      go_ret
      exact ⟨by rw [HH.out]; rfl, rfl⟩
  · have HH : Hid (inside i n m = false) := decide_eq_false fun h => h0 h.1
    go_enter Tryd.func25, Tryd.ntmps25
    go_wp2_with fail
    go_ret
    exact ⟨by rw [HH.out]; rfl, rfl⟩

theorem count_any (A B : Int) (p : Addr) (c : Nat) (w : World) (hc : w.cell? p = some (.int .i64 (c : Int))) (hf : w.frozen? p = false) (hl : c ≤ 200) :
    Calls Tryd.prog 52 #[.int .i64 A, .int .i64 B, .pointer (some p)] w fun e w' => e = .returned (.tuple #[]) ∧ w' = w.setCell p (.int .i64 ((c + 1 : Nat) : Int)) := by
  go_enter Tryd.func52, Tryd.ntmps52
  go_wp2_with fail
  go_end0
  exact ⟨rfl, by congr 2⟩

theorem enters : Enters Tryd.prog 52 := enters_of Tryd.func52 (by kernel_rfl) rfl

/-- as many as were told are counted -/
def Inv (w0 : World) (b : Nat) (ps : List (Nat × Nat)) (w : World) : Prop := w.cell? ⟨b, 0, none⟩ = some (.int .i64 (ps.length : Int)) ∧ w.frozen? ⟨b, 0, none⟩ = false ∧ Kept (fun k => k = b) w0 w

theorem told (w0 : World) (b : Nat) (P : List (Nat × Nat)) (hP : P.length ≤ 200) : ∀ ps (a c : Nat) (A B : Int) w, A = a → B = c → (ps ++ [(a, c)]) <+: P → Inv w0 b ps w →
      Calls Tryd.prog 52 (#[.int .i64 A, .int .i64 B] ++ #[.pointer (some ⟨b, 0, none⟩)]) w fun e w' => e = .returned (.tuple #[]) ∧ Inv w0 b (ps ++ [(a, c)]) w' := by
  intro ps a c A B w _ _ hp ⟨h1, h2, h3⟩
  have hl := hp.length_le
  rw [List.length_append] at hl
  refine (count_any A B ⟨b, 0, none⟩ ps.length w h1 h2 (by omega)).mono ?_
  rintro e w' ⟨rfl, rfl⟩
  refine ⟨rfl, ?_, (World.frozen?_setCell _ _ _ _).trans h2, h3.setCell (p := ⟨b, 0, none⟩) (Or.inl rfl) _⟩
  rw [World.cell?_setCell_same _ _ _ h1]
  simp

theorem steps_no (i n : Int) (w : World) (h : inside i n 200 = false) :
    Calls Tryd.prog 39 #[.int .i64 i, .int .i64 n] w fun e w' => e = .returned (.tuple #[.int .i64 0, .iface 50 (.int .i64 1)]) ∧ w' = w := by
  go_enter Tryd.func39, Tryd.ntmps39
  go_wp2_with (go_at_call 25; refine (within_any _ _ _ _).mono ?_; rintro e w' ⟨rfl, rfl⟩; rw [h])
  go_ret2
  exact ⟨rfl, rfl⟩

theorem inside_yes {i n : Nat} {m : Int} (h : i < n) (hn : (n : Int) ≤ m) : inside i n m = true := decide_eq_true ⟨by omega, by omega, hn⟩
theorem inside_of {I N m : Int} (h : inside I N m = true) : ∃ i n : Nat, I = i ∧ N = n ∧ i < n ∧ (n : Int) ≤ m := by
  have h' := of_decide_eq_true h
  obtain ⟨i, rfl⟩ := Int.eq_ofNat_of_zero_le h'.1
  obtain ⟨n, rfl⟩ := Int.eq_ofNat_of_zero_le (show 0 ≤ N by omega)
  exact ⟨i, n, rfl, rfl, by omega, h'.2.2⟩

theorem steps_yes (i n : Nat) (I N : Int) (w : World) (hI : I = i) (hN : N = n) (h : i < n) (hn : n ≤ 200) :
    Calls Tryd.prog 39 #[.int .i64 I, .int .i64 N] w fun e w' => e = .returned (.tuple #[.int .i64 (Ways.steps i n : Nat), .nilIface]) ∧ Below w.heap.size w w' := by
  have hb : inside I N 200 = true := by rw [hI, hN]; exact inside_yes h (by omega)
  have hl := Climbs.beside_len i n h
  have hs := Ways.steps_le n i n (Nat.le_refl _)
  have C := fun (w1 : World) => climb_any 52 #[.pointer (some ⟨w.heap.size, 0, none⟩)] enters (beside i 0 n) (Inv w1 w.heap.size) (told w1 w.heap.size _ (by omega)) (n + 1) i 0 n I 0 N w1 [] hI rfl hN (by omega) (by omega) h hn (by rw [List.nil_append]; exact List.prefix_refl _)
  rw [List.nil_append] at C
  have HLn : Hid ((beside i 0 n).length = Ways.steps i n) := hl
  clear hI hN hl hs
  go_enter Tryd.func39, Tryd.ntmps39
  go_wp2_with fail
  refine (within_any _ _ _ _).mono ?_
  rintro e w1 ⟨rfl, rfl⟩
  rw [hb]
  go_wp2_with fail
  refine (C _ ⟨by simp, by simp, Kept.refl _ _⟩).mono ?_
  rintro e w2 ⟨rfl, h1, h2, h3⟩
  clear C
  go_wp2_with fail
  go_ret2
  exact ⟨by rw [← HLn.out]; rfl, ((Below.refl _ w1).alloc (Nat.le_refl _) _).trans (h3.below (fun k hk => by omega) (by simp))⟩

end Go.Proofs.YtlibjdkofajahaaDoor.WalkSteps
