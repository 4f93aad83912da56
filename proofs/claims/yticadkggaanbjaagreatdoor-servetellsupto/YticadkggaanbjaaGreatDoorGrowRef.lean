/-
  What the document's own answers (package witref1) return on how long a proof is: Half and Steps.
-/
import Derived.Test.YticadkggaanbjaaGreatDoorGrowPlain
import Derived.Test.YticadkggaanbjaaGreatDoorListRows
import Derived.Test.YticadkggaanbjaaGreatDoorRows
import Derived.WalkKit
import Derived.Test.YticadkggaanbjaaGreatDoorRefTree
import Derived.Deep.DeepMust
import Derived.BigQuiet
namespace Go.Proofs.YticadkggaanbjaaGreatDoor.WalkStepsRef
open Go.RowKit
open Trees (half half_lt half_pos)

theorem half_any (n : Nat) (w : World) (h0 : 2 ≤ n) (h1 : n ≤ 1000000) :
    Calls Tryz.prog 107 #[.int .i64 (n : Int)] w fun e w' => e = .returned (.int .i64 (Trees.half n : Nat)) ∧ w' = w := by
  go_enter Tryz.func107, Tryz.ntmps107
  go_wp2_with fail
  go_loop [3] (fun i => ∃ k : Nat, i = .int .i64 (k : Int) ∧ k < n ∧ 1 ≤ k ∧ Hid (∃ j : Nat, k = 2 ^ j)) (fun i => n - (intOf i).toNat)
  case atStart => exact ⟨1, rfl, by omega, by omega, 0, rfl⟩
  case round =>
    obtain ⟨k, rfl, hk, hk1, HP⟩ := hrel
    by_cases hlt : 2 * k < n
    · have i1 : 2 * (k : Int) < (n : Int) := by omega
      go_wp2_with fail
      go_round
      case rel =>
        refine ⟨2 * k, by go_num, hlt, by omega, ?_⟩
        obtain ⟨j, hj⟩ := HP.out
        exact ⟨j + 1, by rw [Nat.pow_succ, hj, Nat.mul_comm]⟩
      case measure => simp [intOf]; omega
    · have i1 : ¬ 2 * (k : Int) < (n : Int) := by omega
      have HH : Hid (Trees.half n = k) := by
        obtain ⟨j, hj⟩ := HP.out
        rw [hj]
        exact Trees.half_unique n j h0 (by omega) (by omega)
      go_wp2_with fail
      go_ret
      exact ⟨by rw [HH.out]; rfl, rfl⟩

theorem half_int (N : Int) (n : Nat) (w : World) (hN : N = n) (h0 : 2 ≤ n) (h1 : n ≤ 1000000) :
    Calls Tryz.prog 107 #[.int .i64 N] w fun e w' => e = .returned (.int .i64 (half n : Nat)) ∧ w' = w := by
  subst hN; exact half_any n w h0 h1


end Go.Proofs.YticadkggaanbjaaGreatDoor.WalkStepsRef

/-
  What the document's own All (package witref1) returns on a list of any length.
-/
namespace Go.Proofs.YticadkggaanbjaaGreatDoor.WalkAllRef
open Go.RowKit
open Lists (Row ints)


end Go.Proofs.YticadkggaanbjaaGreatDoor.WalkAllRef

/-
  What the document's own answers (package witref1) return on proofs that a tree has but grown: Grow, GrowSteps, Grown and GrowCheck.
-/
namespace Go.Proofs.YticadkggaanbjaaGreatDoor.WalkGrowRef
open Go.RowKit
open Lists (Row ints bt)
open Keeps (Kept owns_kept owns_row owns_base)
open Trees (half half_lt half_pos)
open WalkStepsRef (half_int)
open Grows (gsteps grow oldOf newOf grownE)
open GrowsE (inGrow inGrow_of inGrow_no growE)

theorem info3 : (Tryz.prog.info? 3).map (fun i => (i.zero, i.size, i.bytes)) = some (some (.int .i64 0), 1, 8) := by kernel_rfl
theorem below_drewN {B : Nat} {a w : World} (h : Below B a w) (n : Nat) : Below B a (w.drewN n) := ⟨h.os, h.tape, h.output, h.size, h.block⟩
theorem owns_one (w : World) (x : Int) : (w.alloc (.cells #[.int .i64 x] 3)).ownsRow w.heap.size 3 1 (.slice (some ⟨w.heap.size, 0, none⟩) 1 1) 1 (ints [x]) :=
  ⟨rfl, .inr ⟨w.heap.size, 1, #[.int .i64 x], rfl, Nat.le_refl _, heap_alloc_new w _, Nat.le_refl _, by decide, rfl, rfl⟩⟩


set_option maxHeartbeats 1000000 in
set_option maxRecDepth 100000 in
theorem grow_any : ∀ (f : Nat) (l : List Int) (o : Nat) (O : Int) (whole : Bool) (a : Option Addr) (n cap : Nat) (w : World), O = o → n < f → 1 ≤ o → o ≤ n → n ≤ 200 → Row w a n cap (ints l) → (∀ x ∈ l, Nums.valid x = true) →
    Calls Tryz.prog 45 #[.slice a n cap, .int .i64 O, .bool whole] w fun e w' => ∃ v, e = .returned v ∧ w'.ownsRow w.heap.size 3 1 v (grow l o whole).length (ints (grow l o whole)) ∧ Below w.heap.size w w'
  | 0, _, _, _, _, _, _, _, _, _, h, _, _, _, _, _ => by omega
  | f + 1, l, o, O, whole, a, n, cap, w, hO, hf, h1, ho, hn, hr, hv => by
    have hln : l.length = n := by rw [← hr.1, Lists.ints_length]
    obtain ⟨i0, hi0, hz0, hz1, hz2⟩ := info_parts info3
    by_cases he : o = n
    · have HE : Hid (grow l o whole = if whole then [] else [Trees.root l]) := by
        show _ = _
        rw [he, ← hln]
        exact Grows.grow_same l whole (by omega)
      have i1 : (O == (n : Int)) = true := by rw [beq_iff_eq]; omega
      have cR := WalkTreeRef.root_le l a n cap w (by omega) hr hv
      generalize Trees.root l = x at cR HE
      clear hr hv hln hO hf ho he
      cases whole
      · go_enter Tryz.func45, Tryz.ntmps45
        go_wp2_with fail
        refine cR.mono ?_
        rintro e w1 ⟨rfl, b1⟩
        go_wp2_with fail
        go_ret
        exact ⟨_, rfl, by rw [HE.out]; exact owns_base (owns_one w1 x) b1.size, b1.alloc b1.size _⟩
      · clear cR
        go_enter Tryz.func45, Tryz.ntmps45
        go_wp2_with fail
        go_ret
        exact ⟨_, rfl, by rw [HE.out]; exact World.ownsRow_nil _ _ _ _, Below.refl _ _⟩
    · have hlt : o < n := by omega
      have h2 : 2 ≤ n := by omega
      have i1 : (O == (n : Int)) = false := by rw [beq_eq_false_iff_ne]; omega
      obtain ⟨b, off, rfl, _⟩ := hr.2.2 (by omega)
      have kl := half_lt n h2
      have kp := half_pos n
      have wl := Grows.grow_left l o whole (by omega) (by omega)
      have wr := Grows.grow_right l o whole (by omega) (by omega)
      rw [hln] at wl wr
      have cS := fun w => WalkTreeRef.half_any n w h2 (by omega)
      have lt : (l.take (half n)).length = half n := by rw [List.length_take]; omega
      have ld : (l.drop (half n)).length = n - half n := by rw [List.length_drop, hln]
      generalize half n = k at kl kp wl wr cS lt ld
      have hcap := hr.2.1
      have hck : ¬ cap = k := by omega
      have r1 : Row w (some ⟨b, off, none⟩) k cap (ints (l.take k)) := by rw [Lists.ints_take]; exact hr.take k (by omega)
      have r2 : Row w (some ⟨b, off + k, none⟩) (n - k) (cap - k) (ints (l.drop k)) := by rw [Lists.ints_drop]; exact hr.drop k (by omega)
      have v1 : ∀ x ∈ l.take k, Nums.valid x = true := fun x hx => hv x (List.mem_of_mem_take hx)
      have v2 : ∀ x ∈ l.drop k, Nums.valid x = true := fun x hx => hv x (List.mem_of_mem_drop hx)
      have j1 : (k : Int) ≤ (cap : Int) := by omega
      have j2 : (k : Int) ≤ (n : Int) := by omega
      have i5 : 0 ≤ O := by omega
      by_cases hk : o ≤ k
      · have HE : Hid (grow l o whole = grow (l.take k) o whole ++ [Trees.root (l.drop k)]) := wl hk
        have cW := grow_any f (l.take k) o O whole _ k cap w hO (by omega) h1 hk (by omega) r1 v1
        have cR := fun w1 (b1 : Below w.heap.size w w1) => WalkTreeRef.root_le (l.drop k) _ (n - k) (cap - k) w1 (by omega) (r2.below b1) v2
        have i2 : O ≤ (k : Int) := by omega
        have wlen : (grow (l.take k) o whole).length ≤ 201 := by
          rw [Grows.grow_length _ _ _ _ (Nat.le_refl _) h1 (by omega)]
          have := Grows.gsteps_le o (l.take k).length whole
          omega
        generalize grow (l.take k) o whole = p at cW HE wlen
        generalize Trees.root (l.drop k) = x at cR HE
        clear wl wr hr hv r1 r2 v1 v2 hO hln lt ld
        go_enter Tryz.func45, Tryz.ntmps45
        go_wp2_with fail
        refine (cS _).mono ?_
        rintro e w1 ⟨rfl, rfl⟩
        go_wp2_with fail
        refine cW.mono ?_
        rintro e w2 ⟨v, rfl, o2, b2⟩
        have HO : Hid (w2.ownsRow w1.heap.size 3 1 v p.length (ints p)) := o2
        have HB : Hid (Below w1.heap.size w1 w2) := b2
        clear cW o2 b2
        go_wp2_with fail
        refine (cR _ HB.out).mono ?_
        rintro e w3 ⟨rfl, b3⟩
        have HO3 : Hid (w3.ownsRow w1.heap.size 3 1 v p.length (ints p)) := owns_kept HO.out (Kept.of_below (fun _ => False) b3) fun _ _ q => q
        have HB3 : Hid (Below w1.heap.size w1 w3) := bt HB.out b3
        clear cR b3 HO HB
        go_wp2_with (at_builtin; go_must (refine wpList_append_own _ rfl (.tmp 30) (.tmp 35) 45 rfl w1.heap.size 3 i0 (.int .i64 0) 1 8 Tryz.underlying45 hi0 hz0 hz1 hz2 rfl (by decide) _ _ _ rfl (HO3.out.alloc _) ⟨_, 0, none⟩ 1 1 [.int .i64 x] rfl rfl (cell_one_new _ _ _) (fun u hu => by rw [List.mem_singleton.1 hu]; rfl) (by unfold maxLen; omega) (by omega) (by have := HB3.out.size; simp; omega) ?_); intro v1 wn o1 g1 z1; clear z1)
        have HBN : Hid (Below w1.heap.size w1 wn) := (HB3.out.alloc HB3.out.size _).grown g1 (by have := HB3.out.size; simp; omega) (fun k hk => (HO3.out.lt k hk).1)
        have HON : Hid (wn.ownsRow w1.heap.size 3 1 v1 (p ++ [x]).length (ints (p ++ [x]))) := by
          rw [show (p ++ [x]).length = p.length + 1 by simp, show ints (p ++ [x]) = ints p ++ [.int .i64 x] by simp [ints]]
          exact o1
        clear g1 o1 HO3 HB3
        go_ret
        exact ⟨_, rfl, by rw [HE.out]; exact HON.out, HBN.out⟩
      · have HE : Hid (grow l o whole = grow (l.drop k) (o - k) false ++ [Trees.root (l.take k)]) := wr hk
        have cW := grow_any f (l.drop k) (o - k) (O - (k : Int)) false _ (n - k) (cap - k) w (by omega) (by omega) (by omega) (by omega) (by omega) r2 v2
        have cR := fun w1 (b1 : Below w.heap.size w w1) => WalkTreeRef.root_le (l.take k) _ k cap w1 (by omega) (r1.below b1) v1
        have i2 : ¬ O ≤ (k : Int) := by omega
        have i3 : O ≤ (n : Int) := by omega
        have wlen : (grow (l.drop k) (o - k) false).length ≤ 201 := by
          rw [Grows.grow_length _ _ _ _ (Nat.le_refl _) (by omega) (by omega)]
          have := Grows.gsteps_le (o - k) (l.drop k).length false
          omega
        generalize grow (l.drop k) (o - k) false = p at cW HE wlen
        generalize Trees.root (l.take k) = x at cR HE
        clear wl wr hr hv r1 r2 v1 v2 hO hln lt ld
        go_enter Tryz.func45, Tryz.ntmps45
        go_wp2_with fail
        refine (cS _).mono ?_
        rintro e w1 ⟨rfl, rfl⟩
        go_wp2_with fail
        refine cW.mono ?_
        rintro e w2 ⟨v, rfl, o2, b2⟩
        have HO : Hid (w2.ownsRow w1.heap.size 3 1 v p.length (ints p)) := o2
        have HB : Hid (Below w1.heap.size w1 w2) := b2
        clear cW o2 b2
        go_wp2_with fail
        refine (cR _ HB.out).mono ?_
        rintro e w3 ⟨rfl, b3⟩
        have HO3 : Hid (w3.ownsRow w1.heap.size 3 1 v p.length (ints p)) := owns_kept HO.out (Kept.of_below (fun _ => False) b3) fun _ _ q => q
        have HB3 : Hid (Below w1.heap.size w1 w3) := bt HB.out b3
        clear cR b3 HO HB
        go_wp2_with (at_builtin; go_must (refine wpList_append_own _ rfl (.tmp 44) (.tmp 49) 45 rfl w1.heap.size 3 i0 (.int .i64 0) 1 8 Tryz.underlying45 hi0 hz0 hz1 hz2 rfl (by decide) _ _ _ rfl (HO3.out.alloc _) ⟨_, 0, none⟩ 1 1 [.int .i64 x] rfl rfl (cell_one_new _ _ _) (fun u hu => by rw [List.mem_singleton.1 hu]; rfl) (by unfold maxLen; omega) (by omega) (by have := HB3.out.size; simp; omega) ?_); intro v1 wn o1 g1 z1; clear z1)
        have HBN : Hid (Below w1.heap.size w1 wn) := (HB3.out.alloc HB3.out.size _).grown g1 (by have := HB3.out.size; simp; omega) (fun k hk => (HO3.out.lt k hk).1)
        have HON : Hid (wn.ownsRow w1.heap.size 3 1 v1 (p ++ [x]).length (ints (p ++ [x]))) := by
          rw [show (p ++ [x]).length = p.length + 1 by simp, show ints (p ++ [x]) = ints p ++ [.int .i64 x] by simp [ints]]
          exact o1
        clear g1 o1 HO3 HB3
        go_ret
        exact ⟨_, rfl, by rw [HE.out]; exact HON.out, HBN.out⟩



end Go.Proofs.YticadkggaanbjaaGreatDoor.WalkGrowRef

