/-
  What the document's own answers (package witref1) return on how long a proof is: Half and Steps.
-/
import Derived.Test.YtfpkngpgmllhnaaGreatDoorGrowPlain
import Derived.Test.YtfpkngpgmllhnaaGreatDoorListRows
import Derived.Test.YtfpkngpgmllhnaaGreatDoorRows
import Derived.WalkKit
import Derived.Test.YtfpkngpgmllhnaaGreatDoorRefTree
import Derived.Deep.DeepMust
import Derived.BigQuiet
namespace Go.Proofs.YtfpkngpgmllhnaaGreatDoor.WalkStepsRef
open Go.RowKit
open Trees (half half_lt half_pos)

theorem half_any (n : Nat) (w : World) (h0 : 2 ≤ n) (h1 : n ≤ 1000000) :
    Calls Tryz.prog 78 #[.int .i64 (n : Int)] w fun e w' => e = .returned (.int .i64 (Trees.half n : Nat)) ∧ w' = w := by
  go_enter Tryz.func78, Tryz.ntmps78
  go_wp2_with fail
  go_loop [3] (fun i => ∃ k : Nat, i = .int .i64 (k : Int) ∧ k < n ∧ 1 ≤ k ∧ Hid (∃ j : Nat, k = 2 ^ j)) (fun i => n - (intOf i).toNat)
  case atStart => exact ⟨1, rfl, by omega, by omega, 0, rfl⟩
  case round =>
    obtain ⟨k, rfl, hk, hk1, HP⟩ := hrel
    by_cases hlt : 2 * k < n
    · have i1 : 2 * (k : Int) < (n : Int) := by omega
      go_wp2_with fail
      go_round
      case rel =>
        refine ⟨2 * k, by go_num, hlt, by omega, ?_⟩
        obtain ⟨j, hj⟩ := HP.out
        exact ⟨j + 1, by rw [Nat.pow_succ, hj, Nat.mul_comm]⟩
      case measure => simp [intOf]; omega
    · have i1 : ¬ 2 * (k : Int) < (n : Int) := by omega
      have HH : Hid (Trees.half n = k) := by
        obtain ⟨j, hj⟩ := HP.out
        rw [hj]
        exact Trees.half_unique n j h0 (by omega) (by omega)
      go_wp2_with fail
      go_ret
      exact ⟨by rw [HH.out]; rfl, rfl⟩

theorem half_int (N : Int) (n : Nat) (w : World) (hN : N = n) (h0 : 2 ≤ n) (h1 : n ≤ 1000000) :
    Calls Tryz.prog 78 #[.int .i64 N] w fun e w' => e = .returned (.int .i64 (half n : Nat)) ∧ w' = w := by
  subst hN; exact half_any n w h0 h1


end Go.Proofs.YtfpkngpgmllhnaaGreatDoor.WalkStepsRef

/-
  What the document's own All (package witref1) returns on a list of any length.
-/
namespace Go.Proofs.YtfpkngpgmllhnaaGreatDoor.WalkAllRef
open Go.RowKit
open Lists (Row ints)

theorem all_long (l : List Int) (a : Option Addr) (n cap : Nat) (w : World) (hn : n ≤ 17592186043904) (hr : Row w a n cap (ints l)) :
    Calls Tryz.prog 125 #[.slice a n cap] w fun e w' => e = .returned (.bool (Trees.allOk l)) ∧ w' = w := by
  have hln : l.length = n := by rw [← hr.1, Lists.ints_length]
  have HR : Hid (Row w a n cap (ints l)) := hr
  clear hr
  go_enter Tryz.func125, Tryz.ntmps125
  go_wp2_with fail
  go_loop [3] (fun i => ∃ k : Nat, k ≤ n ∧ i = .int .i64 k ∧ Hid (Trees.allOk (l.take k) = true)) (fun i => n - (intOf i).toNat)
  case atStart => exact ⟨0, Nat.zero_le _, rfl, rfl⟩
  case round =>
    obtain ⟨k, hk, rfl, HA⟩ := hrel
    by_cases hlt : k < n
    · obtain ⟨b, off, rfl, hc⟩ := HR.out.2.2 (by omega)
      have hcell := hc k _ (Lists.ints_at (by omega))
      clear hc
      have i1 : (k : Int) < (n : Int) := by omega
      have HS : Hid (Trees.allOk (l.take (k + 1)) = (Trees.allOk (l.take k) && Nums.valid (l.getD k 0))) := Trees.allOk_snoc l k (by omega)
      have HN : Hid (Nums.valid (l.getD k 0) = false → Trees.allOk l = false) := Trees.allOk_no l k (by omega)
      generalize l.getD k 0 = x at hcell HS HN
      cases hx : Nums.valid x
      · have hx' : Hid (Nums.valid x = false) := hx
        clear hx
        go_wp2_with (go_at_call 124; refine (WalkRef.valid_any _ _).mono ?_; rintro e w' ⟨rfl, rfl⟩; rw [hx'.out])
        go_ret
        exact ⟨by rw [HN.out hx'.out]; rfl, rfl⟩
      · have hx' : Hid (Nums.valid x = true) := hx
        clear hx
        go_wp2_with (go_at_call 124; refine (WalkRef.valid_any _ _).mono ?_; rintro e w' ⟨rfl, rfl⟩; rw [hx'.out])
        go_round
        case rel => exact ⟨k + 1, by omega, by go_num, (show Trees.allOk (l.take (k + 1)) = true by rw [HS.out, HA.out, hx'.out]; rfl)⟩
        case measure => simp [intOf]; omega
    · have i1 : ¬ (k : Int) < (n : Int) := by omega
      have HT : Hid (Trees.allOk l = true) := by have h := HA.out; rw [List.take_of_length_le (by omega)] at h; exact h
      go_wp2_with fail
      go_ret
      exact ⟨by rw [HT.out]; rfl, rfl⟩

end Go.Proofs.YtfpkngpgmllhnaaGreatDoor.WalkAllRef

/-
  What the document's own answers (package witref1) return on proofs that a tree has but grown: Grow, GrowSteps, Grown and GrowCheck.
-/
namespace Go.Proofs.YtfpkngpgmllhnaaGreatDoor.WalkGrowRef
open Go.RowKit
open Lists (Row ints bt)
open Keeps (Kept owns_kept owns_row owns_base)
open Trees (half half_lt half_pos)
open WalkStepsRef (half_int)
open Grows (gsteps grow oldOf newOf grownE)
open GrowsE (inGrow inGrow_of inGrow_no growE)

theorem info3 : (Tryz.prog.info? 3).map (fun i => (i.zero, i.size, i.bytes)) = some (some (.int .i64 0), 1, 8) := by kernel_rfl
theorem below_drewN {B : Nat} {a w : World} (h : Below B a w) (n : Nat) : Below B a (w.drewN n) := ⟨h.os, h.tape, h.output, h.size, h.block⟩
theorem owns_one (w : World) (x : Int) : (w.alloc (.cells #[.int .i64 x] 3)).ownsRow w.heap.size 3 1 (.slice (some ⟨w.heap.size, 0, none⟩) 1 1) 1 (ints [x]) :=
  ⟨rfl, .inr ⟨w.heap.size, 1, #[.int .i64 x], rfl, Nat.le_refl _, heap_alloc_new w _, Nat.le_refl _, by decide, rfl, rfl⟩⟩

set_option maxHeartbeats 1000000 in
set_option maxRecDepth 100000 in
theorem steps_any : ∀ (f o n : Nat) (O N : Int) (whole : Bool) (w : World), O = o → N = n → n < f → 1 ≤ o → o ≤ n → n ≤ 1000 →
    Calls Tryz.prog 126 #[.int .i64 O, .int .i64 N, .bool whole] w fun e w' => e = .returned (.int .i64 (gsteps o n whole : Nat)) ∧ w' = w
  | 0, _, _, _, _, _, _, _, _, h, _, _, _ => by omega
  | f + 1, o, n, O, N, whole, w, hO, hN, hf, h1, ho, hn => by
    by_cases he : o = n
    · subst he
      rw [Grows.gsteps_same]
      have i1 : (O == N) = true := by rw [beq_iff_eq]; omega
      clear hO hN
      cases whole
      all_goals
        go_enter Tryz.func126, Tryz.ntmps126
        go_wp2_with fail
        go_ret
        exact ⟨rfl, rfl⟩
    · have hlt : o < n := by omega
      have h2 : 2 ≤ n := by omega
      have a := half_lt n h2
      have b := half_pos n
      have i1 : (O == N) = false := by rw [beq_eq_false_iff_ne]; omega
      have cH := fun w => half_int N n w hN h2 (by omega)
      have i3 : N ≤ 1000 := by omega
      have i4 : O < N := by omega
      have i5 : 0 ≤ O := by omega
      by_cases hk : o ≤ half n
      · have HE : Hid (gsteps o n whole = 1 + gsteps o (half n) whole) := Grows.gsteps_left o n whole hlt h2 hk
        have l := Grows.gsteps_le o (half n) whole
        have cS := fun w => steps_any f o (half n) O (half n : Nat) whole w hO rfl (by omega) h1 hk (by omega)
        have i2 : O ≤ (half n : Nat) := by omega
        have l2 : gsteps o (half n) whole ≤ 1001 := by omega
        generalize half n = k at *
        generalize gsteps o k whole = s at *
        clear l hO hN
        go_enter Tryz.func126, Tryz.ntmps126
        go_wp2_with fail
        refine (cH _).mono ?_
        rintro e w1 ⟨rfl, rfl⟩
        go_wp2_with fail
        refine (cS _).mono ?_
        rintro e w2 ⟨rfl, rfl⟩
        go_wp2_with fail
        go_ret
        exact ⟨by rw [HE.out]; go_num, rfl⟩
      · have HE : Hid (gsteps o n whole = 1 + gsteps (o - half n) (n - half n) false) := Grows.gsteps_right o n whole hlt h2 hk
        have l := Grows.gsteps_le (o - half n) (n - half n) false
        have cS := fun w => steps_any f (o - half n) (n - half n) (O - (half n : Nat)) (N - (half n : Nat)) false w (by omega) (by omega) (by omega) (by omega) (by omega) (by omega)
        have i2 : ¬ O ≤ (half n : Nat) := by omega
        have l2 : gsteps (o - half n) (n - half n) false ≤ 1001 := by omega
        generalize half n = k at *
        generalize gsteps (o - k) (n - k) false = s at *
        clear l hO hN
        go_enter Tryz.func126, Tryz.ntmps126
        go_wp2_with fail
        refine (cH _).mono ?_
        rintro e w1 ⟨rfl, rfl⟩
        go_wp2_with fail
        refine (cS _).mono ?_
        rintro e w2 ⟨rfl, rfl⟩
        go_wp2_with fail
        go_ret
        exact ⟨by rw [HE.out]; go_num, rfl⟩

set_option maxHeartbeats 1000000 in
set_option maxRecDepth 100000 in
theorem grow_any : ∀ (f : Nat) (l : List Int) (o : Nat) (O : Int) (whole : Bool) (a : Option Addr) (n cap : Nat) (w : World), O = o → n < f → 1 ≤ o → o ≤ n → n ≤ 200 → Row w a n cap (ints l) → (∀ x ∈ l, Nums.valid x = true) →
    Calls Tryz.prog 39 #[.slice a n cap, .int .i64 O, .bool whole] w fun e w' => ∃ v, e = .returned v ∧ w'.ownsRow w.heap.size 3 1 v (grow l o whole).length (ints (grow l o whole)) ∧ Below w.heap.size w w'
  | 0, _, _, _, _, _, _, _, _, _, h, _, _, _, _, _ => by omega
  | f + 1, l, o, O, whole, a, n, cap, w, hO, hf, h1, ho, hn, hr, hv => by
    have hln : l.length = n := by rw [← hr.1, Lists.ints_length]
    obtain ⟨i0, hi0, hz0, hz1, hz2⟩ := info_parts info3
    by_cases he : o = n
    · have HE : Hid (grow l o whole = if whole then [] else [Trees.root l]) := by
        show _ = _
        rw [he, ← hln]
        exact Grows.grow_same l whole (by omega)
      have i1 : (O == (n : Int)) = true := by rw [beq_iff_eq]; omega
      have cR := WalkTreeRef.root_le l a n cap w (by omega) hr hv
      generalize Trees.root l = x at cR HE
      clear hr hv hln hO hf ho he
      cases whole
      · go_enter Tryz.func39, Tryz.ntmps39
        go_wp2_with fail
        refine cR.mono ?_
        rintro e w1 ⟨rfl, b1⟩
        go_wp2_with fail
        go_ret
        exact ⟨_, rfl, by rw [HE.out]; exact owns_base (owns_one w1 x) b1.size, b1.alloc b1.size _⟩
      · clear cR
        go_enter Tryz.func39, Tryz.ntmps39
        go_wp2_with fail
        go_ret
        exact ⟨_, rfl, by rw [HE.out]; exact World.ownsRow_nil _ _ _ _, Below.refl _ _⟩
    · have hlt : o < n := by omega
      have h2 : 2 ≤ n := by omega
      have i1 : (O == (n : Int)) = false := by rw [beq_eq_false_iff_ne]; omega
      obtain ⟨b, off, rfl, _⟩ := hr.2.2 (by omega)
      have kl := half_lt n h2
      have kp := half_pos n
      have wl := Grows.grow_left l o whole (by omega) (by omega)
      have wr := Grows.grow_right l o whole (by omega) (by omega)
      rw [hln] at wl wr
      have cS := fun w => WalkTreeRef.half_any n w h2 (by omega)
      have lt : (l.take (half n)).length = half n := by rw [List.length_take]; omega
      have ld : (l.drop (half n)).length = n - half n := by rw [List.length_drop, hln]
      generalize half n = k at kl kp wl wr cS lt ld
      have hcap := hr.2.1
      have hck : ¬ cap = k := by omega
      have r1 : Row w (some ⟨b, off, none⟩) k cap (ints (l.take k)) := by rw [Lists.ints_take]; exact hr.take k (by omega)
      have r2 : Row w (some ⟨b, off + k, none⟩) (n - k) (cap - k) (ints (l.drop k)) := by rw [Lists.ints_drop]; exact hr.drop k (by omega)
      have v1 : ∀ x ∈ l.take k, Nums.valid x = true := fun x hx => hv x (List.mem_of_mem_take hx)
      have v2 : ∀ x ∈ l.drop k, Nums.valid x = true := fun x hx => hv x (List.mem_of_mem_drop hx)
      have j1 : (k : Int) ≤ (cap : Int) := by omega
      have j2 : (k : Int) ≤ (n : Int) := by omega
      have i5 : 0 ≤ O := by omega
      by_cases hk : o ≤ k
      · have HE : Hid (grow l o whole = grow (l.take k) o whole ++ [Trees.root (l.drop k)]) := wl hk
        have cW := grow_any f (l.take k) o O whole _ k cap w hO (by omega) h1 hk (by omega) r1 v1
        have cR := fun w1 (b1 : Below w.heap.size w w1) => WalkTreeRef.root_le (l.drop k) _ (n - k) (cap - k) w1 (by omega) (r2.below b1) v2
        have i2 : O ≤ (k : Int) := by omega
        have wlen : (grow (l.take k) o whole).length ≤ 201 := by
          rw [Grows.grow_length _ _ _ _ (Nat.le_refl _) h1 (by omega)]
          have := Grows.gsteps_le o (l.take k).length whole
          omega
        generalize grow (l.take k) o whole = p at cW HE wlen
        generalize Trees.root (l.drop k) = x at cR HE
        clear wl wr hr hv r1 r2 v1 v2 hO hln lt ld
        go_enter Tryz.func39, Tryz.ntmps39
        go_wp2_with fail
        refine (cS _).mono ?_
        rintro e w1 ⟨rfl, rfl⟩
        go_wp2_with fail
        refine cW.mono ?_
        rintro e w2 ⟨v, rfl, o2, b2⟩
        have HO : Hid (w2.ownsRow w1.heap.size 3 1 v p.length (ints p)) := o2
        have HB : Hid (Below w1.heap.size w1 w2) := b2
        clear cW o2 b2
        go_wp2_with fail
        refine (cR _ HB.out).mono ?_
        rintro e w3 ⟨rfl, b3⟩
        have HO3 : Hid (w3.ownsRow w1.heap.size 3 1 v p.length (ints p)) := owns_kept HO.out (Kept.of_below (fun _ => False) b3) fun _ _ q => q
        have HB3 : Hid (Below w1.heap.size w1 w3) := bt HB.out b3
        clear cR b3 HO HB
        go_wp2_with (at_builtin; go_must (refine wpList_append_own _ rfl (.tmp 30) (.tmp 35) 85 rfl w1.heap.size 3 i0 (.int .i64 0) 1 8 Tryz.underlying85 hi0 hz0 hz1 hz2 rfl (by decide) _ _ _ rfl (HO3.out.alloc _) ⟨_, 0, none⟩ 1 1 [.int .i64 x] rfl rfl (cell_one_new _ _ _) (fun u hu => by rw [List.mem_singleton.1 hu]; rfl) (by unfold maxLen; omega) (by omega) (by have := HB3.out.size; simp; omega) ?_); intro v1 wn o1 g1 z1; clear z1)
        have HBN : Hid (Below w1.heap.size w1 wn) := (HB3.out.alloc HB3.out.size _).grown g1 (by have := HB3.out.size; simp; omega) (fun k hk => (HO3.out.lt k hk).1)
        have HON : Hid (wn.ownsRow w1.heap.size 3 1 v1 (p ++ [x]).length (ints (p ++ [x]))) := by
          rw [show (p ++ [x]).length = p.length + 1 by simp, show ints (p ++ [x]) = ints p ++ [.int .i64 x] by simp [ints]]
          exact o1
        clear g1 o1 HO3 HB3
        go_ret
        exact ⟨_, rfl, by rw [HE.out]; exact HON.out, HBN.out⟩
      · have HE : Hid (grow l o whole = grow (l.drop k) (o - k) false ++ [Trees.root (l.take k)]) := wr hk
        have cW := grow_any f (l.drop k) (o - k) (O - (k : Int)) false _ (n - k) (cap - k) w (by omega) (by omega) (by omega) (by omega) (by omega) r2 v2
        have cR := fun w1 (b1 : Below w.heap.size w w1) => WalkTreeRef.root_le (l.take k) _ k cap w1 (by omega) (r1.below b1) v1
        have i2 : ¬ O ≤ (k : Int) := by omega
        have i3 : O ≤ (n : Int) := by omega
        have wlen : (grow (l.drop k) (o - k) false).length ≤ 201 := by
          rw [Grows.grow_length _ _ _ _ (Nat.le_refl _) (by omega) (by omega)]
          have := Grows.gsteps_le (o - k) (l.drop k).length false
          omega
        generalize grow (l.drop k) (o - k) false = p at cW HE wlen
        generalize Trees.root (l.take k) = x at cR HE
        clear wl wr hr hv r1 r2 v1 v2 hO hln lt ld
        go_enter Tryz.func39, Tryz.ntmps39
        go_wp2_with fail
        refine (cS _).mono ?_
        rintro e w1 ⟨rfl, rfl⟩
        go_wp2_with fail
        refine cW.mono ?_
        rintro e w2 ⟨v, rfl, o2, b2⟩
        have HO : Hid (w2.ownsRow w1.heap.size 3 1 v p.length (ints p)) := o2
        have HB : Hid (Below w1.heap.size w1 w2) := b2
        clear cW o2 b2
        go_wp2_with fail
        refine (cR _ HB.out).mono ?_
        rintro e w3 ⟨rfl, b3⟩
        have HO3 : Hid (w3.ownsRow w1.heap.size 3 1 v p.length (ints p)) := owns_kept HO.out (Kept.of_below (fun _ => False) b3) fun _ _ q => q
        have HB3 : Hid (Below w1.heap.size w1 w3) := bt HB.out b3
        clear cR b3 HO HB
        go_wp2_with (at_builtin; go_must (refine wpList_append_own _ rfl (.tmp 44) (.tmp 49) 85 rfl w1.heap.size 3 i0 (.int .i64 0) 1 8 Tryz.underlying85 hi0 hz0 hz1 hz2 rfl (by decide) _ _ _ rfl (HO3.out.alloc _) ⟨_, 0, none⟩ 1 1 [.int .i64 x] rfl rfl (cell_one_new _ _ _) (fun u hu => by rw [List.mem_singleton.1 hu]; rfl) (by unfold maxLen; omega) (by omega) (by have := HB3.out.size; simp; omega) ?_); intro v1 wn o1 g1 z1; clear z1)
        have HBN : Hid (Below w1.heap.size w1 wn) := (HB3.out.alloc HB3.out.size _).grown g1 (by have := HB3.out.size; simp; omega) (fun k hk => (HO3.out.lt k hk).1)
        have HON : Hid (wn.ownsRow w1.heap.size 3 1 v1 (p ++ [x]).length (ints (p ++ [x]))) := by
          rw [show (p ++ [x]).length = p.length + 1 by simp, show ints (p ++ [x]) = ints p ++ [.int .i64 x] by simp [ints]]
          exact o1
        clear g1 o1 HO3 HB3
        go_ret
        exact ⟨_, rfl, by rw [HE.out]; exact HON.out, HBN.out⟩

set_option maxHeartbeats 1000000 in
set_option maxRecDepth 100000 in
theorem grown_any : ∀ (f : Nat) (p : List Int) (o n : Nat) (s O N : Int) (whole : Bool) (a : Option Addr) (m cap : Nat) (w : World), O = o → N = n → n < f → 1 ≤ o → o ≤ n → n ≤ 200 → m = gsteps o n whole → Row w a m cap (ints p) → (∀ x ∈ p, Nums.valid x = true) → Nums.valid s = true →
    Calls Tryz.prog 127 #[.int .i64 s, .int .i64 O, .int .i64 N, .slice a m cap, .bool whole] w fun e w' => e = .returned (.tuple #[.int .i64 (oldOf s o n p whole), .int .i64 (newOf s o n p whole)]) ∧ Below w.heap.size w w'
  | 0, _, _, _, _, _, _, _, _, _, _, _, _, _, h, _, _, _, _, _, _, _ => by omega
  | f + 1, p, o, n, s, O, N, whole, a, m, cap, w, hO, hN, hf, h1, ho, hn, hm, hr, hv, hs => by
    have hln : p.length = m := by rw [← hr.1, Lists.ints_length]
    by_cases he : o = n
    · subst he
      obtain ⟨q1, q2⟩ := Grows.of_same s o p whole (by omega)
      rw [q1, q2]
      have i1 : (O == N) = true := by rw [beq_iff_eq]; omega
      rw [Grows.gsteps_same] at hm
      cases whole
      · obtain rfl : m = 1 := hm
        obtain ⟨b, off, rfl, hc⟩ := hr.2.2 (by omega)
        have c0 : w.cell? ⟨b, off, none⟩ = some (.int .i64 (p.getD 0 0)) := by
          have := hc 0 _ (Lists.ints_at (by omega))
          simpa using this
        generalize p.getD 0 0 = x at c0 ⊢
        clear hr hv hln hO hN hf hc hs q1 q2
        go_enter Tryz.func127, Tryz.ntmps127
        go_wp2_with fail
        go_quiet (fail)
        go_wp2_with fail
        go_ret2
        exact ⟨rfl, below_drewN (Below.refl _ _) _⟩
      · clear hr hv hln hO hN hf hs q1 q2
        go_enter Tryz.func127, Tryz.ntmps127
        go_wp2_with fail
        go_ret2
        exact ⟨rfl, Below.refl _ _⟩
    · have hlt : o < n := by omega
      have h2 : 2 ≤ n := by omega
      have i1 : (O == N) = false := by rw [beq_eq_false_iff_ne]; omega
      have kl := half_lt n h2
      have kp := half_pos n
      have cH := fun w => half_int N n w hN h2 (by omega)
      have gl := Grows.gsteps_le o n whole
      have sl := Grows.gsteps_left o n whole hlt h2
      have sr := Grows.gsteps_right o n whole hlt h2
      have m1 : 1 ≤ m := by
        by_cases hk : o ≤ half n
        · have := sl hk; omega
        · have := sr hk; omega
      obtain ⟨q, rfl⟩ : ∃ q, m = q + 1 := ⟨m - 1, by omega⟩
      have ol := fun hk => Grows.of_left s o n q p whole hlt h2 hk hm hln
      have or := fun hk => Grows.of_right s o n q p whole hlt h2 hk hm hln
      obtain ⟨b, off, rfl, hc⟩ := hr.2.2 (by omega)
      have cL := hc q _ (Lists.ints_at (by omega))
      have hcap := hr.2.1
      have r1 : Row w (some ⟨b, off, none⟩) q cap (ints (p.take q)) := by rw [Lists.ints_take]; exact hr.take q (by omega)
      have lq : (p.take q).length = q := by rw [List.length_take]; omega
      have v1 : ∀ x ∈ p.take q, Nums.valid x = true := fun x hx => hv x (List.mem_of_mem_take hx)
      have vx : Nums.valid (p.getD q 0) = true := hv _ (by rw [List.getD_eq_getElem?_getD, List.getElem?_eq_getElem (by omega)]; exact List.getElem_mem _)
      have j1 : ((q + 1 : Nat) : Int) - 1 = (q : Int) := by omega
      have j2 : (q : Int) ≤ (cap : Int) := by omega
      have i3 : O < N := by omega
      have i4 : N ≤ 200 := by omega
      have i5 : 0 ≤ O := by omega
      have m2 : q ≤ 300 := by omega
      generalize half n = k at kl kp cH sl sr ol or
      by_cases hk : o ≤ k
      · obtain ⟨e1, e2⟩ := ol hk
        rw [e1, e2]
        have hgq : q = gsteps o k whole := by have := sl hk; omega
        have cU := grown_any f (p.take q) o k s O (k : Int) whole _ q cap w hO rfl (by omega) h1 hk (by omega) hgq r1 v1 hs
        have vU := Grows.of_valid (o := o) (n := k) (whole := whole) hs v1 (by rw [lq]; exact hgq)
        have i2 : O ≤ (k : Int) := by omega
        generalize oldOf s o k (p.take q) whole = y at cU vU ⊢
        generalize newOf s o k (p.take q) whole = z at cU vU ⊢
        generalize p.getD q 0 = x at cL vx ⊢
        have cN := fun w => WalkTreeRef.node_any z x w vU.2 vx
        clear sl sr ol or hr hv r1 v1 hO hN hln hc hm vU vx hs e1 e2 hgq lq gl
        go_enter Tryz.func127, Tryz.ntmps127
        go_wp2_with fail
        refine (cH _).mono ?_
        rintro e w1 ⟨rfl, rfl⟩
        go_wp2_with fail
        refine cU.mono ?_
        rintro e w2 ⟨rfl, b2⟩
        go_wp2_with fail
        refine (cN _).mono ?_
        rintro e w3 ⟨rfl, b3⟩
        go_wp2_with fail
        go_ret2
        exact ⟨rfl, bt b2 b3⟩
      · obtain ⟨e1, e2⟩ := or hk
        rw [e1, e2]
        have hgq : q = gsteps (o - k) (n - k) false := by have := sr hk; omega
        have cU := grown_any f (p.take q) (o - k) (n - k) s (O - (k : Int)) (N - (k : Int)) false _ q cap w (by omega) (by omega) (by omega) (by omega) (by omega) (by omega) hgq r1 v1 hs
        have vU := Grows.of_valid (o := o - k) (n := n - k) (whole := false) hs v1 (by rw [lq]; exact hgq)
        have i2 : ¬ O ≤ (k : Int) := by omega
        generalize oldOf s (o - k) (n - k) (p.take q) false = y at cU vU ⊢
        generalize newOf s (o - k) (n - k) (p.take q) false = z at cU vU ⊢
        generalize p.getD q 0 = x at cL vx ⊢
        have cN1 := fun w => WalkTreeRef.node_any x y w vx vU.1
        have cN2 := fun w => WalkTreeRef.node_any x z w vx vU.2
        clear sl sr ol or hr hv r1 v1 hO hN hln hc hm vU vx hs e1 e2 hgq lq gl
        go_enter Tryz.func127, Tryz.ntmps127
        go_wp2_with fail
        refine (cH _).mono ?_
        rintro e w1 ⟨rfl, rfl⟩
        go_wp2_with fail
        refine cU.mono ?_
        rintro e w2 ⟨rfl, b2⟩
        go_wp2_with fail
        refine (cN1 _).mono ?_
        rintro e w3 ⟨rfl, b3⟩
        go_wp2_with fail
        refine (cN2 _).mono ?_
        rintro e w4 ⟨rfl, b4⟩
        go_wp2_with fail
        go_ret2
        exact ⟨rfl, bt (bt b2 b3) b4⟩

set_option maxHeartbeats 1000000 in
set_option maxRecDepth 100000 in
/-- what is wrong with any proof -/
theorem growCheck_any (ra O rb N : Int) (p : List Int) (a : Option Addr) (m cap : Nat) (w : World) (hr : Row w a m cap (ints p)) (hm : m ≤ 17592186043904) :
    Calls Tryz.prog 84 #[.int .i64 ra, .int .i64 O, .int .i64 rb, .int .i64 N, .slice a m cap] w fun e w' => e = .returned (.int .i64 (growE ra O rb N p : Nat)) ∧ Below w.heap.size w w' := by
  have hln : p.length = m := by rw [← hr.1, Lists.ints_length]
  have HR : Hid (Row w a m cap (ints p)) := hr
  clear hr
  obtain ⟨V1, HV1⟩ : ∃ V : Bool, Hid (Nums.valid ra = V) := ⟨_, rfl⟩
  obtain ⟨V2, HV2⟩ : ∃ V : Bool, Hid (Nums.valid rb = V) := ⟨_, rfl⟩
  obtain ⟨V3, HV3⟩ : ∃ V : Bool, Hid (Trees.allOk p = V) := ⟨_, rfl⟩
  obtain ⟨G, HG⟩ : ∃ G : Bool, Hid (inGrow O N 200 = G) := ⟨_, rfl⟩
  obtain ⟨C, HC⟩ : ∃ C : Nat, Hid (growE ra O rb N p = C) := ⟨_, rfl⟩
  rw [HC.out]
  have HCE : Hid (C = if G = true ∧ V1 = true ∧ V2 = true ∧ V3 = true then grownE ra rb O.toNat N.toNat p else 1) := by
    show _ = _
    rw [← HC.out, ← HG.out, ← HV1.out, ← HV2.out, ← HV3.out]; rfl
  go_enter Tryz.func84, Tryz.ntmps84
  go_wp2_with fail
  refine (WalkRef.valid_any _ _).mono ?_
  rintro e w8 ⟨rfl, rfl⟩
  go_wp2_with fail
  refine (WalkRef.valid_any _ _).mono ?_
  rintro e w8 ⟨rfl, rfl⟩
  go_wp2_with fail
  refine (WalkAllRef.all_long p a m cap _ hm HR.out).mono ?_
  rintro e w8 ⟨rfl, rfl⟩
  rw [HV1.out, HV2.out, HV3.out]
  by_cases hg : G = true
  case neg =>
    have HC1 : Hid (C = 1) := by have h := HCE.out; rw [if_neg (fun h => hg h.1)] at h; exact h
    have hex := inGrow_no (show inGrow O N 200 = false by rw [HG.out]; simpa using hg)
    clear HCE hg
    rcases hex with q1 | ⟨q1, q2⟩ | ⟨q1, q2, q3⟩
    all_goals
      go_wp2_with fail
      go_ret
      exact ⟨by rw [HC1.out]; rfl, Below.refl _ _⟩
  have hin : inGrow O N 200 = true := by rw [HG.out]; exact hg
  obtain ⟨o, n, hO, hN, h1, h2, h3⟩ := inGrow_of hin
  have q1 : ¬ O < 1 := by omega
  have q2 : ¬ N < O := by omega
  have q3 : ¬ (200 : Int) < N := by omega
  by_cases hv : V1 = true ∧ V2 = true ∧ V3 = true
  case neg =>
    have HC1 : Hid (C = 1) := by have h := HCE.out; rw [if_neg (fun h => hv h.2)] at h; exact h
    clear HCE hin hO hN
    cases V1
    · go_wp2_with fail
      go_ret
      exact ⟨by rw [HC1.out]; rfl, Below.refl _ _⟩
    cases V2
    · go_wp2_with fail
      go_ret
      exact ⟨by rw [HC1.out]; rfl, Below.refl _ _⟩
    cases V3
    · go_wp2_with fail
      go_ret
      exact ⟨by rw [HC1.out]; rfl, Below.refl _ _⟩
    · exact absurd ⟨rfl, rfl, rfl⟩ hv
  obtain ⟨rfl, rfl, rfl⟩ := hv
  have HC2 : Hid (C = grownE ra rb o n p) := by
    have h := HCE.out
    rw [if_pos ⟨hg, rfl, rfl, rfl⟩, hO, hN, Int.toNat_natCast, Int.toNat_natCast] at h
    exact h
  have cS := fun w => steps_any (n + 1) o n O N true w hO hN (Nat.lt_succ_self _) h1 h2 (by omega)
  have gl := Grows.gsteps_le o n true
  by_cases hl : p.length = gsteps o n true
  · have cU := grown_any (n + 1) p o n ra O N true a m cap w8 hO hN (Nat.lt_succ_self _) h1 h2 (by omega) (by omega) HR.out (Trees.allOk_mem HV3.out) HV1.out
    have HC3 : Hid (C = if oldOf ra o n p true = ra ∧ newOf ra o n p true = rb then 0 else 8) := by show _ = _; rw [HC2.out]; exact if_pos hl
    have hq : ((m : Int) != (gsteps o n true : Nat)) = false := by rw [← hl, hln]; simp
    generalize gsteps o n true = k at cS hq gl
    by_cases e1 : oldOf ra o n p true = ra
    · rw [e1] at cU
      have x1 : (ra != ra) = false := by simp
      by_cases e2 : newOf ra o n p true = rb
      · rw [e2] at cU
        have x2 : (rb != rb) = false := by simp
        have HC4 : Hid (C = 0) := by have h := HC3.out; rw [if_pos ⟨e1, e2⟩] at h; exact h
        clear HCE HC2 HC3 e1 e2 hl hln hin hO hN hg
        go_wp2_with fail
        refine (cS _).mono ?_
        rintro e w9 ⟨rfl, rfl⟩
        go_wp2_with fail
        refine cU.mono ?_
        rintro e w10 ⟨rfl, b10⟩
        clear cU
        go_wp2_with fail
        go_ret
        exact ⟨by rw [HC4.out]; rfl, b10⟩
      · have x2 : (newOf ra o n p true != rb) = true := by rw [bne_iff_ne]; exact e2
        have HC4 : Hid (C = 8) := by have h := HC3.out; rw [if_neg (fun h => e2 h.2)] at h; exact h
        generalize newOf ra o n p true = y at cU x2
        clear HCE HC2 HC3 e1 e2 hl hln hin hO hN hg
        go_wp2_with fail
        refine (cS _).mono ?_
        rintro e w9 ⟨rfl, rfl⟩
        go_wp2_with fail
        refine cU.mono ?_
        rintro e w10 ⟨rfl, b10⟩
        clear cU
        go_wp2_with fail
        go_ret
        exact ⟨by rw [HC4.out]; rfl, b10⟩
    · have x1 : (oldOf ra o n p true != ra) = true := by rw [bne_iff_ne]; exact e1
      have HC4 : Hid (C = 8) := by have h := HC3.out; rw [if_neg (fun h => e1 h.1)] at h; exact h
      generalize newOf ra o n p true = y at cU
      generalize oldOf ra o n p true = z at cU x1
      clear HCE HC2 HC3 e1 hl hln hin hO hN hg
      go_wp2_with fail
      refine (cS _).mono ?_
      rintro e w9 ⟨rfl, rfl⟩
      go_wp2_with fail
      refine cU.mono ?_
      rintro e w10 ⟨rfl, b10⟩
      clear cU
      go_wp2_with fail
      go_ret
      exact ⟨by rw [HC4.out]; rfl, b10⟩
  · have HC3 : Hid (C = 3) := by show _ = _; rw [HC2.out]; exact if_neg hl
    have hq : ((m : Int) != (gsteps o n true : Nat)) = true := by rw [bne_iff_ne]; omega
    generalize gsteps o n true = k at cS hq gl
    clear HCE HC2 hl hln hin hO hN hg
    go_wp2_with fail
    refine (cS _).mono ?_
    rintro e w9 ⟨rfl, rfl⟩
    go_wp2_with fail
    go_ret
    exact ⟨by rw [HC3.out]; rfl, Below.refl _ _⟩

end Go.Proofs.YtfpkngpgmllhnaaGreatDoor.WalkGrowRef

