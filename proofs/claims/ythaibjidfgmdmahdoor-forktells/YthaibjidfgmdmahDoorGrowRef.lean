/-
  What the document's own answers (package witref1) return on how long a proof is: Half and Steps.
-/
import Derived.Test.YthaibjidfgmdmahDoorGrowPlain
import Derived.Test.YthaibjidfgmdmahDoorListRows
import Derived.Test.YthaibjidfgmdmahDoorRows
import Derived.WalkKit
import Derived.Test.YthaibjidfgmdmahDoorWalkRef
import Derived.Test.YthaibjidfgmdmahDoorWalkTreeRef
import Derived.Deep.DeepMust
import Derived.BigQuiet
namespace Go.Proofs.YthaibjidfgmdmahDoor.WalkStepsRef
open Go.RowKit
open Trees (half half_lt half_pos)

theorem half_any (n : Nat) (w : World) (h0 : 2 ≤ n) (h1 : n ≤ 1000000) :
    Calls Tryd.prog 55 #[.int .i64 (n : Int)] w fun e w' => e = .returned (.int .i64 (Trees.half n : Nat)) ∧ w' = w := by
  go_enter Tryd.func55, Tryd.ntmps55
  go_wp2_with fail
  go_loop [3] (fun i => ∃ k : Nat, i = .int .i64 (k : Int) ∧ k < n ∧ 1 ≤ k ∧ Hid (∃ j : Nat, k = 2 ^ j)) (fun i => n - (intOf i).toNat)
  case atStart => exact ⟨1, rfl, by omega, by omega, 0, rfl⟩
  case round =>
    obtain ⟨k, rfl, hk, hk1, HP⟩ := hrel
    by_cases hlt : 2 * k < n
    · have i1 : 2 * (k : Int) < (n : Int) := by omega
      go_wp2_with fail
      go_round
      case rel =>
        refine ⟨2 * k, by go_num, hlt, by omega, ?_⟩
        obtain ⟨j, hj⟩ := HP.out
        exact ⟨j + 1, by rw [Nat.pow_succ, hj, Nat.mul_comm]⟩
      case measure => simp [intOf]; omega
    · have i1 : ¬ 2 * (k : Int) < (n : Int) := by omega
      have HH : Hid (Trees.half n = k) := by
        obtain ⟨j, hj⟩ := HP.out
        rw [hj]
        exact Trees.half_unique n j h0 (by omega) (by omega)
      go_wp2_with fail
      go_ret
      exact ⟨by rw [HH.out]; rfl, rfl⟩

theorem half_int (N : Int) (n : Nat) (w : World) (hN : N = n) (h0 : 2 ≤ n) (h1 : n ≤ 1000000) :
    Calls Tryd.prog 55 #[.int .i64 N] w fun e w' => e = .returned (.int .i64 (half n : Nat)) ∧ w' = w := by
  subst hN; exact half_any n w h0 h1


end Go.Proofs.YthaibjidfgmdmahDoor.WalkStepsRef

/-
  What the document's own All (package witref1) returns on a list of any length.
-/
namespace Go.Proofs.YthaibjidfgmdmahDoor.WalkAllRef
open Go.RowKit
open Lists (Row ints)

theorem all_long (l : List Int) (a : Option Addr) (n cap : Nat) (w : World) (hn : n ≤ 17592186043904) (hr : Row w a n cap (ints l)) :
    Calls Tryd.prog 33 #[.slice a n cap] w fun e w' => e = .returned (.bool (Trees.allOk l)) ∧ w' = w := by
  have hln : l.length = n := by rw [← hr.1, Lists.ints_length]
  have HR : Hid (Row w a n cap (ints l)) := hr
  clear hr
  go_enter Tryd.func33, Tryd.ntmps33
  go_wp2_with fail
  go_loop [3] (fun i => ∃ k : Nat, k ≤ n ∧ i = .int .i64 k ∧ Hid (Trees.allOk (l.take k) = true)) (fun i => n - (intOf i).toNat)
  case atStart => exact ⟨0, Nat.zero_le _, rfl, rfl⟩
  case round =>
    obtain ⟨k, hk, rfl, HA⟩ := hrel
    by_cases hlt : k < n
    · obtain ⟨b, off, rfl, hc⟩ := HR.out.2.2 (by omega)
      have hcell := hc k _ (Lists.ints_at (by omega))
      clear hc
      have i1 : (k : Int) < (n : Int) := by omega
      have HS : Hid (Trees.allOk (l.take (k + 1)) = (Trees.allOk (l.take k) && Nums.valid (l.getD k 0))) := Trees.allOk_snoc l k (by omega)
      have HN : Hid (Nums.valid (l.getD k 0) = false → Trees.allOk l = false) := Trees.allOk_no l k (by omega)
      generalize l.getD k 0 = x at hcell HS HN
      cases hx : Nums.valid x
      · have hx' : Hid (Nums.valid x = false) := hx
        clear hx
        go_wp2_with (go_at_call 32; refine (WalkRef.valid_any _ _).mono ?_; rintro e w' ⟨rfl, rfl⟩; rw [hx'.out])
        go_ret
        exact ⟨by rw [HN.out hx'.out]; rfl, rfl⟩
      · have hx' : Hid (Nums.valid x = true) := hx
        clear hx
        go_wp2_with (go_at_call 32; refine (WalkRef.valid_any _ _).mono ?_; rintro e w' ⟨rfl, rfl⟩; rw [hx'.out])
        go_round
        case rel => exact ⟨k + 1, by omega, by go_num, (show Trees.allOk (l.take (k + 1)) = true by rw [HS.out, HA.out, hx'.out]; rfl)⟩
        case measure => simp [intOf]; omega
    · have i1 : ¬ (k : Int) < (n : Int) := by omega
      have HT : Hid (Trees.allOk l = true) := by have h := HA.out; rw [List.take_of_length_le (by omega)] at h; exact h
      go_wp2_with fail
      go_ret
      exact ⟨by rw [HT.out]; rfl, rfl⟩

end Go.Proofs.YthaibjidfgmdmahDoor.WalkAllRef

/-
  What the document's own answers (package witref1) return on proofs that a tree has but grown: Grow, GrowSteps, Grown and GrowCheck.
-/
namespace Go.Proofs.YthaibjidfgmdmahDoor.WalkGrowRef
open Go.RowKit
open Lists (Row ints bt)
open Keeps (Kept owns_kept owns_row owns_base)
open Trees (half half_lt half_pos)
open WalkStepsRef (half_int)
open Grows (gsteps grow oldOf newOf grownE)
open GrowsE (inGrow inGrow_of inGrow_no growE)

theorem info3 : (Tryd.prog.info? 3).map (fun i => (i.zero, i.size, i.bytes)) = some (some (.int .i64 0), 1, 8) := by kernel_rfl
theorem below_drewN {B : Nat} {a w : World} (h : Below B a w) (n : Nat) : Below B a (w.drewN n) := ⟨h.os, h.tape, h.output, h.size, h.block⟩
theorem owns_one (w : World) (x : Int) : (w.alloc (.cells #[.int .i64 x] 3)).ownsRow w.heap.size 3 1 (.slice (some ⟨w.heap.size, 0, none⟩) 1 1) 1 (ints [x]) :=
  ⟨rfl, .inr ⟨w.heap.size, 1, #[.int .i64 x], rfl, Nat.le_refl _, heap_alloc_new w _, Nat.le_refl _, by decide, rfl, rfl⟩⟩

set_option maxHeartbeats 1000000 in
set_option maxRecDepth 100000 in
theorem steps_any : ∀ (f o n : Nat) (O N : Int) (whole : Bool) (w : World), O = o → N = n → n < f → 1 ≤ o → o ≤ n → n ≤ 1000 →
    Calls Tryd.prog 34 #[.int .i64 O, .int .i64 N, .bool whole] w fun e w' => e = .returned (.int .i64 (gsteps o n whole : Nat)) ∧ w' = w
  | 0, _, _, _, _, _, _, _, _, h, _, _, _ => by omega
  | f + 1, o, n, O, N, whole, w, hO, hN, hf, h1, ho, hn => by
    by_cases he : o = n
    · subst he
      rw [Grows.gsteps_same]
      have i1 : (O == N) = true := by rw [beq_iff_eq]; omega
      clear hO hN
      cases whole
      all_goals
        go_enter Tryd.func34, Tryd.ntmps34
        go_wp2_with fail
        go_ret
        exact ⟨rfl, rfl⟩
    · have hlt : o < n := by omega
      have h2 : 2 ≤ n := by omega
      have a := half_lt n h2
      have b := half_pos n
      have i1 : (O == N) = false := by rw [beq_eq_false_iff_ne]; omega
      have cH := fun w => half_int N n w hN h2 (by omega)
      have i3 : N ≤ 1000 := by omega
      have i4 : O < N := by omega
      have i5 : 0 ≤ O := by omega
      by_cases hk : o ≤ half n
      · have HE : Hid (gsteps o n whole = 1 + gsteps o (half n) whole) := Grows.gsteps_left o n whole hlt h2 hk
        have l := Grows.gsteps_le o (half n) whole
        have cS := fun w => steps_any f o (half n) O (half n : Nat) whole w hO rfl (by omega) h1 hk (by omega)
        have i2 : O ≤ (half n : Nat) := by omega
        have l2 : gsteps o (half n) whole ≤ 1001 := by omega
        generalize half n = k at *
        generalize gsteps o k whole = s at *
        clear l hO hN
        go_enter Tryd.func34, Tryd.ntmps34
        go_wp2_with fail
        refine (cH _).mono ?_
        rintro e w1 ⟨rfl, rfl⟩
        go_wp2_with fail
        refine (cS _).mono ?_
        rintro e w2 ⟨rfl, rfl⟩
        go_wp2_with fail
        go_ret
        exact ⟨by rw [HE.out]; go_num, rfl⟩
      · have HE : Hid (gsteps o n whole = 1 + gsteps (o - half n) (n - half n) false) := Grows.gsteps_right o n whole hlt h2 hk
        have l := Grows.gsteps_le (o - half n) (n - half n) false
        have cS := fun w => steps_any f (o - half n) (n - half n) (O - (half n : Nat)) (N - (half n : Nat)) false w (by omega) (by omega) (by omega) (by omega) (by omega) (by omega)
        have i2 : ¬ O ≤ (half n : Nat) := by omega
        have l2 : gsteps (o - half n) (n - half n) false ≤ 1001 := by omega
        generalize half n = k at *
        generalize gsteps (o - k) (n - k) false = s at *
        clear l hO hN
        go_enter Tryd.func34, Tryd.ntmps34
        go_wp2_with fail
        refine (cH _).mono ?_
        rintro e w1 ⟨rfl, rfl⟩
        go_wp2_with fail
        refine (cS _).mono ?_
        rintro e w2 ⟨rfl, rfl⟩
        go_wp2_with fail
        go_ret
        exact ⟨by rw [HE.out]; go_num, rfl⟩


set_option maxHeartbeats 1000000 in
set_option maxRecDepth 100000 in
theorem grown_any : ∀ (f : Nat) (p : List Int) (o n : Nat) (s O N : Int) (whole : Bool) (a : Option Addr) (m cap : Nat) (w : World), O = o → N = n → n < f → 1 ≤ o → o ≤ n → n ≤ 200 → m = gsteps o n whole → Row w a m cap (ints p) → (∀ x ∈ p, Nums.valid x = true) → Nums.valid s = true →
    Calls Tryd.prog 35 #[.int .i64 s, .int .i64 O, .int .i64 N, .slice a m cap, .bool whole] w fun e w' => e = .returned (.tuple #[.int .i64 (oldOf s o n p whole), .int .i64 (newOf s o n p whole)]) ∧ Below w.heap.size w w'
  | 0, _, _, _, _, _, _, _, _, _, _, _, _, _, h, _, _, _, _, _, _, _ => by omega
  | f + 1, p, o, n, s, O, N, whole, a, m, cap, w, hO, hN, hf, h1, ho, hn, hm, hr, hv, hs => by
    have hln : p.length = m := by rw [← hr.1, Lists.ints_length]
    by_cases he : o = n
    · subst he
      obtain ⟨q1, q2⟩ := Grows.of_same s o p whole (by omega)
      rw [q1, q2]
      have i1 : (O == N) = true := by rw [beq_iff_eq]; omega
      rw [Grows.gsteps_same] at hm
      cases whole
      · obtain rfl : m = 1 := hm
        obtain ⟨b, off, rfl, hc⟩ := hr.2.2 (by omega)
        have c0 : w.cell? ⟨b, off, none⟩ = some (.int .i64 (p.getD 0 0)) := by
          have := hc 0 _ (Lists.ints_at (by omega))
          simpa using this
        generalize p.getD 0 0 = x at c0 ⊢
        clear hr hv hln hO hN hf hc hs q1 q2
        go_enter Tryd.func35, Tryd.ntmps35
        go_wp2_with fail
        go_quiet (fail)
        go_wp2_with fail
        go_ret2
        exact ⟨rfl, below_drewN (Below.refl _ _) _⟩
      · clear hr hv hln hO hN hf hs q1 q2
        go_enter Tryd.func35, Tryd.ntmps35
        go_wp2_with fail
        go_ret2
        exact ⟨rfl, Below.refl _ _⟩
    · have hlt : o < n := by omega
      have h2 : 2 ≤ n := by omega
      have i1 : (O == N) = false := by rw [beq_eq_false_iff_ne]; omega
      have kl := half_lt n h2
      have kp := half_pos n
      have cH := fun w => half_int N n w hN h2 (by omega)
      have gl := Grows.gsteps_le o n whole
      have sl := Grows.gsteps_left o n whole hlt h2
      have sr := Grows.gsteps_right o n whole hlt h2
      have m1 : 1 ≤ m := by
        by_cases hk : o ≤ half n
        · have := sl hk; omega
        · have := sr hk; omega
      obtain ⟨q, rfl⟩ : ∃ q, m = q + 1 := ⟨m - 1, by omega⟩
      have ol := fun hk => Grows.of_left s o n q p whole hlt h2 hk hm hln
      have or := fun hk => Grows.of_right s o n q p whole hlt h2 hk hm hln
      obtain ⟨b, off, rfl, hc⟩ := hr.2.2 (by omega)
      have cL := hc q _ (Lists.ints_at (by omega))
      have hcap := hr.2.1
      have r1 : Row w (some ⟨b, off, none⟩) q cap (ints (p.take q)) := by rw [Lists.ints_take]; exact hr.take q (by omega)
      have lq : (p.take q).length = q := by rw [List.length_take]; omega
      have v1 : ∀ x ∈ p.take q, Nums.valid x = true := fun x hx => hv x (List.mem_of_mem_take hx)
      have vx : Nums.valid (p.getD q 0) = true := hv _ (by rw [List.getD_eq_getElem?_getD, List.getElem?_eq_getElem (by omega)]; exact List.getElem_mem _)
      have j1 : ((q + 1 : Nat) : Int) - 1 = (q : Int) := by omega
      have j2 : (q : Int) ≤ (cap : Int) := by omega
      have i3 : O < N := by omega
      have i4 : N ≤ 200 := by omega
      have i5 : 0 ≤ O := by omega
      have m2 : q ≤ 300 := by omega
      generalize half n = k at kl kp cH sl sr ol or
      by_cases hk : o ≤ k
      · obtain ⟨e1, e2⟩ := ol hk
        rw [e1, e2]
        have hgq : q = gsteps o k whole := by have := sl hk; omega
        have cU := grown_any f (p.take q) o k s O (k : Int) whole _ q cap w hO rfl (by omega) h1 hk (by omega) hgq r1 v1 hs
        have vU := Grows.of_valid (o := o) (n := k) (whole := whole) hs v1 (by rw [lq]; exact hgq)
        have i2 : O ≤ (k : Int) := by omega
        generalize oldOf s o k (p.take q) whole = y at cU vU ⊢
        generalize newOf s o k (p.take q) whole = z at cU vU ⊢
        generalize p.getD q 0 = x at cL vx ⊢
        have cN := fun w => WalkTreeRef.node_any z x w vU.2 vx
        clear sl sr ol or hr hv r1 v1 hO hN hln hc hm vU vx hs e1 e2 hgq lq gl
        go_enter Tryd.func35, Tryd.ntmps35
        go_wp2_with fail
        refine (cH _).mono ?_
        rintro e w1 ⟨rfl, rfl⟩
        go_wp2_with fail
        refine cU.mono ?_
        rintro e w2 ⟨rfl, b2⟩
        go_wp2_with fail
        refine (cN _).mono ?_
        rintro e w3 ⟨rfl, b3⟩
        go_wp2_with fail
        go_ret2
        exact ⟨rfl, bt b2 b3⟩
      · obtain ⟨e1, e2⟩ := or hk
        rw [e1, e2]
        have hgq : q = gsteps (o - k) (n - k) false := by have := sr hk; omega
        have cU := grown_any f (p.take q) (o - k) (n - k) s (O - (k : Int)) (N - (k : Int)) false _ q cap w (by omega) (by omega) (by omega) (by omega) (by omega) (by omega) hgq r1 v1 hs
        have vU := Grows.of_valid (o := o - k) (n := n - k) (whole := false) hs v1 (by rw [lq]; exact hgq)
        have i2 : ¬ O ≤ (k : Int) := by omega
        generalize oldOf s (o - k) (n - k) (p.take q) false = y at cU vU ⊢
        generalize newOf s (o - k) (n - k) (p.take q) false = z at cU vU ⊢
        generalize p.getD q 0 = x at cL vx ⊢
        have cN1 := fun w => WalkTreeRef.node_any x y w vx vU.1
        have cN2 := fun w => WalkTreeRef.node_any x z w vx vU.2
        clear sl sr ol or hr hv r1 v1 hO hN hln hc hm vU vx hs e1 e2 hgq lq gl
        go_enter Tryd.func35, Tryd.ntmps35
        go_wp2_with fail
        refine (cH _).mono ?_
        rintro e w1 ⟨rfl, rfl⟩
        go_wp2_with fail
        refine cU.mono ?_
        rintro e w2 ⟨rfl, b2⟩
        go_wp2_with fail
        refine (cN1 _).mono ?_
        rintro e w3 ⟨rfl, b3⟩
        go_wp2_with fail
        refine (cN2 _).mono ?_
        rintro e w4 ⟨rfl, b4⟩
        go_wp2_with fail
        go_ret2
        exact ⟨rfl, bt (bt b2 b3) b4⟩

set_option maxHeartbeats 1000000 in
set_option maxRecDepth 100000 in
/-- what is wrong with any proof -/
theorem growCheck_any (ra O rb N : Int) (p : List Int) (a : Option Addr) (m cap : Nat) (w : World) (hr : Row w a m cap (ints p)) (hm : m ≤ 17592186043904) :
    Calls Tryd.prog 16 #[.int .i64 ra, .int .i64 O, .int .i64 rb, .int .i64 N, .slice a m cap] w fun e w' => e = .returned (.int .i64 (growE ra O rb N p : Nat)) ∧ Below w.heap.size w w' := by
  have hln : p.length = m := by rw [← hr.1, Lists.ints_length]
  have HR : Hid (Row w a m cap (ints p)) := hr
  clear hr
  obtain ⟨V1, HV1⟩ : ∃ V : Bool, Hid (Nums.valid ra = V) := ⟨_, rfl⟩
  obtain ⟨V2, HV2⟩ : ∃ V : Bool, Hid (Nums.valid rb = V) := ⟨_, rfl⟩
  obtain ⟨V3, HV3⟩ : ∃ V : Bool, Hid (Trees.allOk p = V) := ⟨_, rfl⟩
  obtain ⟨G, HG⟩ : ∃ G : Bool, Hid (inGrow O N 200 = G) := ⟨_, rfl⟩
  obtain ⟨C, HC⟩ : ∃ C : Nat, Hid (growE ra O rb N p = C) := ⟨_, rfl⟩
  rw [HC.out]
  have HCE : Hid (C = if G = true ∧ V1 = true ∧ V2 = true ∧ V3 = true then grownE ra rb O.toNat N.toNat p else 1) := by
    show _ = _
    rw [← HC.out, ← HG.out, ← HV1.out, ← HV2.out, ← HV3.out]; rfl
  go_enter Tryd.func16, Tryd.ntmps16
  go_wp2_with fail
  refine (WalkRef.valid_any _ _).mono ?_
  rintro e w8 ⟨rfl, rfl⟩
  go_wp2_with fail
  refine (WalkRef.valid_any _ _).mono ?_
  rintro e w8 ⟨rfl, rfl⟩
  go_wp2_with fail
  refine (WalkAllRef.all_long p a m cap _ hm HR.out).mono ?_
  rintro e w8 ⟨rfl, rfl⟩
  rw [HV1.out, HV2.out, HV3.out]
  by_cases hg : G = true
  case neg =>
    have HC1 : Hid (C = 1) := by have h := HCE.out; rw [if_neg (fun h => hg h.1)] at h; exact h
    have hex := inGrow_no (show inGrow O N 200 = false by rw [HG.out]; simpa using hg)
    clear HCE hg
    rcases hex with q1 | ⟨q1, q2⟩ | ⟨q1, q2, q3⟩
    all_goals
      go_wp2_with fail
      go_ret
      exact ⟨by rw [HC1.out]; rfl, Below.refl _ _⟩
  have hin : inGrow O N 200 = true := by rw [HG.out]; exact hg
  obtain ⟨o, n, hO, hN, h1, h2, h3⟩ := inGrow_of hin
  have q1 : ¬ O < 1 := by omega
  have q2 : ¬ N < O := by omega
  have q3 : ¬ (200 : Int) < N := by omega
  by_cases hv : V1 = true ∧ V2 = true ∧ V3 = true
  case neg =>
    have HC1 : Hid (C = 1) := by have h := HCE.out; rw [if_neg (fun h => hv h.2)] at h; exact h
    clear HCE hin hO hN
    cases V1
    · go_wp2_with fail
      go_ret
      exact ⟨by rw [HC1.out]; rfl, Below.refl _ _⟩
    cases V2
    · go_wp2_with fail
      go_ret
      exact ⟨by rw [HC1.out]; rfl, Below.refl _ _⟩
    cases V3
    · go_wp2_with fail
      go_ret
      exact ⟨by rw [HC1.out]; rfl, Below.refl _ _⟩
    · exact absurd ⟨rfl, rfl, rfl⟩ hv
  obtain ⟨rfl, rfl, rfl⟩ := hv
  have HC2 : Hid (C = grownE ra rb o n p) := by
    have h := HCE.out
    rw [if_pos ⟨hg, rfl, rfl, rfl⟩, hO, hN, Int.toNat_natCast, Int.toNat_natCast] at h
    exact h
  have cS := fun w => steps_any (n + 1) o n O N true w hO hN (Nat.lt_succ_self _) h1 h2 (by omega)
  have gl := Grows.gsteps_le o n true
  by_cases hl : p.length = gsteps o n true
  · have cU := grown_any (n + 1) p o n ra O N true a m cap w8 hO hN (Nat.lt_succ_self _) h1 h2 (by omega) (by omega) HR.out (Trees.allOk_mem HV3.out) HV1.out
    have HC3 : Hid (C = if oldOf ra o n p true = ra ∧ newOf ra o n p true = rb then 0 else 8) := by show _ = _; rw [HC2.out]; exact if_pos hl
    have hq : ((m : Int) != (gsteps o n true : Nat)) = false := by rw [← hl, hln]; simp
    generalize gsteps o n true = k at cS hq gl
    by_cases e1 : oldOf ra o n p true = ra
    · rw [e1] at cU
      have x1 : (ra != ra) = false := by simp
      by_cases e2 : newOf ra o n p true = rb
      · rw [e2] at cU
        have x2 : (rb != rb) = false := by simp
        have HC4 : Hid (C = 0) := by have h := HC3.out; rw [if_pos ⟨e1, e2⟩] at h; exact h
        clear HCE HC2 HC3 e1 e2 hl hln hin hO hN hg
        go_wp2_with fail
        refine (cS _).mono ?_
        rintro e w9 ⟨rfl, rfl⟩
        go_wp2_with fail
        refine cU.mono ?_
        rintro e w10 ⟨rfl, b10⟩
        clear cU
        go_wp2_with fail
        go_ret
        exact ⟨by rw [HC4.out]; rfl, b10⟩
      · have x2 : (newOf ra o n p true != rb) = true := by rw [bne_iff_ne]; exact e2
        have HC4 : Hid (C = 8) := by have h := HC3.out; rw [if_neg (fun h => e2 h.2)] at h; exact h
        generalize newOf ra o n p true = y at cU x2
        clear HCE HC2 HC3 e1 e2 hl hln hin hO hN hg
        go_wp2_with fail
        refine (cS _).mono ?_
        rintro e w9 ⟨rfl, rfl⟩
        go_wp2_with fail
        refine cU.mono ?_
        rintro e w10 ⟨rfl, b10⟩
        clear cU
        go_wp2_with fail
        go_ret
        exact ⟨by rw [HC4.out]; rfl, b10⟩
    · have x1 : (oldOf ra o n p true != ra) = true := by rw [bne_iff_ne]; exact e1
      have HC4 : Hid (C = 8) := by have h := HC3.out; rw [if_neg (fun h => e1 h.1)] at h; exact h
      generalize newOf ra o n p true = y at cU
      generalize oldOf ra o n p true = z at cU x1
      clear HCE HC2 HC3 e1 hl hln hin hO hN hg
      go_wp2_with fail
      refine (cS _).mono ?_
      rintro e w9 ⟨rfl, rfl⟩
      go_wp2_with fail
      refine cU.mono ?_
      rintro e w10 ⟨rfl, b10⟩
      clear cU
      go_wp2_with fail
      go_ret
      exact ⟨by rw [HC4.out]; rfl, b10⟩
  · have HC3 : Hid (C = 3) := by show _ = _; rw [HC2.out]; exact if_neg hl
    have hq : ((m : Int) != (gsteps o n true : Nat)) = true := by rw [bne_iff_ne]; omega
    generalize gsteps o n true = k at cS hq gl
    clear HCE HC2 hl hln hin hO hN hg
    go_wp2_with fail
    refine (cS _).mono ?_
    rintro e w9 ⟨rfl, rfl⟩
    go_wp2_with fail
    go_ret
    exact ⟨by rw [HC3.out]; rfl, Below.refl _ _⟩

end Go.Proofs.YthaibjidfgmdmahDoor.WalkGrowRef

