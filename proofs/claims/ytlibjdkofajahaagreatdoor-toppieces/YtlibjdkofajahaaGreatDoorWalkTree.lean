/-
  What the program's package tree returns on leafs: split, rootOf, Check, At, Root and Split.
-/
import Derived.Test.YtlibjdkofajahaaGreatDoorWalkMix
import Derived.Test.YtlibjdkofajahaaGreatDoorGrowPlain
import Derived.Test.YtlibjdkofajahaaGreatDoorListRows
import Derived.Lib.QuietBelow
import Derived.Lib.BitFns
import Derived.Lib.Walk
import Derived.Lib.Small
namespace Go.Proofs.YtlibjdkofajahaaGreatDoor.WalkTree
open Go.RowKit
open Lists (Row ints strs)
open Go.Sort (grow)

theorem len8_size : Lib.len8tab.size = 256 := by decide +kernel
theorem len8_tab : ∀ n : Fin 256, ((Lib.len8tab[n.val]'(by rw [len8_size]; exact n.isLt)).toNat) = Lib.bitLen n.val := by decide +kernel
theorem len8_at (x : Int) (h0 : 0 ≤ x) (h1 : x < 256) (h : x.toNat < Lib.len8tab.size) : wrap64 (wrap64 (Lib.len8tab[x.toNat].toNat : Int)) = (Lib.bitLen x.toNat : Int) := by
  have e := len8_tab ⟨x.toNat, by omega⟩
  have l := Lib.bitLen_le8' x h0 (by omega)
  simp only at e
  rw [e]
  simp only [wrap64]
  omega

set_option maxHeartbeats 4000000 in
set_option maxRecDepth 100000 in
theorem len64_small (x : Int) (w : World) (h0 : 0 ≤ x) (h1 : x < 256) :
    Calls Tryz.prog 102 #[.int .u64 x] w fun e w' => e = .returned (.int .i64 (Lib.bitLen x.toNat)) ∧ w' = w := by
  go_enter Tryz.func102, Tryz.ntmps102
  go_wp2
  go_ret
  exact ⟨congrArg Ending.returned (congrArg (Value.int IntKind.i64) (len8_at x h0 h1 _)), rfl⟩

theorem len_small (x : Int) (w : World) (h0 : 0 ≤ x) (h1 : x < 256) :
    Calls Tryz.prog 92 #[.int .u64 x] w fun e w' => e = .returned (.int .i64 (Lib.bitLen x.toNat)) ∧ w' = w := by
  go_enter Tryz.func92, Tryz.ntmps92
  go_wp2_with (go_at_call 102; refine (len64_small _ _ h0 h1).mono ?_; rintro e w' ⟨rfl, rfl⟩)
  go_ret
  exact ⟨rfl, rfl⟩

theorem bits_half : ∀ n : Fin 201, 2 ≤ n.val → 1 ≤ Lib.bitLen (n.val - 1) ∧ Lib.bitLen (n.val - 1) ≤ 8 ∧ 2 ^ (Lib.bitLen (n.val - 1) - 1) = Trees.half n.val := by decide +kernel

theorem split_any (n : Nat) (w : World) (h0 : 2 ≤ n) (h1 : n ≤ 200) :
    Calls Tryz.prog 85 #[.int .i64 (n : Int)] w fun e w' => e = .returned (.int .i64 (Trees.half n : Nat)) ∧ w' = w := by
  obtain ⟨b0, b1, b2⟩ := bits_half ⟨n, by omega⟩ h0
  go_enter Tryz.func85, Tryz.ntmps85
  go_wp2_with fail
  refine (len_small _ _ (by omega) (by omega)).mono ?_
  rintro e w' ⟨rfl, rfl⟩
  go_wp2_with fail
  go_ret
  refine ⟨congrArg Ending.returned (congrArg (Value.int IntKind.i64) ?_), rfl⟩
  have hl := Trees.half_lt n h0
  have e : ((2 : Int) ^ (Lib.bitLen (n - 1) - 1)) = (Trees.half n : Int) := by rw [← b2]; norm_cast
  rw [e]
  simp only [wrap64]
  omega

set_option maxHeartbeats 1000000 in
theorem rootOf_any : ∀ (f : Nat) (l : List Int) (a : Option Addr) (n cap : Nat) (w : World), n < f → n ≤ 200 → Row w a n cap (ints l) → (∀ x ∈ l, Nums.valid x = true) →
    Calls Tryz.prog 61 #[.slice a n cap] w fun e w' => e = .returned (.int .i64 (Trees.root l)) ∧ Below w.heap.size w w'
  | 0, _, _, _, _, _, h, _, _, _ => by omega
  | f + 1, l, a, n, cap, w, hf, hn, hr, hv => by
    have hln : l.length = n := by rw [← hr.1, Lists.ints_length]
    by_cases h0 : n = 0
    · have e := Trees.root_none l (by omega)
      subst h0
      rw [e]
      clear e hr hv hln hf hn
      go_enter Tryz.func61, Tryz.ntmps61
      go_wp2_with (go_at_call 39; refine (WalkSum.sum_any _ _ (by decide)).mono ?_; rintro e w' ⟨rfl, rfl⟩)
      go_ret
      exact ⟨rfl, Below.refl _ _⟩
    by_cases h1 : n = 1
    · have e := Trees.root_one l (by omega)
      subst h1
      obtain ⟨b, off, rfl, hc⟩ := hr.2.2 (by omega)
      have hc0 : w.cell? ⟨b, off, none⟩ = some (.int .i64 (l.getD 0 0)) := by
        have := hc 0 _ (Lists.ints_at (by omega))
        simpa using this
      rw [e]
      generalize l.getD 0 0 = x at hc0 ⊢
      clear e hr hv hln hf hn hc h0
      go_enter Tryz.func61, Tryz.ntmps61
      go_wp2_with fail
      go_ret
      exact ⟨rfl, Below.refl _ _⟩
    have h2 : 2 ≤ n := by omega
    obtain ⟨b, off, rfl, _⟩ := hr.2.2 (by omega)
    have kl := Trees.half_lt n h2
    have kp := Trees.half_pos n
    have e := Trees.root_more l (by omega)
    rw [hln] at e
    have cS := split_any n
    generalize Trees.half n = k at kl kp e cS
    have hcap := hr.2.1
    have hck : ¬ cap = k := by omega
    have r1 : Row w (some ⟨b, off, none⟩) k cap (ints (l.take k)) := by rw [Lists.ints_take]; exact hr.take k (by omega)
    have r2 : Row w (some ⟨b, off + k, none⟩) (n - k) (cap - k) (ints (l.drop k)) := by rw [Lists.ints_drop]; exact hr.drop k (by omega)
    have v1 : ∀ x ∈ l.take k, Nums.valid x = true := fun x hx => hv x (List.mem_of_mem_take hx)
    have v2 : ∀ x ∈ l.drop k, Nums.valid x = true := fun x hx => hv x (List.mem_of_mem_drop hx)
    have c1 : ∀ d os, Calls Tryz.prog 61 #[.slice (some ⟨b, off, none⟩) k cap] (grow (redrawn w d) os) fun e w'' => e = .returned (.int .i64 (Trees.root (l.take k))) ∧ ∃ p : Regrown, w'' = grow (redrawn w p.d) p.os :=
      fun d os => Calls.regrown_of (rootOf_any f (l.take k) _ k cap _ (by omega) (by omega) (r1.below (below_regrown w d os)) v1)
    have c2 : ∀ d os, Calls Tryz.prog 61 #[.slice (some ⟨b, off + k, none⟩) (n - k) (cap - k)] (grow (redrawn w d) os) fun e w'' => e = .returned (.int .i64 (Trees.root (l.drop k))) ∧ ∃ p : Regrown, w'' = grow (redrawn w p.d) p.os :=
      fun d os => Calls.regrown_of (rootOf_any f (l.drop k) _ (n - k) (cap - k) _ (by omega) (by omega) (r2.below (below_regrown w d os)) v2)
    have c3 : ∀ d os, Calls Tryz.prog 22 #[.int .i64 (Trees.root (l.take k)), .int .i64 (Trees.root (l.drop k))] (grow (redrawn w d) os) fun e w'' => e = .returned (.tuple #[.int .i64 (Trees.root l), .nilIface]) ∧ ∃ p : Regrown, w'' = grow (redrawn w p.d) p.os :=
      fun d os => Calls.regrown_of (by rw [e]; exact WalkMix.node_yes _ _ _ (Trees.root_valid _ v1) (Trees.root_valid _ v2))
    have i1 : (k : Int) ≤ (cap : Int) := by omega
    have i2 : (k : Int) ≤ (n : Int) := by omega
    clear e hr hv hln hf r1 r2 v1 v2
    go_enter Tryz.func61, Tryz.ntmps61
    go_wp2_with (go_at_call 85; refine (cS _ h2 hn).mono ?_; rintro e w' ⟨rfl, rfl⟩)
    refine wp_region_quiet_below (by kernel_rfl) (by kernel_rfl) ?_
    repeat (quiet_step (fail))
    quiet_step (exact c1 _ _)
    repeat (quiet_step (fail))
    quiet_step (exact c2 _ _)
    quiet_step (exact c3 _ _)
    repeat (quiet_step (fail))
    refine wpQuiet_nil ?_
    intro _ hw'
    obtain ⟨⟨dq, osq⟩, hw''⟩ := hw'
    subst hw''
    go_wp2_with fail
    go_ret
    exact ⟨rfl, below_regrown _ dq osq⟩

theorem rootOf_le (l : List Int) (a : Option Addr) (n cap : Nat) (w : World) (hn : n ≤ 200) (hr : Row w a n cap (ints l)) (hv : ∀ x ∈ l, Nums.valid x = true) :
    Calls Tryz.prog 61 #[.slice a n cap] w fun e w' => e = .returned (.int .i64 (Trees.root l)) ∧ Below w.heap.size w w' :=
  rootOf_any (n + 1) l a n cap w (Nat.lt_succ_self _) hn hr hv

end Go.Proofs.YtlibjdkofajahaaGreatDoor.WalkTree
