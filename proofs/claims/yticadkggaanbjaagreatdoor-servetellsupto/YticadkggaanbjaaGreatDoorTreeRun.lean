/-
  What the program's package tree returns on leafs: split, rootOf, Check, At, Root and Split.
-/
import Derived.Test.YticadkggaanbjaaGreatDoorMixRun
import Derived.Test.YticadkggaanbjaaGreatDoorGrowPlain
import Derived.Test.YticadkggaanbjaaGreatDoorListRows
import Derived.Lib.QuietBelow
import Derived.Lib.BitFns
import Derived.Lib.Walk
import Derived.Lib.Small
import Derived.Test.YticadkggaanbjaaGreatDoorRows
import Derived.WalkKit
namespace Go.Proofs.YticadkggaanbjaaGreatDoor.WalkTree
open Go.RowKit
open Lists (Row ints strs)
open Go.Sort (grow)

theorem len8_size : Lib.len8tab.size = 256 := by decide +kernel
theorem len8_tab : ∀ n : Fin 256, ((Lib.len8tab[n.val]'(by rw [len8_size]; exact n.isLt)).toNat) = Lib.bitLen n.val := by decide +kernel
theorem len8_at (x : Int) (h0 : 0 ≤ x) (h1 : x < 256) (h : x.toNat < Lib.len8tab.size) : wrap64 (wrap64 (Lib.len8tab[x.toNat].toNat : Int)) = (Lib.bitLen x.toNat : Int) := by
  have e := len8_tab ⟨x.toNat, by omega⟩
  have l := Lib.bitLen_le8' x h0 (by omega)
  simp only at e
  rw [e]
  simp only [wrap64]
  omega

set_option maxHeartbeats 4000000 in
set_option maxRecDepth 100000 in
theorem len64_small (x : Int) (w : World) (h0 : 0 ≤ x) (h1 : x < 256) :
    Calls Tryz.prog 200 #[.int .u64 x] w fun e w' => e = .returned (.int .i64 (Lib.bitLen x.toNat)) ∧ w' = w := by
  go_enter Tryz.func200, Tryz.ntmps200
  go_wp2
  go_ret
  exact ⟨congrArg Ending.returned (congrArg (Value.int IntKind.i64) (len8_at x h0 h1 _)), rfl⟩

theorem len_small (x : Int) (w : World) (h0 : 0 ≤ x) (h1 : x < 256) :
    Calls Tryz.prog 180 #[.int .u64 x] w fun e w' => e = .returned (.int .i64 (Lib.bitLen x.toNat)) ∧ w' = w := by
  go_enter Tryz.func180, Tryz.ntmps180
  go_wp2_with (go_at_call 200; refine (len64_small _ _ h0 h1).mono ?_; rintro e w' ⟨rfl, rfl⟩)
  go_ret
  exact ⟨rfl, rfl⟩

theorem bits_half : ∀ n : Fin 201, 2 ≤ n.val → 1 ≤ Lib.bitLen (n.val - 1) ∧ Lib.bitLen (n.val - 1) ≤ 8 ∧ 2 ^ (Lib.bitLen (n.val - 1) - 1) = Trees.half n.val := by decide +kernel

theorem split_any (n : Nat) (w : World) (h0 : 2 ≤ n) (h1 : n ≤ 200) :
    Calls Tryz.prog 162 #[.int .i64 (n : Int)] w fun e w' => e = .returned (.int .i64 (Trees.half n : Nat)) ∧ w' = w := by
  obtain ⟨b0, b1, b2⟩ := bits_half ⟨n, by omega⟩ h0
  go_enter Tryz.func162, Tryz.ntmps162
  go_wp2_with fail
  refine (len_small _ _ (by omega) (by omega)).mono ?_
  rintro e w' ⟨rfl, rfl⟩
  go_wp2_with fail
  go_ret
  refine ⟨congrArg Ending.returned (congrArg (Value.int IntKind.i64) ?_), rfl⟩
  have hl := Trees.half_lt n h0
  have e : ((2 : Int) ^ (Lib.bitLen (n - 1) - 1)) = (Trees.half n : Int) := by rw [← b2]; norm_cast
  rw [e]
  simp only [wrap64]
  omega

set_option maxHeartbeats 1000000 in
theorem rootOf_any : ∀ (f : Nat) (l : List Int) (a : Option Addr) (n cap : Nat) (w : World), n < f → n ≤ 200 → Row w a n cap (ints l) → (∀ x ∈ l, Nums.valid x = true) →
    Calls Tryz.prog 134 #[.slice a n cap] w fun e w' => e = .returned (.int .i64 (Trees.root l)) ∧ Below w.heap.size w w'
  | 0, _, _, _, _, _, h, _, _, _ => by omega
  | f + 1, l, a, n, cap, w, hf, hn, hr, hv => by
    have hln : l.length = n := by rw [← hr.1, Lists.ints_length]
    by_cases h0 : n = 0
    · have e := Trees.root_none l (by omega)
      subst h0
      rw [e]
      clear e hr hv hln hf hn
      go_enter Tryz.func134, Tryz.ntmps134
      go_wp2_with (go_at_call 98; refine (WalkSum.sum_any _ _ (by decide)).mono ?_; rintro e w' ⟨rfl, rfl⟩)
      go_ret
      exact ⟨rfl, Below.refl _ _⟩
    by_cases h1 : n = 1
    · have e := Trees.root_one l (by omega)
      subst h1
      obtain ⟨b, off, rfl, hc⟩ := hr.2.2 (by omega)
      have hc0 : w.cell? ⟨b, off, none⟩ = some (.int .i64 (l.getD 0 0)) := by
        have := hc 0 _ (Lists.ints_at (by omega))
        simpa using this
      rw [e]
      generalize l.getD 0 0 = x at hc0 ⊢
      clear e hr hv hln hf hn hc h0
      go_enter Tryz.func134, Tryz.ntmps134
      go_wp2_with fail
      go_ret
      exact ⟨rfl, Below.refl _ _⟩
    have h2 : 2 ≤ n := by omega
    obtain ⟨b, off, rfl, _⟩ := hr.2.2 (by omega)
    have kl := Trees.half_lt n h2
    have kp := Trees.half_pos n
    have e := Trees.root_more l (by omega)
    rw [hln] at e
    have cS := split_any n
    generalize Trees.half n = k at kl kp e cS
    have hcap := hr.2.1
    have hck : ¬ cap = k := by omega
    have r1 : Row w (some ⟨b, off, none⟩) k cap (ints (l.take k)) := by rw [Lists.ints_take]; exact hr.take k (by omega)
    have r2 : Row w (some ⟨b, off + k, none⟩) (n - k) (cap - k) (ints (l.drop k)) := by rw [Lists.ints_drop]; exact hr.drop k (by omega)
    have v1 : ∀ x ∈ l.take k, Nums.valid x = true := fun x hx => hv x (List.mem_of_mem_take hx)
    have v2 : ∀ x ∈ l.drop k, Nums.valid x = true := fun x hx => hv x (List.mem_of_mem_drop hx)
    have c1 : ∀ d os, Calls Tryz.prog 134 #[.slice (some ⟨b, off, none⟩) k cap] (grow (redrawn w d) os) fun e w'' => e = .returned (.int .i64 (Trees.root (l.take k))) ∧ ∃ p : Regrown, w'' = grow (redrawn w p.d) p.os :=
      fun d os => Calls.regrown_of (rootOf_any f (l.take k) _ k cap _ (by omega) (by omega) (r1.below (below_regrown w d os)) v1)
    have c2 : ∀ d os, Calls Tryz.prog 134 #[.slice (some ⟨b, off + k, none⟩) (n - k) (cap - k)] (grow (redrawn w d) os) fun e w'' => e = .returned (.int .i64 (Trees.root (l.drop k))) ∧ ∃ p : Regrown, w'' = grow (redrawn w p.d) p.os :=
      fun d os => Calls.regrown_of (rootOf_any f (l.drop k) _ (n - k) (cap - k) _ (by omega) (by omega) (r2.below (below_regrown w d os)) v2)
    have c3 : ∀ d os, Calls Tryz.prog 79 #[.int .i64 (Trees.root (l.take k)), .int .i64 (Trees.root (l.drop k))] (grow (redrawn w d) os) fun e w'' => e = .returned (.tuple #[.int .i64 (Trees.root l), .nilIface]) ∧ ∃ p : Regrown, w'' = grow (redrawn w p.d) p.os :=
      fun d os => Calls.regrown_of (by rw [e]; exact WalkMix.node_yes _ _ _ (Trees.root_valid _ v1) (Trees.root_valid _ v2))
    have i1 : (k : Int) ≤ (cap : Int) := by omega
    have i2 : (k : Int) ≤ (n : Int) := by omega
    clear e hr hv hln hf r1 r2 v1 v2
    go_enter Tryz.func134, Tryz.ntmps134
    go_wp2_with (go_at_call 162; refine (cS _ h2 hn).mono ?_; rintro e w' ⟨rfl, rfl⟩)
    refine wp_region_quiet_below (by kernel_rfl) (by kernel_rfl) ?_
    repeat (quiet_step (fail))
    quiet_step (exact c1 _ _)
    repeat (quiet_step (fail))
    quiet_step (exact c2 _ _)
    quiet_step (exact c3 _ _)
    repeat (quiet_step (fail))
    refine wpQuiet_nil ?_
    intro _ hw'
    obtain ⟨⟨dq, osq⟩, hw''⟩ := hw'
    subst hw''
    go_wp2_with fail
    go_ret
    exact ⟨rfl, below_regrown _ dq osq⟩

theorem rootOf_le (l : List Int) (a : Option Addr) (n cap : Nat) (w : World) (hn : n ≤ 200) (hr : Row w a n cap (ints l)) (hv : ∀ x ∈ l, Nums.valid x = true) :
    Calls Tryz.prog 134 #[.slice a n cap] w fun e w' => e = .returned (.int .i64 (Trees.root l)) ∧ Below w.heap.size w w' :=
  rootOf_any (n + 1) l a n cap w (Nat.lt_succ_self _) hn hr hv

end Go.Proofs.YticadkggaanbjaaGreatDoor.WalkTree

/-
  What the program's tree.Check, At, Root and Split return, for every argument.
-/
namespace Go.Proofs.YticadkggaanbjaaGreatDoor.WalkCheck
open Go.RowKit
open Lists (Row ints strs)

theorem notSum_any (n : Int) (w : World) :
    Calls Tryz.prog 138 #[.int .i64 n] w fun e w' => e = .returned (.bool (!Nums.valid n)) ∧ w' = w := by
  cases h : Nums.valid n
  · have hh : Hid (Nums.valid n = false) := h
    clear h
    go_enter Tryz.func138, Tryz.ntmps138
    go_wp2_with (go_at_call 71; refine (WalkMix.isSum_no _ _ hh.out).mono ?_; rintro e w' ⟨rfl, rfl⟩)
    go_ret
    exact ⟨rfl, rfl⟩
  · have hh : Hid (Nums.valid n = true) := h
    clear h
    go_enter Tryz.func138, Tryz.ntmps138
    go_wp2_with (go_at_call 71; refine (WalkMix.isSum_yes _ _ hh.out).mono ?_; rintro e w' ⟨rfl, rfl⟩)
    go_ret
    exact ⟨rfl, rfl⟩

set_option maxHeartbeats 1000000 in
theorem indexBad_any (l : List Int) (a : Option Addr) (n cap : Nat) (w : World) (hn : n ≤ 200) (hr : Row w a n cap (ints l)) :
    Calls Tryz.prog 126 #[.slice a n cap, .func (.func 138) #[] #[]] w fun e w' =>
      ∃ i : Int, e = .returned (.int .i64 i) ∧ (Trees.allOk l = true → i = -1) ∧ (Trees.allOk l = false → 0 ≤ i) ∧ w' = w := by
  have hln : l.length = n := by rw [← hr.1, Lists.ints_length]
  have HR : Hid (Row w a n cap (ints l)) := hr
  clear hr
  go_enter Tryz.func126, Tryz.ntmps126
  go_wp2_with fail
  go_loop [8] (fun i => ∃ k : Nat, k ≤ n ∧ i = .int .i64 k ∧ Hid (Trees.allOk (l.take k) = true)) (fun i => n - (intOf i).toNat)
  case atStart => exact ⟨0, Nat.zero_le _, rfl, rfl⟩
  case round =>
    obtain ⟨k, hk, rfl, HA⟩ := hrel
    by_cases hlt : k < n
    · obtain ⟨b, off, rfl, hc⟩ := HR.out.2.2 (by omega)
      have hcell := hc k _ (Lists.ints_at (by omega))
      clear hc
      have HS : Hid (Trees.allOk (l.take (k + 1)) = (Trees.allOk (l.take k) && Nums.valid (l.getD k 0))) := Trees.allOk_snoc l k (by omega)
      have HN : Hid (Nums.valid (l.getD k 0) = false → Trees.allOk l = false) := Trees.allOk_no l k (by omega)
      generalize l.getD k 0 = x at hcell HS HN
      cases hx : Nums.valid x
      · have hx' : Hid (Nums.valid x = false) := hx
        have hb : (!Nums.valid x) = true := by rw [hx]; rfl
        clear hx
        go_wp2_with (go_at_call 138; refine (notSum_any _ _).mono ?_; rintro e w' ⟨rfl, rfl⟩; rw [hb])
        go_ret
        exact ⟨_, rfl, fun h => (by rw [HN.out hx'.out] at h; cases h), fun _ => by omega, rfl⟩
      · have hx' : Hid (Nums.valid x = true) := hx
        have hb : (!Nums.valid x) = false := by rw [hx]; rfl
        clear hx
        go_wp2_with (go_at_call 138; refine (notSum_any _ _).mono ?_; rintro e w' ⟨rfl, rfl⟩; rw [hb])
        go_round
        case rel => exact ⟨k + 1, by omega, by go_num, by rw [HS.out, HA.out, hx'.out]; rfl⟩
        case measure => simp [intOf]; omega
    · go_wp2_with fail
      go_ret
      exact ⟨_, rfl, fun _ => rfl, fun h => (by rw [← hln] at hlt; have := HA.out; rw [List.take_of_length_le (by omega), h] at this; cases this), rfl⟩

theorem contains_any (l : List Int) (a : Option Addr) (n cap : Nat) (w : World) (hn : n ≤ 200) (hr : Row w a n cap (ints l)) :
    Calls Tryz.prog 72 #[.slice a n cap, .func (.func 138) #[] #[]] w fun e w' => e = .returned (.bool (!Trees.allOk l)) ∧ w' = w := by
  have HR : Hid (Row w a n cap (ints l)) := hr
  clear hr
  go_enter Tryz.func72, Tryz.ntmps72
  go_wp2_with fail
  refine (indexBad_any l a n cap w hn HR.out).mono ?_
  rintro e w' ⟨i, rfl, hy, hno, rfl⟩
  cases h : Trees.allOk l
  · have h0 := hno h
    have H : Hid (Trees.allOk l = false) := h
    clear hy hno h
    go_wp2_with fail
    go_ret
    exact ⟨by rw [H.out]; rfl, rfl⟩
  · have h0 := hy h
    subst h0
    have H : Hid (Trees.allOk l = true) := h
    clear hy hno h
    go_wp2_with fail
    go_ret
    exact ⟨by rw [H.out]; rfl, rfl⟩

/-- an error as the program hands it back: nil, or its number -/
def errv (e : Nat) : Value := if e = 0 then .nilIface else .iface 99 (.int .i64 e)
theorem errv0 : errv 0 = .nilIface := rfl
theorem errv_pos (e : Nat) (h : e ≠ 0) : errv e = .iface 99 (.int .i64 e) := if_neg h

theorem check_any (l : List Int) (a : Option Addr) (n cap : Nat) (w : World) (hr : Row w a n cap (ints l)) :
    Calls Tryz.prog 94 #[.slice a n cap] w fun e w' => e = .returned (errv (Trees.leafsE l)) ∧ w' = w := by
  have hln : l.length = n := by rw [← hr.1, Lists.ints_length]
  have HR : Hid (Row w a n cap (ints l)) := hr
  clear hr
  unfold Trees.leafsE
  rw [hln]
  by_cases h4 : 200 < n
  · rw [if_pos h4]
    go_enter Tryz.func94, Tryz.ntmps94
    go_wp2_with fail
    go_ret
    exact ⟨rfl, rfl⟩
  · rw [if_neg h4]
    have hn : n ≤ 200 := by omega
    cases ha : Trees.allOk l
    · go_enter Tryz.func94, Tryz.ntmps94
      go_wp2_with (go_at_call 72; refine (contains_any l a n cap _ hn HR.out).mono ?_; rintro e w' ⟨rfl, rfl⟩; rw [ha])
      go_ret
      exact ⟨rfl, rfl⟩
    · go_enter Tryz.func94, Tryz.ntmps94
      go_wp2_with (go_at_call 72; refine (contains_any l a n cap _ hn HR.out).mono ?_; rintro e w' ⟨rfl, rfl⟩; rw [ha])
      go_ret
      exact ⟨rfl, rfl⟩

set_option maxHeartbeats 1000000 in
theorem at_any (l : List Int) (a : Option Addr) (n cap : Nat) (fr to : Int) (w : World) (hr : Row w a n cap (ints l)) :
    Calls Tryz.prog 88 #[.slice a n cap, .int .i64 fr, .int .i64 to] w fun e w' => e = .returned (.tuple #[.int .i64 (Trees.atV l fr to), errv (Trees.atE l fr to)]) ∧ Below w.heap.size w w' := by
  have hln : l.length = n := by rw [← hr.1, Lists.ints_length]
  have HR : Hid (Row w a n cap (ints l)) := hr
  clear hr
  have cC := fun w1 (h : w1 = w) => check_any l a n cap w1 (by rw [h]; exact HR.out)
  unfold Trees.atV Trees.atE
  rw [hln]
  by_cases h0 : Trees.leafsE l = 0
  · rw [if_pos h0]
    rw [h0, errv0] at cC
    have ha : Trees.allOk l = true ∧ n ≤ 200 := by
      unfold Trees.leafsE at h0
      rw [hln] at h0
      split at h0
      · cases h0
      · split at h0
        · exact ⟨by assumption, by omega⟩
        · cases h0
    have HA : Hid (∀ x ∈ l, Nums.valid x = true) := Trees.allOk_mem ha.1
    have hn : n ≤ 200 := ha.2
    clear ha h0
    by_cases hb : fr < 0 ∨ to < fr ∨ (n : Int) < to
    · rw [show Trees.atBad n fr to = true from decide_eq_true hb]
      simp only [if_true, if_neg (show ¬ (1 : Nat) = 0 by decide)]
      by_cases h1 : fr < 0
      · clear hb
        go_enter Tryz.func88, Tryz.ntmps88
        go_wp2_with (go_at_call 94; refine (cC _ rfl).mono ?_; rintro e w' ⟨rfl, rfl⟩)
        go_ret2
        exact ⟨rfl, Below.refl _ _⟩
      · by_cases h2 : to < fr
        · clear hb
          go_enter Tryz.func88, Tryz.ntmps88
          go_wp2_with (go_at_call 94; refine (cC _ rfl).mono ?_; rintro e w' ⟨rfl, rfl⟩)
          go_ret2
          exact ⟨rfl, Below.refl _ _⟩
        · have h3 : (n : Int) < to := by omega
          clear hb
          go_enter Tryz.func88, Tryz.ntmps88
          go_wp2_with (go_at_call 94; refine (cC _ rfl).mono ?_; rintro e w' ⟨rfl, rfl⟩)
          go_ret2
          exact ⟨rfl, Below.refl _ _⟩
    · rw [show Trees.atBad n fr to = false from decide_eq_false hb]
      simp only [Bool.false_eq_true, if_false, if_true]
      obtain ⟨lo, rfl⟩ := Int.eq_ofNat_of_zero_le (show 0 ≤ fr by omega)
      obtain ⟨hi, rfl⟩ := Int.eq_ofNat_of_zero_le (show 0 ≤ to by omega)
      have h1 : ¬ (lo : Int) < 0 := by omega
      have h2 : ¬ (hi : Int) < (lo : Int) := by omega
      have h3 : ¬ (n : Int) < (hi : Int) := by omega
      have h4 : (lo : Int) ≤ (hi : Int) := by omega
      have h5 : (hi : Int) ≤ (cap : Int) := by have := HR.out.2.1; omega
      have HC : Hid (Row w (if cap = lo then a else a.map (·.add lo)) (hi - lo) (cap - lo) (ints ((l.take hi).drop lo))) := by
        rw [Lists.ints_drop, Lists.ints_take]; exact HR.out.cut lo hi (by omega) (by omega)
      have HV : Hid (∀ x ∈ (l.take hi).drop lo, Nums.valid x = true) := fun x hx => HA.out x (List.mem_of_mem_take (List.mem_of_mem_drop hx))
      have hm : hi - lo ≤ 200 := by omega
      rw [Int.toNat_natCast, Int.toNat_natCast]
      clear hb
      by_cases hcl : cap = lo
      · have HC' : Hid (Row w a (hi - lo) 0 (ints ((l.take hi).drop lo))) := by
          have h := HC.out
          rw [if_pos hcl, show cap - lo = 0 by omega] at h
          exact h
        clear HC
        subst hcl
        go_enter Tryz.func88, Tryz.ntmps88
        go_wp2_with (first
          | (go_at_call 94; refine (cC _ rfl).mono ?_; rintro e w' ⟨rfl, rfl⟩)
          | (go_at_call 134; refine (WalkTree.rootOf_le _ _ _ _ _ hm HC'.out HV.out).mono ?_; rintro e w1 ⟨rfl, b1⟩))
        go_ret2
        exact ⟨rfl, b1⟩
      · have HC' : Hid (Row w (a.map (·.add lo)) (hi - lo) (cap - lo) (ints ((l.take hi).drop lo))) := by
          have h := HC.out
          rw [if_neg hcl] at h
          exact h
        clear HC
        go_enter Tryz.func88, Tryz.ntmps88
        go_wp2_with (first
          | (go_at_call 94; refine (cC _ rfl).mono ?_; rintro e w' ⟨rfl, rfl⟩)
          | (go_at_call 134; refine (WalkTree.rootOf_le _ _ _ _ _ hm HC'.out HV.out).mono ?_; rintro e w1 ⟨rfl, b1⟩))
        go_ret2
        exact ⟨rfl, b1⟩
  · rw [if_neg h0, if_neg h0]
    rw [errv_pos _ h0] at cC
    rw [errv_pos _ h0]
    clear h0
    go_enter Tryz.func88, Tryz.ntmps88
    go_wp2_with (go_at_call 94; refine (cC _ rfl).mono ?_; rintro e w' ⟨rfl, rfl⟩)
    go_ret2
    exact ⟨rfl, Below.refl _ _⟩

theorem root_any (l : List Int) (a : Option Addr) (n cap : Nat) (w : World) (hr : Row w a n cap (ints l)) :
    Calls Tryz.prog 27 #[.slice a n cap] w fun e w' => e = .returned (.tuple #[.int .i64 (Trees.rootV l), errv (Trees.leafsE l)]) ∧ Below w.heap.size w w' := by
  have hln : l.length = n := by rw [← hr.1, Lists.ints_length]
  have cA := at_any l a n cap 0 (n : Int) w hr
  rw [← hln, Trees.atE_all, Trees.atV_all, hln] at cA
  clear hr
  go_enter Tryz.func27, Tryz.ntmps27
  go_wp2_with (go_at_call 88; refine cA.mono ?_; rintro e w1 ⟨rfl, b1⟩)
  go_ret2
  exact ⟨rfl, b1⟩

/-- where any number is parted -/
theorem split_yes (n : Nat) (w : World) (h0 : 2 ≤ n) (h1 : n ≤ 200) :
    Calls Tryz.prog 140 #[.int .i64 (n : Int)] w fun e w' => e = .returned (.tuple #[.int .i64 (Trees.half n : Nat), .nilIface]) ∧ w' = w := by
  go_enter Tryz.func140, Tryz.ntmps140
  go_wp2_with (go_at_call 162; refine (WalkTree.split_any _ _ h0 h1).mono ?_; rintro e w1 ⟨rfl, rfl⟩)
  go_ret2
  exact ⟨rfl, rfl⟩
theorem split_no (n : Int) (w : World) (h : ¬ (2 ≤ n ∧ n ≤ 200)) :
    Calls Tryz.prog 140 #[.int .i64 n] w fun e w' => e = .returned (.tuple #[.int .i64 0, errv 1]) ∧ w' = w := by
  by_cases h0 : n < 2
  · clear h
    go_enter Tryz.func140, Tryz.ntmps140
    go_wp2_with fail
    go_ret2
    exact ⟨rfl, rfl⟩
  · have h1 : 200 < n := by omega
    clear h
    go_enter Tryz.func140, Tryz.ntmps140
    go_wp2_with fail
    go_ret2
    exact ⟨rfl, rfl⟩

end Go.Proofs.YticadkggaanbjaaGreatDoor.WalkCheck

/-
  Where the program parts a number of leafs: tree.Split.
-/
namespace Go.Proofs.YticadkggaanbjaaGreatDoor.WalkSplit
open Go.RowKit

theorem len8_size : Lib.len8tab.size = 256 := by decide +kernel
theorem len8_tab : ∀ n : Fin 256, ((Lib.len8tab[n.val]'(by rw [len8_size]; exact n.isLt)).toNat) = Lib.bitLen n.val := by decide +kernel
theorem len8_at (x : Int) (h0 : 0 ≤ x) (h1 : x < 256) (h : x.toNat < Lib.len8tab.size) : wrap64 (wrap64 (Lib.len8tab[x.toNat].toNat : Int)) = (Lib.bitLen x.toNat : Int) := by
  have e := len8_tab ⟨x.toNat, by omega⟩
  have l := Lib.bitLen_le8' x h0 (by omega)
  simp only at e
  rw [e]
  simp only [wrap64]
  omega

set_option maxHeartbeats 4000000 in
set_option maxRecDepth 100000 in
theorem len64_small (x : Int) (w : World) (h0 : 0 ≤ x) (h1 : x < 256) :
    Calls Tryz.prog 200 #[.int .u64 x] w fun e w' => e = .returned (.int .i64 (Lib.bitLen x.toNat)) ∧ w' = w := by
  go_enter Tryz.func200, Tryz.ntmps200
  go_wp2
  go_ret
  exact ⟨congrArg Ending.returned (congrArg (Value.int IntKind.i64) (len8_at x h0 h1 _)), rfl⟩

theorem len_small (x : Int) (w : World) (h0 : 0 ≤ x) (h1 : x < 256) :
    Calls Tryz.prog 180 #[.int .u64 x] w fun e w' => e = .returned (.int .i64 (Lib.bitLen x.toNat)) ∧ w' = w := by
  go_enter Tryz.func180, Tryz.ntmps180
  go_wp2_with (go_at_call 200; refine (len64_small _ _ h0 h1).mono ?_; rintro e w' ⟨rfl, rfl⟩)
  go_ret
  exact ⟨rfl, rfl⟩

theorem bits_half : ∀ n : Fin 201, 2 ≤ n.val → 1 ≤ Lib.bitLen (n.val - 1) ∧ Lib.bitLen (n.val - 1) ≤ 8 ∧ 2 ^ (Lib.bitLen (n.val - 1) - 1) = Trees.half n.val := by decide +kernel

theorem split_any (n : Nat) (w : World) (h0 : 2 ≤ n) (h1 : n ≤ 200) :
    Calls Tryz.prog 162 #[.int .i64 (n : Int)] w fun e w' => e = .returned (.int .i64 (Trees.half n : Nat)) ∧ w' = w := by
  obtain ⟨b0, b1, b2⟩ := bits_half ⟨n, by omega⟩ h0
  go_enter Tryz.func162, Tryz.ntmps162
  go_wp2_with fail
  refine (len_small _ _ (by omega) (by omega)).mono ?_
  rintro e w' ⟨rfl, rfl⟩
  go_wp2_with fail
  go_ret
  refine ⟨congrArg Ending.returned (congrArg (Value.int IntKind.i64) ?_), rfl⟩
  have hl := Trees.half_lt n h0
  have e : ((2 : Int) ^ (Lib.bitLen (n - 1) - 1)) = (Trees.half n : Int) := by rw [← b2]; norm_cast
  rw [e]
  simp only [wrap64]
  omega

/-- where a number of leafs is parted -/
theorem split_yes (N : Int) (n : Nat) (w : World) (hN : N = n) (h0 : 2 ≤ n) (h1 : n ≤ 200) :
    Calls Tryz.prog 140 #[.int .i64 N] w fun e w' => e = .returned (.tuple #[.int .i64 (Trees.half n : Nat), .nilIface]) ∧ w' = w := by
  subst hN
  go_enter Tryz.func140, Tryz.ntmps140
  go_wp2_with (go_at_call 162; refine (split_any _ _ h0 h1).mono ?_; rintro e w1 ⟨rfl, rfl⟩)
  go_ret2
  exact ⟨rfl, rfl⟩

end Go.Proofs.YticadkggaanbjaaGreatDoor.WalkSplit

