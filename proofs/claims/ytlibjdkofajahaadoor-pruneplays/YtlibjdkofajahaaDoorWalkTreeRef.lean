/-
  What the document's own answers (package witref1) return on trees: Half, All, Leafs, Node, Root, Data, Sums and same.
-/
import Derived.Test.YtlibjdkofajahaaDoorWalkRef
import Derived.Test.YtlibjdkofajahaaDoorTrees
import Derived.Test.YtlibjdkofajahaaDoorLists
import Derived.Lib.QuietBelow
import Derived.BigQuiet
namespace Go.Proofs.YtlibjdkofajahaaDoor.WalkTreeRef
open Go.RowKit
open Lists (Row ints strs bt)

theorem half_any (n : Nat) (w : World) (h0 : 2 ≤ n) (h1 : n ≤ 1000000) :
    Calls Tryd.prog 31 #[.int .i64 (n : Int)] w fun e w' => e = .returned (.int .i64 (Trees.half n : Nat)) ∧ w' = w := by
  go_enter Tryd.func31, Tryd.ntmps31
  go_wp2_with fail
  go_loop [3] (fun i => ∃ k : Nat, i = .int .i64 (k : Int) ∧ k < n ∧ 1 ≤ k ∧ Hid (∃ j : Nat, k = 2 ^ j)) (fun i => n - (intOf i).toNat)
  case atStart => exact ⟨1, rfl, by omega, by omega, 0, rfl⟩
  case round =>
    obtain ⟨k, rfl, hk, hk1, HP⟩ := hrel
    by_cases hlt : 2 * k < n
    · have i1 : 2 * (k : Int) < (n : Int) := by omega
      go_wp2_with fail
      go_round
      case rel =>
        refine ⟨2 * k, by go_num, hlt, by omega, ?_⟩
        obtain ⟨j, hj⟩ := HP.out
        exact ⟨j + 1, by rw [Nat.pow_succ, hj, Nat.mul_comm]⟩
      case measure => simp [intOf]; omega
    · have i1 : ¬ 2 * (k : Int) < (n : Int) := by omega
      have HH : Hid (Trees.half n = k) := by
        obtain ⟨j, hj⟩ := HP.out
        rw [hj]
        exact Trees.half_unique n j h0 (by omega) (by omega)
      go_wp2_with fail
      go_ret
      exact ⟨by rw [HH.out]; rfl, rfl⟩

set_option maxHeartbeats 1000000 in
theorem all_any (l : List Int) (a : Option Addr) (n cap : Nat) (w : World) (hn : n ≤ 1000000) (hr : Row w a n cap (ints l)) :
    Calls Tryd.prog 16 #[.slice a n cap] w fun e w' => e = .returned (.bool (Trees.allOk l)) ∧ w' = w := by
  have hln : l.length = n := by rw [← hr.1, Lists.ints_length]
  have HR : Hid (Row w a n cap (ints l)) := hr
  clear hr
  go_enter Tryd.func16, Tryd.ntmps16
  go_wp2_with fail
  go_loop [3] (fun i => ∃ k : Nat, k ≤ n ∧ i = .int .i64 k ∧ Hid (Trees.allOk (l.take k) = true)) (fun i => n - (intOf i).toNat)
  case atStart => exact ⟨0, Nat.zero_le _, rfl, rfl⟩
  case round =>
    obtain ⟨k, hk, rfl, HA⟩ := hrel
    by_cases hlt : k < n
    · obtain ⟨b, off, rfl, hc⟩ := HR.out.2.2 (by omega)
      have hcell := hc k _ (Lists.ints_at (by omega))
      clear hc
      have i1 : (k : Int) < (n : Int) := by omega
      have HS : Hid (Trees.allOk (l.take (k + 1)) = (Trees.allOk (l.take k) && Nums.valid (l.getD k 0))) := Trees.allOk_snoc l k (by omega)
      have HN : Hid (Nums.valid (l.getD k 0) = false → Trees.allOk l = false) := Trees.allOk_no l k (by omega)
      generalize l.getD k 0 = x at hcell HS HN
      cases hx : Nums.valid x
      · have hx' : Hid (Nums.valid x = false) := hx
        clear hx
        go_wp2_with (go_at_call 13; refine (WalkRef.valid_any _ _).mono ?_; rintro e w' ⟨rfl, rfl⟩; rw [hx'.out])
        go_ret
        exact ⟨by rw [HN.out hx'.out]; rfl, rfl⟩
      · have hx' : Hid (Nums.valid x = true) := hx
        clear hx
        go_wp2_with (go_at_call 13; refine (WalkRef.valid_any _ _).mono ?_; rintro e w' ⟨rfl, rfl⟩; rw [hx'.out])
        go_round
        case rel => exact ⟨k + 1, by omega, by go_num, (show Trees.allOk (l.take (k + 1)) = true by rw [HS.out, HA.out, hx'.out]; rfl)⟩
        case measure => simp [intOf]; omega
    · have i1 : ¬ (k : Int) < (n : Int) := by omega
      have HT : Hid (Trees.allOk l = true) := by have h := HA.out; rw [List.take_of_length_le (by omega)] at h; exact h
      go_wp2_with fail
      go_ret
      exact ⟨by rw [HT.out]; rfl, rfl⟩

theorem leafs_any (l : List Int) (a : Option Addr) (n cap : Nat) (w : World) (hr : Row w a n cap (ints l)) :
    Calls Tryd.prog 14 #[.slice a n cap] w fun e w' => e = .returned (.int .i64 (Trees.leafsE l : Nat)) ∧ w' = w := by
  have hln : l.length = n := by rw [← hr.1, Lists.ints_length]
  have HR : Hid (Row w a n cap (ints l)) := hr
  clear hr
  unfold Trees.leafsE
  rw [hln]
  by_cases h4 : 200 < n
  · rw [if_pos h4]
    go_enter Tryd.func14, Tryd.ntmps14
    go_wp2_with fail
    go_ret
    exact ⟨rfl, rfl⟩
  · rw [if_neg h4]
    cases ha : Trees.allOk l
    · go_enter Tryd.func14, Tryd.ntmps14
      go_wp2_with (go_at_call 16; refine (all_any l a n cap _ (by omega) HR.out).mono ?_; rintro e w' ⟨rfl, rfl⟩; rw [ha])
      go_ret
      exact ⟨rfl, rfl⟩
    · go_enter Tryd.func14, Tryd.ntmps14
      go_wp2_with (go_at_call 16; refine (all_any l a n cap _ (by omega) HR.out).mono ?_; rintro e w' ⟨rfl, rfl⟩; rw [ha])
      go_ret
      exact ⟨rfl, rfl⟩

theorem node_any (a b : Int) (w : World) (ha : Nums.valid a = true) (hb : Nums.valid b = true) :
    Calls Tryd.prog 33 #[.int .i64 a, .int .i64 b] w fun e w' => e = .returned (.int .i64 (Sums.sum (Nums.nodeBytes a b))) ∧ Below w.heap.size w w' := by
  have hs : (Nums.str (Nums.nodeBytes a b)).size ≤ maxLen := by rw [Nums.str_size, Nums.nodeBytes_length]; decide
  have hd := Nums.str_data (Nums.nodeBytes a b)
  go_enter Tryd.func33, Tryd.ntmps33
  go_wp2_with fail
  refine (WalkRef.nodeBytes_any a b _ ha hb).mono ?_
  rintro e w1 ⟨rfl, b1⟩
  go_wp2_with fail
  refine (WalkRef.sum_any _ _ hs).mono ?_
  rintro e w2 ⟨rfl, rfl⟩
  rw [hd]
  clear hs hd
  go_wp2_with fail
  go_ret
  exact ⟨rfl, b1⟩

set_option maxHeartbeats 1000000 in
theorem root_any : ∀ (f : Nat) (l : List Int) (a : Option Addr) (n cap : Nat) (w : World), n < f → n ≤ 1000000 → Row w a n cap (ints l) → (∀ x ∈ l, Nums.valid x = true) →
    Calls Tryd.prog 32 #[.slice a n cap] w fun e w' => e = .returned (.int .i64 (Trees.root l)) ∧ Below w.heap.size w w'
  | 0, _, _, _, _, _, h, _, _, _ => by omega
  | f + 1, l, a, n, cap, w, hf, hn, hr, hv => by
    have hln : l.length = n := by rw [← hr.1, Lists.ints_length]
    by_cases h0 : n = 0
    · have e := Trees.root_none l (by omega)
      subst h0
      rw [e]
      clear e hr hv hln hf hn
      go_enter Tryd.func32, Tryd.ntmps32
      go_wp2_with (go_at_call 42; refine (WalkRef.sum_any _ _ (by decide)).mono ?_; rintro e w' ⟨rfl, rfl⟩)
      go_ret
      exact ⟨rfl, Below.refl _ _⟩
    by_cases h1 : n = 1
    · have e := Trees.root_one l (by omega)
      subst h1
      obtain ⟨b, off, rfl, hc⟩ := hr.2.2 (by omega)
      have hc0 : w.cell? ⟨b, off, none⟩ = some (.int .i64 (l.getD 0 0)) := by
        have := hc 0 _ (Lists.ints_at (by omega))
        simpa using this
      rw [e]
      generalize l.getD 0 0 = x at hc0 ⊢
      clear e hr hv hln hf hn hc h0
      go_enter Tryd.func32, Tryd.ntmps32
      go_wp2_with fail
      go_ret
      exact ⟨rfl, Below.refl _ _⟩
    have h2 : 2 ≤ n := by omega
    obtain ⟨b, off, rfl, _⟩ := hr.2.2 (by omega)
    have kl := Trees.half_lt n h2
    have kp := Trees.half_pos n
    have e := Trees.root_more l (by omega)
    rw [hln] at e
    have cS := fun w => half_any n w h2 hn
    generalize Trees.half n = k at kl kp e cS
    have hcap := hr.2.1
    have hck : ¬ cap = k := by omega
    have r1 : Row w (some ⟨b, off, none⟩) k cap (ints (l.take k)) := by rw [Lists.ints_take]; exact hr.take k (by omega)
    have r2 : Row w (some ⟨b, off + k, none⟩) (n - k) (cap - k) (ints (l.drop k)) := by rw [Lists.ints_drop]; exact hr.drop k (by omega)
    have v1 : ∀ x ∈ l.take k, Nums.valid x = true := fun x hx => hv x (List.mem_of_mem_take hx)
    have v2 : ∀ x ∈ l.drop k, Nums.valid x = true := fun x hx => hv x (List.mem_of_mem_drop hx)
    have c1 := root_any f (l.take k) _ k cap w (by omega) (by omega) r1 v1
    have c2 := fun w1 (b1 : Below w.heap.size w w1) => root_any f (l.drop k) _ (n - k) (cap - k) w1 (by omega) (by omega) (r2.below b1) v2
    have c3 : ∀ w1, Calls Tryd.prog 33 #[.int .i64 (Trees.root (l.take k)), .int .i64 (Trees.root (l.drop k))] w1 fun e w'' => e = .returned (.int .i64 (Trees.root l)) ∧ Below w1.heap.size w1 w'' :=
      fun w1 => by rw [e]; exact node_any _ _ _ (Trees.root_valid _ v1) (Trees.root_valid _ v2)
    have i1 : (k : Int) ≤ (cap : Int) := by omega
    have i2 : (k : Int) ≤ (n : Int) := by omega
    have j0 : ¬ (n : Int) = 0 := by omega
    have j1 : ¬ (n : Int) = 1 := by omega
    clear e hr hv hln hf r1 r2 v1 v2
    go_enter Tryd.func32, Tryd.ntmps32
    go_wp2_with fail
    refine (cS _).mono ?_
    rintro e w' ⟨rfl, rfl⟩
    go_wp2_with fail
    refine c1.mono ?_
    rintro e w1 ⟨rfl, b1⟩
    go_wp2_with fail
    refine (c2 _ b1).mono ?_
    rintro e w2 ⟨rfl, b2⟩
    go_wp2_with fail
    refine (c3 _).mono ?_
    rintro e w3 ⟨rfl, b3⟩
    go_wp2_with fail
    go_ret
    exact ⟨rfl, bt (bt b1 b2) b3⟩
theorem root_le (l : List Int) (a : Option Addr) (n cap : Nat) (w : World) (hn : n ≤ 1000000) (hr : Row w a n cap (ints l)) (hv : ∀ x ∈ l, Nums.valid x = true) :
    Calls Tryd.prog 32 #[.slice a n cap] w fun e w' => e = .returned (.int .i64 (Trees.root l)) ∧ Below w.heap.size w w' :=
  root_any (n + 1) l a n cap w (Nat.lt_succ_self _) hn hr hv

end Go.Proofs.YtlibjdkofajahaaDoor.WalkTreeRef
