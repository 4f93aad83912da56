/-
  What the law's own turn, step and meets return on a proof as long as it must be.
-/
import Derived.Test.YtibmgmadoaencabWalkStepsRef
import Derived.Test.YtibmgmadoaencabWalkMix
import Derived.Test.YtibmgmadoaencabTurns
namespace Go.Proofs.Ytibmgmadoaencab.WalkTurn
open Go.RowKit
open Lists (Row ints bt)
open Trees (half half_lt half_pos)
open Ways (turns steps up1 text1 meetsL)

set_option maxHeartbeats 1000000 in
theorem turn_any (i n k : Nat) (I N K : Int) (w : World) (hI : I = i) (hN : N = n) (hK : K = k) (hi : i < n) (hn : n ≤ 200) (hk : k < steps i n) :
    Calls Try.prog 28 #[.int .i64 I, .int .i64 N, .int .i64 K] w fun e w' => e = .returned (.bool ((turns i n).getD k false)) ∧ w' = w := by
  have cS := fun w => WalkStepsRef.steps_le i n I N w hI hN hi (by omega)
  have sl := Ways.steps_le _ i n (Nat.le_refl _)
  obtain ⟨T, HTT⟩ : ∃ T, Hid (turns i n = T) := ⟨_, rfl⟩
  have HT : Hid (T.length = steps i n) := by show _ = _; rw [← HTT.out]; rfl
  rw [HTT.out]
  generalize steps i n = L at cS sl HT hk
  have HI : Hid (I = i) := hI
  have HN : Hid (N = n) := hN
  have HK : Hid (K = k) := hK
  clear hI hN hK
  go_enter Try.func28, Try.ntmps28
  go_wp2_with fail
  refine (cS _).mono ?_
  rintro e w1 ⟨rfl, rfl⟩
  go_wp2_with fail
  go_loop [0, 1, 8, 9, 10] (fun a b l s _ => ∃ (i' n' c : Nat) (I' N' S : Int) (left : Bool), a = .int .i64 I' ∧ b = .int .i64 N' ∧ l = .bool left ∧ s = .int .i64 S ∧ Hid (I' = i' ∧ N' = n' ∧ S = (c : Int) - 1) ∧ i' < n' ∧ n' ≤ 200 ∧ c ≤ L ∧ k ≤ c ∧ Hid (turns i' n' = T.take c) ∧ Hid (c < L → T.getD c false = left)) (fun _ _ _ s _ => (intOf s + 1).toNat)
  case atStart => exact ⟨i, n, L, I, N, _, false, rfl, rfl, rfl, rfl, ⟨HI.out, HN.out, rfl⟩, hi, hn, Nat.le_refl _, by omega, by show _ = _; rw [HTT.out, List.take_of_length_le (by rw [HT.out]; exact Nat.le_refl _)], fun h => absurd h (by omega)⟩
  case round =>
    obtain ⟨i', n', c, I', N', S, left, rfl, rfl, rfl, rfl, HQ, hi', hn', hc, hkc, HTK, HLF⟩ := hrel
    have l2 : L ≤ 200 := by omega
    by_cases hlt : k < c
    · obtain ⟨d, rfl⟩ : ∃ d, c = d + 1 := ⟨c - 1, by omega⟩
      have i1 : K ≤ S := by have := HQ.out; have := HK.out; omega
      have i2 : 0 ≤ S := by have := HQ.out; omega
      have i3 : S ≤ 200 := by have := HQ.out; omega
      have h2 : 2 ≤ n' := by
        rcases Nat.lt_or_ge n' 2 with h | h
        · have e := congrArg List.length HTK.out
          rw [Ways.turns_one i' n' (by omega), List.length_take, HT.out] at e
          simp at e
          omega
        · exact h
      have kl := half_lt n' h2
      have kp := half_pos n'
      have cH := fun w => WalkStepsRef.half_int N' n' w HQ.out.2.1 h2 (by omega)
      have tl := Ways.turns_left i' n' h2
      have tr := Ways.turns_right i' n' h2
      have hTL : d + 1 ≤ T.length := by rw [HT.out]; exact hc
      generalize half n' = h at kl kp cH tl tr
      by_cases hh : i' < h
      · have HS : Hid (turns i' h = T.take d ∧ T.getD d false = false) := Turns.snoc_take hTL (by rw [← HTK.out, tl hh])
        have i4 : ¬ (h : Int) ≤ I' := by have := HQ.out; omega
        clear tl tr HLF
        go_wp2_with fail
        refine (cH _).mono ?_
        rintro e w2 ⟨rfl, rfl⟩
        go_wp2_with fail
        go_round
        case rel => exact ⟨i', h, d, I', (h : Int), S - 1, false, rfl, rfl, by first | rfl | (rw [decide_eq_false (by omega)]), by go_num, ⟨HQ.out.1, rfl, by have := HQ.out; omega⟩, hh, by omega, by omega, by omega, HS.out.1, fun _ => HS.out.2⟩
        case measure => simp [intOf]; omega
      · have HS : Hid (turns (i' - h) (n' - h) = T.take d ∧ T.getD d false = true) := Turns.snoc_take hTL (by rw [← HTK.out, tr hh])
        have i4 : (h : Int) ≤ I' := by have := HQ.out; omega
        have i5 : I' < N' := by have := HQ.out; omega
        have i6 : N' ≤ 200 := by have := HQ.out; omega
        clear tl tr HLF
        go_wp2_with fail
        refine (cH _).mono ?_
        rintro e w2 ⟨rfl, rfl⟩
        go_wp2_with fail
        go_round
        case rel => exact ⟨i' - h, n' - h, d, I' - (h : Int), N' - (h : Int), S - 1, true, by go_num, by go_num, by first | rfl | (rw [decide_eq_true (by omega)]), by go_num, ⟨by have := HQ.out; omega, by have := HQ.out; omega, by have := HQ.out; omega⟩, by omega, by omega, by omega, by omega, HS.out.1, fun _ => HS.out.2⟩
        case measure => simp [intOf]; omega
    · have i1 : ¬ K ≤ S := by have := HQ.out; have := HK.out; omega
      have HF : Hid (T.getD k false = left) := by
        have e : c = k := by omega
        rw [← e]
        exact HLF.out (by omega)
      go_wp2_with fail
      go_ret
      exact ⟨by (have e := HF.out); rw [List.getD_eq_getElem?_getD] at e; rw [e]; rfl, rfl⟩

theorem size_text (x y : Int) : (Nums.str (Nums.nodeBytes x y)).size ≤ maxLen := by rw [Nums.str_size, Nums.nodeBytes_length]; decide

set_option maxHeartbeats 1000000 in
theorem step_any (A : Int) (i n k : Nat) (I N K : Int) (p : List Int) (a : Option Addr) (m cap : Nat) (w : World) (hI : I = i) (hN : N = n) (hK : K = k) (hi : i < n) (hn : n ≤ 200) (hm : m = steps i n) (hk : k < m) (hr : Row w a m cap (ints p)) (hv : ∀ x ∈ p, Nums.valid x = true) (hA : Nums.valid A = true) :
    Calls Try.prog 14 #[.int .i64 A, .int .i64 I, .int .i64 N, .slice a m cap, .int .i64 K] w fun e w' =>
      e = .returned (.tuple #[.int .i64 (up1 A (p.getD k 0) ((turns i n).getD k false)), .string (Nums.str (text1 A (p.getD k 0) ((turns i n).getD k false)))]) ∧ Below w.heap.size w w' := by
  have hln : p.length = m := by rw [← hr.1, Lists.ints_length]
  obtain ⟨b, off, rfl, hc⟩ := hr.2.2 (by omega)
  have c4 := hc k _ (Lists.ints_at (by omega))
  have vy : Nums.valid (p.getD k 0) = true := hv _ (by rw [List.getD_eq_getElem?_getD, List.getElem?_eq_getElem (by omega)]; exact List.getElem_mem _)
  have cT := fun w => turn_any i n k I N K w hI hN hK hi hn (by omega)
  have ms := Ways.steps_le _ i n (Nat.le_refl _)
  have j0 : 0 ≤ K := by omega
  have j1 : K < (m : Int) := by omega
  have j2 : K.toNat = k := by omega
  have m2 : m ≤ 200 := by omega
  generalize p.getD k 0 = y at c4 vy ⊢
  generalize (turns i n).getD k false = t at cT ⊢
  clear hI hN hK hi hn hm hr hv hln hc ms hk
  cases t
  · have cN := fun w => WalkMix.nodeBytes_yes A y w hA vy
    have cS := fun w => WalkSum.sum_any (Nums.str (Nums.nodeBytes A y)) w (size_text A y)
    rw [Nums.str_data] at cS
    show Calls _ _ _ _ fun e w' => e = .returned (.tuple #[.int .i64 (Sums.sum (Nums.nodeBytes A y)), .string (Nums.str (Nums.nodeBytes A y))]) ∧ _
    generalize Nums.str (Nums.nodeBytes A y) = s at cN cS ⊢
    generalize Sums.sum (Nums.nodeBytes A y) = u at cS ⊢
    go_enter Try.func14, Try.ntmps14
    go_wp2_with fail
    refine (cT _).mono ?_
    rintro e w1 ⟨rfl, rfl⟩
    go_wp2_with fail
    refine (cN _).mono ?_
    rintro e w2 ⟨rfl, b2⟩
    go_wp2_with fail
    refine (cS _).mono ?_
    rintro e w3 ⟨rfl, rfl⟩
    go_wp2_with fail
    go_ret2
    exact ⟨rfl, b2⟩
  · have cN := fun w => WalkMix.nodeBytes_yes y A w vy hA
    have cS := fun w => WalkSum.sum_any (Nums.str (Nums.nodeBytes y A)) w (size_text y A)
    rw [Nums.str_data] at cS
    show Calls _ _ _ _ fun e w' => e = .returned (.tuple #[.int .i64 (Sums.sum (Nums.nodeBytes y A)), .string (Nums.str (Nums.nodeBytes y A))]) ∧ _
    generalize Nums.str (Nums.nodeBytes y A) = s at cN cS ⊢
    generalize Sums.sum (Nums.nodeBytes y A) = u at cS ⊢
    go_enter Try.func14, Try.ntmps14
    go_wp2_with fail
    refine (cT _).mono ?_
    rintro e w1 ⟨rfl, rfl⟩
    go_wp2_with fail
    refine (cN _).mono ?_
    rintro e w2 ⟨rfl, b2⟩
    go_wp2_with fail
    refine (cS _).mono ?_
    rintro e w3 ⟨rfl, rfl⟩
    go_wp2_with fail
    go_ret2
    exact ⟨rfl, b2⟩

theorem beq_text {x y : List UInt8} (h : x ≠ y) : ((Nums.str x).toList == (Nums.str y).toList) = false := by
  rw [beq_eq_false_iff_ne, Nums.str_toList, Nums.str_toList]; exact h

set_option maxHeartbeats 1000000 in
set_option maxRecDepth 100000 in
theorem meets_any (A B : Int) (i n fr : Nat) (I N K : Int) (p : List Int) (a : Option Addr) (m cap : Nat) (w : World) (hI : I = i) (hN : N = n) (hK : K = fr) (hi : i < n) (hn : n ≤ 200) (hm : m = steps i n) (hfr : fr ≤ m) (hr : Row w a m cap (ints p)) (hv : ∀ x ∈ p, Nums.valid x = true) (hA : Nums.valid A = true) (hB : Nums.valid B = true)
    (hM : meetsL A B (p.drop fr) ((turns i n).drop fr) = true) :
    Calls Try.prog 13 #[.int .i64 A, .int .i64 B, .int .i64 I, .int .i64 N, .slice a m cap, .int .i64 K] w fun e w' => e = .returned (.bool true) ∧ Below w.heap.size w w' := by
  have hln : p.length = m := by rw [← hr.1, Lists.ints_length]
  have ms := Ways.steps_le _ i n (Nat.le_refl _)
  have m2 : m ≤ 200 := by omega
  have htl : p.length = (turns i n).length := by rw [hln, hm]; rfl
  have cS := fun (A : Int) (k : Nat) (K : Int) (hK : K = k) (hk : k < m) (hA : Nums.valid A = true) (w1 : World) (b : Below w.heap.size w w1) => step_any A i n k I N K p a m cap w1 hI hN hK hi hn hm hk (hr.below b) hv hA
  generalize turns i n = T at cS hM htl
  have HM : Hid (meetsL A B (p.drop fr) (T.drop fr) = true) := hM
  have HA : Hid (Nums.valid A = true) := hA
  have HB : Hid (Nums.valid B = true) := hB
  have HK : Hid (K = fr) := hK
  have HTL : Hid (p.length = T.length) := htl
  have k0 : 0 ≤ K := by omega
  clear hI hN hK hr hv hA hB hM hm ms htl
  go_enter Try.func13, Try.ntmps13
  go_wp2_with fail
  go_loopw [0, 1, 13, 14, 15, 16, 17] (fun a b s _ _ _ _ wr => ∃ (X Y S : Int) (k : Nat), a = .int .i64 X ∧ b = .int .i64 Y ∧ s = .int .i64 S ∧ Hid (S = k) ∧ 0 ≤ S ∧ k ≤ m ∧ Hid (Nums.valid X = true ∧ Nums.valid Y = true) ∧ Hid (meetsL X Y (p.drop k) (T.drop k) = true) ∧ Below w.heap.size w wr) (fun _ _ s _ _ _ _ _ => m - (intOf s).toNat)
  case atStart => exact ⟨A, B, K, fr, rfl, rfl, rfl, HK, k0, hfr, ⟨HA.out, HB.out⟩, HM, Below.refl _ _⟩
  case round =>
    obtain ⟨X, Y, S, k, rfl, rfl, rfl, HS, s0, hk, HV, HMK, hb⟩ := hrel
    clear HM HA HB HK
    by_cases hlt : k < m
    · have i1 : S < (m : Int) := by have := HS.out; omega
      have st := Turns.meets_step (by omega) HTL.out HMK.out
      have c1 := cS X k S HS.out hlt HV.out.1
      have c2 := cS Y k S HS.out hlt HV.out.2
      have v1 := Ways.up1_valid X (p.getD k 0) (T.getD k false)
      have v2 := Ways.up1_valid Y (p.getD k 0) (T.getD k false)
      by_cases he : up1 X (p.getD k 0) (T.getD k false) = up1 Y (p.getD k 0) (T.getD k false)
      · rw [if_pos he] at st
        have q1 := beq_text st
        have q2 : (up1 X (p.getD k 0) (T.getD k false) == up1 Y (p.getD k 0) (T.getD k false)) = true := by rw [beq_iff_eq]; exact he
        generalize Nums.str (text1 X (p.getD k 0) (T.getD k false)) = s1 at c1 q1
        generalize Nums.str (text1 Y (p.getD k 0) (T.getD k false)) = s2 at c2 q1
        generalize up1 X (p.getD k 0) (T.getD k false) = u1 at c1 q2
        generalize up1 Y (p.getD k 0) (T.getD k false) = u2 at c2 q2
        clear st he v1 v2 cS
        go_wp2_with fail
        refine (c1 _ hb).mono ?_
        rintro e w2 ⟨rfl, b2⟩
        clear c1
        go_wp2_with fail
        refine (c2 _ (bt hb b2)).mono ?_
        rintro e w3 ⟨rfl, b3⟩
        clear c2
        go_wp2_with fail
        go_ret
        exact ⟨rfl, bt (bt hb b2) b3⟩
      · rw [if_neg he] at st
        have q2 : (up1 X (p.getD k 0) (T.getD k false) == up1 Y (p.getD k 0) (T.getD k false)) = false := by rw [beq_eq_false_iff_ne]; exact he
        have HST : Hid (meetsL (up1 X (p.getD k 0) (T.getD k false)) (up1 Y (p.getD k 0) (T.getD k false)) (p.drop (k + 1)) (T.drop (k + 1)) = true) := st
        have HVV : Hid (Nums.valid (up1 X (p.getD k 0) (T.getD k false)) = true ∧ Nums.valid (up1 Y (p.getD k 0) (T.getD k false)) = true) := ⟨v1, v2⟩
        generalize Nums.str (text1 X (p.getD k 0) (T.getD k false)) = s1 at c1
        generalize Nums.str (text1 Y (p.getD k 0) (T.getD k false)) = s2 at c2
        generalize up1 X (p.getD k 0) (T.getD k false) = u1 at c1 q2 HST HVV
        generalize up1 Y (p.getD k 0) (T.getD k false) = u2 at c2 q2 HST HVV
        clear st he v1 v2 cS
        go_wp2_with fail
        refine (c1 _ hb).mono ?_
        rintro e w2 ⟨rfl, b2⟩
        clear c1
        go_wp2_with fail
        refine (c2 _ (bt hb b2)).mono ?_
        rintro e w3 ⟨rfl, b3⟩
        clear c2
        have HB3 : Hid (Below w.heap.size w w3) := bt (bt hb b2) b3
        go_wp2_with fail
        go_roundw
        case rel => exact ⟨u1, u2, S + 1, k + 1, rfl, rfl, by go_num, (show S + 1 = ((k + 1 : Nat) : Int) by have := HS.out; omega), by omega, by omega, HVV, HST, HB3.out⟩
        case measure => simp [intOf]; have := HS.out; omega
    · exfalso
      have h := HMK.out
      rw [Turns.meets_end (by omega)] at h
      cases h

end Go.Proofs.Ytibmgmadoaencab.WalkTurn
