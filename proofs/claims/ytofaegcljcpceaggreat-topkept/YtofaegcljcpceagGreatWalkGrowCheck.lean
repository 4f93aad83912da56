/-
  What the program's grow.Check returns, for every two roots, two sizes and proof.
-/
import Derived.Test.YtofaegcljcpceagGreatWalkGrowFrom
import Derived.Test.YtofaegcljcpceagGreatErrs
namespace Go.Proofs.YtofaegcljcpceagGreat.WalkGrowCheck
open Go.RowKit
open Lists (Row ints bt)
open WalkGrowClimb (within_any)
open Errs (errv errv0 errv_pos)
open GrowsE (inGrow inGrow_of growE)
open Grows (gsteps oldOf newOf grownE)

theorem notSum_any (n : Int) (w : World) :
    Calls Tryz.prog 43 #[.int .i64 n] w fun e w' => e = .returned (.bool (!Nums.valid n)) ∧ w' = w := by
  cases h : Nums.valid n
  · have hh : Hid (Nums.valid n = false) := h
    clear h
    go_enter Tryz.func43, Tryz.ntmps43
    go_wp2_with (go_at_call 41; refine (WalkMix.isSum_no _ _ hh.out).mono ?_; rintro e w' ⟨rfl, rfl⟩)
    go_ret
    exact ⟨rfl, rfl⟩
  · have hh : Hid (Nums.valid n = true) := h
    clear h
    go_enter Tryz.func43, Tryz.ntmps43
    go_wp2_with (go_at_call 41; refine (WalkMix.isSum_yes _ _ hh.out).mono ?_; rintro e w' ⟨rfl, rfl⟩)
    go_ret
    exact ⟨rfl, rfl⟩

set_option maxHeartbeats 1000000 in
theorem indexBad_any (l : List Int) (a : Option Addr) (n cap : Nat) (w : World) (hn : n ≤ 17592186043904) (hr : Row w a n cap (ints l)) :
    Calls Tryz.prog 79 #[.slice a n cap, .func (.func 43) #[] #[]] w fun e w' =>
      ∃ i : Int, e = .returned (.int .i64 i) ∧ (Trees.allOk l = true → i = -1) ∧ (Trees.allOk l = false → 0 ≤ i) ∧ w' = w := by
  have hln : l.length = n := by rw [← hr.1, Lists.ints_length]
  have HR : Hid (Row w a n cap (ints l)) := hr
  clear hr
  go_enter Tryz.func79, Tryz.ntmps79
  go_wp2_with fail
  go_loop [8] (fun i => ∃ k : Nat, k ≤ n ∧ i = .int .i64 k ∧ Hid (Trees.allOk (l.take k) = true)) (fun i => n - (intOf i).toNat)
  case atStart => exact ⟨0, Nat.zero_le _, rfl, rfl⟩
  case round =>
    obtain ⟨k, hk, rfl, HA⟩ := hrel
    by_cases hlt : k < n
    · obtain ⟨b, off, rfl, hc⟩ := HR.out.2.2 (by omega)
      have hcell := hc k _ (Lists.ints_at (by omega))
      clear hc
      have HS : Hid (Trees.allOk (l.take (k + 1)) = (Trees.allOk (l.take k) && Nums.valid (l.getD k 0))) := Trees.allOk_snoc l k (by omega)
      have HN : Hid (Nums.valid (l.getD k 0) = false → Trees.allOk l = false) := Trees.allOk_no l k (by omega)
      generalize l.getD k 0 = x at hcell HS HN
      cases hx : Nums.valid x
      · have hx' : Hid (Nums.valid x = false) := hx
        have hb : (!Nums.valid x) = true := by rw [hx]; rfl
        clear hx
        go_wp2_with (go_at_call 43; refine (notSum_any _ _).mono ?_; rintro e w' ⟨rfl, rfl⟩; rw [hb])
        go_ret
        exact ⟨_, rfl, fun h => (by rw [HN.out hx'.out] at h; cases h), fun _ => by omega, rfl⟩
      · have hx' : Hid (Nums.valid x = true) := hx
        have hb : (!Nums.valid x) = false := by rw [hx]; rfl
        clear hx
        go_wp2_with (go_at_call 43; refine (notSum_any _ _).mono ?_; rintro e w' ⟨rfl, rfl⟩; rw [hb])
        go_round
        case rel => exact ⟨k + 1, by omega, by go_num, by rw [HS.out, HA.out, hx'.out]; rfl⟩
        case measure => simp [intOf]; omega
    · go_wp2_with fail
      go_ret
      exact ⟨_, rfl, fun _ => rfl, fun h => (by rw [← hln] at hlt; have := HA.out; rw [List.take_of_length_le (by omega), h] at this; cases this), rfl⟩

theorem contains_any (l : List Int) (a : Option Addr) (n cap : Nat) (w : World) (hn : n ≤ 17592186043904) (hr : Row w a n cap (ints l)) :
    Calls Tryz.prog 42 #[.slice a n cap, .func (.func 43) #[] #[]] w fun e w' => e = .returned (.bool (!Trees.allOk l)) ∧ w' = w := by
  have HR : Hid (Row w a n cap (ints l)) := hr
  clear hr
  go_enter Tryz.func42, Tryz.ntmps42
  go_wp2_with fail
  refine (indexBad_any l a n cap w hn HR.out).mono ?_
  rintro e w' ⟨i, rfl, hy, hno, rfl⟩
  cases h : Trees.allOk l
  · have h0 := hno h
    have H : Hid (Trees.allOk l = false) := h
    clear hy hno h
    go_wp2_with fail
    go_ret
    exact ⟨by rw [H.out]; rfl, rfl⟩
  · have h0 := hy h
    subst h0
    have H : Hid (Trees.allOk l = true) := h
    clear hy hno h
    go_wp2_with fail
    go_ret
    exact ⟨by rw [H.out]; rfl, rfl⟩

theorem check_range (ra O rb N : Int) (p : List Int) (a : Option Addr) (m cap : Nat) (w : World) (h : inGrow O N 200 = false) :
    Calls Tryz.prog 16 #[.int .i64 ra, .int .i64 O, .int .i64 rb, .int .i64 N, .slice a m cap] w fun e w' => e = .returned (errv (growE ra O rb N p)) ∧ Below w.heap.size w w' := by
  rw [show growE ra O rb N p = 1 by unfold growE; rw [if_neg (by rw [h]; simp)], errv_pos 1 (by decide)]
  go_enter Tryz.func16, Tryz.ntmps16
  go_wp2_with fail
  refine (within_any _ _ _ _).mono ?_
  rintro e w1 ⟨rfl, rfl⟩
  rw [h]
  go_wp2_with fail
  go_ret
  exact ⟨rfl, Below.refl _ _⟩

set_option maxHeartbeats 1000000 in
set_option maxRecDepth 100000 in
theorem check_bad (ra O rb N : Int) (p : List Int) (a : Option Addr) (m cap : Nat) (w : World) (hr : Row w a m cap (ints p)) (hm : m ≤ 17592186043904) (h : inGrow O N 200 = true) (hb : ¬ (Nums.valid ra = true ∧ Nums.valid rb = true ∧ Trees.allOk p = true)) :
    Calls Tryz.prog 16 #[.int .i64 ra, .int .i64 O, .int .i64 rb, .int .i64 N, .slice a m cap] w fun e w' => e = .returned (errv (growE ra O rb N p)) ∧ Below w.heap.size w w' := by
  rw [show growE ra O rb N p = 1 by unfold growE; rw [if_neg (fun k => hb k.2)], errv_pos 1 (by decide)]
  cases h1 : Nums.valid ra
  · have H1 : Hid (Nums.valid ra = false) := h1
    clear h1 hb hr
    go_enter Tryz.func16, Tryz.ntmps16
    go_wp2_with fail
    refine (within_any _ _ _ _).mono ?_
    rintro e w1 ⟨rfl, rfl⟩
    rw [h]
    go_wp2_with fail
    refine (WalkMix.isSum_no _ _ H1.out).mono ?_
    rintro e w2 ⟨rfl, rfl⟩
    go_wp2_with fail
    go_ret
    exact ⟨rfl, Below.refl _ _⟩
  cases h2 : Nums.valid rb
  · have H1 : Hid (Nums.valid ra = true) := h1
    have H2 : Hid (Nums.valid rb = false) := h2
    clear h1 h2 hb hr
    go_enter Tryz.func16, Tryz.ntmps16
    go_wp2_with fail
    refine (within_any _ _ _ _).mono ?_
    rintro e w1 ⟨rfl, rfl⟩
    rw [h]
    go_wp2_with fail
    refine (WalkMix.isSum_yes _ _ H1.out).mono ?_
    rintro e w2 ⟨rfl, rfl⟩
    go_wp2_with fail
    refine (WalkMix.isSum_no _ _ H2.out).mono ?_
    rintro e w2 ⟨rfl, rfl⟩
    go_wp2_with fail
    go_ret
    exact ⟨rfl, Below.refl _ _⟩
  · have h3 : Trees.allOk p = false := by
      cases h3 : Trees.allOk p
      · rfl
      · exact absurd ⟨h1, h2, h3⟩ hb
    have H1 : Hid (Nums.valid ra = true) := h1
    have H2 : Hid (Nums.valid rb = true) := h2
    have H3 : Hid (Trees.allOk p = false) := h3
    have HR : Hid (Row w a m cap (ints p)) := hr
    clear h1 h2 h3 hb hr
    go_enter Tryz.func16, Tryz.ntmps16
    go_wp2_with fail
    refine (within_any _ _ _ _).mono ?_
    rintro e w1 ⟨rfl, rfl⟩
    rw [h]
    go_wp2_with fail
    refine (WalkMix.isSum_yes _ _ H1.out).mono ?_
    rintro e w2 ⟨rfl, rfl⟩
    go_wp2_with fail
    refine (WalkMix.isSum_yes _ _ H2.out).mono ?_
    rintro e w2 ⟨rfl, rfl⟩
    go_wp2_with fail
    refine (contains_any p a m cap _ hm HR.out).mono ?_
    rintro e w2 ⟨rfl, rfl⟩
    rw [H3.out]
    go_wp2_with fail
    go_ret
    exact ⟨rfl, Below.refl _ _⟩

set_option maxHeartbeats 1000000 in
set_option maxRecDepth 100000 in
theorem check_good (ra O rb N : Int) (p : List Int) (a : Option Addr) (m cap : Nat) (w : World) (hr : Row w a m cap (ints p)) (hm : m ≤ 17592186043904) (h : inGrow O N 200 = true) (h1 : Nums.valid ra = true) (h2 : Nums.valid rb = true) (h3 : Trees.allOk p = true) :
    Calls Tryz.prog 16 #[.int .i64 ra, .int .i64 O, .int .i64 rb, .int .i64 N, .slice a m cap] w fun e w' => e = .returned (errv (growE ra O rb N p)) ∧ Below w.heap.size w w' := by
  have hln : p.length = m := by rw [← hr.1, Lists.ints_length]
  obtain ⟨o, n, hO, hN, q1, q2, q3⟩ := inGrow_of h
  have n2 : n ≤ 200 := by omega
  have e0 : growE ra O rb N p = grownE ra rb o n p := GrowsE.growE_is hO hN q1 q2 n2 h1 h2 (Trees.allOk_mem h3)
  rw [e0]
  unfold grownE
  have cS := WalkGrowClimb.steps_any o n O N w hO hN q1 q2 n2
  have H1 : Hid (Nums.valid ra = true) := h1
  have H2 : Hid (Nums.valid rb = true) := h2
  have H3 : Hid (Trees.allOk p = true) := h3
  have HR : Hid (Row w a m cap (ints p)) := hr
  have sl := Grows.gsteps_le o n true
  by_cases hl : p.length = gsteps o n true
  · rw [if_pos hl]
    have cF := fun w1 (b1 : Below w.heap.size w w1) => WalkGrowFrom.rootsFrom_any o n O N ra p a m cap w1 hO hN q1 q2 n2 (by omega) (hr.below b1) (Trees.allOk_mem h3) h1
    have hq : ((m : Int) != (gsteps o n true : Nat)) = false := by rw [← hl, hln]; simp
    generalize gsteps o n true = k at cS hq sl
    clear h1 h2 h3 hr e0 hO hN hl hln q1 q2 q3
    generalize oldOf ra o n p true = A at cF ⊢
    generalize newOf ra o n p true = B at cF ⊢
    by_cases hA : A = ra
    · by_cases hB : B = rb
      · rw [if_pos ⟨hA, hB⟩, errv0]
        have x1 : (A != ra) = false := by rw [hA]; simp
        have x2 : (B != rb) = false := by rw [hB]; simp
        clear hA hB
        go_enter Tryz.func16, Tryz.ntmps16
        go_wp2_with fail
        refine (within_any _ _ _ _).mono ?_
        rintro e w1 ⟨rfl, rfl⟩
        rw [h]
        go_wp2_with fail
        refine (WalkMix.isSum_yes _ _ H1.out).mono ?_
        rintro e w2 ⟨rfl, rfl⟩
        go_wp2_with fail
        refine (WalkMix.isSum_yes _ _ H2.out).mono ?_
        rintro e w2 ⟨rfl, rfl⟩
        go_wp2_with fail
        refine (contains_any p a m cap _ hm HR.out).mono ?_
        rintro e w2 ⟨rfl, rfl⟩
        rw [H3.out]
        go_wp2_with fail
        refine cS.mono ?_
        rintro e w2 ⟨rfl, b1⟩
        go_wp2_with fail
        refine (cF _ b1).mono ?_
        rintro e w3 ⟨rfl, b3⟩
        clear cF cS
        go_wp2_with fail
        go_ret
        exact ⟨rfl, bt b1 b3⟩
      · rw [if_neg (fun k => hB k.2), errv_pos 8 (by decide)]
        have x1 : (A != ra) = false := by rw [hA]; simp
        have x2 : (B != rb) = true := by rw [bne_iff_ne]; exact hB
        clear hA hB
        go_enter Tryz.func16, Tryz.ntmps16
        go_wp2_with fail
        refine (within_any _ _ _ _).mono ?_
        rintro e w1 ⟨rfl, rfl⟩
        rw [h]
        go_wp2_with fail
        refine (WalkMix.isSum_yes _ _ H1.out).mono ?_
        rintro e w2 ⟨rfl, rfl⟩
        go_wp2_with fail
        refine (WalkMix.isSum_yes _ _ H2.out).mono ?_
        rintro e w2 ⟨rfl, rfl⟩
        go_wp2_with fail
        refine (contains_any p a m cap _ hm HR.out).mono ?_
        rintro e w2 ⟨rfl, rfl⟩
        rw [H3.out]
        go_wp2_with fail
        refine cS.mono ?_
        rintro e w2 ⟨rfl, b1⟩
        go_wp2_with fail
        refine (cF _ b1).mono ?_
        rintro e w3 ⟨rfl, b3⟩
        clear cF cS
        go_wp2_with fail
        go_ret
        exact ⟨rfl, bt b1 b3⟩
    · rw [if_neg (fun k => hA k.1), errv_pos 8 (by decide)]
      have x1 : (A != ra) = true := by rw [bne_iff_ne]; exact hA
      clear hA
      go_enter Tryz.func16, Tryz.ntmps16
      go_wp2_with fail
      refine (within_any _ _ _ _).mono ?_
      rintro e w1 ⟨rfl, rfl⟩
      rw [h]
      go_wp2_with fail
      refine (WalkMix.isSum_yes _ _ H1.out).mono ?_
      rintro e w2 ⟨rfl, rfl⟩
      go_wp2_with fail
      refine (WalkMix.isSum_yes _ _ H2.out).mono ?_
      rintro e w2 ⟨rfl, rfl⟩
      go_wp2_with fail
      refine (contains_any p a m cap _ hm HR.out).mono ?_
      rintro e w2 ⟨rfl, rfl⟩
      rw [H3.out]
      go_wp2_with fail
      refine cS.mono ?_
      rintro e w2 ⟨rfl, b1⟩
      go_wp2_with fail
      refine (cF _ b1).mono ?_
      rintro e w3 ⟨rfl, b3⟩
      clear cF cS
      go_wp2_with fail
      go_ret
      exact ⟨rfl, bt b1 b3⟩
  · rw [if_neg hl, errv_pos 3 (by decide)]
    have hq : ((m : Int) != (gsteps o n true : Nat)) = true := by rw [bne_iff_ne]; omega
    generalize gsteps o n true = k at cS hq sl
    clear h1 h2 h3 hr e0 hO hN hl hln q1 q2 q3
    go_enter Tryz.func16, Tryz.ntmps16
    go_wp2_with fail
    refine (within_any _ _ _ _).mono ?_
    rintro e w1 ⟨rfl, rfl⟩
    rw [h]
    go_wp2_with fail
    refine (WalkMix.isSum_yes _ _ H1.out).mono ?_
    rintro e w2 ⟨rfl, rfl⟩
    go_wp2_with fail
    refine (WalkMix.isSum_yes _ _ H2.out).mono ?_
    rintro e w2 ⟨rfl, rfl⟩
    go_wp2_with fail
    refine (contains_any p a m cap _ hm HR.out).mono ?_
    rintro e w2 ⟨rfl, rfl⟩
    rw [H3.out]
    go_wp2_with fail
    refine cS.mono ?_
    rintro e w2 ⟨rfl, b1⟩
    go_wp2_with fail
    go_ret
    exact ⟨rfl, b1⟩

/-- what the program says of any proof -/
theorem check_any (ra O rb N : Int) (p : List Int) (a : Option Addr) (m cap : Nat) (w : World) (hr : Row w a m cap (ints p)) (hm : m ≤ 17592186043904) :
    Calls Tryz.prog 16 #[.int .i64 ra, .int .i64 O, .int .i64 rb, .int .i64 N, .slice a m cap] w fun e w' => e = .returned (errv (growE ra O rb N p)) ∧ Below w.heap.size w w' := by
  cases h : inGrow O N 200
  · exact check_range ra O rb N p a m cap w h
  · by_cases hb : Nums.valid ra = true ∧ Nums.valid rb = true ∧ Trees.allOk p = true
    · exact check_good ra O rb N p a m cap w hr hm h hb.1 hb.2.1 hb.2.2
    · exact check_bad ra O rb N p a m cap w hr hm h hb

end Go.Proofs.YtofaegcljcpceagGreat.WalkGrowCheck
