/-
  What the program's proof.Check returns, for every root, size, place, sum and proof.
-/
import Derived.Test.YtlibjdkofajahaaDoorWalkFrom
namespace Go.Proofs.YtlibjdkofajahaaDoor.WalkProofCheck
open Go.RowKit
open Lists (Row ints bt)
open WalkSteps (inside)
open WalkCheck (errv errv0 errv_pos)

theorem notSum_any (n : Int) (w : World) :
    Calls Tryd.prog 40 #[.int .i64 n] w fun e w' => e = .returned (.bool (!Nums.valid n)) ∧ w' = w := by
  cases h : Nums.valid n
  · have hh : Hid (Nums.valid n = false) := h
    clear h
    go_enter Tryd.func40, Tryd.ntmps40
    go_wp2_with (go_at_call 22; refine (WalkMix.isSum_no _ _ hh.out).mono ?_; rintro e w' ⟨rfl, rfl⟩)
    go_ret
    exact ⟨rfl, rfl⟩
  · have hh : Hid (Nums.valid n = true) := h
    clear h
    go_enter Tryd.func40, Tryd.ntmps40
    go_wp2_with (go_at_call 22; refine (WalkMix.isSum_yes _ _ hh.out).mono ?_; rintro e w' ⟨rfl, rfl⟩)
    go_ret
    exact ⟨rfl, rfl⟩

set_option maxHeartbeats 1000000 in
theorem indexBad_any (l : List Int) (a : Option Addr) (n cap : Nat) (w : World) (hn : n ≤ 17592186043904) (hr : Row w a n cap (ints l)) :
    Calls Tryd.prog 51 #[.slice a n cap, .func (.func 40) #[] #[]] w fun e w' =>
      ∃ i : Int, e = .returned (.int .i64 i) ∧ (Trees.allOk l = true → i = -1) ∧ (Trees.allOk l = false → 0 ≤ i) ∧ w' = w := by
  have hln : l.length = n := by rw [← hr.1, Lists.ints_length]
  have HR : Hid (Row w a n cap (ints l)) := hr
  clear hr
  go_enter Tryd.func51, Tryd.ntmps51
  go_wp2_with fail
  go_loop [8] (fun i => ∃ k : Nat, k ≤ n ∧ i = .int .i64 k ∧ Hid (Trees.allOk (l.take k) = true)) (fun i => n - (intOf i).toNat)
  case atStart => exact ⟨0, Nat.zero_le _, rfl, rfl⟩
  case round =>
    obtain ⟨k, hk, rfl, HA⟩ := hrel
    by_cases hlt : k < n
    · obtain ⟨b, off, rfl, hc⟩ := HR.out.2.2 (by omega)
      have hcell := hc k _ (Lists.ints_at (by omega))
      clear hc
      have HS : Hid (Trees.allOk (l.take (k + 1)) = (Trees.allOk (l.take k) && Nums.valid (l.getD k 0))) := Trees.allOk_snoc l k (by omega)
      have HN : Hid (Nums.valid (l.getD k 0) = false → Trees.allOk l = false) := Trees.allOk_no l k (by omega)
      generalize l.getD k 0 = x at hcell HS HN
      cases hx : Nums.valid x
      · have hx' : Hid (Nums.valid x = false) := hx
        have hb : (!Nums.valid x) = true := by rw [hx]; rfl
        clear hx
        go_wp2_with (go_at_call 40; refine (notSum_any _ _).mono ?_; rintro e w' ⟨rfl, rfl⟩; rw [hb])
        go_ret
        exact ⟨_, rfl, fun h => (by rw [HN.out hx'.out] at h; cases h), fun _ => by omega, rfl⟩
      · have hx' : Hid (Nums.valid x = true) := hx
        have hb : (!Nums.valid x) = false := by rw [hx]; rfl
        clear hx
        go_wp2_with (go_at_call 40; refine (notSum_any _ _).mono ?_; rintro e w' ⟨rfl, rfl⟩; rw [hb])
        go_round
        case rel => exact ⟨k + 1, by omega, by go_num, by rw [HS.out, HA.out, hx'.out]; rfl⟩
        case measure => simp [intOf]; omega
    · go_wp2_with fail
      go_ret
      exact ⟨_, rfl, fun _ => rfl, fun h => (by rw [← hln] at hlt; have := HA.out; rw [List.take_of_length_le (by omega), h] at this; cases this), rfl⟩

theorem contains_any (l : List Int) (a : Option Addr) (n cap : Nat) (w : World) (hn : n ≤ 17592186043904) (hr : Row w a n cap (ints l)) :
    Calls Tryd.prog 36 #[.slice a n cap, .func (.func 40) #[] #[]] w fun e w' => e = .returned (.bool (!Trees.allOk l)) ∧ w' = w := by
  have HR : Hid (Row w a n cap (ints l)) := hr
  clear hr
  go_enter Tryd.func36, Tryd.ntmps36
  go_wp2_with fail
  refine (indexBad_any l a n cap w hn HR.out).mono ?_
  rintro e w' ⟨i, rfl, hy, hno, rfl⟩
  cases h : Trees.allOk l
  · have h0 := hno h
    have H : Hid (Trees.allOk l = false) := h
    clear hy hno h
    go_wp2_with fail
    go_ret
    exact ⟨by rw [H.out]; rfl, rfl⟩
  · have h0 := hy h
    subst h0
    have H : Hid (Trees.allOk l = true) := h
    clear hy hno h
    go_wp2_with fail
    go_ret
    exact ⟨by rw [H.out]; rfl, rfl⟩

/-- what is wrong with a proof -/
def upE (root : Int) (n i : Nat) (sum : Int) (p : List Int) : Nat := if Ways.upL sum p (Ways.turns i n) = root then 0 else 8
def checkE (root N I sum : Int) (p : List Int) : Nat :=
  if inside I N 200 = true then
    (if Nums.valid root = true ∧ Nums.valid sum = true ∧ Trees.allOk p = true then (if p.length = Ways.steps I.toNat N.toNat then upE root N.toNat I.toNat sum p else 3) else 1)
  else 1

theorem check_range (root N I sum : Int) (p : List Int) (a : Option Addr) (m cap : Nat) (w : World) (h : inside I N 200 = false) :
    Calls Tryd.prog 28 #[.int .i64 root, .int .i64 N, .int .i64 I, .int .i64 sum, .slice a m cap] w fun e w' => e = .returned (errv (checkE root N I sum p)) ∧ Below w.heap.size w w' := by
  rw [show checkE root N I sum p = 1 by unfold checkE; rw [if_neg (by rw [h]; decide)], errv_pos 1 (by decide)]
  go_enter Tryd.func28, Tryd.ntmps28
  go_wp2_with (go_at_call 39; refine (WalkSteps.steps_no _ _ _ h).mono ?_; rintro e w1 ⟨rfl, rfl⟩)
  go_ret
  exact ⟨rfl, Below.refl _ _⟩

set_option maxHeartbeats 1000000 in
set_option maxRecDepth 100000 in
theorem check_bad (root N I sum : Int) (p : List Int) (a : Option Addr) (m cap : Nat) (w : World) (hr : Row w a m cap (ints p)) (hm : m ≤ 17592186043904) (h : inside I N 200 = true) (hb : ¬ (Nums.valid root = true ∧ Nums.valid sum = true ∧ Trees.allOk p = true)) :
    Calls Tryd.prog 28 #[.int .i64 root, .int .i64 N, .int .i64 I, .int .i64 sum, .slice a m cap] w fun e w' => e = .returned (errv (checkE root N I sum p)) ∧ Below w.heap.size w w' := by
  rw [show checkE root N I sum p = 1 by unfold checkE; rw [if_pos h, if_neg hb], errv_pos 1 (by decide)]
  obtain ⟨i, n, hI, hN, hi, hn⟩ := WalkSteps.inside_of h
  have cS := WalkSteps.steps_yes i n I N w hI hN hi (by omega)
  generalize Ways.steps i n = k at cS
  clear hI hN hi hn h
  cases h1 : Nums.valid root
  · have H1 : Hid (Nums.valid root = false) := h1
    clear h1 hb hr
    go_enter Tryd.func28, Tryd.ntmps28
    go_wp2_with fail
    refine cS.mono ?_
    rintro e w1 ⟨rfl, b1⟩
    go_wp2_with fail
    refine (WalkMix.isSum_no _ _ H1.out).mono ?_
    rintro e w2 ⟨rfl, rfl⟩
    go_wp2_with fail
    go_ret
    exact ⟨rfl, b1⟩
  cases h2 : Nums.valid sum
  · have H1 : Hid (Nums.valid root = true) := h1
    have H2 : Hid (Nums.valid sum = false) := h2
    clear h1 h2 hb hr
    go_enter Tryd.func28, Tryd.ntmps28
    go_wp2_with fail
    refine cS.mono ?_
    rintro e w1 ⟨rfl, b1⟩
    go_wp2_with fail
    refine (WalkMix.isSum_yes _ _ H1.out).mono ?_
    rintro e w2 ⟨rfl, rfl⟩
    go_wp2_with fail
    refine (WalkMix.isSum_no _ _ H2.out).mono ?_
    rintro e w2 ⟨rfl, rfl⟩
    go_wp2_with fail
    go_ret
    exact ⟨rfl, b1⟩
  · have h3 : Trees.allOk p = false := by
      cases h3 : Trees.allOk p
      · rfl
      · exact absurd ⟨h1, h2, h3⟩ hb
    have H1 : Hid (Nums.valid root = true) := h1
    have H2 : Hid (Nums.valid sum = true) := h2
    have H3 : Hid (Trees.allOk p = false) := h3
    have HR : Hid (Row w a m cap (ints p)) := hr
    clear h1 h2 h3 hb hr
    go_enter Tryd.func28, Tryd.ntmps28
    go_wp2_with fail
    refine cS.mono ?_
    rintro e w1 ⟨rfl, b1⟩
    go_wp2_with fail
    refine (WalkMix.isSum_yes _ _ H1.out).mono ?_
    rintro e w2 ⟨rfl, rfl⟩
    go_wp2_with fail
    refine (WalkMix.isSum_yes _ _ H2.out).mono ?_
    rintro e w2 ⟨rfl, rfl⟩
    go_wp2_with fail
    refine (contains_any p a m cap _ hm (HR.out.below b1)).mono ?_
    rintro e w2 ⟨rfl, rfl⟩
    rw [H3.out]
    go_wp2_with fail
    go_ret
    exact ⟨rfl, b1⟩

set_option maxHeartbeats 1000000 in
set_option maxRecDepth 100000 in
theorem check_good (root N I sum : Int) (p : List Int) (a : Option Addr) (m cap : Nat) (w : World) (hr : Row w a m cap (ints p)) (hm : m ≤ 17592186043904) (h : inside I N 200 = true) (h1 : Nums.valid root = true) (h2 : Nums.valid sum = true) (h3 : Trees.allOk p = true) :
    Calls Tryd.prog 28 #[.int .i64 root, .int .i64 N, .int .i64 I, .int .i64 sum, .slice a m cap] w fun e w' => e = .returned (errv (checkE root N I sum p)) ∧ Below w.heap.size w w' := by
  have hln : p.length = m := by rw [← hr.1, Lists.ints_length]
  have e0 : checkE root N I sum p = if p.length = Ways.steps I.toNat N.toNat then upE root N.toNat I.toNat sum p else 3 := by unfold checkE; rw [if_pos h, if_pos ⟨h1, h2, h3⟩]
  rw [e0]
  obtain ⟨i, n, hI, hN, hi, hn⟩ := WalkSteps.inside_of h
  rw [hI, hN, Int.toNat_natCast, Int.toNat_natCast, ← hI, ← hN]
  have n2 : n ≤ 200 := by omega
  have cS := WalkSteps.steps_yes i n I N w hI hN hi n2
  have H1 : Hid (Nums.valid root = true) := h1
  have H2 : Hid (Nums.valid sum = true) := h2
  have H3 : Hid (Trees.allOk p = true) := h3
  have HR : Hid (Row w a m cap (ints p)) := hr
  by_cases hl : p.length = Ways.steps i n
  · rw [if_pos hl]
    have cF := fun w1 (b1 : Below w.heap.size w w1) => WalkFrom.rootFrom_any i n I N sum p a m cap w1 hI hN hi n2 (by omega) (hr.below b1) (Trees.allOk_mem h3) h2
    have sl := Ways.steps_le _ i n (Nat.le_refl _)
    have hq : ((m : Int) != (Ways.steps i n : Nat)) = false := by rw [← hl, hln]; simp
    generalize Ways.steps i n = k at cS hq sl
    clear h h1 h2 h3 hr e0 hI hN hl hln hi hn
    by_cases he : Ways.upL sum p (Ways.turns i n) = root
    · rw [show upE root n i sum p = 0 from if_pos he, errv0]
      rw [he] at cF
      have hx : (root != root) = false := by simp
      clear he
      go_enter Tryd.func28, Tryd.ntmps28
      go_wp2_with fail
      refine cS.mono ?_
      rintro e w1 ⟨rfl, b1⟩
      go_wp2_with fail
      refine (WalkMix.isSum_yes _ _ H1.out).mono ?_
      rintro e w2 ⟨rfl, rfl⟩
      go_wp2_with fail
      refine (WalkMix.isSum_yes _ _ H2.out).mono ?_
      rintro e w2 ⟨rfl, rfl⟩
      go_wp2_with fail
      refine (contains_any p a m cap _ hm (HR.out.below b1)).mono ?_
      rintro e w2 ⟨rfl, rfl⟩
      rw [H3.out]
      go_wp2_with fail
      refine (cF _ b1).mono ?_
      rintro e w3 ⟨rfl, b3⟩
      clear cF
      go_wp2_with fail
      go_ret
      exact ⟨rfl, bt b1 b3⟩
    · rw [show upE root n i sum p = 8 from if_neg he, errv_pos 8 (by decide)]
      have hx : (Ways.upL sum p (Ways.turns i n) != root) = true := by rw [bne_iff_ne]; exact he
      generalize Ways.upL sum p (Ways.turns i n) = U at cF hx
      clear he
      go_enter Tryd.func28, Tryd.ntmps28
      go_wp2_with fail
      refine cS.mono ?_
      rintro e w1 ⟨rfl, b1⟩
      go_wp2_with fail
      refine (WalkMix.isSum_yes _ _ H1.out).mono ?_
      rintro e w2 ⟨rfl, rfl⟩
      go_wp2_with fail
      refine (WalkMix.isSum_yes _ _ H2.out).mono ?_
      rintro e w2 ⟨rfl, rfl⟩
      go_wp2_with fail
      refine (contains_any p a m cap _ hm (HR.out.below b1)).mono ?_
      rintro e w2 ⟨rfl, rfl⟩
      rw [H3.out]
      go_wp2_with fail
      refine (cF _ b1).mono ?_
      rintro e w3 ⟨rfl, b3⟩
      clear cF
      go_wp2_with fail
      go_ret
      exact ⟨rfl, bt b1 b3⟩
  · rw [if_neg hl, errv_pos 3 (by decide)]
    have sl := Ways.steps_le _ i n (Nat.le_refl _)
    have hq : ((m : Int) != (Ways.steps i n : Nat)) = true := by rw [bne_iff_ne]; omega
    generalize Ways.steps i n = k at cS hq sl
    clear h h1 h2 h3 hr e0 hI hN hl hln hi hn
    go_enter Tryd.func28, Tryd.ntmps28
    go_wp2_with fail
    refine cS.mono ?_
    rintro e w1 ⟨rfl, b1⟩
    go_wp2_with fail
    refine (WalkMix.isSum_yes _ _ H1.out).mono ?_
    rintro e w2 ⟨rfl, rfl⟩
    go_wp2_with fail
    refine (WalkMix.isSum_yes _ _ H2.out).mono ?_
    rintro e w2 ⟨rfl, rfl⟩
    go_wp2_with fail
    refine (contains_any p a m cap _ hm (HR.out.below b1)).mono ?_
    rintro e w2 ⟨rfl, rfl⟩
    rw [H3.out]
    go_wp2_with fail
    go_ret
    exact ⟨rfl, b1⟩

/-- what the program says of any proof -/
theorem check_any (root N I sum : Int) (p : List Int) (a : Option Addr) (m cap : Nat) (w : World) (hr : Row w a m cap (ints p)) (hm : m ≤ 17592186043904) :
    Calls Tryd.prog 28 #[.int .i64 root, .int .i64 N, .int .i64 I, .int .i64 sum, .slice a m cap] w fun e w' => e = .returned (errv (checkE root N I sum p)) ∧ Below w.heap.size w w' := by
  cases h : inside I N 200
  · exact check_range root N I sum p a m cap w h
  · by_cases hb : Nums.valid root = true ∧ Nums.valid sum = true ∧ Trees.allOk p = true
    · exact check_good root N I sum p a m cap w hr hm h hb.1 hb.2.1 hb.2.2
    · exact check_bad root N I sum p a m cap w hr hm h hb

end Go.Proofs.YtlibjdkofajahaaDoor.WalkProofCheck
