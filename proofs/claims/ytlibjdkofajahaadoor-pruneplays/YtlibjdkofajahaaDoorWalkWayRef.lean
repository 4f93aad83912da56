/-
  What the document's own answers (package witref1) return on proofs that a leaf is there: Way and Up.
-/
import Derived.Test.YtlibjdkofajahaaDoorWalkTreeRef
import Derived.Test.YtlibjdkofajahaaDoorWalkStepsRef
import Derived.Test.YtlibjdkofajahaaDoorKeeps
import Derived.Deep.DeepMust
namespace Go.Proofs.YtlibjdkofajahaaDoor.WalkWayRef
open Go.RowKit
open Lists (Row ints bt)
open Keeps (Kept owns_kept owns_row owns_base)
open Trees (half half_lt half_pos)
open WalkStepsRef (half_int)

theorem info3 : (Tryd.prog.info? 3).map (fun i => (i.zero, i.size, i.bytes)) = some (some (.int .i64 0), 1, 8) := by kernel_rfl

set_option maxHeartbeats 1000000 in
set_option maxRecDepth 100000 in
theorem way_any : ∀ (f : Nat) (l : List Int) (i : Nat) (I : Int) (a : Option Addr) (n cap : Nat) (w : World), I = i → n < f → i < n → n ≤ 200 → Row w a n cap (ints l) → (∀ x ∈ l, Nums.valid x = true) →
    Calls Tryd.prog 15 #[.slice a n cap, .int .i64 I] w fun e w' => ∃ v, e = .returned v ∧ w'.ownsRow w.heap.size 3 1 v (Ways.way l i).length (ints (Ways.way l i)) ∧ Below w.heap.size w w'
  | 0, _, _, _, _, _, _, _, _, h, _, _, _, _ => by omega
  | f + 1, l, i, I, a, n, cap, w, hI, hf, hi, hn, hr, hv => by
    have hln : l.length = n := by rw [← hr.1, Lists.ints_length]
    obtain ⟨i0, hi0, hz0, hz1, hz2⟩ := info_parts info3
    by_cases h1 : n = 1
    · rw [Ways.way_one l i (by omega)]
      have i1 : ((n : Int) == 1) = true := by rw [beq_iff_eq]; omega
      clear hr hv hln hI hf hi
      go_enter Tryd.func15, Tryd.ntmps15
      go_wp2_with fail
      go_ret
      exact ⟨_, rfl, World.ownsRow_nil _ _ _ _, Below.refl _ _⟩
    · have h2 : 2 ≤ n := by omega
      have i1 : ((n : Int) == 1) = false := by rw [beq_eq_false_iff_ne]; omega
      obtain ⟨b, off, rfl, _⟩ := hr.2.2 (by omega)
      have kl := half_lt n h2
      have kp := half_pos n
      have wl := Ways.way_left l i (by omega)
      have wr := Ways.way_right l i (by omega)
      rw [hln] at wl wr
      have cS := fun w => WalkTreeRef.half_any n w h2 (by omega)
      generalize half n = k at kl kp wl wr cS
      have hcap := hr.2.1
      have hck : ¬ cap = k := by omega
      have r1 : Row w (some ⟨b, off, none⟩) k cap (ints (l.take k)) := by rw [Lists.ints_take]; exact hr.take k (by omega)
      have r2 : Row w (some ⟨b, off + k, none⟩) (n - k) (cap - k) (ints (l.drop k)) := by rw [Lists.ints_drop]; exact hr.drop k (by omega)
      have v1 : ∀ x ∈ l.take k, Nums.valid x = true := fun x hx => hv x (List.mem_of_mem_take hx)
      have v2 : ∀ x ∈ l.drop k, Nums.valid x = true := fun x hx => hv x (List.mem_of_mem_drop hx)
      have j1 : (k : Int) ≤ (cap : Int) := by omega
      have j2 : (k : Int) ≤ (n : Int) := by omega
      by_cases hk : i < k
      · have HE : Hid (Ways.way l i = Ways.way (l.take k) i ++ [Trees.root (l.drop k)]) := wl hk
        have cW := way_any f (l.take k) i I _ k cap w hI (by omega) hk (by omega) r1 v1
        have cR := fun w1 (b1 : Below w.heap.size w w1) => WalkTreeRef.root_le (l.drop k) _ (n - k) (cap - k) w1 (by omega) (r2.below b1) v2
        have i2 : I < (k : Int) := by omega
        have wlen : (Ways.way (l.take k) i).length ≤ 200 := by
          rw [Ways.way_len, List.length_take, hln]
          have := Ways.steps_le _ i (min k n) (Nat.le_refl _)
          omega
        generalize Ways.way (l.take k) i = p at cW HE wlen
        generalize Trees.root (l.drop k) = x at cR HE
        clear wl wr hr hv r1 r2 v1 v2 hI hln
        go_enter Tryd.func15, Tryd.ntmps15
        go_wp2_with fail
        refine (cS _).mono ?_
        rintro e w1 ⟨rfl, rfl⟩
        go_wp2_with fail
        refine cW.mono ?_
        rintro e w2 ⟨v, rfl, o2, b2⟩
        have HO : Hid (w2.ownsRow w1.heap.size 3 1 v p.length (ints p)) := o2
        have HB : Hid (Below w1.heap.size w1 w2) := b2
        clear cW o2 b2
        go_wp2_with fail
        refine (cR _ HB.out).mono ?_
        rintro e w3 ⟨rfl, b3⟩
        have HO3 : Hid (w3.ownsRow w1.heap.size 3 1 v p.length (ints p)) := owns_kept HO.out (Kept.of_below (fun _ => False) b3) fun _ _ q => q
        have HB3 : Hid (Below w1.heap.size w1 w3) := bt HB.out b3
        clear cR b3 HO HB
        go_wp2_with (at_builtin; go_must (refine wpList_append_own _ rfl (.tmp 22) (.tmp 27) 22 rfl w1.heap.size 3 i0 (.int .i64 0) 1 8 Tryd.underlying22 hi0 hz0 hz1 hz2 rfl (by decide) _ _ _ rfl (HO3.out.alloc _) ⟨_, 0, none⟩ 1 1 [.int .i64 x] rfl rfl (cell_one_new _ _ _) (fun u hu => by rw [List.mem_singleton.1 hu]; rfl) (by unfold maxLen; omega) (by omega) (by have := HB3.out.size; simp; omega) ?_); intro v1 wn o1 g1 z1; clear z1)
        have HBN : Hid (Below w1.heap.size w1 wn) := (HB3.out.alloc HB3.out.size _).grown g1 (by have := HB3.out.size; simp; omega) (fun k hk => (HO3.out.lt k hk).1)
        have HON : Hid (wn.ownsRow w1.heap.size 3 1 v1 (p ++ [x]).length (ints (p ++ [x]))) := by
          rw [show (p ++ [x]).length = p.length + 1 by simp, show ints (p ++ [x]) = ints p ++ [.int .i64 x] by simp [ints]]
          exact o1
        clear g1 o1 HO3 HB3
        go_ret
        exact ⟨_, rfl, by rw [HE.out]; exact HON.out, HBN.out⟩
      · have HE : Hid (Ways.way l i = Ways.way (l.drop k) (i - k) ++ [Trees.root (l.take k)]) := wr hk
        have cW := way_any f (l.drop k) (i - k) (I - (k : Int)) _ (n - k) (cap - k) w (by omega) (by omega) (by omega) (by omega) r2 v2
        have cR := fun w1 (b1 : Below w.heap.size w w1) => WalkTreeRef.root_le (l.take k) _ k cap w1 (by omega) (r1.below b1) v1
        have i2 : ¬ I < (k : Int) := by omega
        have i3 : I < (n : Int) := by omega
        have wlen : (Ways.way (l.drop k) (i - k)).length ≤ 200 := by
          rw [Ways.way_len, List.length_drop, hln]
          have := Ways.steps_le _ (i - k) (n - k) (Nat.le_refl _)
          omega
        generalize Ways.way (l.drop k) (i - k) = p at cW HE wlen
        generalize Trees.root (l.take k) = x at cR HE
        clear wl wr hr hv r1 r2 v1 v2 hI hln
        go_enter Tryd.func15, Tryd.ntmps15
        go_wp2_with fail
        refine (cS _).mono ?_
        rintro e w1 ⟨rfl, rfl⟩
        go_wp2_with fail
        refine cW.mono ?_
        rintro e w2 ⟨v, rfl, o2, b2⟩
        have HO : Hid (w2.ownsRow w1.heap.size 3 1 v p.length (ints p)) := o2
        have HB : Hid (Below w1.heap.size w1 w2) := b2
        clear cW o2 b2
        go_wp2_with fail
        refine (cR _ HB.out).mono ?_
        rintro e w3 ⟨rfl, b3⟩
        have HO3 : Hid (w3.ownsRow w1.heap.size 3 1 v p.length (ints p)) := owns_kept HO.out (Kept.of_below (fun _ => False) b3) fun _ _ q => q
        have HB3 : Hid (Below w1.heap.size w1 w3) := bt HB.out b3
        clear cR b3 HO HB
        go_wp2_with (at_builtin; go_must (refine wpList_append_own _ rfl (.tmp 36) (.tmp 41) 22 rfl w1.heap.size 3 i0 (.int .i64 0) 1 8 Tryd.underlying22 hi0 hz0 hz1 hz2 rfl (by decide) _ _ _ rfl (HO3.out.alloc _) ⟨_, 0, none⟩ 1 1 [.int .i64 x] rfl rfl (cell_one_new _ _ _) (fun u hu => by rw [List.mem_singleton.1 hu]; rfl) (by unfold maxLen; omega) (by omega) (by have := HB3.out.size; simp; omega) ?_); intro v1 wn o1 g1 z1; clear z1)
        have HBN : Hid (Below w1.heap.size w1 wn) := (HB3.out.alloc HB3.out.size _).grown g1 (by have := HB3.out.size; simp; omega) (fun k hk => (HO3.out.lt k hk).1)
        have HON : Hid (wn.ownsRow w1.heap.size 3 1 v1 (p ++ [x]).length (ints (p ++ [x]))) := by
          rw [show (p ++ [x]).length = p.length + 1 by simp, show ints (p ++ [x]) = ints p ++ [.int .i64 x] by simp [ints]]
          exact o1
        clear g1 o1 HO3 HB3
        go_ret
        exact ⟨_, rfl, by rw [HE.out]; exact HON.out, HBN.out⟩
theorem way_le (l : List Int) (i : Nat) (I : Int) (a : Option Addr) (n cap : Nat) (w : World) (hI : I = i) (hi : i < n) (hn : n ≤ 200) (hr : Row w a n cap (ints l)) (hv : ∀ x ∈ l, Nums.valid x = true) :
    Calls Tryd.prog 15 #[.slice a n cap, .int .i64 I] w fun e w' => ∃ v, e = .returned v ∧ w'.ownsRow w.heap.size 3 1 v (Ways.way l i).length (ints (Ways.way l i)) ∧ Below w.heap.size w w' :=
  way_any (n + 1) l i I a n cap w hI (Nat.lt_succ_self _) hi hn hr hv

theorem upL_last (p : List Int) (ts : List Bool) (s : Int) (t : Bool) (m : Nat) (h : p.length = m + 1) (hl : ts.length = m) : Ways.upL s p (ts ++ [t]) = Ways.up1 (Ways.upL s (p.take m) ts) (p.getD m 0) t := by
  have e : p = p.take m ++ [p.getD m 0] := by
    rw [List.getD_eq_getElem?_getD, List.getElem?_eq_getElem (by omega)]
    show p = p.take m ++ [p[m]]
    rw [← List.take_succ_eq_append_getElem (by omega), List.take_of_length_le (by omega)]
  have u := Ways.upL_append (p.take m) ts s (p.getD m 0) t (by rw [List.length_take]; omega)
  rw [← e] at u
  exact u

set_option maxHeartbeats 1000000 in
set_option maxRecDepth 100000 in
theorem up_any : ∀ (f : Nat) (p : List Int) (i n : Nat) (I N s : Int) (a : Option Addr) (m cap : Nat) (w : World), I = i → N = n → n < f → i < n → n ≤ 200 → m = Ways.steps i n → Row w a m cap (ints p) → (∀ x ∈ p, Nums.valid x = true) → Nums.valid s = true →
    Calls Tryd.prog 18 #[.int .i64 I, .int .i64 N, .int .i64 s, .slice a m cap] w fun e w' => e = .returned (.int .i64 (Ways.upL s p (Ways.turns i n))) ∧ Below w.heap.size w w'
  | 0, _, _, _, _, _, _, _, _, _, _, _, _, h, _, _, _, _, _, _ => by omega
  | f + 1, p, i, n, I, N, s, a, m, cap, w, hI, hN, hf, hi, hn, hm, hr, hv, hs => by
    have hln : p.length = m := by rw [← hr.1, Lists.ints_length]
    by_cases h1 : n = 1
    · have e0 : p = [] := List.eq_nil_of_length_eq_zero (by rw [hln, hm, Ways.steps_one i n (by omega)])
      rw [Ways.turns_one i n (by omega), e0]
      have i1 : (N == 1) = true := by rw [beq_iff_eq]; omega
      clear hr hv hln hI hf hi hN hm
      go_enter Tryd.func18, Tryd.ntmps18
      go_wp2_with fail
      go_ret
      exact ⟨rfl, Below.refl _ _⟩
    · have h2 : 2 ≤ n := by omega
      have i1 : (N == 1) = false := by rw [beq_eq_false_iff_ne]; omega
      have kl := half_lt n h2
      have kp := half_pos n
      have cH := fun w => half_int N n w hN h2 (by omega)
      have tl := Ways.turns_left i n h2
      have tr := Ways.turns_right i n h2
      have sl := Ways.steps_left i n h2
      have sr := Ways.steps_right i n h2
      generalize half n = k at kl kp cH tl tr sl sr
      have m1 : 1 ≤ m := by
        by_cases hk : i < k
        · have := sl hk; omega
        · have := sr hk; omega
      have m2 : m ≤ 200 := by have := Ways.steps_le _ i n (Nat.le_refl _); omega
      obtain ⟨q, rfl⟩ : ∃ q, m = q + 1 := ⟨m - 1, by omega⟩
      obtain ⟨b, off, rfl, hc⟩ := hr.2.2 (by omega)
      have cL := hc q _ (Lists.ints_at (by omega))
      have hcap := hr.2.1
      have r1 : Row w (some ⟨b, off, none⟩) q cap (ints (p.take q)) := by rw [Lists.ints_take]; exact hr.take q (by omega)
      have v1 : ∀ x ∈ p.take q, Nums.valid x = true := fun x hx => hv x (List.mem_of_mem_take hx)
      have vx : Nums.valid (p.getD q 0) = true := hv _ (by rw [List.getD_eq_getElem?_getD, List.getElem?_eq_getElem (by omega)]; exact List.getElem_mem _)
      have j1 : ((q + 1 : Nat) : Int) - 1 = (q : Int) := by omega
      have j2 : (q : Int) ≤ (cap : Int) := by omega
      by_cases hk : i < k
      · have HE : Hid (Ways.upL s p (Ways.turns i n) = Ways.node (Ways.upL s (p.take q) (Ways.turns i k)) (p.getD q 0)) := by
          show _ = _
          rw [tl hk, upL_last p (Ways.turns i k) s false q hln (by have := sl hk; show Ways.steps i k = q; omega)]; rfl
        have cU := up_any f (p.take q) i k I (k : Int) s _ q cap w hI rfl (by omega) hk (by omega) (by have := sl hk; omega) r1 v1 hs
        have vU := Ways.upL_valid (p.take q) (Ways.turns i k) s hs
        have i2 : I < (k : Int) := by omega
        generalize Ways.upL s (p.take q) (Ways.turns i k) = y at cU HE vU
        generalize p.getD q 0 = x at cL HE vx
        have cN := fun w => WalkTreeRef.node_any y x w vU vx
        clear tl tr sl sr hr hv r1 v1 hI hN hln hc hm vU vx hs
        go_enter Tryd.func18, Tryd.ntmps18
        go_wp2_with fail
        refine (cH _).mono ?_
        rintro e w1 ⟨rfl, rfl⟩
        go_wp2_with fail
        refine cU.mono ?_
        rintro e w2 ⟨rfl, b2⟩
        go_wp2_with fail
        refine (cN _).mono ?_
        rintro e w3 ⟨rfl, b3⟩
        go_wp2_with fail
        go_ret
        exact ⟨by rw [HE.out]; rfl, bt b2 b3⟩
      · have HE : Hid (Ways.upL s p (Ways.turns i n) = Ways.node (p.getD q 0) (Ways.upL s (p.take q) (Ways.turns (i - k) (n - k)))) := by
          show _ = _
          rw [tr hk, upL_last p (Ways.turns (i - k) (n - k)) s true q hln (by have := sr hk; show Ways.steps (i - k) (n - k) = q; omega)]; rfl
        have cU := up_any f (p.take q) (i - k) (n - k) (I - (k : Int)) (N - (k : Int)) s _ q cap w (by omega) (by omega) (by omega) (by omega) (by omega) (by have := sr hk; omega) r1 v1 hs
        have vU := Ways.upL_valid (p.take q) (Ways.turns (i - k) (n - k)) s hs
        have i2 : ¬ I < (k : Int) := by omega
        have i3 : I < N := by omega
        have i4 : N ≤ 200 := by omega
        generalize Ways.upL s (p.take q) (Ways.turns (i - k) (n - k)) = y at cU HE vU
        generalize p.getD q 0 = x at cL HE vx
        have cN := fun w => WalkTreeRef.node_any x y w vx vU
        clear tl tr sl sr hr hv r1 v1 hI hN hln hc hm vU vx hs
        go_enter Tryd.func18, Tryd.ntmps18
        go_wp2_with fail
        refine (cH _).mono ?_
        rintro e w1 ⟨rfl, rfl⟩
        go_wp2_with fail
        refine cU.mono ?_
        rintro e w2 ⟨rfl, b2⟩
        go_wp2_with fail
        refine (cN _).mono ?_
        rintro e w3 ⟨rfl, b3⟩
        go_wp2_with fail
        go_ret
        exact ⟨by rw [HE.out]; rfl, bt b2 b3⟩
theorem up_le (p : List Int) (i n : Nat) (I N s : Int) (a : Option Addr) (m cap : Nat) (w : World) (hI : I = i) (hN : N = n) (hi : i < n) (hn : n ≤ 200) (hm : m = Ways.steps i n) (hr : Row w a m cap (ints p)) (hv : ∀ x ∈ p, Nums.valid x = true) (hs : Nums.valid s = true) :
    Calls Tryd.prog 18 #[.int .i64 I, .int .i64 N, .int .i64 s, .slice a m cap] w fun e w' => e = .returned (.int .i64 (Ways.upL s p (Ways.turns i n))) ∧ Below w.heap.size w w' :=
  up_any (n + 1) p i n I N s a m cap w hI hN (Nat.lt_succ_self _) hi hn hm hr hv hs

end Go.Proofs.YtlibjdkofajahaaDoor.WalkWayRef
