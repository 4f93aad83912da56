/-
  What the document's own answers (package witref2) return of several leafs at once: Places, any, Several, Long, Upward.
-/
import Derived.Test.YtndhbimgicnhkaaDoorBatchFaults
import Derived.Test.YtndhbimgicnhkaaDoorWalkTreeRef
import Derived.Test.YtndhbimgicnhkaaDoorKeeps
import Derived.BigQuiet
import Derived.Deep.QuietTactic
import Derived.Deep.CutBlock
import Derived.Deep.DeepMust
import Derived.Laws.AppendOwnNone
import Derived.Laws.OwnMore
namespace Go.Proofs.YtndhbimgicnhkaaDoor.WalkPartsRef
open Go.RowKit
open Lists (Row ints bt)
open Keeps (Kept owns_kept owns_row owns_base)
open Trees (half)
open Batches BatchSets BatchFaults

theorem below_drewN {B : Nat} {a w : World} (h : Below B a w) (n : Nat) : Below B a (w.drewN n) := ⟨h.os, h.tape, h.output, h.size, h.block⟩
theorem take_snoc (l : List Int) (k : Nat) (h : k < l.length) : l.take (k + 1) = l.take k ++ [l.getD k 0] := by
  rw [List.take_succ_eq_append_getElem h, List.getD_eq_getElem?_getD, List.getElem?_eq_getElem h]
  rfl
theorem getD_mem {l : List Int} {k : Nat} (h : k < l.length) : l.getD k 0 ∈ l := by
  rw [List.getD_eq_getElem?_getD, List.getElem?_eq_getElem h]
  exact List.getElem_mem _

set_option maxHeartbeats 1000000 in
theorem any_any (a : List Int) (fr n : Nat) (FR N : Int) (x : Option Addr) (m cap : Nat) (w : World) (hF : FR = fr) (hN : N = n) (hb : fr + n ≤ 1000) (hr : Row w x m cap (ints a)) (hm : m ≤ 1000) :
    Calls Tryd.prog 16 #[.slice x m cap, .int .i64 FR, .int .i64 N] w fun e w' => e = .returned (.bool (wanted a fr n)) ∧ w' = w := by
  have hln : a.length = m := by rw [← hr.1, Lists.ints_length]
  have HR : Hid (Row w x m cap (ints a)) := hr
  subst hF hN
  clear hr
  go_enter Tryd.func16, Tryd.ntmps16
  go_wp2_with fail
  go_loop [7] (fun i => ∃ k : Nat, k ≤ m ∧ i = .int .i64 (k : Int) ∧ Hid (∀ z ∈ a.take k, ¬ ((fr : Int) ≤ z ∧ z < (fr : Int) + (n : Int)))) (fun i => m - (intOf i).toNat)
  case atStart => exact ⟨0, Nat.zero_le _, rfl, fun z hz => by simp at hz⟩
  case round =>
    obtain ⟨k, hk, rfl, HT⟩ := hrel
    by_cases hlt : k < m
    · have i1 : (k : Int) < (m : Int) := by omega
      obtain ⟨b0, off0, rfl, hc⟩ := HR.out.2.2 (by omega)
      have c0 := hc k _ (Lists.ints_at (by omega))
      have HS : Hid (a.take (k + 1) = a.take k ++ [a.getD k 0]) := take_snoc a k (by omega)
      have HM : Hid (a.getD k 0 ∈ a) := getD_mem (by omega)
      generalize a.getD k 0 = z at c0 HS HM
      clear hc
      by_cases h1 : (fr : Int) ≤ z
      · by_cases h2 : z < (fr : Int) + (n : Int)
        · have HW : Hid (wanted a fr n = true) := wanted_yes.2 ⟨z, HM.out, h1, h2⟩
          have g1 : z ≥ (fr : Int) := h1
          go_wp2_with fail
          go_ret
          exact ⟨by rw [HW.out]; rfl, rfl⟩
        · have HT2 : Hid (∀ y ∈ a.take (k + 1), ¬ ((fr : Int) ≤ y ∧ y < (fr : Int) + (n : Int))) := by
            intro y hy
            rw [HS.out] at hy
            rcases List.mem_append.1 hy with hy | hy
            · exact HT.out y hy
            · rw [List.mem_singleton.1 hy]
              exact fun q => h2 q.2
          have g1 : z ≥ (fr : Int) := h1
          go_wp2_with fail
          go_round
          case rel => exact ⟨k + 1, by omega, by go_num, HT2⟩
          case measure => simp [intOf]; omega
      · have HT2 : Hid (∀ y ∈ a.take (k + 1), ¬ ((fr : Int) ≤ y ∧ y < (fr : Int) + (n : Int))) := by
          intro y hy
          rw [HS.out] at hy
          rcases List.mem_append.1 hy with hy | hy
          · exact HT.out y hy
          · rw [List.mem_singleton.1 hy]
            exact fun q => h1 q.1
        have g1 : ¬ z ≥ (fr : Int) := h1
        go_wp2_with fail
        go_round
        case rel => exact ⟨k + 1, by omega, by go_num, HT2⟩
        case measure => simp [intOf]; omega
    · have i1 : ¬ (k : Int) < (m : Int) := by omega
      have HW : Hid (wanted a fr n = false) := by
        have h := HT.out
        rw [List.take_of_length_le (by omega)] at h
        exact wanted_no.2 h
      go_wp2_with fail
      go_ret
      exact ⟨by rw [HW.out]; rfl, rfl⟩

set_option maxHeartbeats 1000000 in
theorem long_any : ∀ (f : Nat) (a : List Int) (fr n : Nat) (FR N : Int) (x : Option Addr) (m cap : Nat) (w : World), FR = fr → N = n → n ≤ f → 1 ≤ n → fr + n ≤ 1000 → Row w x m cap (ints a) → m ≤ 1000 →
    Calls Tryd.prog 10 #[.slice x m cap, .int .i64 FR, .int .i64 N] w fun e w' => e = .returned (.int .i64 (long a fr n : Nat)) ∧ w' = w
  | 0, _, _, _, _, _, _, _, _, _, _, _, h, h1, _, _, _ => by omega
  | f + 1, a, fr, n, FR, N, x, m, cap, w, hF, hN, hf, h1, hb, hr, hm => by
    have cA := any_any a fr n FR N x m cap w hF hN hb hr hm
    subst hF hN
    cases hw : wanted a fr n
    · rw [long_no h1 hw]
      rw [hw] at cA
      clear hr hw
      go_enter Tryd.func10, Tryd.ntmps10
      go_wp2_with fail
      refine cA.mono ?_
      rintro e w1 ⟨rfl, rfl⟩
      go_wp2_with fail
      go_ret
      exact ⟨rfl, rfl⟩
    rw [hw] at cA
    by_cases e1 : n = 1
    · subst e1
      rw [long_one hw]
      clear hr hw
      go_enter Tryd.func10, Tryd.ntmps10
      go_wp2_with fail
      refine cA.mono ?_
      rintro e w1 ⟨rfl, rfl⟩
      go_wp2_with fail
      go_ret
      exact ⟨rfl, rfl⟩
    have h2 : 2 ≤ n := by omega
    have kl := Trees.half_lt n h2
    have kp := Trees.half_pos n
    have cH := fun w => WalkTreeRef.half_any n w h2 (by omega)
    have HL : Hid (long a fr n = long a fr (half n) + long a (fr + half n) (n - half n)) := long_two h2 hw
    have b1 := long_le a fr (half n) kp
    have b2 := long_le a (fr + half n) (n - half n) (by omega)
    generalize half n = k at kl kp cH HL b1 b2
    have c1 := long_any f a fr k (fr : Int) (k : Int) x m cap w rfl rfl (by omega) kp (by omega) hr hm
    have c2 := long_any f a (fr + k) (n - k) ((fr : Int) + (k : Int)) ((n : Int) - (k : Int)) x m cap w (by omega) (by omega) (by omega) (by omega) (by omega) hr hm
    generalize long a fr n = L at HL ⊢
    generalize long a fr k = L1 at HL c1 b1
    generalize long a (fr + k) (n - k) = L2 at HL c2 b2
    have i1 : ((n : Int) == 1) = false := by simp; omega
    clear hr hw
    go_enter Tryd.func10, Tryd.ntmps10
    go_wp2_with fail
    refine cA.mono ?_
    rintro e w1 ⟨rfl, rfl⟩
    go_wp2_with fail
    refine (cH _).mono ?_
    rintro e w2 ⟨rfl, rfl⟩
    go_wp2_with fail
    refine c1.mono ?_
    rintro e w3 ⟨rfl, rfl⟩
    go_wp2_with fail
    refine c2.mono ?_
    rintro e w4 ⟨rfl, rfl⟩
    go_wp2_with fail
    go_ret
    exact ⟨by rw [HL.out]; go_num, rfl⟩

theorem infoI : (Tryd.prog.info? 3).map (fun i => (i.zero, i.size, i.bytes)) = some (some (.int .i64 0), 1, 8) := by kernel_rfl
theorem add_at (g i : Nat) : (⟨g, 0, none⟩ : Addr).add i = ⟨g, i, none⟩ := by unfold Addr.add; split <;> simp_all
theorem cells_of {w : World} {B g n c : Nat} {q : List Int} (h : w.ownsRow B 3 1 (.slice (some ⟨g, 0, none⟩) n c) n (ints q)) : ∀ j u, (ints q)[j]? = some u → w.cell? ((⟨g, 0, none⟩ : Addr).add j) = some u := fun j u hj => by
  have := (Row.of_owns h).2.at j u hj
  rw [add_at]
  simpa using this
theorem ints_one (q : List Int) : ∀ u ∈ ints q, u.oneCell' = true := fun u hu => by
  obtain ⟨z, _, rfl⟩ := List.mem_map.1 hu
  rfl
theorem ints_append (a b : List Int) : ints (a ++ b) = ints a ++ ints b := List.map_append
/-- one sum alone, as it is handed on -/
theorem one_own {w : World} {B : Nat} (hB : B ≤ w.heap.size) (R : Int) : (w.alloc (.cells #[.int .i64 R] 3)).ownsRow B 3 1 (.slice (some ⟨w.heap.size, 0, none⟩) 1 1) 1 (ints [R]) := ⟨rfl, .inr ⟨w.heap.size, 1, #[.int .i64 R], rfl, hB, heap_alloc_new w _, Nat.le_refl _, by decide, rfl, rfl⟩⟩

set_option maxHeartbeats 2000000 in
set_option maxRecDepth 100000 in
theorem several_any : ∀ (f : Nat) (l a : List Int) (fr n : Nat) (FR N : Int) (x : Option Addr) (m cap : Nat) (y : Option Addr) (ml cl : Nat) (w : World), FR = fr → N = n → n ≤ f → 1 ≤ n → fr + n ≤ ml → ml ≤ 1000 → Row w x m cap (ints a) → m ≤ 1000 → Row w y ml cl (ints l) → (∀ z ∈ l, Nums.valid z = true) →
    Calls Tryd.prog 6 #[.slice y ml cl, .slice x m cap, .int .i64 FR, .int .i64 N] w fun e w' => ∃ v, e = .returned v ∧ w'.ownsRow w.heap.size 3 1 v (several l a fr n).length (ints (several l a fr n)) ∧ Below w.heap.size w w'
  | 0, _, _, _, _, _, _, _, _, _, _, _, _, _, _, _, h, h1, _, _, _, _, _, _ => by omega
  | f + 1, l, a, fr, n, FR, N, x, m, cap, y, ml, cl, w, hF, hN, hf, h1, hb, hml, hr, hm, hl, hv => by
    have cA := any_any a fr n FR N x m cap w hF hN (by omega) hr hm
    obtain ⟨i0, hi, hz0, hz1, hz2⟩ := info_parts infoI
    subst hF hN
    have hcl := hl.2.1
    have hll : l.length = ml := by rw [← hl.1, Lists.ints_length]
    cases hw : wanted a fr n
    · rw [several_no h1 hw]
      rw [hw] at cA
      obtain ⟨b, off, rfl, _⟩ := hl.2.2 (by omega)
      have r2 : Row w (some ⟨b, off + fr, none⟩) n (cl - fr) (ints ((l.drop fr).take n)) := by
        rw [Lists.ints_take, Lists.ints_drop]
        exact (hl.drop fr (by omega)).take n (by omega)
      have cR := WalkTreeRef.root_le _ _ n (cl - fr) w (by omega) r2 (fun z hz => hv z (List.mem_of_mem_drop (List.mem_of_mem_take hz)))
      generalize Trees.root ((l.drop fr).take n) = R at cR ⊢
      have i1 : (fr : Int) + (n : Int) ≤ (cl : Int) := by omega
      have i2 : (fr : Int) ≤ (fr : Int) + (n : Int) := by omega
      have hck : ¬ cl = fr := by omega
      clear hr hw hl hv r2
      go_enter Tryd.func6, Tryd.ntmps6
      go_wp2_with fail
      refine cA.mono ?_
      rintro e w1 ⟨rfl, rfl⟩
      go_wp2_with fail
      refine cR.mono ?_
      rintro e w2 ⟨rfl, b2⟩
      have HO : Hid ((w2.alloc (.cells #[.int .i64 R] 3)).ownsRow w1.heap.size 3 1 (.slice (some ⟨w2.heap.size, 0, none⟩) 1 1) 1 (ints [R])) := one_own b2.size R
      have HB : Hid (Below w1.heap.size w1 (w2.alloc (.cells #[.int .i64 R] 3))) := b2.alloc b2.size _
      clear cR b2
      go_wp2_with fail
      go_ret
      exact ⟨_, rfl, HO.out, HB.out⟩
    rw [hw] at cA
    by_cases e1 : n = 1
    · subst e1
      rw [several_one hw]
      clear hr hw hl hv
      go_enter Tryd.func6, Tryd.ntmps6
      go_wp2_with fail
      refine cA.mono ?_
      rintro e w1 ⟨rfl, rfl⟩
      go_wp2_with fail
      go_ret
      exact ⟨_, rfl, World.ownsRow_nil _ _ _ _, Below.refl _ _⟩
    have h2 : 2 ≤ n := by omega
    have kl := Trees.half_lt n h2
    have kp := Trees.half_pos n
    have cH := fun w => WalkTreeRef.half_any n w h2 (by omega)
    have HL : Hid (several l a fr n = several l a fr (half n) ++ several l a (fr + half n) (n - half n)) := several_two h2 hw
    have b1' : (several l a fr (half n)).length ≤ 1000 := by rw [several_length _ _ _ _ kp]; have := long_le a fr (half n) kp; omega
    have b2' : (several l a (fr + half n) (n - half n)).length ≤ 1000 := by rw [several_length _ _ _ _ (by omega)]; have := long_le a (fr + half n) (n - half n) (by omega); omega
    generalize half n = k at kl kp cH HL b1' b2'
    have c1 := several_any f l a fr k (fr : Int) (k : Int) x m cap y ml cl w rfl rfl (by omega) kp (by omega) hml hr hm hl hv
    have c2 := fun w' (b : Below w.heap.size w w') => several_any f l a (fr + k) (n - k) ((fr : Int) + (k : Int)) ((n : Int) - (k : Int)) x m cap y ml cl w' (by omega) (by omega) (by omega) (by omega) (by omega) hml (hr.below b) hm (hl.below b) hv
    generalize several l a fr n = L at HL ⊢
    generalize several l a fr k = L1 at HL c1 b1'
    generalize several l a (fr + k) (n - k) = L2 at HL c2 b2'
    have i1 : ((n : Int) == 1) = false := by simp; omega
    clear hr hw hl hv
    go_enter Tryd.func6, Tryd.ntmps6
    go_wp2_with fail
    refine cA.mono ?_
    rintro e w1 ⟨rfl, rfl⟩
    go_wp2_with fail
    refine (cH _).mono ?_
    rintro e w2 ⟨rfl, rfl⟩
    go_wp2_with fail
    refine c1.mono ?_
    rintro e w3 ⟨v3, rfl, o3, b3⟩
    clear c1 cA cH
    go_wp2_with fail
    refine (c2 _ b3).mono ?_
    rintro e w4 ⟨v4, rfl, o4, b4⟩
    have HB4 : Hid (Below w2.heap.size w2 w4) := bt b3 b4
    have HO4 : Hid (w4.ownsRow w2.heap.size 3 1 v3 L1.length (ints L1)) := owns_kept o3 (Kept.of_below (fun _ => False) b4) fun _ _ q => q
    have o4' := o4
    clear c2 o3 b3 b4
    rcases o4'.2 with ⟨hv4, hl4⟩ | ⟨g4, cp4, cur4, hv4, _⟩
    · subst hv4
      have hL2 : L2 = [] := List.length_eq_zero_iff.1 hl4
      rw [hL2, List.append_nil] at HL
      clear o4 o4' hl4
      go_wp2_with (at_builtin; go_must (refine wpList_append_own_none rfl (.tmp 45) (.tmp 46) 22 rfl w2.heap.size 3 i0 1 Tryd.underlying22 hi _ _ _ rfl HO4.out rfl ?_))
      go_ret
      exact ⟨_, rfl, by rw [HL.out]; exact HO4.out, HB4.out⟩
    · subst hv4
      have HC4 : Hid (∀ j u, (ints L2)[j]? = some u → w4.cell? ((⟨g4, 0, none⟩ : Addr).add j) = some u) := cells_of o4
      have s4 := HB4.out.size
      clear o4 o4'
      go_wp2_with (at_builtin; go_must (refine wpList_append_own _ rfl (.tmp 45) (.tmp 46) 22 rfl w2.heap.size 3 i0 (.int .i64 0) 1 8 Tryd.underlying22 hi hz0 hz1 hz2 rfl (by decide) _ _ _ rfl HO4.out ⟨g4, 0, none⟩ _ cp4 (ints L2) rfl (by rw [Lists.ints_length, Nat.mul_one]) HC4.out (ints_one L2) (by unfold maxLen; omega) (by omega) (by omega) ?_); intro v1 wn o1 g1 z1; clear z1)
      have HBN : Hid (Below w2.heap.size w2 wn) := HB4.out.grown g1 HB4.out.size (fun k hk => (HO4.out.lt k hk).1)
      have HON : Hid (wn.ownsRow w2.heap.size 3 1 v1 L.length (ints L)) := by
        show World.ownsRow _ _ _ _ _ _ _
        rw [HL.out, List.length_append, ints_append]
        exact o1
      clear g1 o1 HO4 HB4
      go_wp2_with fail
      go_ret
      exact ⟨_, rfl, HON.out, HBN.out⟩


set_option maxHeartbeats 2000000 in
theorem places_any (size : Int) (a : List Int) (x : Option Addr) (m cap : Nat) (w : World) (hr : Row w x m cap (ints a)) :
    Calls Tryd.prog 5 #[.int .i64 size, .slice x m cap] w fun e w' => e = .returned (.int .i64 (placesE size a : Nat)) ∧ Below w.heap.size w w' := by
  have hln : a.length = m := by rw [← hr.1, Lists.ints_length]
  have HR : Hid (∀ w', Below w.heap.size w w' → Row w' x m cap (ints a)) := fun w' b => hr.below b
  clear hr
  by_cases h4 : 400 < m
  · have i1 : (400 : Int) < (m : Int) := by omega
    rw [show placesE size a = 4 from if_pos (by omega)]
    go_enter Tryd.func5, Tryd.ntmps5
    go_wp2_with fail
    go_ret
    exact ⟨rfl, Below.refl _ _⟩
  have i1 : ¬ (400 : Int) < (m : Int) := by omega
  have H1 : Hid (inside size a = false → placesE size a = 1) := fun h => by
    unfold placesE
    rw [if_neg (by omega), if_pos h]
  have H2 : Hid (inside size a = true → rises a = false → placesE size a = 7) := fun h h2 => by
    unfold placesE
    rw [if_neg (by omega), if_neg (by rw [h]; decide), if_pos h2]
  have H3 : Hid (inside size a = true → rises a = true → placesE size a = 0) := fun h h2 => by
    unfold placesE
    rw [if_neg (by omega), if_neg (by rw [h]; decide), if_neg (by rw [h2]; decide)]
  generalize placesE size a = E at H1 H2 H3 ⊢
  go_enter Tryd.func5, Tryd.ntmps5
  go_wp2_with fail
  go_loopw [5] (fun i wr => ∃ k : Nat, k ≤ m ∧ i = .int .i64 (k : Int) ∧ Hid (∀ z ∈ a.take k, 0 ≤ z ∧ z < size) ∧ wr = w) (fun i _ => m - (intOf i).toNat)
  case atStart => exact ⟨0, Nat.zero_le _, rfl, (fun z hz => by simp at hz), rfl⟩
  case round =>
    obtain ⟨k, hk, rfl, HT, rfl⟩ := hrel
    by_cases hlt : k < m
    · have i2 : (k : Int) < (m : Int) := by omega
      obtain ⟨b0, off0, rfl, hc⟩ := (HR.out wr (Below.refl _ _)).2.2 (by omega)
      have c0 := hc k _ (Lists.ints_at (by omega))
      have HS : Hid (a.take (k + 1) = a.take k ++ [a.getD k 0]) := take_snoc a k (by omega)
      have HM : Hid (a.getD k 0 ∈ a) := getD_mem (by omega)
      generalize a.getD k 0 = z at c0 HS HM
      clear hc
      by_cases g0 : z < 0
      · have HE : Hid (E = 1) := H1.out (by
          rw [← Bool.not_eq_true]
          exact fun q => by have := (inside_iff.1 q z HM.out).1; omega)
        clear H1 H2 H3
        go_wp2_with fail
        go_ret
        exact ⟨by rw [HE.out]; rfl, Below.refl _ _⟩
      by_cases g1 : z ≥ size
      · have HE : Hid (E = 1) := H1.out (by
          rw [← Bool.not_eq_true]
          exact fun q => by have := (inside_iff.1 q z HM.out).2; omega)
        clear H1 H2 H3
        go_wp2_with fail
        go_ret
        exact ⟨by rw [HE.out]; rfl, Below.refl _ _⟩
      have HT2 : Hid (∀ y ∈ a.take (k + 1), 0 ≤ y ∧ y < size) := by
        intro y hy
        rw [HS.out] at hy
        rcases List.mem_append.1 hy with hy | hy
        · exact HT.out y hy
        · rw [List.mem_singleton.1 hy]
          exact ⟨by omega, by omega⟩
      go_wp2_with fail
      go_round
      case rel => exact ⟨k + 1, by omega, by go_num, HT2, by first | rfl | trivial⟩
      case measure => simp [intOf]; omega
    · have i2 : ¬ (k : Int) < (m : Int) := by omega
      have HI : Hid (inside size a = true) := by
        have h := HT.out
        rw [List.take_of_length_le (by omega)] at h
        exact inside_iff.2 h
      go_wp2_with fail
      go_loopw [6] (fun i wq => ∃ j : Nat, 1 ≤ j ∧ i = .int .i64 (j : Int) ∧ Hid (∀ q, q + 1 < j → q + 1 < m → a.getD q 0 < a.getD (q + 1) 0) ∧ (j ≤ m ∨ j = 1) ∧ Hid (Below wr.heap.size wr wq)) (fun i _ => m + 1 - (intOf i).toNat)
      case atStart => exact ⟨1, Nat.le_refl _, rfl, (fun q h _ => by omega), .inr rfl, Below.refl _ _⟩
      case round =>
        rename World => wq
        obtain ⟨j, hj1, rfl, HJ, hjm, HB⟩ := hrel
        by_cases hlj : j < m
        · have i3 : (j : Int) < (m : Int) := by omega
          obtain ⟨b0, off0, rfl, hc⟩ := (HR.out wq HB.out).2.2 (by omega)
          obtain ⟨J, hJ⟩ : ∃ J : Nat, j = J + 1 := ⟨j - 1, by omega⟩
          have c1 := hc j _ (Lists.ints_at (by omega))
          have c0 := hc J _ (Lists.ints_at (by omega))
          have HN : Hid (a.getD J 0 < a.getD j 0 → ∀ q, q + 1 < j + 1 → q + 1 < m → a.getD q 0 < a.getD (q + 1) 0) := fun h q h1 h2 => by
            by_cases e : q + 1 = j
            · obtain rfl : q = J := by omega
              rw [e]
              exact h
            · exact HJ.out q (by omega) h2
          have HF : Hid (¬ a.getD J 0 < a.getD j 0 → rises a = false) := fun h => by
            rw [← Bool.not_eq_true]
            intro q
            have := rises_at.1 q J (by omega)
            rw [← hJ] at this
            exact h this
          have e1 : (j : Int) - 1 = (J : Int) := by omega
          have e2 : IntKind.i64.wrap (J : Int) = (J : Int) := by rw [IntKind.wrap_i64]; omega
          have e3 : (J : Int) < (m : Int) := by omega
          generalize a.getD j 0 = Y at c1 HN HF
          generalize a.getD J 0 = X at c0 HN HF
          clear hc hJ
          by_cases hXY : X < Y
          · have l1 : ¬ Y ≤ X := by omega
            have HN2 := HN.out hXY
            have HN3 : Hid (∀ q, q + 1 < j + 1 → q + 1 < m → a.getD q 0 < a.getD (q + 1) 0) := HN2
            clear hXY HN HF HN2
            go_wp2_with fail
            go_quiet (fail)
            go_wp2_with fail
            go_roundw
            case rel => exact ⟨j + 1, by omega, by go_num, HN3, .inl (by omega), below_drewN HB.out _⟩
            case measure => simp [intOf]; omega
          · have l1 : Y ≤ X := by omega
            have HE : Hid (E = 7) := H2.out HI.out (HF.out hXY)
            clear hXY HN HF
            go_wp2_with fail
            go_quiet (fail)
            go_wp2_with fail
            go_ret
            exact ⟨by rw [HE.out]; rfl, below_drewN HB.out _⟩
        · have i3 : ¬ (j : Int) < (m : Int) := by omega
          have HE : Hid (E = 0) := H3.out HI.out (rises_at.2 fun q hq => HJ.out q (by omega) (by omega))
          go_wp2_with fail
          go_ret
          exact ⟨by rw [HE.out]; rfl, HB.out⟩

end Go.Proofs.YtndhbimgicnhkaaDoor.WalkPartsRef
