/-
  What the document's own answer (package witref1) returns on words: Number, of at most four digits.
-/
import Derived.Test.YticadkggaanbjaaGreatDoorWalkNumberRef
import Derived.Test.YticadkggaanbjaaGreatDoorRefTree
import Derived.Test.YticadkggaanbjaaGreatDoorGrowRef
import Derived.Test.YticadkggaanbjaaGreatDoorListRows
import Derived.Deep.DeepMust
import Derived.Test.YticadkggaanbjaaGreatDoorRefLog
import Derived.BigRegion
import Derived.Deep.RegionHeld3
namespace Go.Proofs.YticadkggaanbjaaGreatDoor.WalkNum4
open Go.RowKit
open Lists (Row strs bt)
open Decimals (number words allDig isDig val needless)
open WalkNumberRef (allDig_take val_take allDig_no val_small)

/-- a word as a number, and whether it is one -/
def num4V (l : List UInt8) : Nat := (number l 4).getD 0
def num4B (l : List UInt8) : Bool := (number l 4).isSome
theorem num_no {l : List UInt8} (h : l = [] ∨ 4 < l.length ∨ needless l = true ∨ allDig l = false) : num4V l = 0 ∧ num4B l = false := by
  unfold num4V num4B number
  rw [if_pos h]
  exact ⟨rfl, rfl⟩
theorem num_yes {l : List UInt8} (h : ¬ (l = [] ∨ 4 < l.length ∨ needless l = true ∨ allDig l = false)) : num4V l = val l ∧ num4B l = true := by
  unfold num4V num4B number
  rw [if_neg h]
  exact ⟨rfl, rfl⟩

set_option maxHeartbeats 4000000 in
theorem number_four (s : ByteArray) (w : World) (hm : s.size ≤ maxLen) :
    Calls Tryz.prog 40 #[.string s, .int .i64 4] w fun e w' => e = .returned (.tuple #[.int .i64 (num4V s.data.toList : Nat), .bool (num4B s.data.toList)]) ∧ w' = w := by
  have hsl : s.data.toList.length = s.size := by simp
  have hmi : (s.size : Int) ≤ 9223372036854775807 := by unfold maxLen at hm; omega
  clear hm
  by_cases h0 : s.data.toList = []
  · have HV : Hid (num4V s.data.toList = 0 ∧ num4B s.data.toList = false) := num_no (.inl h0)
    have he : (s.toList == []) = true := by rw [ByteArray.toList_eq, h0]; rfl
    clear h0
    go_enter Tryz.func40, Tryz.ntmps40
    go_wp2_with fail
    go_ret2
    exact ⟨by rw [HV.out.1, HV.out.2]; rfl, rfl⟩
  have he : (s.toList == []) = false := by rw [ByteArray.toList_eq, beq_eq_false_iff_ne]; exact h0
  have hpos : 0 < s.size := by rw [← hsl]; exact List.length_pos_iff.2 h0
  by_cases h1 : 4 < s.size
  · have HV : Hid (num4V s.data.toList = 0 ∧ num4B s.data.toList = false) := num_no (.inr (.inl (by omega)))
    have i1 : (4 : Int) < (s.size : Int) := by omega
    clear h0 h1
    go_enter Tryz.func40, Tryz.ntmps40
    go_wp2_with fail
    go_ret2
    exact ⟨by rw [HV.out.1, HV.out.2]; rfl, rfl⟩
  have i1 : ¬ (4 : Int) < (s.size : Int) := by omega
  have j0 : (0 : Int) < (s.size : Int) := by omega
  have hhd : s.data.toList.head? = some (s[0]'hpos) := by
    rw [List.head?_eq_getElem?, List.getElem?_eq_getElem (by omega)]
    rfl
  obtain ⟨c, HC⟩ : ∃ c : UInt8, Hid (s[0]'hpos = c) := ⟨_, rfl⟩
  have y0 : ∀ h, s[0]'h = c := fun _ => HC.out
  rw [HC.out] at hhd
  by_cases h2 : needless s.data.toList = true
  · have HV : Hid (num4V s.data.toList = 0 ∧ num4B s.data.toList = false) := num_no (.inr (.inr (.inl h2)))
    have hq := of_decide_eq_true h2
    rw [hhd, hsl] at hq
    obtain rfl : c = 48 := Option.some.inj hq.1
    have i2 : (1 : Int) < (s.size : Int) := by omega
    clear h0 h1 h2 hq hhd
    go_enter Tryz.func40, Tryz.ntmps40
    go_wp2_with fail
    go_ret2
    exact ⟨by rw [HV.out.1, HV.out.2]; rfl, rfl⟩
  have hq : c ≠ 48 ∨ ¬ 1 < s.size := by
    by_cases hc : c = 48
    · refine .inr fun h => h2 (decide_eq_true ⟨by rw [hhd, hc], by rw [hsl]; exact h⟩)
    · exact .inl hc
  have HG : Hid (allDig s.data.toList = true → num4V s.data.toList = val s.data.toList ∧ num4B s.data.toList = true) := fun h => num_yes (by
    rintro (q | q | q | q)
    · exact h0 q
    · omega
    · exact h2 q
    · rw [h] at q; cases q)
  have HF : Hid (allDig s.data.toList = false → num4V s.data.toList = 0 ∧ num4B s.data.toList = false) := fun h => num_no (.inr (.inr (.inr h)))
  have h9 : s.size ≤ 4 := by omega
  have H9 : Hid (s.size ≤ 4) := h9
  clear h0 h1 h2 hhd
  go_enter Tryz.func40, Tryz.ntmps40
  go_upto_region 1 with fail
  go_cut [25] from 8 to 24 (fun v wc => v = .bool false ∧ w = wc)
  case first => as_aux_lemma =>
    by_cases hc : c = 48
    · subst hc
      have i2 : ¬ (1 : Int) < (s.size : Int) := by rcases hq with q | q; exact absurd rfl q; omega
      clear hq
      go_wp2_with fail
      go_meet
      case rel => exact ⟨rfl, rfl⟩
    · have hx : ((c.toNat : Int) == 48) = false := by
        rw [beq_eq_false_iff_ne]
        intro h
        exact hc (UInt8.toNat_inj.1 (by have e : (48 : UInt8).toNat = 48 := rfl; omega))
      clear hq
      go_wp2_with fail
      go_meet
      case rel => exact ⟨rfl, rfl⟩
  obtain ⟨rfl, rfl⟩ := hcut
  clear hq y0 HC j0
  go_wp2_with fail
  go_loop [6, 7] (fun v i => ∃ k : Nat, k ≤ s.size ∧ i = .int .i64 (k : Int) ∧ v = .int .i64 ((val (s.data.toList.take k) : Nat) : Int) ∧ Hid (allDig (s.data.toList.take k) = true)) (fun _ i => s.size - (intOf i).toNat)
  case atStart => exact ⟨0, Nat.zero_le _, rfl, rfl, rfl⟩
  case round =>
    obtain ⟨k, hk, rfl, rfl, HA⟩ := hrel
    have hvs := val_small s k (by have := H9.out; omega) HA.out
    by_cases hlt : k < s.size
    · have i2 : (k : Int) < (s.size : Int) := by omega
      have HB : Hid (allDig (s.data.toList.take (k + 1)) = (allDig (s.data.toList.take k) && isDig s[k])) := allDig_take s k hlt
      have HVs : Hid (val (s.data.toList.take (k + 1)) = val (s.data.toList.take k) * 10 + (s[k].toNat - 48)) := val_take s k hlt
      have HNo : Hid (isDig s[k] = false → allDig s.data.toList = false) := allDig_no s k hlt
      have HIs : Hid (isDig s[k] = decide (48 ≤ s[k].toNat ∧ s[k].toNat ≤ 57)) := rfl
      obtain ⟨x, hx, HX0⟩ : ∃ x : Nat, (∀ h, (s[k]'h).toNat = x) ∧ Hid (s[k].toNat = x) := ⟨s[k].toNat, fun _ => rfl, rfl⟩
      have hx1 : x < 256 := by have := HX0.out; have := s[k].toNat_lt; omega
      rw [HX0.out] at HVs HIs
      generalize val (s.data.toList.take k) = V at hvs HVs
      by_cases h1 : x < 48
      · have i3 : (x : Int) < 48 := by omega
        have HD : Hid (num4V s.data.toList = 0 ∧ num4B s.data.toList = false) := HF.out (HNo.out (by rw [HIs.out]; exact decide_eq_false (by omega)))
        clear h1
        go_wp2_with fail
        go_ret2
        exact ⟨by rw [HD.out.1, HD.out.2]; rfl, rfl⟩
      · have i3 : ¬ (x : Int) < 48 := by omega
        by_cases h2 : 57 < x
        · have i4 : (57 : Int) < (x : Int) := by omega
          have HD : Hid (num4V s.data.toList = 0 ∧ num4B s.data.toList = false) := HF.out (HNo.out (by rw [HIs.out]; exact decide_eq_false (by omega)))
          clear h1 h2
          go_wp2_with fail
          go_ret2
          exact ⟨by rw [HD.out.1, HD.out.2]; rfl, rfl⟩
        · have i4 : ¬ (57 : Int) < (x : Int) := by omega
          have HD : Hid (allDig (s.data.toList.take (k + 1)) = true) := by
            show _ = _
            rw [HB.out, HA.out, HIs.out, decide_eq_true (by omega)]
            rfl
          go_wp2_with fail
          go_round
          case rel => exact ⟨k + 1, by omega, by go_num, by rw [HVs.out]; go_num, HD⟩
          case measure => simp [intOf]; omega
    · have i2 : ¬ (k : Int) < (s.size : Int) := by omega
      have ht : s.data.toList.take k = s.data.toList := List.take_of_length_le (by omega)
      have HD : Hid (num4V s.data.toList = val s.data.toList ∧ num4B s.data.toList = true) := HG.out (by have := HA.out; rw [ht] at this; exact this)
      rw [ht]
      generalize val s.data.toList = V at HD
      go_wp2_with fail
      go_ret2
      exact ⟨by rw [HD.out.1, HD.out.2]; rfl, rfl⟩

end Go.Proofs.YticadkggaanbjaaGreatDoor.WalkNum4

/-
  What the document's own answers (package witref1) return on proofs that a leaf is there: Way and Up.
-/
namespace Go.Proofs.YticadkggaanbjaaGreatDoor.WalkWayRef
open Go.RowKit
open Lists (Row ints bt)
open Keeps (Kept owns_kept owns_row owns_base)
open Trees (half half_lt half_pos)
open WalkStepsRef (half_int)

theorem info3 : (Tryz.prog.info? 3).map (fun i => (i.zero, i.size, i.bytes)) = some (some (.int .i64 0), 1, 8) := by kernel_rfl

set_option maxHeartbeats 1000000 in
set_option maxRecDepth 100000 in
theorem way_any : ∀ (f : Nat) (l : List Int) (i : Nat) (I : Int) (a : Option Addr) (n cap : Nat) (w : World), I = i → n < f → i < n → n ≤ 200 → Row w a n cap (ints l) → (∀ x ∈ l, Nums.valid x = true) →
    Calls Tryz.prog 44 #[.slice a n cap, .int .i64 I] w fun e w' => ∃ v, e = .returned v ∧ w'.ownsRow w.heap.size 3 1 v (Ways.way l i).length (ints (Ways.way l i)) ∧ Below w.heap.size w w'
  | 0, _, _, _, _, _, _, _, _, h, _, _, _, _ => by omega
  | f + 1, l, i, I, a, n, cap, w, hI, hf, hi, hn, hr, hv => by
    have hln : l.length = n := by rw [← hr.1, Lists.ints_length]
    obtain ⟨i0, hi0, hz0, hz1, hz2⟩ := info_parts info3
    by_cases h1 : n = 1
    · rw [Ways.way_one l i (by omega)]
      have i1 : ((n : Int) == 1) = true := by rw [beq_iff_eq]; omega
      clear hr hv hln hI hf hi
      go_enter Tryz.func44, Tryz.ntmps44
      go_wp2_with fail
      go_ret
      exact ⟨_, rfl, World.ownsRow_nil _ _ _ _, Below.refl _ _⟩
    · have h2 : 2 ≤ n := by omega
      have i1 : ((n : Int) == 1) = false := by rw [beq_eq_false_iff_ne]; omega
      obtain ⟨b, off, rfl, _⟩ := hr.2.2 (by omega)
      have kl := half_lt n h2
      have kp := half_pos n
      have wl := Ways.way_left l i (by omega)
      have wr := Ways.way_right l i (by omega)
      rw [hln] at wl wr
      have cS := fun w => WalkTreeRef.half_any n w h2 (by omega)
      generalize half n = k at kl kp wl wr cS
      have hcap := hr.2.1
      have hck : ¬ cap = k := by omega
      have r1 : Row w (some ⟨b, off, none⟩) k cap (ints (l.take k)) := by rw [Lists.ints_take]; exact hr.take k (by omega)
      have r2 : Row w (some ⟨b, off + k, none⟩) (n - k) (cap - k) (ints (l.drop k)) := by rw [Lists.ints_drop]; exact hr.drop k (by omega)
      have v1 : ∀ x ∈ l.take k, Nums.valid x = true := fun x hx => hv x (List.mem_of_mem_take hx)
      have v2 : ∀ x ∈ l.drop k, Nums.valid x = true := fun x hx => hv x (List.mem_of_mem_drop hx)
      have j1 : (k : Int) ≤ (cap : Int) := by omega
      have j2 : (k : Int) ≤ (n : Int) := by omega
      by_cases hk : i < k
      · have HE : Hid (Ways.way l i = Ways.way (l.take k) i ++ [Trees.root (l.drop k)]) := wl hk
        have cW := way_any f (l.take k) i I _ k cap w hI (by omega) hk (by omega) r1 v1
        have cR := fun w1 (b1 : Below w.heap.size w w1) => WalkTreeRef.root_le (l.drop k) _ (n - k) (cap - k) w1 (by omega) (r2.below b1) v2
        have i2 : I < (k : Int) := by omega
        have wlen : (Ways.way (l.take k) i).length ≤ 200 := by
          rw [Ways.way_len, List.length_take, hln]
          have := Ways.steps_le _ i (min k n) (Nat.le_refl _)
          omega
        generalize Ways.way (l.take k) i = p at cW HE wlen
        generalize Trees.root (l.drop k) = x at cR HE
        clear wl wr hr hv r1 r2 v1 v2 hI hln
        go_enter Tryz.func44, Tryz.ntmps44
        go_wp2_with fail
        refine (cS _).mono ?_
        rintro e w1 ⟨rfl, rfl⟩
        go_wp2_with fail
        refine cW.mono ?_
        rintro e w2 ⟨v, rfl, o2, b2⟩
        have HO : Hid (w2.ownsRow w1.heap.size 3 1 v p.length (ints p)) := o2
        have HB : Hid (Below w1.heap.size w1 w2) := b2
        clear cW o2 b2
        go_wp2_with fail
        refine (cR _ HB.out).mono ?_
        rintro e w3 ⟨rfl, b3⟩
        have HO3 : Hid (w3.ownsRow w1.heap.size 3 1 v p.length (ints p)) := owns_kept HO.out (Kept.of_below (fun _ => False) b3) fun _ _ q => q
        have HB3 : Hid (Below w1.heap.size w1 w3) := bt HB.out b3
        clear cR b3 HO HB
        go_wp2_with (at_builtin; go_must (refine wpList_append_own _ rfl (.tmp 22) (.tmp 27) 45 rfl w1.heap.size 3 i0 (.int .i64 0) 1 8 Tryz.underlying45 hi0 hz0 hz1 hz2 rfl (by decide) _ _ _ rfl (HO3.out.alloc _) ⟨_, 0, none⟩ 1 1 [.int .i64 x] rfl rfl (cell_one_new _ _ _) (fun u hu => by rw [List.mem_singleton.1 hu]; rfl) (by unfold maxLen; omega) (by omega) (by have := HB3.out.size; simp; omega) ?_); intro v1 wn o1 g1 z1; clear z1)
        have HBN : Hid (Below w1.heap.size w1 wn) := (HB3.out.alloc HB3.out.size _).grown g1 (by have := HB3.out.size; simp; omega) (fun k hk => (HO3.out.lt k hk).1)
        have HON : Hid (wn.ownsRow w1.heap.size 3 1 v1 (p ++ [x]).length (ints (p ++ [x]))) := by
          rw [show (p ++ [x]).length = p.length + 1 by simp, show ints (p ++ [x]) = ints p ++ [.int .i64 x] by simp [ints]]
          exact o1
        clear g1 o1 HO3 HB3
        go_ret
        exact ⟨_, rfl, by rw [HE.out]; exact HON.out, HBN.out⟩
      · have HE : Hid (Ways.way l i = Ways.way (l.drop k) (i - k) ++ [Trees.root (l.take k)]) := wr hk
        have cW := way_any f (l.drop k) (i - k) (I - (k : Int)) _ (n - k) (cap - k) w (by omega) (by omega) (by omega) (by omega) r2 v2
        have cR := fun w1 (b1 : Below w.heap.size w w1) => WalkTreeRef.root_le (l.take k) _ k cap w1 (by omega) (r1.below b1) v1
        have i2 : ¬ I < (k : Int) := by omega
        have i3 : I < (n : Int) := by omega
        have wlen : (Ways.way (l.drop k) (i - k)).length ≤ 200 := by
          rw [Ways.way_len, List.length_drop, hln]
          have := Ways.steps_le _ (i - k) (n - k) (Nat.le_refl _)
          omega
        generalize Ways.way (l.drop k) (i - k) = p at cW HE wlen
        generalize Trees.root (l.take k) = x at cR HE
        clear wl wr hr hv r1 r2 v1 v2 hI hln
        go_enter Tryz.func44, Tryz.ntmps44
        go_wp2_with fail
        refine (cS _).mono ?_
        rintro e w1 ⟨rfl, rfl⟩
        go_wp2_with fail
        refine cW.mono ?_
        rintro e w2 ⟨v, rfl, o2, b2⟩
        have HO : Hid (w2.ownsRow w1.heap.size 3 1 v p.length (ints p)) := o2
        have HB : Hid (Below w1.heap.size w1 w2) := b2
        clear cW o2 b2
        go_wp2_with fail
        refine (cR _ HB.out).mono ?_
        rintro e w3 ⟨rfl, b3⟩
        have HO3 : Hid (w3.ownsRow w1.heap.size 3 1 v p.length (ints p)) := owns_kept HO.out (Kept.of_below (fun _ => False) b3) fun _ _ q => q
        have HB3 : Hid (Below w1.heap.size w1 w3) := bt HB.out b3
        clear cR b3 HO HB
        go_wp2_with (at_builtin; go_must (refine wpList_append_own _ rfl (.tmp 36) (.tmp 41) 45 rfl w1.heap.size 3 i0 (.int .i64 0) 1 8 Tryz.underlying45 hi0 hz0 hz1 hz2 rfl (by decide) _ _ _ rfl (HO3.out.alloc _) ⟨_, 0, none⟩ 1 1 [.int .i64 x] rfl rfl (cell_one_new _ _ _) (fun u hu => by rw [List.mem_singleton.1 hu]; rfl) (by unfold maxLen; omega) (by omega) (by have := HB3.out.size; simp; omega) ?_); intro v1 wn o1 g1 z1; clear z1)
        have HBN : Hid (Below w1.heap.size w1 wn) := (HB3.out.alloc HB3.out.size _).grown g1 (by have := HB3.out.size; simp; omega) (fun k hk => (HO3.out.lt k hk).1)
        have HON : Hid (wn.ownsRow w1.heap.size 3 1 v1 (p ++ [x]).length (ints (p ++ [x]))) := by
          rw [show (p ++ [x]).length = p.length + 1 by simp, show ints (p ++ [x]) = ints p ++ [.int .i64 x] by simp [ints]]
          exact o1
        clear g1 o1 HO3 HB3
        go_ret
        exact ⟨_, rfl, by rw [HE.out]; exact HON.out, HBN.out⟩
theorem way_le (l : List Int) (i : Nat) (I : Int) (a : Option Addr) (n cap : Nat) (w : World) (hI : I = i) (hi : i < n) (hn : n ≤ 200) (hr : Row w a n cap (ints l)) (hv : ∀ x ∈ l, Nums.valid x = true) :
    Calls Tryz.prog 44 #[.slice a n cap, .int .i64 I] w fun e w' => ∃ v, e = .returned v ∧ w'.ownsRow w.heap.size 3 1 v (Ways.way l i).length (ints (Ways.way l i)) ∧ Below w.heap.size w w' :=
  way_any (n + 1) l i I a n cap w hI (Nat.lt_succ_self _) hi hn hr hv

theorem upL_last (p : List Int) (ts : List Bool) (s : Int) (t : Bool) (m : Nat) (h : p.length = m + 1) (hl : ts.length = m) : Ways.upL s p (ts ++ [t]) = Ways.up1 (Ways.upL s (p.take m) ts) (p.getD m 0) t := by
  have e : p = p.take m ++ [p.getD m 0] := by
    rw [List.getD_eq_getElem?_getD, List.getElem?_eq_getElem (by omega)]
    show p = p.take m ++ [p[m]]
    rw [← List.take_succ_eq_append_getElem (by omega), List.take_of_length_le (by omega)]
  have u := Ways.upL_append (p.take m) ts s (p.getD m 0) t (by rw [List.length_take]; omega)
  rw [← e] at u
  exact u


end Go.Proofs.YticadkggaanbjaaGreatDoor.WalkWayRef

/-
  What the document's own answer (package witref2) returns to a text that a log is asked: Answer.
-/
namespace Go.Proofs.YticadkggaanbjaaGreatDoor.WalkAnswerRef
open Go.RowKit
open Lists (Row ints strs bt)
open Keeps (Kept owns_kept owns_row owns_base)
open Wides (Wide owns_wide)
open Entries (Entry entsE leafsOf)
open EntRows (cells)
open Nums (str text)
open Decimals (words number)
open Answers
open HeadVals (hv aggH sizeH)

/-- a word as a number, and whether it is one -/
theorem num_is (l : List UInt8) : num l = if WalkNum4.num4B l = true then some (WalkNum4.num4V l) else none := by
  unfold num WalkNum4.num4B WalkNum4.num4V
  cases number l 4 <;> rfl

def asInts (ns : List Nat) : List Int := ns.map fun (k : Nat) => (k : Int)
theorem ints_snoc (ns : List Nat) (N : Nat) : ints (asInts (ns ++ [N])) = ints (asInts ns) ++ [.int .i64 (N : Int)] := by
  unfold asInts ints
  rw [List.map_append, List.map_append]
  rfl
/-- two numbers, as they lie -/
theorem two_ints {w : World} {B : Nat} {v : Value} {ns : List Nat} (h : w.ownsRow B 3 1 v ns.length (ints (asInts ns))) (h2 : ns.length = 2) : ∃ N0 N1 g c, ns = [N0, N1] ∧ v = .slice (some ⟨g, 0, none⟩) 2 c ∧ w.cell? ⟨g, 0, none⟩ = some (.int .i64 (N0 : Int)) ∧ w.cell? ⟨g, 1, none⟩ = some (.int .i64 (N1 : Int)) := by
  match ns, h2 with
  | [N0, N1], _ =>
    obtain ⟨g, c, rfl, _, _, _, _, _, hc, _⟩ := Keeps.owns_open h (by simp)
    exact ⟨N0, N1, g, c, rfl, rfl, hc 0 _ rfl, hc 1 _ rfl⟩
theorem one_int {w : World} {B : Nat} {v : Value} {ns : List Nat} (h : w.ownsRow B 3 1 v ns.length (ints (asInts ns))) (h2 : ns.length = 1) : ∃ N0 g c, ns = [N0] ∧ v = .slice (some ⟨g, 0, none⟩) 1 c ∧ w.cell? ⟨g, 0, none⟩ = some (.int .i64 (N0 : Int)) := by
  match ns, h2 with
  | [N0], _ =>
    obtain ⟨g, c, rfl, _, _, _, _, _, hc, _⟩ := Keeps.owns_open h (by simp)
    exact ⟨N0, g, c, rfl, rfl, hc 0 _ rfl⟩
theorem turns_le : ∀ (f i n : Nat), (Ways.turnsF f i n).length ≤ f
  | 0, _, _ => by simp [Ways.turnsF]
  | f + 1, i, n => by
    unfold Ways.turnsF
    split
    · simp
    · split
      · have := turns_le f i (Trees.half n)
        simp only [List.length_append, List.length_singleton]
        omega
      · have := turns_le f (i - Trees.half n) (n - Trees.half n)
        simp only [List.length_append, List.length_singleton]
        omega
theorem way_le (l : List Int) (i : Nat) : (Ways.way l i).length ≤ l.length := by
  rw [Ways.way_len]
  exact turns_le _ _ _
theorem grow_le (l : List Int) (o : Nat) (h1 : 1 ≤ o) (h2 : o ≤ l.length) : (Grows.grow l o true).length ≤ l.length + 1 := by
  rw [Grows.grow_length _ l o true (Nat.le_refl _) h1 h2]
  have := Grows.gturns_le _ o l.length (Nat.le_refl _)
  unfold Grows.gsteps
  split <;> omega
theorem word_is (w x : List UInt8) : ((str w).toList == x) = decide (w = x) := by
  rw [Nums.str_toList]
  by_cases h : w = x
  · subst h; simp
  · rw [decide_eq_false h]; simpa using h
theorem words_len (c : UInt8) : ∀ l : List UInt8, (words c l).length ≤ l.length + 1 ∧ ∀ x ∈ words c l, x.length ≤ l.length
  | [] => ⟨by simp [words], fun x hx => by simp [words] at hx; subst hx; simp⟩
  | y :: l => by
    obtain ⟨i1, i2⟩ := words_len c l
    rw [words]
    split
    · refine ⟨by simp only [List.length_cons]; omega, fun x hx => ?_⟩
      rcases List.mem_cons.1 hx with rfl | hx
      · simp
      · have := i2 x hx; simp only [List.length_cons]; omega
    · cases hw : words c l with
      | nil => exact absurd hw (Decimals.words_ne c l)
      | cons a r =>
        rw [hw] at i1 i2
        refine ⟨by simp only [List.length_cons] at i1 ⊢; omega, fun x hx => ?_⟩
        rcases List.mem_cons.1 hx with rfl | hx
        · have := i2 a (List.mem_cons_self ..)
          simp only [List.length_cons]; omega
        · have := i2 x (List.mem_cons_of_mem _ hx)
          simp only [List.length_cons]; omega

set_option maxHeartbeats 8000000 in
set_option maxRecDepth 100000 in
theorem answer_any (l : List Entry) (a : Option Addr) (n cap : Nat) (key now : Int) (ask : ByteArray) (w : World) (hr : Wide 2 w a n cap (cells l)) (hz : ∀ e ∈ l, e.2.size ≤ maxLen) (hs : ask.size ≤ 1048576) :
    Calls Tryz.prog 7 #[.slice a n cap, .int .i64 key, .int .i64 now, .string ask] w fun e w' => e = .returned (.tuple #[.string (str (answer l key now ask.data.toList).1), .int .i64 ((answer l key now ask.data.toList).2 : Nat)]) ∧ Below w.heap.size w w' := by
  have cC := WalkNumberRef.cut_any ask 32 w hs
  have hln := EntRows.len_of hr
  have HR : Hid (Wide 2 w a n cap (cells l)) := hr
  have HZ : Hid (∀ e ∈ l, e.2.size ≤ maxLen) := hz
  have hal : ask.data.toList.length = ask.size := by simp
  have hwl : (words 32 ask.data.toList).length ≤ 1048577 := by have := (words_len 32 ask.data.toList).1; omega
  have hwn : words 32 ask.data.toList ≠ [] := Decimals.words_ne 32 _
  have hwsz : ∀ x ∈ words 32 ask.data.toList, x.length ≤ 1048576 := fun x hx => by have := (words_len 32 ask.data.toList).2 x hx; omega
  obtain ⟨w0, wt, hws⟩ : ∃ x y, words 32 ask.data.toList = x :: y := List.exists_cons_of_ne_nil hwn
  obtain ⟨ha1, ha2, ha3⟩ := answer_cases l key now ask.data.toList hws
  have HA1 : Hid (wt.length + 1 ≠ many w0 → answer l key now ask.data.toList = ([], 2)) := ha1
  have HA2 : Hid (nums wt = none → answer l key now ask.data.toList = ([], 2)) := ha2
  have HA3 : Hid (∀ ns, wt.length + 1 = many w0 → nums wt = some ns → (logE l key now ≠ 0 → answer l key now ask.data.toList = ([], logE l key now)) ∧ (logE l key now = 0 → answer l key now ask.data.toList = tell l key now w0 (ns.getD 0 0) (ns.getD 1 0))) := ha3
  clear ha1 ha2 ha3
  rw [hws] at hwl hwn hwsz cC
  clear hws
  generalize answer l key now ask.data.toList = ANS at *
  clear hr hz hs
  go_enter Tryz.func7, Tryz.ntmps7
  go_wp2_with fail
  refine cC.mono ?_
  rintro e w1 ⟨v1, rfl, o1, b1⟩
  have HO1 : Hid (w1.ownsRow w.heap.size 9 1 v1 (w0 :: wt).length (strs ((w0 :: wt).map str))) := o1
  obtain ⟨a1, c1, rfl, hr1, _⟩ := owns_row o1
  have HR1 : Hid (Row w1 a1 (w0 :: wt).length c1 (strs ((w0 :: wt).map str))) := hr1
  have HB1 : Hid (Below w.heap.size w w1) := b1
  obtain ⟨g1, of1, rfl, hc1⟩ := hr1.2.2 (by simp)
  have q0 := hc1 0 (.string (str w0)) rfl
  rw [Nat.add_zero] at q0
  clear cC o1 b1 hr1 hc1 hwn
  have HWL : Hid ((w0 :: wt).length = wt.length + 1) := rfl
  generalize (w0 :: wt).length = WL at *
  have hWL0 : 0 < WL := by have := HWL.out; omega
  go_upto_block 0 with fail
  obtain ⟨W0, HW0⟩ : ∃ W0, Hid (str w0 = W0) := ⟨_, rfl⟩
  rw [HW0.out] at q0 ⊢
  obtain ⟨M, HM⟩ : ∃ M, Hid (many w0 = M) := ⟨_, rfl⟩
  have HE : Hid (∀ x, (W0.toList == x) = decide (w0 = x)) := fun x => by rw [← HW0.out]; exact word_is w0 x
  go_cut [11] from 28 to 36 (fun v wc => ∃ K : Int, v = .int .i64 K ∧ K + 1 = (M : Int) ∧ w1 = wc)
  case first => as_aux_lemma =>
    by_cases h1 : w0 = wHead
    · have t1 : (W0.toList == [104, 101, 97, 100]) = true := by rw [HE.out]; exact decide_eq_true h1
      have hM : M = 1 := by rw [← HM.out, h1]; decide
      clear h1
      go_wp2_with fail
      go_meet
      case rel => exact ⟨0, rfl, by omega, rfl⟩
    have t1 : (W0.toList == [104, 101, 97, 100]) = false := by rw [HE.out]; exact decide_eq_false h1
    by_cases h2 : w0 = wEntry
    · have t2 : (W0.toList == [101, 110, 116, 114, 121]) = true := by rw [HE.out]; exact decide_eq_true h2
      have hM : M = 2 := by rw [← HM.out, h2]; decide
      clear h1 h2
      go_wp2_with fail
      go_meet
      case rel => exact ⟨1, rfl, by omega, rfl⟩
    have t2 : (W0.toList == [101, 110, 116, 114, 121]) = false := by rw [HE.out]; exact decide_eq_false h2
    by_cases h3 : w0 = wLeaf
    · have t3 : (W0.toList == [108, 101, 97, 102]) = true := by rw [HE.out]; exact decide_eq_true h3
      have hM : M = 2 := by rw [← HM.out, h3]; decide
      clear h1 h2 h3
      go_wp2_with fail
      go_meet
      case rel => exact ⟨1, rfl, by omega, rfl⟩
    have t3 : (W0.toList == [108, 101, 97, 102]) = false := by rw [HE.out]; exact decide_eq_false h3
    by_cases h4 : w0 = wProof
    · have t4 : (W0.toList == [112, 114, 111, 111, 102]) = true := by rw [HE.out]; exact decide_eq_true h4
      have hM : M = 3 := by rw [← HM.out, h4]; decide
      clear h1 h2 h3 h4
      go_wp2_with fail
      go_meet
      case rel => exact ⟨2, rfl, by omega, rfl⟩
    have t4 : (W0.toList == [112, 114, 111, 111, 102]) = false := by rw [HE.out]; exact decide_eq_false h4
    by_cases h5 : w0 = wGrow
    · have t5 : (W0.toList == [103, 114, 111, 119]) = true := by rw [HE.out]; exact decide_eq_true h5
      have hM : M = 3 := by rw [← HM.out, h5]; decide
      clear h1 h2 h3 h4 h5
      go_wp2_with fail
      go_meet
      case rel => exact ⟨2, rfl, by omega, rfl⟩
    have t5 : (W0.toList == [103, 114, 111, 119]) = false := by rw [HE.out]; exact decide_eq_false h5
    by_cases h6 : w0 = wTile
    · have t6 : (W0.toList == [116, 105, 108, 101]) = true := by rw [HE.out]; exact decide_eq_true h6
      have hM : M = 3 := by rw [← HM.out, h6]; decide
      clear h1 h2 h3 h4 h5 h6
      go_wp2_with fail
      go_meet
      case rel => exact ⟨2, rfl, by omega, rfl⟩
    · have t6 : (W0.toList == [116, 105, 108, 101]) = false := by rw [HE.out]; exact decide_eq_false h6
      have hM : M = 0 := by
        rw [← HM.out]
        unfold many
        rw [if_neg h1, if_neg (by rintro (q | q); exact h2 q; exact h3 q), if_neg (by rintro (q | q | q); exact h4 q; exact h5 q; exact h6 q)]
      clear h1 h2 h3 h4 h5 h6
      go_wp2_with fail
      go_meet
      case rel => exact ⟨-1, rfl, by omega, rfl⟩
  obtain ⟨K, rfl, eK, rfl⟩ := hcut
  have hM3 : M ≤ 3 := by rw [← HM.out]; exact many_le w0
  have wK : IntKind.i64.wrap (M : Int) = (M : Int) := by rw [IntKind.wrap_i64]; omega
  by_cases hlen : WL = M
  rotate_left
  · have HF : Hid (ANS = ([], 2)) := HA1.out (by rw [HM.out, ← HWL.out]; exact hlen)
    have i1 : ((WL : Int) == (M : Int)) = false := by simp; omega
    have i2 : ¬ (WL : Int) = (M : Int) := by omega
    go_wp2_with fail
    go_ret2
    exact ⟨by rw [HF.out]; rfl, HB1.out⟩
  subst hlen
  obtain ⟨i0, hi, hz0, hz1, hz2⟩ := info_parts WalkGrowRef.info3
  have i1 : ((WL : Int) == (WL : Int)) = true := by simp
  go_upto_region 17 with fail
  clear i1 eK wK
  go_loopw [12, 13, 14, 15] (fun nv iv _ _ wr => ∃ (i : Nat) (ns : List Nat), 1 ≤ i ∧ i ≤ WL ∧ iv = .int .i64 (i : Int) ∧ ns.length + 1 = i ∧ Hid (nums (wt.take (i - 1)) = some ns) ∧ Hid (wr.ownsRow w1.heap.size 3 1 nv ns.length (ints (asInts ns))) ∧ Hid (Below w1.heap.size w1 wr)) (fun _ iv _ _ _ => WL - (intOf iv).toNat)
  case atStart => exact ⟨1, [], Nat.le_refl _, hWL0, rfl, rfl, rfl, World.ownsRow_nil _ _ _ _, Below.refl _ _⟩
  case round =>
    obtain ⟨i, ns, hi1, hi2, rfl, hns, HNs, HOn, HBr⟩ := hrel
    by_cases hlt : i < WL
    · have i1 : (i : Int) < (WL : Int) := by omega
      obtain ⟨x, hx⟩ : ∃ x, wt[i - 1]? = some x := ⟨wt[i - 1]'(by have := HWL.out; omega), List.getElem?_eq_getElem _⟩
      have hxs := hwsz x (List.mem_cons_of_mem _ (List.mem_of_getElem? hx))
      have hxi : (strs ((w0 :: wt).map str))[i]? = some (.string (str x)) := by
        obtain ⟨j, rfl⟩ : ∃ j, i = j + 1 := ⟨i - 1, by omega⟩
        rw [Nat.add_sub_cancel] at hx
        simp [strs, hx]
      have c0 := (HR1.out.below HBr.out).at i _ hxi
      have cN := WalkNum4.number_four (str x) wr (by rw [Nums.str_size]; unfold maxLen; omega)
      rw [Nums.str_data] at cN
      have hnum := num_is x
      cases hB : WalkNum4.num4B x with
      | false =>
        rw [hB] at cN hnum
        have HF : Hid (ANS = ([], 2)) := HA2.out (nums_none hx (by rw [hnum]; rfl))
        have HBw : Hid (Below w.heap.size w wr) := bt HB1.out HBr.out
        generalize str x = X at c0 cN
        clear hx hxi hnum hB hxs
        go_wp2_with fail
        refine cN.mono ?_
        rintro e w5 ⟨rfl, rfl⟩
        clear cN
        go_wp2_with fail
        go_ret2
        exact ⟨by rw [HF.out]; rfl, HBw.out⟩
      | true =>
        rw [hB] at cN hnum
        have hnn := nums_next hx HNs.out (by rw [hnum]; rfl)
        rw [show i - 1 + 1 = i + 1 - 1 by omega] at hnn
        have HN2 : Hid (nums (wt.take (i + 1 - 1)) = some (ns ++ [WalkNum4.num4V x])) := hnn
        generalize WalkNum4.num4V x = N at cN HN2
        generalize str x = X at c0 cN
        have HBs : Hid (w1.heap.size ≤ wr.heap.size) := HBr.out.size
        have HFF : Hid (∀ wn, (wr.alloc (.cells #[.int .i64 (N : Int)] 3)).grownBy wn u12.ownBlock → Below w1.heap.size w1 wn) := fun wn gr => (HBr.out.alloc HBs.out _).grown gr (by have := HBs.out; simp; omega) fun j hj => (HOn.out.lt j hj).1
        clear hx hxi hnum hB hxs hnn
        go_wp2_with fail
        refine cN.mono ?_
        rintro e w5 ⟨rfl, rfl⟩
        clear cN
        go_wp2_with (at_builtin; go_must (refine wpList_append_own _ rfl (.tmp 58) (.tmp 60) 45 rfl w1.heap.size 3 i0 (.int .i64 0) 1 8 Tryz.underlying45 hi hz0 hz1 hz2 rfl (by decide) _ _ _ rfl (HOn.out.alloc _) ⟨_, 0, none⟩ 1 1 [.int .i64 (N : Int)] rfl rfl (cell_one_new _ _ _) (fun u hu => by rw [List.mem_singleton.1 hu]; rfl) (by unfold maxLen; omega) (by omega) (by have := HBs.out; simp; omega) ?_); intro v1 wn o1 g1 z1; clear z1; have HO6 : Hid (wn.ownsRow w1.heap.size 3 1 v1 (ns ++ [N]).length (ints (asInts (ns ++ [N])))) := (by show World.ownsRow _ _ _ _ _ _ _; rw [List.length_append, ints_snoc]; exact o1); have HB6 : Hid (Below w1.heap.size w1 wn) := HFF.out wn g1; clear o1 g1)
        go_roundw
        case rel => exact ⟨i + 1, ns ++ [N], by omega, by omega, by go_num, by rw [List.length_append]; show ns.length + 1 + 1 = i + 1; omega, HN2, HO6, HB6⟩
        case measure => simp [intOf]; omega
    · obtain rfl : i = WL := by omega
      have i1 : ¬ (i : Int) < (i : Int) := by omega
      have hnw : nums wt = some ns := by
        have h := HNs.out
        rw [List.take_of_length_le (by have := HWL.out; omega)] at h
        exact h
      obtain ⟨hb3, hb4⟩ := HA3.out ns (by rw [HM.out, ← HWL.out]) hnw
      have HT3 : Hid (logE l key now ≠ 0 → ANS = ([], logE l key now)) := hb3
      have HT4 : Hid (logE l key now = 0 → ANS = tell l key now w0 (ns.getD 0 0) (ns.getD 1 0)) := hb4
      have HBw : Hid (Below w.heap.size w wr) := bt HB1.out HBr.out
      have cL := WalkLogRef.log_any l a n cap key now wr (HR.out.below HBw.out) HZ.out
      have HLE : Hid (WalkLogRef.logE l key now = logE l key now ∧ WalkLogRef.logH l key now = logH l key now) := ⟨rfl, rfl⟩
      rw [HLE.out.1, HLE.out.2] at cL
      have HR1' : Hid (∀ w5, Below wr.heap.size wr w5 → w5.cell? ⟨g1, of1, none⟩ = some (.string W0)) := fun w5 b5 => Lists.cell_below (bt HBr.out b5) q0
      have HRw : Hid (∀ w5, Below wr.heap.size wr w5 → Wide 2 w5 a n cap (cells l)) := fun w5 b5 => HR.out.below (bt HBw.out b5)
      have HOw : Hid (∀ w5, Below wr.heap.size wr w5 → w5.ownsRow w1.heap.size 3 1 u12 ns.length (ints (asInts ns))) := fun w5 b5 => owns_kept HOn.out (Kept.of_below (fun _ => False) b5) fun _ _ q => q
      clear hb3 hb4 hnw HA1 HA2 HA3 HNs q0 HOn
      by_cases hT : logE l key now = 0
      rotate_left
      · have HF : Hid (ANS = ([], logE l key now)) := HT3.out hT
        generalize logE l key now = T at *
        have e1 : ((T : Int) != 0) = true := by simpa using hT
        generalize logH l key now = H at *
        obtain ⟨h0, h1, h2, h3⟩ := H
        unfold hv at cL
        clear HT3 HT4
        go_wp2_with fail
        refine cL.mono ?_
        rintro e w5 ⟨rfl, b5⟩
        have HB5 : Hid (Below w.heap.size w (w5.alloc (.cells #[.int .i64 h0, .int .i64 h1, .int .i64 h2, .int .i64 h3] 31))) := (bt HBw.out b5).alloc (bt HBw.out b5).size _
        clear cL b5
        go_wp2_with fail
        go_ret2
        exact ⟨by rw [HF.out]; rfl, HB5.out⟩
      · have HF : Hid (ANS = tell l key now w0 (ns.getD 0 0) (ns.getD 1 0)) := HT4.out hT
        have hok := head_ok hT
        have hents := (log_ok hT).1
        have h200 := (Entries.ents_ok hents).1
        rw [hT] at cL
        have HOK : Hid (Heads.ok (logH l key now) = true) := hok
        have HPr : Hid (∀ w5, Calls Tryz.prog 42 #[hv (logH l key now)] w5 fun e w' => e = .returned (.string (str (Heads.print (logH l key now)))) ∧ Below w5.heap.size w5 w') := fun w5 => WalkHeadRef.headText_any _ w5 hok
        have HLf : Hid (∀ w5, Wide 2 w5 a n cap (cells l) → Calls Tryz.prog 41 #[.slice a n cap] w5 fun e w' => ∃ v, e = .returned v ∧ w'.ownsRow w5.heap.size 3 1 v (leafsOf l).length (ints (leafsOf l)) ∧ Below w5.heap.size w5 w') := fun w5 h5 => WalkUnpackRef.leafs_any l a n cap w5 h5 hents
        clear HT3 HT4 hT hok HLE
        have HPV : Hid (w0 = wHead → ANS = (Heads.print (logH l key now), 0)) := fun e => by rw [HF.out, e]; rfl
        generalize Heads.print (logH l key now) = PR at HPr HPV
        generalize logH l key now = H at *
        obtain ⟨h0, h1, h2, h3⟩ := H
        unfold hv at cL HPr
        go_wp2_with fail
        refine cL.mono ?_
        rintro e w5 ⟨rfl, b5⟩
        go_upto_region 26 with fail
        have b6 : Below wr.heap.size wr (w5.alloc (.cells #[.int .i64 h0, .int .i64 h1, .int .i64 h2, .int .i64 h3] 31)) := b5.alloc b5.size _
        have k0 : (w5.alloc (.cells #[.int .i64 h0, .int .i64 h1, .int .i64 h2, .int .i64 h3] 31)).cell? ⟨w5.heap.size, 0, none⟩ = some (.int .i64 h0) := by simp
        have k1 : (w5.alloc (.cells #[.int .i64 h0, .int .i64 h1, .int .i64 h2, .int .i64 h3] 31)).cell? ⟨w5.heap.size, 1, none⟩ = some (.int .i64 h1) := by simp
        have k2 : (w5.alloc (.cells #[.int .i64 h0, .int .i64 h1, .int .i64 h2, .int .i64 h3] 31)).cell? ⟨w5.heap.size, 2, none⟩ = some (.int .i64 h2) := by simp
        have k3 : (w5.alloc (.cells #[.int .i64 h0, .int .i64 h1, .int .i64 h2, .int .i64 h3] 31)).cell? ⟨w5.heap.size, 3, none⟩ = some (.int .i64 h3) := by simp
        clear cL b5
        generalize w5.alloc (.cells #[.int .i64 h0, .int .i64 h1, .int .i64 h2, .int .i64 h3] 31) = w6 at b6 k0 k1 k2 k3 ⊢
        generalize w5.heap.size = hb at k0 k1 k2 k3 ⊢
        have cF := HLf.out w6 (HRw.out w6 b6)
        have HB6 : Hid (Below wr.heap.size wr w6) := b6
        clear b6 HLf
        go_wp2_with fail
        refine cF.mono ?_
        rintro e w7 ⟨v7, rfl, o7, b7⟩
        have HB7 : Hid (Below wr.heap.size wr w7) := bt HB6.out b7
        have HBW : Hid (Below w.heap.size w w7) := bt HBw.out HB7.out
        have q7 := HR1'.out w7 HB7.out
        have HN7 : Hid (w7.ownsRow w1.heap.size 3 1 u12 ns.length (ints (asInts ns))) := HOw.out w7 HB7.out
        have HO7 : Hid (w7.ownsRow w6.heap.size 3 1 v7 (leafsOf l).length (ints (leafsOf l))) := o7
        have j0 := Lists.cell_below b7 k0
        have j1 := Lists.cell_below b7 k1
        have j2 := Lists.cell_below b7 k2
        have j3 := Lists.cell_below b7 k3
        have hll : (leafsOf l).length = n := by simp [leafsOf, hln]
        obtain ⟨a7, c7, rfl, hr7, _⟩ := owns_row o7
        rw [hll] at hr7
        have HR7 : Hid (Row w7 a7 n c7 (ints (leafsOf l))) := hr7
        have HVl : Hid (∀ x ∈ leafsOf l, Nums.valid x = true) := WalkRootOf.leafs_valid
        have aH := aggH
        have zH := sizeH
        rw [hll]
        clear cF o7 b7 k0 k1 k2 k3 hr7
        go_upto_region 28 with fail
        by_cases h1' : w0 = wHead
        · have t1 : (W0.toList == [104, 101, 97, 100]) = true := by rw [HE.out]; exact decide_eq_true h1'
          have HV : Hid (ANS = (PR, 0)) := HPV.out h1'
          have cP := HPr.out w7
          clear h1' HPV
          go_wp2_with fail
          refine cP.mono ?_
          rintro e w8 ⟨rfl, b8⟩
          have HB8 : Hid (Below w.heap.size w w8) := bt HBW.out b8
          clear cP b8
          go_wp2_with fail
          go_ret2
          exact ⟨by rw [HV.out]; rfl, HB8.out⟩
        have t1 : (W0.toList == [104, 101, 97, 100]) = false := by rw [HE.out]; exact decide_eq_false h1'
        clear HPr HPV j0 j1 j2 j3 aH zH
        by_cases h4' : w0 = wProof
        · as_aux_lemma =>
          have t4 : (W0.toList == [112, 114, 111, 111, 102]) = true := by rw [HE.out]; exact decide_eq_true h4'
          have hi3 : i = 3 := by rw [← HM.out, h4']; decide
          obtain ⟨N0, N1, gn, cn, rfl, rfl, d0, d1⟩ := two_ints HN7.out (by omega)
          have HFp : Hid (ANS = if N1 ≤ N0 ∨ l.length < N1 then ([], 1) else (sumsT (Ways.way ((leafsOf l).take N1) N0), 0)) := by
            show ANS = _
            rw [HF.out, h4']
            rfl
          clear h4' HF HM
          go_upto_region 31 with fail
          by_cases c1 : N1 ≤ N0
          · have j1 : (N1 : Int) ≤ (N0 : Int) := by omega
            have HV : Hid (ANS = ([], 1)) := by show ANS = _; rw [HFp.out, if_pos (.inl c1)]
            go_region
            have HB8 : Hid (Below w.heap.size w w7.drew) := HBW.out.drew
            generalize World.drew _ = w8 at HB8 ⊢
            go_wp2_with fail
            go_ret2
            exact ⟨by rw [HV.out]; rfl, HB8.out⟩
          · have j1 : ¬ (N1 : Int) ≤ (N0 : Int) := by omega
            by_cases c2 : n < N1
            · have j2 : (n : Int) < (N1 : Int) := by omega
              have HV : Hid (ANS = ([], 1)) := by show ANS = _; rw [HFp.out, if_pos (.inr (by omega))]
              go_region
              have HB8 : Hid (Below w.heap.size w w7.drew) := HBW.out.drew
              generalize World.drew _ = w8 at HB8 ⊢
              go_wp2_with fail
              go_ret2
              exact ⟨by rw [HV.out]; rfl, HB8.out⟩
            · have j2 : ¬ (n : Int) < (N1 : Int) := by omega
              have HV : Hid (ANS = (sumsT (Ways.way ((leafsOf l).take N1) N0), 0)) := by show ANS = _; rw [HFp.out, if_neg (by omega)]
              have hpos : 0 < n := by omega
              have h200n : n ≤ 200 := by omega
              obtain ⟨g7, o7, rfl, _⟩ := HR7.out.2.2 hpos
              have hc7 : n ≤ c7 := HR7.out.2.1
              have HWay : Hid (∀ w', Below w7.heap.size w7 w' → Calls Tryz.prog 44 #[.slice (some ⟨g7, o7, none⟩) N1 c7, .int .i64 (N0 : Int)] w' fun e w'' => ∃ v, e = .returned v ∧ w''.ownsRow w'.heap.size 3 1 v (Ways.way ((leafsOf l).take N1) N0).length (ints (Ways.way ((leafsOf l).take N1) N0)) ∧ Below w'.heap.size w' w'') := fun w' b' => by
                have hrt := (HR7.out.below b').take N1 (by omega)
                rw [show (ints (leafsOf l)).take N1 = ints ((leafsOf l).take N1) from List.map_take.symm] at hrt
                exact WalkWayRef.way_any (N1 + 1) _ N0 N0 _ N1 c7 w' rfl (by omega) (by omega) (by omega) hrt (fun x hx => HVl.out x (List.mem_of_mem_take hx))
              have HTx : Hid (∀ w' a' c', Row w' a' (Ways.way ((leafsOf l).take N1) N0).length c' (ints (Ways.way ((leafsOf l).take N1) N0)) → Calls Tryz.prog 43 #[.slice a' (Ways.way ((leafsOf l).take N1) N0).length c'] w' fun e w'' => e = .returned (.string (str (sumsT (Ways.way ((leafsOf l).take N1) N0)))) ∧ w'' = w') := fun w' a' c' h' => WalkSumsText.texts_any _ a' _ c' w' h' (by have := way_le ((leafsOf l).take N1) N0; rw [List.length_take] at this; omega) (Ways.way_valid _ _ _ (Nat.le_refl _) fun x hx => HVl.out x (List.mem_of_mem_take hx))
              generalize sumsT (Ways.way ((leafsOf l).take N1) N0) = TX at HV HTx
              generalize Ways.way ((leafsOf l).take N1) N0 = WY at HWay HTx
              go_region
              have HB8 : Hid (Below w7.heap.size w7 w7.drew) := (Below.refl _ _).drew
              have d0' : w7.drew.cell? ⟨gn, 0, none⟩ = some (.int .i64 (N0 : Int)) := d0
              have d1' : w7.drew.cell? ⟨gn, 1, none⟩ = some (.int .i64 (N1 : Int)) := d1
              clear d0 d1 t1 t4 q7
              generalize World.drew _ = w8 at HB8 d0' d1' ⊢
              have i5 : (N1 : Int) ≤ (n : Int) := by omega
              have i6 : (N1 : Int) ≤ (c7 : Int) := by omega
              have i7 : (0 : Int) ≤ (N1 : Int) := by omega
              have HC8 : Hid (∀ w', Below w8.heap.size w8 w' → w'.cell? ⟨gn, 0, none⟩ = some (.int .i64 (N0 : Int)) ∧ w'.cell? ⟨gn, 1, none⟩ = some (.int .i64 (N1 : Int))) := fun w' b' => ⟨Lists.cell_below b' d0', Lists.cell_below b' d1'⟩
              have e0 : w8.drew.cell? ⟨gn, 0, none⟩ = some (.int .i64 (N0 : Int)) := d0'
              have e1 : w8.drew.cell? ⟨gn, 1, none⟩ = some (.int .i64 (N1 : Int)) := d1'
              go_upto_region 33 with fail
              go_region_held3 (fun w' => w'.cell? ⟨gn, 0, none⟩ = some (.int .i64 (N0 : Int)) ∧ w'.cell? ⟨gn, 1, none⟩ = some (.int .i64 (N1 : Int))) (first | exact ⟨s0, s1⟩ | exact ⟨e0, e1⟩ | go_keep) (first | (go_at_call 44; refine (HWay.out _ (bt HB8.out (Below.refl _ w8).drew)).mono ?_; rintro e w9 ⟨v9, rfl, o9, b9⟩; have HB9 : Hid (Below w8.heap.size w8 w9) := bt (Below.refl _ w8).drew b9; obtain ⟨s0, s1⟩ := HC8.out w9 HB9.out; obtain ⟨a9, c9, rfl, hr9, _⟩ := owns_row o9; have HR9 : Hid (Row w9 a9 WY.length c9 (ints WY)) := hr9; clear o9 b9 hr9) | (go_at_call 43; refine (HTx.out _ _ _ HR9.out).mono ?_; rintro e wa ⟨rfl, rfl⟩))
              have HBf : Hid (Below w.heap.size w wa) := bt HBW.out (bt HB8.out HB9.out)
              go_wp2_with fail
              go_ret2
              exact ⟨by rw [HV.out]; rfl, HBf.out⟩
        have t4 : (W0.toList == [112, 114, 111, 111, 102]) = false := by rw [HE.out]; exact decide_eq_false h4'
        by_cases h5' : w0 = wGrow
        · as_aux_lemma =>
          have t5 : (W0.toList == [103, 114, 111, 119]) = true := by rw [HE.out]; exact decide_eq_true h5'
          have hi3 : i = 3 := by rw [← HM.out, h5']; decide
          obtain ⟨N0, N1, gn, cn, rfl, rfl, d0, d1⟩ := two_ints HN7.out (by omega)
          have HFp : Hid (ANS = if N0 < 1 ∨ N1 < N0 ∨ l.length < N1 then ([], 1) else (sumsT (Grows.grow ((leafsOf l).take N1) N0 true), 0)) := by
            show ANS = _
            rw [HF.out, h5']
            rfl
          clear h5' HF HM
          go_upto_region 35 with fail
          by_cases c0 : N0 < 1
          · have j0 : (N0 : Int) < 1 := by omega
            have HV : Hid (ANS = ([], 1)) := by show ANS = _; rw [HFp.out, if_pos (.inl c0)]
            go_region
            have HB8 : Hid (Below w.heap.size w w7.drew) := HBW.out.drew
            generalize World.drew _ = w8 at HB8 ⊢
            go_wp2_with fail
            go_ret2
            exact ⟨by rw [HV.out]; rfl, HB8.out⟩
          have j0 : ¬ (N0 : Int) < 1 := by omega
          by_cases c1 : N1 < N0
          · have j1 : (N1 : Int) < (N0 : Int) := by omega
            have HV : Hid (ANS = ([], 1)) := by show ANS = _; rw [HFp.out, if_pos (.inr (.inl c1))]
            go_region
            have HB8 : Hid (Below w.heap.size w w7.drew) := HBW.out.drew
            generalize World.drew _ = w8 at HB8 ⊢
            go_wp2_with fail
            go_ret2
            exact ⟨by rw [HV.out]; rfl, HB8.out⟩
          · have j1 : ¬ (N1 : Int) < (N0 : Int) := by omega
            by_cases c2 : n < N1
            · have j2 : (n : Int) < (N1 : Int) := by omega
              have HV : Hid (ANS = ([], 1)) := by show ANS = _; rw [HFp.out, if_pos (.inr (.inr (by omega)))]
              go_region
              have HB8 : Hid (Below w.heap.size w w7.drew) := HBW.out.drew
              generalize World.drew _ = w8 at HB8 ⊢
              go_wp2_with fail
              go_ret2
              exact ⟨by rw [HV.out]; rfl, HB8.out⟩
            · have j2 : ¬ (n : Int) < (N1 : Int) := by omega
              have HV : Hid (ANS = (sumsT (Grows.grow ((leafsOf l).take N1) N0 true), 0)) := by show ANS = _; rw [HFp.out, if_neg (by omega)]
              have hpos : 0 < n := by omega
              have h200n : n ≤ 200 := by omega
              obtain ⟨g7, o7, rfl, _⟩ := HR7.out.2.2 hpos
              have hc7 : n ≤ c7 := HR7.out.2.1
              have HWay : Hid (∀ w', Below w7.heap.size w7 w' → Calls Tryz.prog 45 #[.slice (some ⟨g7, o7, none⟩) N1 c7, .int .i64 (N0 : Int), .bool true] w' fun e w'' => ∃ v, e = .returned v ∧ w''.ownsRow w'.heap.size 3 1 v (Grows.grow ((leafsOf l).take N1) N0 true).length (ints (Grows.grow ((leafsOf l).take N1) N0 true)) ∧ Below w'.heap.size w' w'') := fun w' b' => by
                have hrt := (HR7.out.below b').take N1 (by omega)
                rw [show (ints (leafsOf l)).take N1 = ints ((leafsOf l).take N1) from List.map_take.symm] at hrt
                exact WalkGrowRef.grow_any (N1 + 1) _ N0 N0 true _ N1 c7 w' rfl (by omega) (by omega) (by omega) (by omega) hrt (fun x hx => HVl.out x (List.mem_of_mem_take hx))
              have HTx : Hid (∀ w' a' c', Row w' a' (Grows.grow ((leafsOf l).take N1) N0 true).length c' (ints (Grows.grow ((leafsOf l).take N1) N0 true)) → Calls Tryz.prog 43 #[.slice a' (Grows.grow ((leafsOf l).take N1) N0 true).length c'] w' fun e w'' => e = .returned (.string (str (sumsT (Grows.grow ((leafsOf l).take N1) N0 true)))) ∧ w'' = w') := fun w' a' c' h' => WalkSumsText.texts_any _ a' _ c' w' h' (by have := grow_le ((leafsOf l).take N1) N0 (by omega) (by rw [List.length_take]; omega); rw [List.length_take] at this; omega) (Grows.grow_valid _ _ _ _ (Nat.le_refl _) (by omega) (by rw [List.length_take]; omega) fun x hx => HVl.out x (List.mem_of_mem_take hx))
              generalize sumsT (Grows.grow ((leafsOf l).take N1) N0 true) = TX at HV HTx
              generalize Grows.grow ((leafsOf l).take N1) N0 true = WY at HWay HTx
              go_region
              have HB8 : Hid (Below w7.heap.size w7 w7.drew) := (Below.refl _ _).drew
              have d0' : w7.drew.cell? ⟨gn, 0, none⟩ = some (.int .i64 (N0 : Int)) := d0
              have d1' : w7.drew.cell? ⟨gn, 1, none⟩ = some (.int .i64 (N1 : Int)) := d1
              clear d0 d1 t1 t4 t5 q7
              generalize World.drew _ = w8 at HB8 d0' d1' ⊢
              have i5 : (N1 : Int) ≤ (n : Int) := by omega
              have i6 : (N1 : Int) ≤ (c7 : Int) := by omega
              have i7 : (0 : Int) ≤ (N1 : Int) := by omega
              have HC8 : Hid (∀ w', Below w8.heap.size w8 w' → w'.cell? ⟨gn, 0, none⟩ = some (.int .i64 (N0 : Int)) ∧ w'.cell? ⟨gn, 1, none⟩ = some (.int .i64 (N1 : Int))) := fun w' b' => ⟨Lists.cell_below b' d0', Lists.cell_below b' d1'⟩
              have e0 : w8.drew.cell? ⟨gn, 0, none⟩ = some (.int .i64 (N0 : Int)) := d0'
              have e1 : w8.drew.cell? ⟨gn, 1, none⟩ = some (.int .i64 (N1 : Int)) := d1'
              go_upto_region 37 with fail
              go_region_held3 (fun w' => w'.cell? ⟨gn, 0, none⟩ = some (.int .i64 (N0 : Int)) ∧ w'.cell? ⟨gn, 1, none⟩ = some (.int .i64 (N1 : Int))) (first | exact ⟨s0, s1⟩ | exact ⟨e0, e1⟩ | go_keep) (first | (go_at_call 45; refine (HWay.out _ (bt HB8.out (Below.refl _ w8).drew)).mono ?_; rintro e w9 ⟨v9, rfl, o9, b9⟩; have HB9 : Hid (Below w8.heap.size w8 w9) := bt (Below.refl _ w8).drew b9; obtain ⟨s0, s1⟩ := HC8.out w9 HB9.out; obtain ⟨a9, c9, rfl, hr9, _⟩ := owns_row o9; have HR9 : Hid (Row w9 a9 WY.length c9 (ints WY)) := hr9; clear o9 b9 hr9) | (go_at_call 43; refine (HTx.out _ _ _ HR9.out).mono ?_; rintro e wa ⟨rfl, rfl⟩))
              have HBf : Hid (Below w.heap.size w wa) := bt HBW.out (bt HB8.out HB9.out)
              go_wp2_with fail
              go_ret2
              exact ⟨by rw [HV.out]; rfl, HBf.out⟩
        have t5 : (W0.toList == [103, 114, 111, 119]) = false := by rw [HE.out]; exact decide_eq_false h5'
        by_cases h6' : w0 = wTile
        · as_aux_lemma =>
          have t6 : (W0.toList == [116, 105, 108, 101]) = true := by rw [HE.out]; exact decide_eq_true h6'
          have hi3 : i = 3 := by rw [← HM.out, h6']; decide
          obtain ⟨N0, N1, gn, cn, rfl, rfl, d0, d1⟩ := two_ints HN7.out (by omega)
          have h200n : n ≤ 200 := by omega
          have HFp : Hid (ANS = (match (Tiles.tiles n).find? (fun t => decide (t.1 = N0 ∧ t.2.1 = N1)) with
            | some t => (sumsT (Tiles.sumsOf (leafsOf l) t), 0)
            | none => ([], 5))) := by
            show ANS = _
            rw [HF.out, h6', ← hln]
            rfl
          have aT : ∀ w, (isAgg 67).run Tryz.prog w = .ok true w := fun w => by kernel_rfl
          have zT : ∀ w, (sizeOf 67).run Tryz.prog w = .ok 3 w := fun w => by kernel_rfl
          have cT := WalkTileRef.tiles_any n w7 h200n
          have HTL : Hid ((Tiles.tiles n).length ≤ 200) := by have := Tiles.upto_length n 4 (by omega) h200n; exact this
          clear h6' HF HM
          go_upto_region 39 with fail
          go_wp2_with fail
          refine cT.mono ?_
          rintro e w8 ⟨v8, rfl, o8, b8⟩
          obtain ⟨a8, c8, rfl, hw8⟩ := owns_wide o8
          have HW8 : Hid (Wide 3 w8 a8 (Tiles.tiles n).length c8 (TileRows.cells (Tiles.tiles n))) := hw8
          have HB8 : Hid (Below w7.heap.size w7 w8) := b8
          have HC8 : Hid (∀ w', Below w8.heap.size w8 w' → w'.cell? ⟨gn, 0, none⟩ = some (.int .i64 (N0 : Int)) ∧ w'.cell? ⟨gn, 1, none⟩ = some (.int .i64 (N1 : Int))) := fun w' b' => ⟨Lists.cell_below (bt b8 b') d0, Lists.cell_below (bt b8 b') d1⟩
          clear cT o8 b8 hw8 d0 d1 t1 t4 t5 t6 q7
          have hTL := HTL.out
          generalize hTN : (Tiles.tiles n).length = TN at *
          have HTN : Hid ((Tiles.tiles n).length = TN) := hTN
          clear hTN
          go_upto_region 41 with fail
          go_loopw [20] (fun kv wr => ∃ k : Nat, k ≤ TN ∧ kv = .int .i64 (k : Int) ∧ Hid (∀ t ∈ (Tiles.tiles n).take k, ¬ (t.1 = N0 ∧ t.2.1 = N1)) ∧ Hid (Below w8.heap.size w8 wr)) (fun kv _ => TN - (intOf kv).toNat)
          case atStart => exact ⟨0, Nat.zero_le _, rfl, (fun t ht => by cases ht), Below.refl _ _⟩
          case round =>
            obtain ⟨k, hk, rfl, HNo, HBk⟩ := hrel
            by_cases hkt : k < TN
            · have j1 : (k : Int) < (TN : Int) := by omega
              have hkl : k < (Tiles.tiles n).length := by have := HTN.out; omega
              obtain ⟨g8, o8, rfl, _⟩ := HW8.out.2.2 (by omega)
              obtain ⟨p0, p1, p2⟩ := TileRows.at_three (HW8.out.below HBk.out) k hkl
              obtain ⟨d0, d1⟩ := HC8.out wr HBk.out
              have hmem := List.getElem_mem hkl
              have hle := Tiles.tiles_le h200n _ hmem
              have HNx : Hid (¬ (((Tiles.tiles n)[k]).1 = N0 ∧ ((Tiles.tiles n)[k]).2.1 = N1) → ∀ t ∈ (Tiles.tiles n).take (k + 1), ¬ (t.1 = N0 ∧ t.2.1 = N1)) := fun h t ht => by
                rw [List.take_succ_eq_append_getElem hkl] at ht
                rcases List.mem_append.1 ht with ht | ht
                · exact HNo.out t ht
                · rw [List.mem_singleton.1 ht]; exact h
              have HYs : Hid ((((Tiles.tiles n)[k]).1 = N0 ∧ ((Tiles.tiles n)[k]).2.1 = N1) → (Tiles.tiles n).find? (fun t => decide (t.1 = N0 ∧ t.2.1 = N1)) = some (Tiles.tiles n)[k]) := fun h => by
                have e : Tiles.tiles n = (Tiles.tiles n).take k ++ (Tiles.tiles n)[k] :: (Tiles.tiles n).drop (k + 1) := by rw [List.getElem_cons_drop, List.take_append_drop]
                have h1 : ((Tiles.tiles n).take k ++ (Tiles.tiles n)[k] :: (Tiles.tiles n).drop (k + 1)).find? (fun t => decide (t.1 = N0 ∧ t.2.1 = N1)) = some (Tiles.tiles n)[k] := by
                  rw [List.find?_append, List.find?_eq_none.2 (fun q hq => by simpa using HNo.out q hq), List.find?_cons, decide_eq_true h]
                  rfl
                rw [← e] at h1
                exact h1
              generalize (Tiles.tiles n)[k] = t at p0 p1 p2 hmem hle HNx HYs
              obtain ⟨A, B, C⟩ := t
              simp only at p0 p1 p2 hle HNx HYs
              clear hkl
              go_upto_region 43 with fail
              by_cases cA : A = N0
              · have u1 : ((A : Int) == (N0 : Int)) = true := by simp; omega
                by_cases cB : B = N1
                · have u2 : ((B : Int) == (N1 : Int)) = true := by simp; omega
                  have hf := HYs.out ⟨cA, cB⟩
                  have HV : Hid (ANS = (sumsT (Tiles.sumsOf (leafsOf l) (A, B, C)), 0)) := by show ANS = _; rw [HFp.out, hf]
                  have hth : Tiles.there n (A, B, C) = true := (Tiles.there_iff (by omega) (by omega) (by omega)).2 ⟨C, hmem, Nat.le_refl _⟩
                  have cS := fun w' (b' : Below wr.heap.size wr w') => WalkTileRef.sums_any (leafsOf l) a7 n c7 A B C w' h200n (HR7.out.below (bt HB8.out (bt HBk.out b'))) HVl.out (by omega) (by omega) (by omega) hth
                  have HS : Hid (∀ w', Below wr.heap.size wr w' → Calls Tryz.prog 47 #[.slice a7 n c7, .agg #[.int .i64 (A : Int), .int .i64 (B : Int), .int .i64 (C : Int)]] w' fun e w'' => ∃ v, e = .returned v ∧ w''.ownsRow w'.heap.size 3 1 v (Tiles.sumsOf (leafsOf l) (A, B, C)).length (ints (Tiles.sumsOf (leafsOf l) (A, B, C))) ∧ Below w'.heap.size w' w'') := cS
                  have HTx : Hid (∀ w' a' c', Row w' a' (Tiles.sumsOf (leafsOf l) (A, B, C)).length c' (ints (Tiles.sumsOf (leafsOf l) (A, B, C))) → Calls Tryz.prog 43 #[.slice a' (Tiles.sumsOf (leafsOf l) (A, B, C)).length c'] w' fun e w'' => e = .returned (.string (str (sumsT (Tiles.sumsOf (leafsOf l) (A, B, C))))) ∧ w'' = w') := fun w' a' c' h' => WalkSumsText.texts_any _ a' _ c' w' h' (by rw [Tiles.sumsOf_length]; simp only; omega) (Tiles.sumsOf_valid _ _ HVl.out)
                  generalize sumsT (Tiles.sumsOf (leafsOf l) (A, B, C)) = TX at HV HTx
                  generalize Tiles.sumsOf (leafsOf l) (A, B, C) = WY at HS HTx
                  clear cA cB hf hth cS hmem HNx HYs
                  go_region
                  have HB9 : Hid (Below wr.heap.size wr wr.drew) := (Below.refl _ _).drew
                  have p0' : wr.drew.cell? ⟨g8, o8 + k * 3, none⟩ = some (.int .i64 (A : Int)) := p0
                  have p1' : wr.drew.cell? ⟨g8, o8 + k * 3 + 1, none⟩ = some (.int .i64 (B : Int)) := p1
                  have p2' : wr.drew.cell? ⟨g8, o8 + k * 3 + 2, none⟩ = some (.int .i64 (C : Int)) := p2
                  clear p0 p1 p2 d0 d1
                  generalize World.drew _ = w9 at HB9 p0' p1' p2' ⊢
                  go_wp2_with fail
                  refine (HS.out w9 HB9.out).mono ?_
                  rintro e wa ⟨va, rfl, oa, ba⟩
                  obtain ⟨aa, ca, rfl, hra, _⟩ := owns_row oa
                  have cX := HTx.out wa aa ca hra
                  have HBf : Hid (Below w.heap.size w wa) := bt HBW.out (bt HB8.out (bt HBk.out (bt HB9.out ba)))
                  clear oa ba hra p0' p1' p2'
                  go_wp2_with fail
                  refine cX.mono ?_
                  rintro e wb ⟨rfl, rfl⟩
                  clear cX
                  go_wp2_with fail
                  go_ret2
                  exact ⟨by rw [HV.out]; rfl, HBf.out⟩
                · have u2 : ((B : Int) == (N1 : Int)) = false := by simp; omega
                  have HN2 : Hid (∀ t ∈ (Tiles.tiles n).take (k + 1), ¬ (t.1 = N0 ∧ t.2.1 = N1)) := HNx.out fun h => cB h.2
                  clear cA cB hmem HNx HYs
                  go_region
                  have HB9 : Hid (Below w8.heap.size w8 wr.drew) := HBk.out.drew
                  clear p0 p1 p2 d0 d1
                  generalize World.drew _ = w9 at HB9 ⊢
                  go_wp2_with fail
                  go_roundw
                  case rel => exact ⟨k + 1, by omega, by go_num, HN2, HB9⟩
                  case measure => simp [intOf]; omega
              · have u1 : ((A : Int) == (N0 : Int)) = false := by simp; omega
                have HN2 : Hid (∀ t ∈ (Tiles.tiles n).take (k + 1), ¬ (t.1 = N0 ∧ t.2.1 = N1)) := HNx.out fun h => cA h.1
                clear cA hmem HNx HYs
                go_region
                have HB9 : Hid (Below w8.heap.size w8 wr.drew) := HBk.out.drew
                clear p0 p1 p2 d0 d1
                generalize World.drew _ = w9 at HB9 ⊢
                go_wp2_with fail
                go_roundw
                case rel => exact ⟨k + 1, by omega, by go_num, HN2, HB9⟩
                case measure => simp [intOf]; omega
            · obtain rfl : k = TN := by omega
              have j1 : ¬ (k : Int) < (k : Int) := by omega
              have HV : Hid (ANS = ([], 5)) := by
                have hno : (Tiles.tiles n).find? (fun t => decide (t.1 = N0 ∧ t.2.1 = N1)) = none := by
                  rw [List.find?_eq_none]
                  intro t ht
                  have := HNo.out t (by rw [List.take_of_length_le (by have := HTN.out; omega)]; exact ht)
                  simpa using this
                show ANS = _
                rw [HFp.out, hno]
              have HBf : Hid (Below w.heap.size w wr) := bt HBW.out (bt HB8.out HBk.out)
              go_wp2_with fail
              go_ret2
              exact ⟨by rw [HV.out]; rfl, HBf.out⟩
        have t6 : (W0.toList == [116, 105, 108, 101]) = false := by rw [HE.out]; exact decide_eq_false h6'
        have h23 : w0 = wEntry ∨ w0 = wLeaf := Decidable.byContradiction fun hno => by
          have hm := HM.out
          unfold many at hm
          rw [if_neg h1', if_neg hno, if_neg (by rintro (q | q | q); exact h4' q; exact h5' q; exact h6' q)] at hm
          omega
        have hi2' : i = 2 := by rw [← HM.out]; rcases h23 with h | h <;> rw [h] <;> decide
        obtain ⟨N0, gn, cn, rfl, rfl, d0⟩ := one_int HN7.out (by omega)
        have HFp : Hid (ANS = if l.length ≤ N0 then ([], 5) else if w0 = wLeaf then (text ((leafsOf l).getD N0 0), 0) else (Decimals.dec (l.getD N0 (0, ⟨#[]⟩)).1.toNat ++ 32 :: (l.getD N0 (0, ⟨#[]⟩)).2.data.toList, 0)) := by
          show ANS = _
          rw [HF.out]
          unfold tell
          rw [if_neg h1', if_neg h4', if_neg h5', if_neg h6']
          rfl
        have HT3 : Hid ((W0.toList == [108, 101, 97, 102]) = decide (w0 = wLeaf)) := HE.out _
        clear h1' h4' h5' h6' h23 HF HM
        by_cases c1 : n ≤ N0
        · have j1 : (n : Int) ≤ (N0 : Int) := by omega
          have HV : Hid (ANS = ([], 5)) := by show ANS = _; rw [HFp.out, if_pos (by omega)]
          go_wp2_with fail
          go_ret2
          exact ⟨by rw [HV.out]; rfl, HBW.out⟩
        have j1 : ¬ (n : Int) ≤ (N0 : Int) := by omega
        have hN0 : N0 < l.length := by omega
        by_cases h3' : w0 = wLeaf
        · have t3 : (W0.toList == [108, 101, 97, 102]) = true := by rw [HT3.out]; exact decide_eq_true h3'
          have hlf : (leafsOf l)[N0]? = some ((leafsOf l).getD N0 0) := by rw [List.getElem?_eq_getElem (by omega), List.getD_eq_getElem?_getD, List.getElem?_eq_getElem (by omega)]; rfl
          have HV : Hid (ANS = (text ((leafsOf l).getD N0 0), 0)) := by show ANS = _; rw [HFp.out, if_neg (by omega), if_pos h3']
          have hva := HVl.out _ (List.mem_of_getElem? hlf)
          obtain ⟨g7, o7, rfl, _⟩ := HR7.out.2.2 (by omega)
          have p0 := HR7.out.at N0 (.int .i64 ((leafsOf l).getD N0 0)) (by unfold ints; rw [List.getElem?_map, hlf]; rfl)
          have cT := fun w' => WalkRef.text_any _ w' hva
          have HCT : Hid (∀ w', Calls Tryz.prog 48 #[.int .i64 ((leafsOf l).getD N0 0)] w' fun e w'' => e = .returned (.string (str (text ((leafsOf l).getD N0 0)))) ∧ w'' = w') := cT
          generalize text ((leafsOf l).getD N0 0) = TX at HV HCT
          generalize (leafsOf l).getD N0 0 = X at p0 HCT
          clear hlf hva cT h3' HFp
          go_wp2_with fail
          refine (HCT.out _).mono ?_
          rintro e w8 ⟨rfl, rfl⟩
          go_wp2_with fail
          go_ret2
          exact ⟨by rw [HV.out]; rfl, HBW.out⟩
        have t3 : (W0.toList == [108, 101, 97, 102]) = false := by rw [HT3.out]; exact decide_eq_false h3'
        have HV : Hid (ANS = (Decimals.dec (l[N0]).1.toNat ++ 32 :: (l[N0]).2.data.toList, 0)) := by
          show ANS = _
          rw [HFp.out, if_neg (by omega), if_neg h3', List.getD_eq_getElem?_getD, List.getElem?_eq_getElem hN0]
          rfl
        have hmem := List.getElem_mem hN0
        obtain ⟨hm1, hm2, hm3⟩ := Entries.ent_ok ((Entries.ents_ok hents).2 _ hmem)
        have hwide := HRw.out w7 HB7.out
        obtain ⟨g8, o8, rfl, _⟩ := hwide.2.2 (by omega)
        obtain ⟨p0, p1⟩ := EntRows.at_two hwide N0 hN0
        generalize l[N0] = E at HV hm1 hm2 hm3 p0 p1
        obtain ⟨T, D⟩ := E
        simp only at HV hm1 hm2 hm3 p0 p1
        have HCD : Hid (∀ w', Calls Tryz.prog 14 #[.int .i64 T] w' fun e w'' => e = .returned (.string (str (Decimals.dec T.toNat))) ∧ w'' = w') := fun w' => WalkHeadRef.digits T.toNat T w' (by omega) (by omega)
        have z1 := WalkHeadRef.dec_small T.toNat (by omega)
        have HX : Hid (str (Decimals.dec T.toNat) ++ str [32] ++ D = str (Decimals.dec T.toNat ++ 32 :: D.data.toList)) := by
          show _ = _
          have e : str (Decimals.dec T.toNat) ++ str [32] ++ str D.data.toList = str (Decimals.dec T.toNat ++ 32 :: D.data.toList) := by
            rw [Nums.str_append, Nums.str_append, List.append_assoc]
            rfl
          exact e
        have HBf : Hid (Below w.heap.size w (w7.alloc (.cells #[.int .i64 T, .string D] 38))) := HBW.out.alloc HBW.out.size _
        clear hwide hmem h3' HFp
        generalize Decimals.dec T.toNat ++ 32 :: D.data.toList = RES at HV HX
        generalize str (Decimals.dec T.toNat) = X at z1 HX HCD
        go_wp2_with fail
        refine (HCD.out _).mono ?_
        rintro e w8 ⟨rfl, rfl⟩
        have z2 : ¬ 9223372036854775807 < X.size + 1 := by omega
        have z3 : ¬ 9223372036854775807 < X.size + 1 + D.size := by omega
        go_wp2_with fail
        go_ret2
        refine ⟨?_, HBf.out⟩
        rw [HV.out]
        show _ = Ending.returned (.tuple #[.string (str RES), _])
        rw [← HX.out]
        rfl

end Go.Proofs.YticadkggaanbjaaGreatDoor.WalkAnswerRef

