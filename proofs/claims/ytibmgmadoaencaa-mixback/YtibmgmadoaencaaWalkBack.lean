/-
  The walk of MixBack: what is printed is read as it was, and of two sums the bytes are told apart.
-/
import Derived.Test.YtibmgmadoaencaaWalkHex
namespace Go.Proofs.Ytibmgmadoaencaa.WalkBack
open Go.RowKit

theorem bt {w a b : World} (h : Below w.heap.size w a) (k : Below a.heap.size a b) : Below w.heap.size w b := h.trans (k.mono h.size)

theorem t255 : Nums.str (Nums.text 255) = ⟨#[48, 48, 48, 48, 48, 48, 102, 102]⟩ := by
  unfold Nums.str
  exact congrArg (fun l : List UInt8 => ByteArray.mk l.toArray) (by decide +kernel)

/-- the last part: the bytes of nodes -/
theorem eq_str (a b c d : Int) (ha : Nums.valid a = true) (hb : Nums.valid b = true) (hc : Nums.valid c = true) (hd : Nums.valid d = true) :
    ((Nums.str (Nums.nodeBytes a b)).toList == (Nums.str (Nums.nodeBytes c d)).toList) = decide (a = c ∧ b = d) := by
  rw [Nums.str_toList, Nums.str_toList, Bool.eq_iff_iff, decide_eq_true_iff, beq_iff_eq]
  exact Nums.nodeBytes_inj ha hb hc hd

set_option maxHeartbeats 1000000 in
theorem walk (a : Int) (_ : (Lit.int .i64 a).wf = true) (b : Int) (_ : (Lit.int .i64 b).wf = true) (c : Int) (_ : (Lit.int .i64 c).wf = true) (d : Int) (_ : (Lit.int .i64 d).wf = true) (s : ByteArray) (hz : s.size ≤ 140737488351232) (t : ByteArray) (_ : t.size ≤ 140737488351232) (w : World) :
    Calls Try.prog 4 #[.int .i64 a, .int .i64 b, .int .i64 c, .int .i64 d, .string s, .string t] w fun e w' => e = .returned (.bool true) ∧ Below w.heap.size w w' := by
  have hs : s.size ≤ maxLen := by unfold maxLen; omega
  clear hz
  have hS : Hid (Nums.valid (Sums.sum s.data.toList) = true) := Nums.valid_iff.2 (Sums.sum_bd _)
  have hR : Hid (Nums.read (Nums.str (Nums.text (Sums.sum s.data.toList))).data.toList = (Sums.sum s.data.toList, 0)) := by
    show Nums.read (Nums.str (Nums.text (Sums.sum s.data.toList))).data.toList = (Sums.sum s.data.toList, 0)
    rw [Nums.str_data]; exact Nums.read_text _ hS.out
  have hE : (Sums.sum [] != 5381) = false := by decide
  go_enter Try.func4, Try.ntmps4
  go_wp2_with fail
  refine (WalkHex.print_yes 255 _ (by decide)).mono ?_
  rintro e w1 ⟨rfl, b1⟩
  rw [t255]
  go_wp2_with fail
  refine (WalkSum.sum_any _ _ (by decide)).mono ?_
  rintro e w2 ⟨rfl, rfl⟩
  go_wp2_with fail
  refine (WalkSum.sum_any _ _ hs).mono ?_
  rintro e w3 ⟨rfl, rfl⟩
  generalize hn : Sums.sum s.data.toList = n at *
  have Hn : Hid (Sums.sum s.data.toList = n) := hn
  clear hn
  go_wp2_with fail
  refine (WalkHex.print_yes n _ hS.out).mono ?_
  rintro e w4 ⟨rfl, b4⟩
  have b5 := bt b1 b4
  clear b1 b4
  go_wp2_with fail
  refine (WalkHex.parse_ok _ _ n hR.out).mono ?_
  rintro e w5 ⟨rfl, rfl⟩
  clear hR
  go_wp2_with fail
  refine (WalkSum.sum_any _ _ hs).mono ?_
  rintro e w6 ⟨rfl, rfl⟩
  rw [Hn.out]
  go_wp2_with fail
  clear hS hE
  generalize Nums.str (Nums.text n) = q
  clear Hn
  rcases Nums.read_cases t.data.toList with ⟨k, ht⟩ | ht | ht
  case' inl =>
    have ⟨hk, hv⟩ := Nums.text_read _ _ ht
    have hk' : Hid (Nums.str (Nums.text k) = t) := by
      show Nums.str (Nums.text k) = t
      rw [hk]; rfl
    clear hk
    have Ht : Hid (Nums.read t.data.toList = (k, 0)) := ht
    have Hv : Hid (Nums.valid k = true) := hv
    clear ht hv
    refine (WalkHex.parse_ok _ _ k Ht.out).mono ?_
    rintro e w7 ⟨rfl, rfl⟩
    clear Ht
    go_wp2_with fail
    refine (WalkHex.print_yes k _ Hv.out).mono ?_
    rintro e w8 ⟨rfl, b8⟩
    rw [hk'.out]
    clear hk' Hv
    have b9 := bt b5 b8
    clear b5 b8
  case' inr.inl =>
    have Ht : Hid (Nums.read t.data.toList = (0, 1)) := ht
    clear ht
    refine (WalkHex.parse_range _ _ Ht.out).mono ?_
    rintro e w8 ⟨rfl, rfl⟩
    clear Ht
    have b9 := b5
    clear b5
  case' inr.inr =>
    have Ht : Hid (Nums.read t.data.toList = (0, 2)) := ht
    clear ht
    refine (WalkHex.parse_syntax _ _ Ht.out).mono ?_
    rintro e w8 ⟨rfl, rfl⟩
    clear Ht
    have b9 := b5
    clear b5
  all_goals
    go_wp2_with fail
    cases hab : (Nums.valid a && Nums.valid b)
    · have Hab : Hid ((Nums.valid a && Nums.valid b) = false) := hab
      clear hab
      refine (WalkMix.nodeBytes_no a b _ Hab.out).mono ?_
      rintro e w9 ⟨rfl, rfl⟩
      go_wp2_with fail
      cases hcd : (Nums.valid c && Nums.valid d)
      · have Hcd : Hid ((Nums.valid c && Nums.valid d) = false) := hcd
        clear hcd
        refine (WalkMix.nodeBytes_no c d _ Hcd.out).mono ?_
        rintro e w10 ⟨rfl, rfl⟩
        go_wp2
        go_ret
        exact ⟨rfl, b9⟩
      · have Hcd : Hid ((Nums.valid c && Nums.valid d) = true) := hcd
        clear hcd
        refine (WalkMix.nodeBytes_yes c d _ (Bool.and_eq_true_iff.1 Hcd.out).1 (Bool.and_eq_true_iff.1 Hcd.out).2).mono ?_
        rintro e w10 ⟨rfl, b10⟩
        go_wp2
        go_ret
        exact ⟨rfl, bt b9 b10⟩
    · have Hab : Hid ((Nums.valid a && Nums.valid b) = true) := hab
      clear hab
      refine (WalkMix.nodeBytes_yes a b _ (Bool.and_eq_true_iff.1 Hab.out).1 (Bool.and_eq_true_iff.1 Hab.out).2).mono ?_
      rintro e w9 ⟨rfl, b91⟩
      have b92 := bt b9 b91
      clear b9 b91
      go_wp2_with fail
      cases hcd : (Nums.valid c && Nums.valid d)
      · have Hcd : Hid ((Nums.valid c && Nums.valid d) = false) := hcd
        clear hcd
        refine (WalkMix.nodeBytes_no c d _ Hcd.out).mono ?_
        rintro e w10 ⟨rfl, rfl⟩
        go_wp2
        go_ret
        exact ⟨rfl, b92⟩
      · have Hcd : Hid ((Nums.valid c && Nums.valid d) = true) := hcd
        clear hcd
        refine (WalkMix.nodeBytes_yes c d _ (Bool.and_eq_true_iff.1 Hcd.out).1 (Bool.and_eq_true_iff.1 Hcd.out).2).mono ?_
        rintro e w10 ⟨rfl, b10⟩
        have b11 := bt b92 b10
        clear b92 b10
        go_wp2_with fail
        refine (WalkMix.node_yes a b _ (Bool.and_eq_true_iff.1 Hab.out).1 (Bool.and_eq_true_iff.1 Hab.out).2).mono ?_
        rintro e w12 ⟨rfl, b12⟩
        have b13 := bt b11 b12
        clear b11 b12
        go_wp2_with fail
        refine (WalkSum.sum_any _ _ (by rw [Nums.str_size, Nums.nodeBytes_length]; decide)).mono ?_
        rintro e w14 ⟨rfl, rfl⟩
        rw [Nums.str_data]
        have hsz : (Nums.str (Nums.nodeBytes a b)).size = 9 := by rw [Nums.str_size, Nums.nodeBytes_length]
        have hat : (Nums.str (Nums.nodeBytes a b))[0] = 1 := rfl
        have heq := eq_str a b c d (Bool.and_eq_true_iff.1 Hab.out).1 (Bool.and_eq_true_iff.1 Hab.out).2 (Bool.and_eq_true_iff.1 Hcd.out).1 (Bool.and_eq_true_iff.1 Hcd.out).2
        by_cases hac : a = c
        · have hac' : (a == c) = true := by rw [hac]; exact beq_self_eq_true c
          by_cases hbd : b = d
          · have hbd' : (b == d) = true := by rw [hbd]; exact beq_self_eq_true d
            rw [decide_eq_true ⟨hac, hbd⟩] at heq
            clear hac hbd
            go_wp2
            go_ret
            exact ⟨rfl, b13⟩
          · have hbd' : (b == d) = false := beq_false_of_ne hbd
            rw [decide_eq_false (fun h => hbd h.2)] at heq
            clear hac hbd
            go_wp2
            go_ret
            exact ⟨rfl, b13⟩
        · have hac' : (a == c) = false := beq_false_of_ne hac
          rw [decide_eq_false (fun h => hac h.1)] at heq
          clear hac
          go_wp2
          go_ret
          exact ⟨rfl, b13⟩

end Go.Proofs.Ytibmgmadoaencaa.WalkBack
