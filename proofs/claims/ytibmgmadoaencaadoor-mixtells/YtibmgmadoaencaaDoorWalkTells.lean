/-
  The walk of MixTells: the sum of any bytes, of any leaf, of any two, any sum as text and any text as one are the document's.
-/
import Derived.Test.YtibmgmadoaencaaDoorWalkRef
import Derived.Test.YtibmgmadoaencaaDoorWalkTold
namespace Go.Proofs.YtibmgmadoaencaaDoor.WalkTells
open Go.RowKit
open WalkTold (errv Laid)

theorem bt {w a b : World} (h : Below w.heap.size w a) (k : Below a.heap.size a b) : Below w.heap.size w b := h.trans (k.mono h.size)

theorem node_t (a b : Int) (w : World) :
    Calls Tryd.prog 9 #[.int .i64 a, .int .i64 b] w fun e w' => e = .returned (.tuple #[.int .i64 (if (Nums.valid a && Nums.valid b) = true then Sums.sum (Nums.nodeBytes a b) else 0), errv (if (Nums.valid a && Nums.valid b) = true then 0 else 1)]) ∧ Below w.heap.size w w' := by
  by_cases h : (Nums.valid a && Nums.valid b) = true
  · rw [if_pos h, if_pos h]
    exact WalkMix.node_yes a b w (Bool.and_eq_true_iff.1 h).1 (Bool.and_eq_true_iff.1 h).2
  · rw [if_neg h, if_neg h]
    exact (WalkMix.node_no a b w (by simpa using h)).mono fun e w' ⟨he, hw⟩ => ⟨he, hw ▸ Below.refl _ _⟩
theorem nodeBytes_t (a b : Int) (w : World) :
    Calls Tryd.prog 11 #[.int .i64 a, .int .i64 b] w fun e w' => e = .returned (.tuple #[.string (if (Nums.valid a && Nums.valid b) = true then Nums.str (Nums.nodeBytes a b) else Nums.str []), errv (if (Nums.valid a && Nums.valid b) = true then 0 else 1)]) ∧ Below w.heap.size w w' := by
  by_cases h : (Nums.valid a && Nums.valid b) = true
  · rw [if_pos h, if_pos h]
    exact WalkMix.nodeBytes_yes a b w (Bool.and_eq_true_iff.1 h).1 (Bool.and_eq_true_iff.1 h).2
  · rw [if_neg h, if_neg h]
    exact (WalkMix.nodeBytes_no a b w (by simpa using h)).mono fun e w' ⟨he, hw⟩ => ⟨he, hw ▸ Below.refl _ _⟩
theorem print_t (a : Int) (w : World) :
    Calls Tryd.prog 13 #[.int .i64 a] w fun e w' => e = .returned (.tuple #[.string (if Nums.valid a = true then Nums.str (Nums.text a) else Nums.str []), errv (if Nums.valid a = true then 0 else 1)]) ∧ Below w.heap.size w w' := by
  by_cases h : Nums.valid a = true
  · rw [if_pos h, if_pos h]
    exact WalkHex.print_yes a w h
  · rw [if_neg h, if_neg h]
    exact (WalkHex.print_no a w (by simpa using h)).mono fun e w' ⟨he, hw⟩ => ⟨he, hw ▸ Below.refl _ _⟩
theorem parse_t (s : ByteArray) (w : World) :
    Calls Tryd.prog 15 #[.string s] w fun e w' => e = .returned (.tuple #[.int .i64 (Nums.read s.data.toList).1, errv (Nums.read s.data.toList).2]) ∧ w' = w := by
  rcases Nums.read_cases s.data.toList with ⟨k, h⟩ | h | h
  · rw [h]; exact WalkHex.parse_ok s w k h
  · rw [h]; exact WalkHex.parse_range s w h
  · rw [h]; exact WalkHex.parse_syntax s w h

theorem str_nil : Nums.str [] = ⟨#[]⟩ := rfl

set_option maxHeartbeats 4000000 in
theorem walk (s : ByteArray) (hs : s.size ≤ 140737488351232) (a : Int) (_ : (Lit.int .i64 a).wf = true) (b : Int) (_ : (Lit.int .i64 b).wf = true) (t : ByteArray) (_ : t.size ≤ 140737488351232) (w0 : World) (hL : Laid w0) :
    Calls Tryd.prog 3 #[.string s, .int .i64 a, .int .i64 b, .string t] w0 fun e w' => e = .returned (.bool true) ∧ Below w0.heap.size w0 w' := by
  have hm : s.size ≤ maxLen := by unfold maxLen; omega
  have hL' : Hid (Laid w0) := hL
  clear hL
  obtain ⟨w, hb⟩ : ∃ w, Below w0.heap.size w0 w ∧ w = w0 := ⟨w0, Below.refl _ _, rfl⟩
  obtain ⟨hb, hw⟩ := hb
  rw [← hw]
  suffices H : Calls Tryd.prog 3 #[.string s, .int .i64 a, .int .i64 b, .string t] w fun e w' => e = .returned (.bool true) ∧ Below w0.heap.size w0 w' by
    exact H.mono fun e w' ⟨h1, h2⟩ => ⟨h1, by rw [hw]; exact h2⟩
  clear hw
  have hn : (Nums.str []).toList = [] := Nums.str_toList []
  have hd := Nums.str_data (Nums.nodeBytes a b)
  cases ha : Nums.valid a <;> cases hc : Nums.valid b
  all_goals
    go_enter Tryd.func3, Tryd.ntmps3
    go_wp2_with (first
      | (go_at_call 6; refine (WalkRef.valid_any _ _).mono ?_; rintro e w' ⟨rfl, rfl⟩)
      | (go_at_call 7; refine (WalkRef.nodeBytes_any _ _ _ ha hc).mono ?_; rintro e w1 ⟨rfl, b1⟩; replace hb := bt hb b1; clear b1)
      | (go_at_call 8; refine (WalkRef.sum_any _ _ (by first | exact hm | (rw [Nums.str_size, Nums.nodeBytes_length]; decide))).mono ?_; rintro e w' ⟨rfl, rfl⟩)
      | (go_at_call 9; refine (node_t _ _ _).mono ?_; rintro e w1 ⟨rfl, b1⟩; replace hb := bt hb b1; clear b1)
      | (go_at_call 11; refine (nodeBytes_t _ _ _).mono ?_; rintro e w1 ⟨rfl, b1⟩; replace hb := bt hb b1; clear b1)
      | (go_at_call 10; refine (WalkTold.error_is _ _ _ (hL'.out.below hb)).mono ?_; rintro e w1 ⟨rfl, b1⟩; replace hb := bt hb b1; clear b1)
      | (go_at_call 12; refine (WalkRef.text_any _ _ ha).mono ?_; rintro e w' ⟨rfl, rfl⟩)
      | (go_at_call 13; refine (print_t _ _).mono ?_; rintro e w1 ⟨rfl, b1⟩; replace hb := bt hb b1; clear b1)
      | (go_at_call 14; refine (WalkRef.read_any _ _).mono ?_; rintro e w' ⟨rfl, rfl⟩)
      | (go_at_call 15; refine (parse_t _ _).mono ?_; rintro e w' ⟨rfl, rfl⟩)
      | (go_at_call 16; refine (WalkSum.sum_any _ _ hm).mono ?_; rintro e w' ⟨rfl, rfl⟩)
      | (go_at_call 17; refine (WalkSum.leaf_any _ _ hm).mono ?_; rintro e w' ⟨rfl, rfl⟩)
      | (go_at_call 18; refine (WalkRef.leaf_any _ _ hs).mono ?_; rintro e w1 ⟨rfl, b1⟩; replace hb := bt hb b1; clear b1))
  all_goals go_ret
  all_goals exact ⟨rfl, hb⟩

end Go.Proofs.YtibmgmadoaencaaDoor.WalkTells
