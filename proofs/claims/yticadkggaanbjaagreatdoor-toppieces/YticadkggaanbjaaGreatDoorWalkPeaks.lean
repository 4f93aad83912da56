/-
  What the program's package peaks does to Peaks that the call owns: New, Size, Parts, joinLast, Append, Root and Of.
-/
import Derived.Test.YticadkggaanbjaaGreatDoorWalkBits
import Derived.Test.YticadkggaanbjaaGreatDoorTreeRun
import Derived.Test.YticadkggaanbjaaGreatDoorListRows
import Derived.StillTailTactics
import Derived.Deep.RegionWith
import Derived.Lib.SliceRun
namespace Go.Proofs.YticadkggaanbjaaGreatDoor.WalkPeaks
open Go.RowKit
open Lists (Row ints bt)
open Keeps (Kept owns_kept owns_open owns_set owns_take owns_row owns_base)
open WalkCheck (errv errv0 errv_pos)
open Go.Sort (grow)

theorem info3 : (Tryz.prog.info? 3).map (fun i => (i.zero, i.size, i.bytes)) = some (some (.int .i64 0), 1, 8) := by kernel_rfl

/-- block b holds Peaks of size s; their parts lie in v, and are xs -/
structure Pk (w : World) (B b s : Nat) (v : Value) (xs : List Int) : Prop where
  lies : w.rowIs b 132 2 (fun i => if i = 0 then .int .i64 (s : Int) else v)
  above : B ≤ b
  own : w.ownsRow B 3 1 v xs.length (ints xs)
  apart : v.ownBlock ≠ some b

/-- the blocks of Peaks -/
def foot (b : Nat) (v : Value) (k : Nat) : Prop := k = b ∨ v.ownBlock = some k

theorem Pk.kept {S : Nat → Prop} {w w' : World} {B b s : Nat} {v : Value} {xs : List Int} (h : Pk w B b s v xs) (k : Kept S w w') (hS : ∀ i, foot b v i → ¬ S i) : Pk w' B b s v xs :=
  ⟨h.lies.of_block (k.block b h.lies.lt (hS b (.inl rfl))), h.above, owns_kept h.own k fun i hi => hS i (.inr hi), h.apart⟩
theorem Pk.below {w w' : World} {B b s : Nat} {v : Value} {xs : List Int} (h : Pk w B b s v xs) (k : Below w.heap.size w w') : Pk w' B b s v xs :=
  h.kept (Kept.of_below (fun _ => False) k) fun _ _ q => q
theorem Pk.foot_lt {w : World} {B b s : Nat} {v : Value} {xs : List Int} (h : Pk w B b s v xs) : ∀ i, foot b v i → B ≤ i ∧ i < w.heap.size := by
  rintro i (rfl | hi)
  · exact ⟨h.above, h.lies.lt⟩
  · exact h.own.lt i hi

theorem new_any (w : World) : Calls Tryz.prog 28 #[] w fun e w' => e = .returned (.pointer (some ⟨w.heap.size, 0, none⟩)) ∧ Pk w' w.heap.size w.heap.size 0 (.slice none 0 0) [] ∧ Below w.heap.size w w' := by
  go_enter Tryz.func28, Tryz.ntmps28
  go_wp2_with fail
  go_ret
  refine ⟨rfl, ⟨World.rowIs_alloc _ _ _ _ ?_, Nat.le_refl _, World.ownsRow_nil _ _ _ _, by simp [Value.ownBlock]⟩, (Below.refl _ _).alloc (Nat.le_refl _) _⟩
  intro i hi
  match i, hi with
  | 0, _ => rfl
  | 1, _ => rfl


/-- a copy: of a slice at a block's head, or of any -/
theorem clone_any (l : List Int) (a : Option Addr) (n cap : Nat) (w : World) (hn : n ≤ 1000000) (hr : Row w a n cap (ints l)) :
    Calls Tryz.prog 139 #[.slice a n cap] w fun e w' => ∃ v, e = .returned v ∧ w'.ownsRow w.heap.size 3 1 v n (ints l) ∧ Below w.heap.size w w' := by
  obtain ⟨i0, hi, hz0, hz1, hz2⟩ := info_parts info3
  have hln : (ints l).length = n := hr.1
  cases a with
  | none =>
    have hn0 : n = 0 := by
      rcases Nat.eq_zero_or_pos n with h | h
      · exact h
      · obtain ⟨_, _, h, _⟩ := hr.2.2 h; cases h
    subst hn0
    have e0 : ints l = [] := List.eq_nil_of_length_eq_zero hln
    rw [e0]
    clear hr hln
    have q : ∀ (w : World), (binOp .eql 45 (.slice none 0 cap) (.slice none 0 0)).run Tryz.prog w = .ok (.bool true) w := fun w => Lib.run_eql_slice_nil w _ _ none 0 cap 0 0 Tryz.underlying45
    go_enter Tryz.func139, Tryz.ntmps139
    go_wp2_with fail
    go_ret
    exact ⟨_, rfl, World.ownsRow_nil _ _ _ _, Below.refl _ _⟩
  | some p =>
    have hcell : ∀ j u, (ints l)[j]? = some u → (w.alloc (.cells #[] 3)).cell? (p.add j) = some u := by
      intro j u hj
      have hj' : j < n := by rw [← hln]; exact (List.getElem?_eq_some_iff.1 hj).1
      obtain ⟨b, off, hp, hc⟩ := hr.2.2 (by omega)
      obtain rfl : p = ⟨b, off, none⟩ := by simpa using hp
      have h1 := hc j u hj
      rw [show (⟨b, off, none⟩ : Addr).add j = ⟨b, off + j, none⟩ by (unfold Addr.add; split <;> simp_all)]
      rw [World.cell?_alloc_lt _ _ ⟨b, off + j, none⟩ (Lists.block_lt h1)]
      exact h1
    have one : ∀ u ∈ ints l, u.oneCell' = true := by
      intro u hu
      obtain ⟨x, _, rfl⟩ := List.mem_map.1 hu
      rfl
    have HC : Hid (∀ j u, (ints l)[j]? = some u → (w.alloc (.cells #[] 3)).cell? (p.add j) = some u) := hcell
    clear hcell hr
    have q : ∀ (w : World), (binOp .eql 45 (.slice (some p) n cap) (.slice none 0 0)).run Tryz.prog w = .ok (.bool false) w := fun w => Lib.run_eql_slice_nil w _ _ (some p) n cap 0 0 Tryz.underlying45
    have hm : (w.alloc (.cells #[] 3)).ownsRow w.heap.size 3 1 (.slice (some ⟨w.heap.size, 0, none⟩) 0 0) 0 [] := World.ownsRow_made w #[] 0 (Nat.le_refl _) (Nat.zero_le _) rfl
    go_enter Tryz.func139, Tryz.ntmps139
    go_wp2_with (at_builtin; refine wpList_append_own _ rfl (.tmp 5) (.tmp 6) 45 rfl w.heap.size 3 i0 (.int .i64 0) 1 8 Tryz.underlying45 hi hz0 hz1 hz2 rfl (by decide) _ _ _ rfl hm p n cap (ints l) rfl (by omega) HC.out one (by unfold maxLen; omega) (by omega) (by simp) ?_; intro v1 w1 o1 g1 _)
    have b1 : Below w.heap.size w w1 := ((Below.refl _ w).alloc (Nat.le_refl _) _).grown g1 (by simp) (fun k hk => (hm.lt k hk).1)
    rw [Nat.zero_add, List.nil_append] at o1
    clear g1 HC hm
    go_wp2_with fail
    go_ret
    exact ⟨_, rfl, o1, b1⟩

theorem parts_any (w : World) (B b s : Nat) (v : Value) (xs : List Int) (h : Pk w B b s v xs) (hn : xs.length ≤ 1000) :
    Calls Tryz.prog 99 #[.pointer (some ⟨b, 0, none⟩)] w fun e w' => ∃ u, e = .returned u ∧ w'.ownsRow w.heap.size 3 1 u xs.length (ints xs) ∧ Below w.heap.size w w' := by
  have c1 : w.cell? ⟨b, 1, none⟩ = some v := h.lies.cell (i := 1) (by omega)
  obtain ⟨a, cap, rfl, hr, _⟩ := owns_row h.own
  have cC := clone_any xs a xs.length cap w (by omega) hr
  clear h hr
  go_enter Tryz.func99, Tryz.ntmps99
  go_wp2_with fail
  refine cC.mono ?_
  rintro e w1 ⟨u, rfl, o1, b1⟩
  go_wp2_with fail
  go_ret
  exact ⟨_, rfl, o1, b1⟩

end Go.Proofs.YticadkggaanbjaaGreatDoor.WalkPeaks
