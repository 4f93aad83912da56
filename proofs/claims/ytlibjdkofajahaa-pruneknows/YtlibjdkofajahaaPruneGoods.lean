/-
  Plain mathematics of a tree that learned leafs of one list: what it knows is theirs; a leaf that is forgotten and learned again. Nothing of the program is named here.
-/
import Derived.Test.YtlibjdkofajahaaPrunes
namespace Go.Proofs.Ytlibjdkofajahaa.PruneGoods
open Prunes

/-- all that is known is of the list -/
def Good (l : List Int) (k : Known) : Prop := ∀ Z, has k Z = true → sumOf k Z = l.getD Z 0
theorem good_fresh (l : List Int) (n : Nat) : Good l (fresh n) := fun Z h => by rw [fresh_has] at h; cases h
theorem good_learn {l : List Int} {k : Known} (h : Good l k) (Z : Nat) (p : List Int) : learnE 0 k Z (l.getD Z 0) = 0 ∧ learned 0 k Z (l.getD Z 0) p = k.set Z (some (l.getD Z 0, p)) := by
  have e : learnE 0 k Z (l.getD Z 0) = 0 := by
    unfold learnE
    rw [if_neg (fun q => q rfl), if_neg]
    rw [Int.toNat_natCast]
    exact fun q => q.2 (h Z q.1)
  exact ⟨e, by unfold learned; rw [if_pos e, Int.toNat_natCast]⟩
theorem good_set {l : List Int} {k : Known} (h : Good l k) {Z : Nat} (hZ : Z < k.length) (p : List Int) : Good l (k.set Z (some (l.getD Z 0, p))) := fun j hj => by
  by_cases hij : Z = j
  · subst hij
    exact (sum_of (set_at k hZ _)).1
  · have e := set_other k hij (some (l.getD Z 0, p))
    unfold has at hj
    unfold sumOf
    rw [e] at hj ⊢
    exact h j hj
theorem set_find {k : Known} {Z : Nat} (hZ : Z < k.length) (s : Int) (p : List Int) : findE (k.set Z (some (s, p))) Z = 0 ∧ knowsV (k.set Z (some (s, p))) Z = s ∧ proveV (k.set Z (some (s, p))) Z = p := by
  have a := set_at k hZ (some (s, p))
  have e : findE (k.set Z (some (s, p))) Z = 0 := by
    unfold findE
    rw [if_pos ⟨by omega, by rw [List.length_set]; omega⟩, if_pos]
    rw [Int.toNat_natCast]
    exact has_iff.2 ⟨s, p, a⟩
  unfold knowsV proveV
  rw [if_pos e, if_pos e, Int.toNat_natCast]
  exact ⟨e, (sum_of a).1, (sum_of a).2⟩
theorem set_forgot {k : Known} {Z : Nat} (hZ : Z < k.length) (s : Int) (p : List Int) : forgot (k.set Z (some (s, p))) Z = k.set Z none := by
  unfold forgot
  rw [if_pos (set_find hZ s p).1, Int.toNat_natCast, List.set_set]
theorem again (k : Known) {Z : Nat} (hZ : Z < k.length) (s : Int) (p : List Int) : learnE 0 (k.set Z none) Z s = 0 ∧ learned 0 (k.set Z none) Z s p = k.set Z (some (s, p)) := by
  have e : learnE 0 (k.set Z none) Z s = 0 := by
    unfold learnE
    rw [if_neg (fun q => q rfl), if_neg]
    rw [Int.toNat_natCast]
    unfold has
    rw [set_at k hZ]
    simp
  exact ⟨e, by unfold learned; rw [if_pos e, Int.toNat_natCast, List.set_set]⟩

end Go.Proofs.Ytlibjdkofajahaa.PruneGoods
