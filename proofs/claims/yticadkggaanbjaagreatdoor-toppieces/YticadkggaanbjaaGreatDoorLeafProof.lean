/-
  The proof that is made of a leaf is fine, and as long as told.
-/
import Derived.Test.YticadkggaanbjaaGreatDoorProofMake
import Derived.Test.YticadkggaanbjaaGreatDoorProofChk
namespace Go.Proofs.YticadkggaanbjaaGreatDoor.LeafProof

theorem leafs_ok {l : List Int} (h : Trees.leafsE l = 0) : l.length ≤ 200 ∧ ∀ x ∈ l, Nums.valid x = true := by
  unfold Trees.leafsE at h
  split at h
  · contradiction
  split at h
  · rename_i a b
    exact ⟨by omega, List.all_eq_true.1 b⟩
  · contradiction
/-- one leaf by its own proof -/
theorem one_proof {l : List Int} (h : Trees.leafsE l = 0) {Z : Nat} (hZ : Z < l.length) : WalkMake.makeE l Z l.length = 0 ∧ (WalkMake.makeL l Z l.length).length = Ways.steps Z l.length ∧ WalkProofCheck.checkE (Trees.root l) l.length Z (l.getD Z 0) (WalkMake.makeL l Z l.length) = 0 := by
  obtain ⟨h1, h2⟩ := leafs_ok h
  have e1 : WalkMake.makeE l Z l.length = 0 := by
    unfold WalkMake.makeE
    rw [if_pos h, if_pos (show WalkSteps.inside _ _ _ = true from decide_eq_true ⟨by omega, by omega, Int.le_refl _⟩)]
  have e2 : WalkMake.makeL l Z l.length = Ways.way l Z := by
    unfold WalkMake.makeL
    rw [if_pos e1, Int.toNat_natCast, Int.toNat_natCast, List.take_of_length_le (Nat.le_refl _)]
  have hv : Nums.valid (l.getD Z 0) = true := by
    rw [List.getD_eq_getElem?_getD, List.getElem?_eq_getElem hZ]
    exact h2 _ (List.getElem_mem _)
  refine ⟨e1, by rw [e2, Ways.way_len], ?_⟩
  unfold WalkProofCheck.checkE WalkProofCheck.upE
  rw [if_pos (show WalkSteps.inside _ _ _ = true from decide_eq_true ⟨by omega, by omega, by omega⟩), if_pos ⟨Trees.root_valid l h2, hv, List.all_eq_true.2 (by rw [e2]; exact Ways.way_valid _ l Z (Nat.le_refl _) h2)⟩, Int.toNat_natCast, Int.toNat_natCast, if_pos (by rw [e2, Ways.way_len]), e2, if_pos (Ways.up_way l Z hZ)]

end Go.Proofs.YticadkggaanbjaaGreatDoor.LeafProof
