/-
  Plain mathematics: of a tree and a beginning of it, the proof that is made of the leafs is right; and of entries and a beginning of them.
-/
import Derived.Test.YtigbbhojgajkjaiGrowsE
import Derived.Test.YtigbbhojgajkjaiEntries
namespace Go.Proofs.Ytigbbhojgajkjai.GrowRight
open Grows (gsteps grow oldOf newOf grownE)
open GrowsE (gmakeE gmakeL growE growE_is leafs_zero)
open Entries (Entry entE entsE leafsOf leafsV)

theorem right {L : List Int} {m n : Nat} (hn : L.length = n) (h2 : n ≤ 200) (hv : ∀ x ∈ L, Nums.valid x = true) (h1 : 1 ≤ m) (hm : m ≤ n) :
    gmakeE L (m : Int) (n : Int) = 0 ∧ (gmakeL L (m : Int) (n : Int)).length ≤ 201 ∧ growE (Trees.rootV (L.take m)) (m : Int) (Trees.rootV L) (n : Int) (gmakeL L (m : Int) (n : Int)) = 0 := by
  have hvo : ∀ x ∈ L.take m, Nums.valid x = true := fun x hx => hv x (List.mem_of_mem_take hx)
  have z1 := leafs_zero (l := L) (by omega) hv
  have z2 := leafs_zero (l := L.take m) (by rw [List.length_take]; omega) hvo
  have e1 : gmakeE L (m : Int) (n : Int) = 0 := by
    unfold gmakeE
    rw [if_pos z1, if_pos (show GrowsE.inGrow (m : Int) (n : Int) (L.length : Int) = true from decide_eq_true ⟨by omega, by omega, by omega⟩)]
  have htk : L.take n = L := List.take_of_length_le (by omega)
  have eP : gmakeL L (m : Int) (n : Int) = grow L m true := by
    unfold gmakeL
    rw [if_pos e1, Int.toNat_natCast, Int.toNat_natCast, htk]
  have lP : (grow L m true).length = gsteps m n true := by
    have h := Grows.grow_length _ L m true (Nat.le_refl _) h1 (by omega)
    rw [hn] at h
    exact h
  have vP := Grows.grow_valid _ L m true (Nat.le_refl _) h1 (by omega) hv
  have eG := Grows.of_grow _ L m true (Trees.root (L.take m)) (Nat.le_refl _) h1 (by omega) (fun _ => rfl)
  rw [hn] at eG
  refine ⟨e1, GrowsE.gmakeL_len _ _ _, ?_⟩
  rw [show Trees.rootV (L.take m) = Trees.root (L.take m) from if_pos z2, show Trees.rootV L = Trees.root L from if_pos z1, eP,
    growE_is rfl rfl h1 hm h2 (Trees.root_valid _ hvo) (Trees.root_valid _ hv) vP]
  unfold grownE
  rw [if_pos lP, eG.1, eG.2, if_pos ⟨rfl, rfl⟩]

theorem leafs_valid (l : List Entry) : ∀ x ∈ leafsOf l, Nums.valid x = true := by
  intro x hx
  obtain ⟨e, _, rfl⟩ := List.mem_map.1 hx
  have := Sums.sum_bd (0 :: Entries.bytes e)
  exact Nums.valid_iff.2 ⟨this.1, this.2⟩
theorem leafs_take {l : List Entry} (h : entsE l = 0) (m : Nat) : entsE (l.take m) = 0 ∧ leafsV (l.take m) = (leafsV l).take m := by
  obtain ⟨h1, h2⟩ := Entries.ents_ok h
  have e : entsE (l.take m) = 0 := Entries.ents_of (by rw [List.length_take]; omega) fun e he => h2 e (List.mem_of_mem_take he)
  refine ⟨e, ?_⟩
  unfold leafsV
  rw [if_pos e, if_pos h]
  exact List.map_take
theorem leafs_is {l : List Entry} (h : entsE l = 0) : leafsV l = leafsOf l ∧ (leafsV l).length = l.length := by
  have e : leafsV l = leafsOf l := if_pos h
  refine ⟨e, ?_⟩
  rw [e]
  exact List.length_map ..

end Go.Proofs.Ytigbbhojgajkjai.GrowRight
