/-
  Plain mathematics of batch: what is wrong with places, and what Make, Long and Check answer. Nothing of the program is named here.
-/
import Derived.Test.YtndhbimgicnhkaaDoorBatchSets
namespace Go.Proofs.YtndhbimgicnhkaaDoor.BatchFaults
open Trees (root)
open Ways (steps)
open Batches BatchSets

/-- are all places from 0 to below how many? -/
def inside (size : Int) (a : List Int) : Bool := a.all fun x => decide (0 ≤ x ∧ x < size)
theorem inside_iff {size : Int} {a : List Int} : inside size a = true ↔ ∀ x ∈ a, 0 ≤ x ∧ x < size := by
  unfold inside
  rw [List.all_eq_true]
  exact ⟨fun h x hx => of_decide_eq_true (h x hx), fun h x hx => decide_eq_true (h x hx)⟩
/-- do they rise, each against the one ahead? -/
def rises : List Int → Bool
  | [] => true
  | [_] => true
  | x :: y :: a => decide (x < y) && rises (y :: a)
theorem rises_rising : ∀ {a : List Int}, rises a = true ↔ rising a
  | [] => ⟨fun _ => List.Pairwise.nil, fun _ => rfl⟩
  | [x] => ⟨fun _ => List.pairwise_singleton _ _, fun _ => rfl⟩
  | x :: y :: a => by
    rw [rises, Bool.and_eq_true, rises_rising (a := y :: a)]
    unfold rising
    rw [List.pairwise_cons (a := x)]
    constructor
    · rintro ⟨h1, h2⟩
      refine ⟨fun z hz => ?_, h2⟩
      have h1' := of_decide_eq_true h1
      rcases List.mem_cons.1 hz with rfl | hz
      · exact h1'
      · have := (List.pairwise_cons.1 h2).1 z hz
        omega
    · rintro ⟨h1, h2⟩
      exact ⟨decide_eq_true (h1 y (by simp)), h2⟩
/-- by their places in the list -/
theorem rises_at : ∀ {a : List Int}, rises a = true ↔ ∀ i, i + 1 < a.length → a.getD i 0 < a.getD (i + 1) 0
  | [] => ⟨fun _ i h => by simp at h, fun _ => rfl⟩
  | [x] => ⟨fun _ i h => by simp at h, fun _ => rfl⟩
  | x :: y :: a => by
    rw [rises, Bool.and_eq_true, rises_at (a := y :: a)]
    constructor
    · rintro ⟨h1, h2⟩ i hi
      cases i with
      | zero => exact of_decide_eq_true h1
      | succ i => exact h2 i (by simpa using hi)
    · intro h
      exact ⟨decide_eq_true (h 0 (by simp)), fun i hi => h (i + 1) (by simpa using hi)⟩
def placesE (size : Int) (a : List Int) : Nat := if 400 < a.length then 4 else if inside size a = false then 1 else if rises a = false then 7 else 0
theorem placesE_ok {size : Int} {a : List Int} (h : placesE size a = 0) : a.length ≤ 400 ∧ (∀ x ∈ a, 0 ≤ x ∧ x < size) ∧ rising a := by
  unfold placesE at h
  split at h
  · contradiction
  split at h
  · contradiction
  split at h
  · contradiction
  rename_i h1 h2 h3
  exact ⟨by omega, inside_iff.1 (by simpa using h2), rises_rising.1 (by simpa using h3)⟩

def makeE (l a : List Int) : Nat := if Trees.leafsE l ≠ 0 then Trees.leafsE l else if placesE l.length a ≠ 0 then placesE l.length a else if l.length = 0 then 3 else 0
def makeL (l a : List Int) : List Int := if makeE l a = 0 then several l a 0 l.length else []
theorem makeE_ok {l a : List Int} (h : makeE l a = 0) : Trees.leafsE l = 0 ∧ placesE l.length a = 0 ∧ 1 ≤ l.length := by
  unfold makeE at h
  split at h
  · contradiction
  split at h
  · contradiction
  split at h
  · contradiction
  rename_i h1 h2 h3
  exact ⟨by omega, by omega, by omega⟩
def longE (size : Int) (a : List Int) : Nat := if size < 1 ∨ 200 < size then 1 else placesE size a
def longV (size : Int) (a : List Int) : Nat := if longE size a = 0 then long a 0 size.toNat else 0
theorem longE_ok {size : Int} {a : List Int} (h : longE size a = 0) : 1 ≤ size ∧ size ≤ 200 ∧ placesE size a = 0 := by
  unfold longE at h
  split at h
  · contradiction
  · exact ⟨by omega, by omega, h⟩
def checkE (root size : Int) (a s p : List Int) : Nat :=
  if longE size a ≠ 0 then longE size a else if (Nums.valid root && Trees.allOk s && Trees.allOk p) = false then 1 else if s.length ≠ a.length ∨ p.length ≠ longV size a then 3 else if up a 0 size.toNat s p ≠ root then 8 else 0

/-- the leafs at places -/
def sumsAt (l a : List Int) : List Int := a.map fun x => l.getD x.toNat 0
/-- what was made is right -/
theorem make_right {l a : List Int} (h : makeE l a = 0) : longE l.length a = 0 ∧ longV l.length a = (makeL l a).length ∧ checkE (root l) l.length a (sumsAt l a) (makeL l a) = 0 := by
  obtain ⟨h1, h2, h3⟩ := makeE_ok h
  obtain ⟨p1, p2, p3⟩ := placesE_ok h2
  have hlen : l.length ≤ 200 ∧ Trees.allOk l = true := by
    unfold Trees.leafsE at h1
    split at h1
    · contradiction
    split at h1
    · rename_i q1 q2
      exact ⟨by omega, q2⟩
    · contradiction
  have hv := List.all_eq_true.1 hlen.2
  have e1 : longE l.length a = 0 := by
    unfold longE
    rw [if_neg (by omega)]
    exact h2
  have e2 : makeL l a = several l a 0 l.length := if_pos h
  have e3 : longV l.length a = (makeL l a).length := by
    rw [e2, several_length _ _ _ _ h3]
    unfold longV
    rw [if_pos e1, Int.toNat_natCast]
  refine ⟨e1, e3, ?_⟩
  have v1 : Nums.valid (root l) = true := Trees.root_valid l hv
  have v2 : Trees.allOk (sumsAt l a) = true := by
    refine List.all_eq_true.2 fun x hx => ?_
    obtain ⟨i, hi, rfl⟩ := List.mem_map.1 hx
    have := p2 i hi
    rw [List.getD_eq_getElem?_getD, List.getElem?_eq_getElem (by omega)]
    exact hv _ (List.getElem_mem _)
  have v3 : Trees.allOk (makeL l a) = true := by
    rw [e2]
    refine List.all_eq_true.2 ?_
    refine parts (P := fun fr n => ∀ x ∈ several l a fr n, Nums.valid x = true) a ?_ ?_ ?_ l.length 0 l.length (Nat.le_refl _) h3
    · intro fr n h1 h x hx
      rw [several_no h1 h] at hx
      rw [List.mem_singleton.1 hx]
      exact Trees.root_valid _ fun y hy => hv y (List.mem_of_mem_drop (List.mem_of_mem_take hy))
    · intro fr h x hx
      rw [several_one h] at hx
      cases hx
    · intro fr n h2 h ia ib x hx
      rw [several_two h2 h] at hx
      rcases List.mem_append.1 hx with hx | hx
      · exact ia x hx
      · exact ib x hx
  unfold checkE
  rw [if_neg (fun z => z e1), if_neg (by rw [v1, v2, v3]; decide), if_neg, if_neg]
  · rw [Int.toNat_natCast, e2]
    exact fun z => z (up_all p3 h3 p2)
  · rintro (q | q)
    · exact q (by unfold sumsAt; rw [List.length_map])
    · exact q e3.symm
/-- no longer than one by one -/
theorem make_long {l a : List Int} (h : makeE l a = 0) (ha : 0 < a.length) : (makeL l a).length ≤ (a.map fun x => steps x.toNat l.length).sum := by
  obtain ⟨_, h2, h3⟩ := makeE_ok h
  obtain ⟨_, p2, p3⟩ := placesE_ok h2
  rw [show makeL l a = several l a 0 l.length from if_pos h, several_length _ _ _ _ h3]
  have hw : wanted a 0 l.length = true := by
    obtain ⟨x, hx⟩ := List.exists_mem_of_length_pos ha
    exact wanted_yes.2 ⟨x, hx, by have := p2 x hx; omega⟩
  refine Nat.le_trans (long_total 0 l.length h3 hw) (Nat.le_of_eq ?_)
  have e := places_all p3 h3 p2
  conv => rhs; rw [← e]
  unfold total ofNats
  rw [List.map_map]
  rfl
/-- of no places it is the root alone -/
theorem make_none {l : List Int} (h : makeE l [] = 0) : makeL l [] = [root l] := by
  obtain ⟨_, _, h3⟩ := makeE_ok h
  rw [show makeL l [] = several l [] 0 l.length from if_pos h, several_no h3 (none_wanted _ _), List.drop_zero, List.take_of_length_le (Nat.le_refl _)]
/-- of all there is nothing more -/
theorem make_all {l a : List Int} (h : makeE l a = 0) (hn : l.length ≤ a.length) : makeL l a = [] := by
  obtain ⟨_, h2, h3⟩ := makeE_ok h
  obtain ⟨_, p2, p3⟩ := placesE_ok h2
  refine List.length_eq_zero_iff.1 ?_
  rw [show makeL l a = several l a 0 l.length from if_pos h, several_length _ _ _ _ h3]
  exact long_full h3 p3 p2 hn
end Go.Proofs.YtndhbimgicnhkaaDoor.BatchFaults
