/-
  Plain mathematics of a proof's turns, one by one from above, and of a proof of which one sum is changed. Nothing of the program is named here.
-/
import Derived.Test.YtigbbhojgajkjaiClimbs
namespace Go.Proofs.Ytigbbhojgajkjai.Turns
open Ways (turns steps way upL up1 text1 meetsL)

/-- the last of some, and those ahead of it -/
theorem snoc_take {T X : List Bool} {c : Nat} {b : Bool} (hc : c + 1 ≤ T.length) (h : T.take (c + 1) = X ++ [b]) : X = T.take c ∧ T.getD c false = b := by
  have e := List.take_succ_eq_append_getElem (l := T) (i := c) (by omega)
  rw [e] at h
  have h2 := List.append_inj' h rfl
  refine ⟨h2.1.symm, ?_⟩
  have h3 : T[c] = b := by simpa using h2.2
  rw [List.getD_eq_getElem?_getD, List.getElem?_eq_getElem (by omega), h3]; rfl

theorem drop_cons {α : Type} (l : List α) (k : Nat) (d : α) (h : k < l.length) : l.drop k = l.getD k d :: l.drop (k + 1) := by
  rw [List.drop_eq_getElem_cons h, List.getD_eq_getElem?_getD, List.getElem?_eq_getElem h]; rfl

/-- one step of the way up, told apart -/
theorem up_at (s : Int) (p : List Int) (ts : List Bool) (k : Nat) (hk : k < p.length) (hl : p.length = ts.length) :
    upL s p ts = upL (up1 (upL s (p.take k) (ts.take k)) (p.getD k 0) (ts.getD k false)) (p.drop (k + 1)) (ts.drop (k + 1)) := by
  rw [Ways.upL_split k p ts s (by omega) hl, drop_cons p k 0 hk, drop_cons ts k false (by omega)]
  rfl
theorem up_next (s : Int) (p : List Int) (ts : List Bool) (k : Nat) (hk : k < p.length) (hl : p.length = ts.length) :
    upL s (p.take (k + 1)) (ts.take (k + 1)) = up1 (upL s (p.take k) (ts.take k)) (p.getD k 0) (ts.getD k false) := by
  have e1 : p.take (k + 1) = p.take k ++ [p.getD k 0] := by
    rw [List.take_succ_eq_append_getElem hk, List.getD_eq_getElem?_getD, List.getElem?_eq_getElem hk]; rfl
  have e2 : ts.take (k + 1) = ts.take k ++ [ts.getD k false] := by
    rw [List.take_succ_eq_append_getElem (by omega), List.getD_eq_getElem?_getD, List.getElem?_eq_getElem (by omega)]; rfl
  rw [e1, e2, Ways.upL_append _ _ _ _ _ (by rw [List.length_take, List.length_take]; omega)]

/-- what the law asks at one step -/
theorem meets_step {a b : Int} {p : List Int} {ts : List Bool} {k : Nat} (hk : k < p.length) (hl : p.length = ts.length) (h : meetsL a b (p.drop k) (ts.drop k) = true) :
    if up1 a (p.getD k 0) (ts.getD k false) = up1 b (p.getD k 0) (ts.getD k false) then text1 a (p.getD k 0) (ts.getD k false) ≠ text1 b (p.getD k 0) (ts.getD k false)
    else meetsL (up1 a (p.getD k 0) (ts.getD k false)) (up1 b (p.getD k 0) (ts.getD k false)) (p.drop (k + 1)) (ts.drop (k + 1)) = true := by
  rw [drop_cons p k 0 hk, drop_cons ts k false (by omega), meetsL] at h
  split
  · rename_i e
    rw [if_pos e] at h
    exact of_decide_eq_true h
  · rename_i e
    rw [if_neg e] at h
    exact h
theorem meets_end {a b : Int} {p : List Int} {ts : List Bool} {k : Nat} (hk : p.length ≤ k) : meetsL a b (p.drop k) (ts.drop k) = false := by
  rw [List.drop_eq_nil_of_le hk]; rfl

/-- one sum of the proof changed: then at that step two texts are not the same; and the sums that come are one, or meet above -/
theorem changed {s x : Int} {p : List Int} {ts : List Bool} {k : Nat} (hk : k < p.length) (hl : p.length = ts.length) (hs : Nums.valid s = true) (hp : ∀ y ∈ p, Nums.valid y = true) (hx : Nums.valid x = true) (hne : p.getD k 0 ≠ x)
    (he : upL s p ts = upL s (p.set k x) ts) :
    text1 (upL s (p.take k) (ts.take k)) (p.getD k 0) (ts.getD k false) ≠ text1 (upL s (p.take k) (ts.take k)) x (ts.getD k false) ∧
    (up1 (upL s (p.take k) (ts.take k)) (p.getD k 0) (ts.getD k false) ≠ up1 (upL s (p.take k) (ts.take k)) x (ts.getD k false) →
      meetsL (up1 (upL s (p.take k) (ts.take k)) (p.getD k 0) (ts.getD k false)) (up1 (upL s (p.take k) (ts.take k)) x (ts.getD k false)) (p.drop (k + 1)) (ts.drop (k + 1)) = true) := by
  have vy : Nums.valid (p.getD k 0) = true := hp _ (by rw [List.getD_eq_getElem?_getD, List.getElem?_eq_getElem hk]; exact List.getElem_mem _)
  refine ⟨Ways.text1_ne' (Ways.upL_valid _ _ _ hs) vy hx hne, fun hn => ?_⟩
  refine Ways.meets_true _ _ _ _ (by rw [List.length_drop, List.length_drop]; omega) (Ways.up1_valid _ _ _) (Ways.up1_valid _ _ _) (fun y hy => hp y (List.mem_of_mem_drop hy)) hn ?_
  rw [← up_at s p ts k hk hl, he, up_at s (p.set k x) ts k (by rw [List.length_set]; exact hk) (by rw [List.length_set]; exact hl)]
  rw [List.take_set_of_le (Nat.le_refl k), List.drop_set_of_lt (by omega)]
  rw [show (p.set k x).getD k 0 = x by rw [List.getD_eq_getElem?_getD, List.getElem?_set_self hk]; rfl]

end Go.Proofs.Ytigbbhojgajkjai.Turns
