/-
  Plain mathematics of places that rise: those of a part, as many as are wanted; how long a proof of several is against those of each; of none, and of all. Nothing of the program is named here.
-/
import Derived.Test.YtndhbimgicnhkaaDoorBatches
namespace Go.Proofs.YtndhbimgicnhkaaDoor.BatchSets
open Trees (half root half_lt half_pos)
open Ways (node steps)
open Batches

def rising (a : List Int) : Prop := a.Pairwise (· < ·)
/-- those from one place to below another -/
def cut (a : List Int) (x y : Int) : List Int := a.filter fun z => decide (x ≤ z ∧ z < y)
theorem cut_nil (x y : Int) : cut [] x y = [] := rfl
theorem cut_in {z x y : Int} {a : List Int} (h : x ≤ z ∧ z < y) : cut (z :: a) x y = z :: cut a x y := by
  unfold cut
  rw [List.filter_cons, if_pos (decide_eq_true h)]
theorem cut_out {z x y : Int} {a : List Int} (h : ¬ (x ≤ z ∧ z < y)) : cut (z :: a) x y = cut a x y := by
  unfold cut
  rw [List.filter_cons, if_neg (by simpa using h)]
theorem cut_none {x y : Int} {a : List Int} (h : ∀ z ∈ a, ¬ (x ≤ z ∧ z < y)) : cut a x y = [] := by
  unfold cut
  rw [List.filter_eq_nil_iff]
  intro z hz
  simpa using h z hz
theorem cut_all {x y : Int} {a : List Int} (h : ∀ z ∈ a, x ≤ z ∧ z < y) : cut a x y = a := by
  unfold cut
  rw [List.filter_eq_self]
  intro z hz
  exact decide_eq_true (h z hz)
/-- in two parts -/
theorem cut_two {x y z : Int} (h1 : x ≤ y) (h2 : y ≤ z) : ∀ {a : List Int}, rising a → cut a x y ++ cut a y z = cut a x z
  | [], _ => rfl
  | q :: a, h => by
    have hq := (List.pairwise_cons.1 h).1
    have ih := cut_two h1 h2 (List.pairwise_cons.1 h).2
    by_cases e1 : x ≤ q ∧ q < y
    · rw [cut_in e1, cut_out (a := a) (x := y) (by omega), cut_in (a := a) (x := x) (y := z) (by omega), List.cons_append, ih]
    · by_cases e2 : y ≤ q ∧ q < z
      · have e3 : cut a x y = [] := cut_none fun w hw => by have := hq w hw; omega
        rw [cut_out e1, cut_in e2, cut_in (a := a) (x := x) (y := z) (by omega), e3, ← ih, e3]
        rfl
      · rw [cut_out e1, cut_out e2, cut_out (a := a) (x := x) (y := z) (by omega), ih]
theorem cut_one {x : Int} : ∀ {a : List Int}, rising a → x ∈ a → cut a x (x + 1) = [x]
  | [], _, h => by cases h
  | q :: a, hr, h => by
    have hq := (List.pairwise_cons.1 hr).1
    by_cases e : q = x
    · subst e
      rw [cut_in (by omega), cut_none fun w hw => by have := hq w hw; omega]
    · rw [cut_out (by omega)]
      rcases List.mem_cons.1 h with h | h
      · exact absurd h.symm e
      · exact cut_one (List.pairwise_cons.1 hr).2 h
def ofNats (p : List Nat) : List Int := p.map fun (i : Nat) => (i : Int)
theorem ofNats_append (a b : List Nat) : ofNats (a ++ b) = ofNats a ++ ofNats b := List.map_append
/-- the places that are wanted of a part are those of the list -/
theorem places_cut {a : List Int} (hr : rising a) (fr n : Nat) (h1 : 1 ≤ n) : ofNats (places a fr n) = cut a (fr : Int) ((fr : Int) + (n : Int)) := by
  refine parts (P := fun fr n => ofNats (places a fr n) = cut a (fr : Int) ((fr : Int) + (n : Int))) a ?_ ?_ ?_ n fr n (Nat.le_refl _) h1
  · intro fr n h1 h
    rw [places_no h1 h, cut_none (wanted_no.1 h)]
    rfl
  · intro fr h
    obtain ⟨x, hx, q⟩ := wanted_yes.1 h
    obtain rfl : x = (fr : Int) := by omega
    rw [places_one h]
    exact (cut_one hr hx).symm
  · intro fr n h2 h ia ib
    have ha := half_lt n h2
    rw [places_two h2 h, ofNats_append, ia, ib, show ((fr + half n : Nat) : Int) + ((n - half n : Nat) : Int) = (fr : Int) + (n : Int) by omega, show ((fr + half n : Nat) : Int) = (fr : Int) + (half n : Int) by omega]
    exact cut_two (by omega) (by omega) hr
/-- all of them, where all are of the part -/
theorem places_all {a : List Int} (hr : rising a) {n : Nat} (h1 : 1 ≤ n) (h : ∀ x ∈ a, 0 ≤ x ∧ x < (n : Int)) : ofNats (places a 0 n) = a := by
  rw [places_cut hr 0 n h1]
  exact cut_all fun z hz => by have := h z hz; omega
theorem many_all {a : List Int} (hr : rising a) {n : Nat} (h1 : 1 ≤ n) (h : ∀ x ∈ a, 0 ≤ x ∧ x < (n : Int)) : many a 0 n = a.length := by
  have := congrArg List.length (places_all hr h1 h)
  unfold ofNats at this
  rw [List.length_map] at this
  exact this
theorem sums_all {a : List Int} (hr : rising a) {n : Nat} (h1 : 1 ≤ n) (h : ∀ x ∈ a, 0 ≤ x ∧ x < (n : Int)) (l : List Int) : (places a 0 n).map (fun i => l.getD i 0) = a.map fun x => l.getD x.toNat 0 := by
  have e := places_all hr h1 h
  conv => rhs; rw [← e]
  unfold ofNats
  rw [List.map_map]
  rfl
/-- the root of all comes of a proof of several -/
theorem up_all {l a : List Int} (hr : rising a) (h1 : 1 ≤ l.length) (h : ∀ x ∈ a, 0 ≤ x ∧ x < (l.length : Int)) : up a 0 l.length (a.map fun x => l.getD x.toNat 0) (several l a 0 l.length) = root l := by
  have e := up_several l a 0 l.length h1 [] [] (by omega)
  rw [List.append_nil, List.append_nil, sums_all hr h1 h, List.drop_zero, List.take_of_length_le (Nat.le_refl _)] at e
  exact e

/-- the places lie in the part -/
theorem places_mem (a : List Int) (fr n : Nat) (h1 : 1 ≤ n) : ∀ x ∈ places a fr n, fr ≤ x ∧ x < fr + n := by
  refine parts (P := fun fr n => ∀ x ∈ places a fr n, fr ≤ x ∧ x < fr + n) a ?_ ?_ ?_ n fr n (Nat.le_refl _) h1
  · intro fr n h1 h x hx
    rw [places_no h1 h] at hx
    cases hx
  · intro fr h x hx
    rw [places_one h] at hx
    rw [List.mem_singleton.1 hx]
    omega
  · intro fr n h2 h ia ib x hx
    have ha := half_lt n h2
    rw [places_two h2 h] at hx
    rcases List.mem_append.1 hx with hx | hx
    · have := ia x hx
      omega
    · have := ib x hx
      omega
/-- the proofs of each, together -/
def total (p : List Nat) (fr n : Nat) : Nat := (p.map fun x => steps (x - fr) n).sum
theorem total_left {fr n : Nat} (h2 : 2 ≤ n) : ∀ (p : List Nat), (∀ x ∈ p, fr ≤ x ∧ x < fr + half n) → total p fr n = total p fr (half n) + p.length
  | [], _ => rfl
  | x :: p, h => by
    have ih := total_left h2 p fun y hy => h y (List.mem_cons_of_mem _ hy)
    have hx := h x (by simp)
    unfold total at ih ⊢
    rw [List.map_cons, List.map_cons, List.sum_cons, List.sum_cons, ih, Ways.steps_left _ n h2 (by omega), List.length_cons]
    omega
theorem total_right {fr n : Nat} (h2 : 2 ≤ n) : ∀ (p : List Nat), (∀ x ∈ p, fr + half n ≤ x) → total p fr n = total p (fr + half n) (n - half n) + p.length
  | [], _ => rfl
  | x :: p, h => by
    have ih := total_right h2 p fun y hy => h y (List.mem_cons_of_mem _ hy)
    have hx := h x (by simp)
    unfold total at ih ⊢
    rw [List.map_cons, List.map_cons, List.sum_cons, List.sum_cons, ih, Ways.steps_right _ n h2 (by omega), List.length_cons, show x - fr - half n = x - (fr + half n) by omega]
    omega
theorem total_append (p q : List Nat) (fr n : Nat) : total (p ++ q) fr n = total p fr n + total q fr n := by
  unfold total
  rw [List.map_append, List.sum_append]
theorem places_pos {a : List Int} (fr n : Nat) (h1 : 1 ≤ n) : wanted a fr n = true → 1 ≤ (places a fr n).length := by
  refine parts (P := fun fr n => wanted a fr n = true → 1 ≤ (places a fr n).length) a ?_ ?_ ?_ n fr n (Nat.le_refl _) h1
  · intro fr n _ h q
    rw [h] at q
    cases q
  · intro fr h _
    rw [places_one h]
    exact Nat.le_refl _
  · intro fr n h2 h ia ib _
    have ha := half_lt n h2
    rw [places_two h2 h, List.length_append]
    rw [wanted_or (k := half n) (by omega), Bool.or_eq_true] at h
    rcases h with h | h
    · have := ia h
      omega
    · have := ib h
      omega
/-- at once it is no longer than one by one -/
theorem long_total {a : List Int} (fr n : Nat) (h1 : 1 ≤ n) : wanted a fr n = true → long a fr n ≤ total (places a fr n) fr n := by
  refine parts (P := fun fr n => wanted a fr n = true → long a fr n ≤ total (places a fr n) fr n) a ?_ ?_ ?_ n fr n (Nat.le_refl _) h1
  · intro fr n _ h q
    rw [h] at q
    cases q
  · intro fr h _
    rw [long_one h]
    exact Nat.zero_le _
  · intro fr n h2 h ia ib _
    have ha := half_lt n h2
    have hb := half_pos n
    rw [places_two h2 h, total_append, total_left h2 _ (places_mem a fr (half n) hb), total_right h2 _ (fun x hx => (places_mem a (fr + half n) (n - half n) (by omega) x hx).1), long_two h2 h]
    rw [wanted_or (k := half n) (by omega)] at h
    cases wa : wanted a fr (half n)
    · cases wb : wanted a (fr + half n) (n - half n)
      · rw [wa, wb] at h
        cases h
      · have p := places_pos _ _ (by omega) wb
        have q := ib wb
        rw [long_no hb wa]
        omega
    · cases wb : wanted a (fr + half n) (n - half n)
      · have p := places_pos _ _ hb wa
        have q := ia wa
        rw [long_no (by omega) wb]
        omega
      · have q := ia wa
        have r := ib wb
        omega
/-- of all there is nothing more -/
theorem long_zero {a : List Int} (fr n : Nat) (h1 : 1 ≤ n) : (∀ x : Nat, fr ≤ x → x < fr + n → (x : Int) ∈ a) → long a fr n = 0 := by
  refine parts (P := fun fr n => (∀ x : Nat, fr ≤ x → x < fr + n → (x : Int) ∈ a) → long a fr n = 0) a ?_ ?_ ?_ n fr n (Nat.le_refl _) h1
  · intro fr n h1 h q
    exact absurd ⟨Int.le_refl _, by omega⟩ (wanted_no.1 h (fr : Int) (q fr (Nat.le_refl _) (by omega)))
  · intro fr h _
    exact long_one h
  · intro fr n h2 h ia ib q
    have ha := half_lt n h2
    rw [long_two h2 h, ia fun x p1 p2 => q x p1 (by omega), ib fun x p1 p2 => q x (by omega) (by omega)]
/-- in a list that rises, from 0, each is at least as great as its place -/
theorem rising_far : ∀ {a : List Int}, rising a → ∀ (i j : Nat) (hi : i < j) (hj : j < a.length), (a[i]'(by omega)) + ((j : Int) - (i : Int)) ≤ a[j]
  | [], _, _, _, _, hj => by simp at hj
  | x :: a, h, i, j + 1, hi, hj => by
    have hx := (List.pairwise_cons.1 h).1
    have ht := (List.pairwise_cons.1 h).2
    simp only [List.length_cons] at hj
    match i, hi with
    | 0, _ =>
      show x + _ ≤ a[j]
      match j, hj with
      | 0, hj =>
        have := hx a[0] (List.getElem_mem _)
        omega
      | j + 1, hj =>
        have h0 := hx a[0] (List.getElem_mem _)
        have := rising_far ht 0 (j + 1) (by omega) (by omega)
        omega
    | i + 1, hi =>
      have := rising_far ht i j (by omega) (by omega)
      show a[i] + _ ≤ a[j]
      omega
/-- as many as there are: all of them -/
theorem rising_all {a : List Int} {n : Nat} (hr : rising a) (h : ∀ x ∈ a, 0 ≤ x ∧ x < (n : Int)) (hn : n ≤ a.length) : ∀ x : Nat, x < n → (x : Int) ∈ a := fun x hx => by
  have hl : x < a.length := by omega
  have lo : (x : Int) ≤ a[x] := by
    rcases Nat.eq_zero_or_pos x with e | e
    · subst e
      exact (h _ (List.getElem_mem _)).1
    · have := rising_far hr 0 x e hl
      have := (h a[0] (List.getElem_mem _)).1
      omega
  have hi : a[x] ≤ (x : Int) := by
    rcases Nat.lt_or_ge x (a.length - 1) with e | e
    · have := rising_far hr x (a.length - 1) e (by omega)
      have := (h a[a.length - 1] (List.getElem_mem _)).2
      omega
    · have := (h a[x] (List.getElem_mem _)).2
      omega
  rw [show (x : Int) = a[x] by omega]
  exact List.getElem_mem _
theorem long_full {a : List Int} {n : Nat} (h1 : 1 ≤ n) (hr : rising a) (h : ∀ x ∈ a, 0 ≤ x ∧ x < (n : Int)) (hn : n ≤ a.length) : long a 0 n = 0 := long_zero 0 n h1 fun x _ p2 => rising_all hr h hn x (by omega)
theorem none_wanted (fr n : Nat) : wanted [] fr n = false := rfl
end Go.Proofs.YtndhbimgicnhkaaDoor.BatchSets
