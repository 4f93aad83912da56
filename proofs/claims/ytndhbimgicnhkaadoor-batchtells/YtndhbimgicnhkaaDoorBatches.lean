/-
  Plain mathematics of a proof of several leafs at once: which parts are wanted, what is told of a part and how long it is, and the root that comes of sums and a proof. Nothing of the program is named here.
-/
import Derived.Test.YtndhbimgicnhkaaDoorWays
namespace Go.Proofs.YtndhbimgicnhkaaDoor.Batches
open Trees (half root half_lt half_pos)
open Ways (node steps)

/-- is a place wanted of a part? -/
def wanted (at_ : List Int) (fr n : Nat) : Bool := at_.any fun x => decide ((fr : Int) ≤ x ∧ x < (fr : Int) + (n : Int))
theorem wanted_yes {at_ : List Int} {fr n : Nat} : wanted at_ fr n = true ↔ ∃ x ∈ at_, (fr : Int) ≤ x ∧ x < (fr : Int) + (n : Int) := by
  unfold wanted
  rw [List.any_eq_true]
  constructor
  · rintro ⟨x, h1, h2⟩
    exact ⟨x, h1, of_decide_eq_true h2⟩
  · rintro ⟨x, h1, h2⟩
    exact ⟨x, h1, decide_eq_true h2⟩
theorem wanted_no {at_ : List Int} {fr n : Nat} : wanted at_ fr n = false ↔ ∀ x ∈ at_, ¬ ((fr : Int) ≤ x ∧ x < (fr : Int) + (n : Int)) := by
  rw [← Bool.not_eq_true, wanted_yes]
  constructor
  · exact fun h x hx q => h ⟨x, hx, q⟩
  · rintro h ⟨x, hx, q⟩
    exact h x hx q
/-- a part is wanted if one of its halves is -/
theorem wanted_or {at_ : List Int} {fr n k : Nat} (hk : k ≤ n) : wanted at_ fr n = (wanted at_ fr k || wanted at_ (fr + k) (n - k)) := by
  cases h : wanted at_ fr n
  · have h' := wanted_no.1 h
    rw [wanted_no.2 fun x hx q => h' x hx (by omega), wanted_no.2 fun x hx q => h' x hx (by omega)]
    rfl
  · obtain ⟨x, hx, q⟩ := wanted_yes.1 h
    symm
    rw [Bool.or_eq_true]
    by_cases e : x < (fr : Int) + (k : Int)
    · exact .inl (wanted_yes.2 ⟨x, hx, by omega⟩)
    · exact .inr (wanted_yes.2 ⟨x, hx, by omega⟩)

/-- what is gone through of a part: at one that is not wanted, at one leaf that is, and at two halves -/
def goF {α : Type} (at_ : List Int) (no yes : Nat → Nat → α) (two : α → α → α) : Nat → Nat → Nat → α
  | 0, fr, n => no fr n
  | f + 1, fr, n => if wanted at_ fr n = false then no fr n else if n ≤ 1 then yes fr n else two (goF at_ no yes two f fr (half n)) (goF at_ no yes two f (fr + half n) (n - half n))
theorem goF_fuel {α : Type} (at_ : List Int) (no yes : Nat → Nat → α) (two : α → α → α) : ∀ (f g fr n : Nat), n ≤ f → n ≤ g → 1 ≤ n → goF at_ no yes two f fr n = goF at_ no yes two g fr n
  | 0, _, _, _, h, _, h1 => by omega
  | _, 0, _, _, _, h, h1 => by omega
  | f + 1, g + 1, fr, n, hf, hg, h1 => by
    rw [goF, goF]
    split
    · rfl
    split
    · rfl
    · rename_i h2
      have a := half_lt n (by omega)
      have b := half_pos n
      rw [goF_fuel at_ no yes two f g fr (half n) (by omega) (by omega) (by omega), goF_fuel at_ no yes two f g (fr + half n) (n - half n) (by omega) (by omega) (by omega)]
def go {α : Type} (at_ : List Int) (no yes : Nat → Nat → α) (two : α → α → α) (fr n : Nat) : α := goF at_ no yes two n fr n
section
variable {α : Type} {at_ : List Int} {no yes : Nat → Nat → α} {two : α → α → α} {fr n : Nat}
theorem go_no (h1 : 1 ≤ n) (h : wanted at_ fr n = false) : go at_ no yes two fr n = no fr n := by
  obtain ⟨m, rfl⟩ : ∃ m, n = m + 1 := ⟨n - 1, by omega⟩
  unfold go
  rw [goF, if_pos h]
theorem go_one (h : wanted at_ fr 1 = true) : go at_ no yes two fr 1 = yes fr 1 := by
  unfold go
  rw [goF, if_neg (by rw [h]; decide), if_pos (Nat.le_refl _)]
theorem go_two (h2 : 2 ≤ n) (h : wanted at_ fr n = true) : go at_ no yes two fr n = two (go at_ no yes two fr (half n)) (go at_ no yes two (fr + half n) (n - half n)) := by
  obtain ⟨m, rfl⟩ : ∃ m, n = m + 1 := ⟨n - 1, by omega⟩
  have a := half_lt (m + 1) h2
  have b := half_pos (m + 1)
  unfold go
  rw [goF, if_neg (by rw [h]; decide), if_neg (by omega), goF_fuel at_ no yes two m (half (m + 1)) fr (half (m + 1)) (by omega) (by omega) (by omega), goF_fuel at_ no yes two m (m + 1 - half (m + 1)) (fr + half (m + 1)) (m + 1 - half (m + 1)) (by omega) (by omega) (by omega)]
end
/-- over the parts of a part -/
theorem parts {P : Nat → Nat → Prop} (at_ : List Int) (hno : ∀ fr n, 1 ≤ n → wanted at_ fr n = false → P fr n) (hone : ∀ fr, wanted at_ fr 1 = true → P fr 1)
    (htwo : ∀ fr n, 2 ≤ n → wanted at_ fr n = true → P fr (half n) → P (fr + half n) (n - half n) → P fr n) : ∀ (f fr n : Nat), n ≤ f → 1 ≤ n → P fr n
  | 0, _, _, h, h1 => by omega
  | f + 1, fr, n, h, h1 => by
    cases hw : wanted at_ fr n
    · exact hno fr n h1 hw
    · by_cases e : n = 1
      · subst e
        exact hone fr hw
      · have a := half_lt n (by omega)
        have b := half_pos n
        exact htwo fr n (by omega) hw (parts at_ hno hone htwo f fr (half n) (by omega) (by omega)) (parts at_ hno hone htwo f (fr + half n) (n - half n) (by omega) (by omega))

/-- what is told of a part -/
def several (l : List Int) (at_ : List Int) (fr n : Nat) : List Int := go at_ (fun fr n => [root ((l.drop fr).take n)]) (fun _ _ => []) (· ++ ·) fr n
/-- how long that is -/
def long (at_ : List Int) (fr n : Nat) : Nat := go at_ (fun _ _ => 1) (fun _ _ => 0) (· + ·) fr n
/-- the places that are wanted of it -/
def places (at_ : List Int) (fr n : Nat) : List Nat := go at_ (fun _ _ => []) (fun fr _ => [fr]) (· ++ ·) fr n
/-- how many -/
def many (at_ : List Int) (fr n : Nat) : Nat := (places at_ fr n).length
theorem several_no {l at_ : List Int} {fr n : Nat} (h1 : 1 ≤ n) (h : wanted at_ fr n = false) : several l at_ fr n = [root ((l.drop fr).take n)] := go_no h1 h
theorem several_one {l at_ : List Int} {fr : Nat} (h : wanted at_ fr 1 = true) : several l at_ fr 1 = [] := go_one h
theorem several_two {l at_ : List Int} {fr n : Nat} (h2 : 2 ≤ n) (h : wanted at_ fr n = true) : several l at_ fr n = several l at_ fr (half n) ++ several l at_ (fr + half n) (n - half n) := go_two h2 h
theorem long_no {at_ : List Int} {fr n : Nat} (h1 : 1 ≤ n) (h : wanted at_ fr n = false) : long at_ fr n = 1 := go_no h1 h
theorem long_one {at_ : List Int} {fr : Nat} (h : wanted at_ fr 1 = true) : long at_ fr 1 = 0 := go_one h
theorem long_two {at_ : List Int} {fr n : Nat} (h2 : 2 ≤ n) (h : wanted at_ fr n = true) : long at_ fr n = long at_ fr (half n) + long at_ (fr + half n) (n - half n) := go_two h2 h
theorem places_no {at_ : List Int} {fr n : Nat} (h1 : 1 ≤ n) (h : wanted at_ fr n = false) : places at_ fr n = [] := go_no h1 h
theorem places_one {at_ : List Int} {fr : Nat} (h : wanted at_ fr 1 = true) : places at_ fr 1 = [fr] := go_one h
theorem places_two {at_ : List Int} {fr n : Nat} (h2 : 2 ≤ n) (h : wanted at_ fr n = true) : places at_ fr n = places at_ fr (half n) ++ places at_ (fr + half n) (n - half n) := go_two h2 h
theorem many_no {at_ : List Int} {fr n : Nat} (h1 : 1 ≤ n) (h : wanted at_ fr n = false) : many at_ fr n = 0 := by unfold many; rw [places_no h1 h]; rfl
theorem many_one {at_ : List Int} {fr : Nat} (h : wanted at_ fr 1 = true) : many at_ fr 1 = 1 := by unfold many; rw [places_one h]; rfl
theorem many_two {at_ : List Int} {fr n : Nat} (h2 : 2 ≤ n) (h : wanted at_ fr n = true) : many at_ fr n = many at_ fr (half n) + many at_ (fr + half n) (n - half n) := by unfold many; rw [places_two h2 h, List.length_append]
theorem several_length (l at_ : List Int) (fr n : Nat) (h1 : 1 ≤ n) : (several l at_ fr n).length = long at_ fr n := by
  refine parts (P := fun fr n => (several l at_ fr n).length = long at_ fr n) at_ ?_ ?_ ?_ n fr n (Nat.le_refl _) h1
  · intro fr n h1 h
    rw [several_no h1 h, long_no h1 h]
    rfl
  · intro fr h
    rw [several_one h, long_one h]
    rfl
  · intro fr n h2 h a b
    rw [several_two h2 h, long_two h2 h, List.length_append, a, b]
theorem long_le (at_ : List Int) (fr n : Nat) (h1 : 1 ≤ n) : long at_ fr n ≤ n := by
  refine parts (P := fun fr n => long at_ fr n ≤ n) at_ ?_ ?_ ?_ n fr n (Nat.le_refl _) h1
  · intro fr n h1 h
    rw [long_no h1 h]
    exact h1
  · intro fr h
    rw [long_one h]
    decide
  · intro fr n h2 h a b
    have := half_lt n h2
    rw [long_two h2 h]
    omega
theorem many_le (at_ : List Int) (fr n : Nat) (h1 : 1 ≤ n) : many at_ fr n ≤ n := by
  refine parts (P := fun fr n => many at_ fr n ≤ n) at_ ?_ ?_ ?_ n fr n (Nat.le_refl _) h1
  · intro fr n h1 h
    rw [many_no h1 h]
    exact Nat.zero_le _
  · intro fr h
    rw [many_one h]
    exact Nat.le_refl _
  · intro fr n h2 h a b
    have := half_lt n h2
    rw [many_two h2 h]
    omega

/-- the root that comes of sums and a proof -/
def upF (at_ : List Int) : Nat → Nat → Nat → List Int → List Int → Int
  | 0, _, _, _, _ => 0
  | f + 1, fr, n, s, p => if wanted at_ fr n = false then p.getD 0 0 else if n ≤ 1 then s.getD 0 0 else node (upF at_ f fr (half n) s p) (upF at_ f (fr + half n) (n - half n) (s.drop (many at_ fr (half n))) (p.drop (long at_ fr (half n))))
theorem upF_fuel (at_ : List Int) : ∀ (f g fr n : Nat) (s p : List Int), n ≤ f → n ≤ g → 1 ≤ n → upF at_ f fr n s p = upF at_ g fr n s p
  | 0, _, _, _, _, _, h, _, h1 => by omega
  | _, 0, _, _, _, _, _, h, h1 => by omega
  | f + 1, g + 1, fr, n, s, p, hf, hg, h1 => by
    rw [upF, upF]
    split
    · rfl
    split
    · rfl
    · rename_i h2
      have a := half_lt n (by omega)
      have b := half_pos n
      rw [upF_fuel at_ f g fr (half n) s p (by omega) (by omega) (by omega), upF_fuel at_ f g (fr + half n) (n - half n) _ _ (by omega) (by omega) (by omega)]
def up (at_ : List Int) (fr n : Nat) (s p : List Int) : Int := upF at_ n fr n s p
theorem up_no {at_ : List Int} {fr n : Nat} {s p : List Int} (h1 : 1 ≤ n) (h : wanted at_ fr n = false) : up at_ fr n s p = p.getD 0 0 := by
  obtain ⟨m, rfl⟩ : ∃ m, n = m + 1 := ⟨n - 1, by omega⟩
  unfold up
  rw [upF, if_pos h]
theorem up_one {at_ : List Int} {fr : Nat} {s p : List Int} (h : wanted at_ fr 1 = true) : up at_ fr 1 s p = s.getD 0 0 := by
  unfold up
  rw [upF, if_neg (by rw [h]; decide), if_pos (Nat.le_refl _)]
theorem up_two {at_ : List Int} {fr n : Nat} {s p : List Int} (h2 : 2 ≤ n) (h : wanted at_ fr n = true) : up at_ fr n s p = node (up at_ fr (half n) s p) (up at_ (fr + half n) (n - half n) (s.drop (many at_ fr (half n))) (p.drop (long at_ fr (half n)))) := by
  obtain ⟨m, rfl⟩ : ∃ m, n = m + 1 := ⟨n - 1, by omega⟩
  have a := half_lt (m + 1) h2
  have b := half_pos (m + 1)
  unfold up
  rw [upF, if_neg (by rw [h]; decide), if_neg (by omega), upF_fuel at_ m (half (m + 1)) fr (half (m + 1)) _ _ (by omega) (by omega) (by omega), upF_fuel at_ m (m + 1 - half (m + 1)) (fr + half (m + 1)) (m + 1 - half (m + 1)) _ _ (by omega) (by omega) (by omega)]
theorem up_valid {at_ : List Int} (fr n : Nat) (h1 : 1 ≤ n) : ∀ (s p : List Int), (∀ x ∈ s, Nums.valid x = true) → (∀ x ∈ p, Nums.valid x = true) → many at_ fr n ≤ s.length → long at_ fr n ≤ p.length → Nums.valid (up at_ fr n s p) = true := by
  refine parts (P := fun fr n => ∀ (s p : List Int), (∀ x ∈ s, Nums.valid x = true) → (∀ x ∈ p, Nums.valid x = true) → many at_ fr n ≤ s.length → long at_ fr n ≤ p.length → Nums.valid (up at_ fr n s p) = true) at_ ?_ ?_ ?_ n fr n (Nat.le_refl _) h1
  · intro fr n h1 h s p _ hp _ hl
    rw [long_no h1 h] at hl
    rw [up_no h1 h, List.getD_eq_getElem?_getD, List.getElem?_eq_getElem (by omega)]
    exact hp _ (List.getElem_mem _)
  · intro fr h s p hs _ hm _
    rw [many_one h] at hm
    rw [up_one h, List.getD_eq_getElem?_getD, List.getElem?_eq_getElem (by omega)]
    exact hs _ (List.getElem_mem _)
  · intro fr n h2 h _ _ s p _ _ _ _
    rw [up_two h2 h]
    exact Ways.node_valid _ _

/-- the root of a part, in two -/
theorem root_part {l : List Int} {fr n : Nat} (h2 : 2 ≤ n) (hl : fr + n ≤ l.length) : root ((l.drop fr).take n) = node (root ((l.drop fr).take (half n))) (root ((l.drop (fr + half n)).take (n - half n))) := by
  have a := half_lt n h2
  have hn : ((l.drop fr).take n).length = n := by rw [List.length_take, List.length_drop]; omega
  rw [Trees.root_more _ (by omega), hn]
  unfold Ways.node
  rw [List.take_take, Nat.min_eq_left (by omega), List.drop_take, List.drop_drop]
/-- what was told of a part, and its leafs, come to its root; the rest is left -/
theorem up_several (l at_ : List Int) (fr n : Nat) (h1 : 1 ≤ n) : ∀ (s p : List Int), fr + n ≤ l.length → up at_ fr n ((places at_ fr n).map (fun i => l.getD i 0) ++ s) (several l at_ fr n ++ p) = root ((l.drop fr).take n) := by
  refine parts (P := fun fr n => ∀ (s p : List Int), fr + n ≤ l.length → up at_ fr n ((places at_ fr n).map (fun i => l.getD i 0) ++ s) (several l at_ fr n ++ p) = root ((l.drop fr).take n)) at_ ?_ ?_ ?_ n fr n (Nat.le_refl _) h1
  · intro fr n h1 h s p _
    rw [up_no h1 h, several_no h1 h]
    rfl
  · intro fr h s p hl
    rw [up_one h, places_one h]
    show l.getD fr 0 = _
    rw [List.getD_eq_getElem?_getD, List.getElem?_eq_getElem (by omega), List.drop_eq_getElem_cons (by omega), List.take_succ_cons, List.take_zero, Trees.root_one _ (by simp)]
    rfl
  · intro fr n h2 h ia ib s p hl
    have a := half_lt n h2
    rw [up_two h2 h, places_two h2 h, several_two h2 h, List.map_append, List.append_assoc, List.append_assoc, ia _ _ (by omega), root_part h2 hl]
    congr 1
    have e1 : many at_ fr (half n) = ((places at_ fr (half n)).map (fun i => l.getD i 0)).length := by rw [List.length_map]; rfl
    have e2 : long at_ fr (half n) = (several l at_ fr (half n)).length := (several_length l at_ fr (half n) (half_pos n)).symm
    rw [e1, e2, List.drop_left, List.drop_left]
    exact ib s p (by omega)

end Go.Proofs.YtndhbimgicnhkaaDoor.Batches
