/-
  Plain mathematics of a way through the parts of a tree: both halves ahead of the part that they make up, each with its places; and what is told on it comes to what Batches says. Nothing of the program is named here.
-/
import Derived.Test.YtndhbimgicnhkaaDoorBatchFaults
namespace Go.Proofs.YtndhbimgicnhkaaDoor.BatchTrips
open Trees (half root half_lt half_pos)
open Ways (node steps)
open Batches BatchSets

/-- how many places at the head are below m -/
def low (a : List Int) (m : Int) : Nat := (a.takeWhile fun x => decide (x < m)).length
theorem low_append {u v : List Int} {m : Int} (h1 : ∀ x ∈ u, x < m) (h2 : ∀ x ∈ v, m ≤ x) : low (u ++ v) m = u.length := by
  unfold low
  rw [List.takeWhile_append_of_pos fun x hx => decide_eq_true (h1 x hx)]
  cases v with
  | nil => simp
  | cons x v =>
    have := h2 x (by simp)
    rw [List.takeWhile_cons_of_neg (by simp; omega), List.append_nil]
theorem low_le (a : List Int) (m : Int) : low a m ≤ a.length := (List.takeWhile_sublist _).length_le
/-- where a search by halves ends -/
theorem low_is {a : List Int} {m : Int} {j : Nat} (hj : j ≤ a.length) (h1 : ∀ i, i < j → a.getD i 0 < m) (h2 : ∀ i, j ≤ i → i < a.length → m ≤ a.getD i 0) : j = low a m := by
  conv => rhs; rw [← List.take_append_drop j a]
  rw [low_append, List.length_take]
  · omega
  · intro x hx
    obtain ⟨i, hi, rfl⟩ := List.mem_iff_getElem.1 hx
    rw [List.length_take] at hi
    have := h1 i (by omega)
    rw [List.getD_eq_getElem?_getD, List.getElem?_eq_getElem (by omega)] at this
    rw [List.getElem_take]
    exact this
  · intro x hx
    obtain ⟨i, hi, rfl⟩ := List.mem_iff_getElem.1 hx
    rw [List.length_drop] at hi
    have := h2 (j + i) (by omega) (by omega)
    rw [List.getD_eq_getElem?_getD, List.getElem?_eq_getElem (by omega)] at this
    rw [List.getElem_drop]
    exact this

/-- the way through a part with its places -/
inductive Trip {σ : Type} (Goes : Nat → Nat → Nat → σ → σ → Prop) : Nat → Nat → List Int → σ → σ → Prop
  | leaf {lo hi : Nat} {a : List Int} {s t : σ} : lo < hi → (a.length = 0 ∨ hi - lo = 1) → Goes lo hi a.length s t → Trip Goes lo hi a s t
  | two {lo hi : Nat} {a : List Int} {s t u v : σ} : 2 ≤ hi - lo → 0 < a.length → Trip Goes lo (lo + half (hi - lo)) (a.take (low a ((lo + half (hi - lo) : Nat) : Int))) s t →
      Trip Goes (lo + half (hi - lo)) hi (a.drop (low a ((lo + half (hi - lo) : Nat) : Int))) t u → Goes lo hi a.length u v → Trip Goes lo hi a s v

/-- all parts lie within the whole -/
theorem trip_within {σ : Type} {Goes : Nat → Nat → Nat → σ → σ → Prop} {lo hi : Nat} {a : List Int} {s t : σ} (q : Trip Goes lo hi a s t) {m : Nat} (hm : hi ≤ m) : Trip (fun lo hi c s t => (lo ≤ m ∧ hi ≤ m) ∧ Goes lo hi c s t) lo hi a s t := by
  induction q with
  | leaf h1 h2 h3 => exact .leaf h1 h2 ⟨⟨by omega, hm⟩, h3⟩
  | @two lo hi a s t u v h1 h2 _ _ h3 ia ib =>
    have := half_lt (hi - lo) h1
    exact .two h1 h2 (ia (by omega)) (ib hm) ⟨⟨by omega, hm⟩, h3⟩
theorem cut_in_part {A : List Int} {x y : Int} : ∀ z ∈ cut A x y, x ≤ z ∧ z < y := by
  intro z hz
  unfold cut at hz
  exact of_decide_eq_true (List.mem_filter.1 hz).2
theorem wanted_cut {A : List Int} {fr n : Nat} : wanted A fr n = false ↔ (cut A (fr : Int) ((fr : Int) + (n : Int))).length = 0 := by
  rw [List.length_eq_zero_iff]
  constructor
  · intro h
    exact cut_none (wanted_no.1 h)
  · intro h
    refine wanted_no.2 fun x hx q => ?_
    have : x ∈ cut A (fr : Int) ((fr : Int) + (n : Int)) := List.mem_filter.2 ⟨hx, decide_eq_true q⟩
    rw [h] at this
    cases this
theorem cut_parts {A : List Int} (hr : rising A) {fr n k : Nat} (hk : k ≤ n) :
    (cut A (fr : Int) ((fr : Int) + (n : Int))).take (low (cut A (fr : Int) ((fr : Int) + (n : Int))) ((fr + k : Nat) : Int)) = cut A (fr : Int) ((fr : Int) + (k : Int)) ∧
    (cut A (fr : Int) ((fr : Int) + (n : Int))).drop (low (cut A (fr : Int) ((fr : Int) + (n : Int))) ((fr + k : Nat) : Int)) = cut A ((fr + k : Nat) : Int) (((fr + k : Nat) : Int) + ((n - k : Nat) : Int)) := by
  have e := cut_two (x := (fr : Int)) (y := (fr : Int) + (k : Int)) (z := (fr : Int) + (n : Int)) (by omega) (by omega) hr
  rw [show ((fr + k : Nat) : Int) = (fr : Int) + (k : Int) by omega, show (fr : Int) + (k : Int) + ((n - k : Nat) : Int) = (fr : Int) + (n : Int) by omega, ← e,
    low_append (fun x hx => (cut_in_part x hx).2) (fun x hx => (cut_in_part x hx).1), List.take_left, List.drop_left]
  exact ⟨rfl, rfl⟩
theorem many_cut {A : List Int} (hr : rising A) (fr n : Nat) (h1 : 1 ≤ n) : (cut A (fr : Int) ((fr : Int) + (n : Int))).length = many A fr n := by
  rw [← places_cut hr fr n h1]
  unfold ofNats many
  rw [List.length_map]

/-- a way through each part of all, where what is told goes on -/
theorem trip {σ : Type} {Goes : Nat → Nat → Nat → σ → σ → Prop} {A : List Int} (hr : rising A) (F : Nat → Nat → σ → σ) (Ok : Nat → Nat → σ → Prop)
    (hno : ∀ fr n s, 1 ≤ n → wanted A fr n = false → Ok fr n s → Goes fr (fr + n) 0 s (F fr n s))
    (hone : ∀ fr s, wanted A fr 1 = true → Ok fr 1 s → Goes fr (fr + 1) 1 s (F fr 1 s))
    (htwo : ∀ fr n s, 2 ≤ n → wanted A fr n = true → Ok fr n s → Ok fr (half n) s ∧ Ok (fr + half n) (n - half n) (F fr (half n) s) ∧ ∀ c, 0 < c → Goes fr (fr + n) c (F (fr + half n) (n - half n) (F fr (half n) s)) (F fr n s))
    (fr n : Nat) (h1 : 1 ≤ n) : ∀ s, Ok fr n s → Trip Goes fr (fr + n) (cut A (fr : Int) ((fr : Int) + (n : Int))) s (F fr n s) := by
  refine parts (P := fun fr n => ∀ s, Ok fr n s → Trip Goes fr (fr + n) (cut A (fr : Int) ((fr : Int) + (n : Int))) s (F fr n s)) A ?_ ?_ ?_ n fr n (Nat.le_refl _) h1
  · intro fr n h1 h s hs
    have z := wanted_cut.1 h
    exact .leaf (by omega) (.inl z) (by rw [z]; exact hno fr n s h1 h hs)
  · intro fr h s hs
    have z : (cut A (fr : Int) ((fr : Int) + ((1 : Nat) : Int))).length = 1 := by rw [many_cut hr fr 1 (Nat.le_refl _), many_one h]
    exact .leaf (by omega) (.inr (by omega)) (by rw [z]; exact hone fr s h hs)
  · intro fr n h2 h ia ib s hs
    have ha := half_lt n h2
    have hb := half_pos n
    have en : fr + n - fr = n := by omega
    have z : 0 < (cut A (fr : Int) ((fr : Int) + (n : Int))).length := by
      rcases Nat.eq_zero_or_pos (cut A (fr : Int) ((fr : Int) + (n : Int))).length with q | q
      · rw [wanted_cut.2 q] at h
        cases h
      · exact q
    obtain ⟨o1, o2, o3⟩ := htwo fr n s h2 h hs
    obtain ⟨c1, c2⟩ := cut_parts hr (fr := fr) (n := n) (k := half n) (by omega)
    have t2 := ib (F fr (half n) s) o2
    rw [show fr + half n + (n - half n) = fr + n by omega] at t2
    refine .two (t := F fr (half n) s) (u := F (fr + half n) (n - half n) (F fr (half n) s)) (by omega) z ?_ ?_ (o3 _ z)
    · rw [en, c1]
      exact ia s o1
    · rw [en, c2]
      exact t2
theorem trip_all {σ : Type} {Goes : Nat → Nat → Nat → σ → σ → Prop} {A : List Int} {n : Nat} (h : ∀ x ∈ A, 0 ≤ x ∧ x < (n : Int)) {s t : σ} (q : Trip Goes 0 (0 + n) (cut A ((0 : Nat) : Int) (((0 : Nat) : Int) + (n : Int))) s t) : Trip Goes 0 n A s t := by
  rw [cut_all fun z hz => by have := h z hz; omega, Nat.zero_add] at q
  exact q

/-- counting: those of which no place is wanted -/
def Counts (_lo _hi c : Nat) (s t : Nat) : Prop := s ≤ 400 ∧ t = if c = 0 then s + 1 else s
theorem trip_counts {A : List Int} (hr : rising A) {n : Nat} (h1 : 1 ≤ n) (hn : n ≤ 200) (h : ∀ x ∈ A, 0 ≤ x ∧ x < (n : Int)) : Trip Counts 0 n A 0 (long A 0 n) := by
  refine trip_all h ?_
  have q := trip (Goes := Counts) hr (fun fr n s => s + long A fr n) (fun fr n s => s + long A fr n ≤ 400) ?_ ?_ ?_ 0 n h1 0 (by have := long_le A 0 n h1; omega)
  · rw [Nat.zero_add (long A 0 n)] at q
    exact q
  · intro fr n s h1 h hs
    rw [long_no h1 h] at hs ⊢
    exact ⟨by omega, rfl⟩
  · intro fr s h hs
    rw [long_one h] at hs ⊢
    exact ⟨by omega, rfl⟩
  · intro fr n s h2 h hs
    rw [long_two h2 h] at hs ⊢
    refine ⟨by omega, by omega, fun c hc => ⟨by omega, ?_⟩⟩
    rw [if_neg (by omega)]
    omega

/-- telling: the roots of those of which no place is wanted -/
def Tells (l : List Int) (lo hi c : Nat) (s t : List Int) : Prop := s.length ≤ 400 ∧ lo < hi ∧ hi ≤ l.length ∧ t = if c = 0 then s ++ [root ((l.drop lo).take (hi - lo))] else s
theorem trip_tells {l A : List Int} (hr : rising A) (h1 : 1 ≤ l.length) (hn : l.length ≤ 200) (h : ∀ x ∈ A, 0 ≤ x ∧ x < (l.length : Int)) : Trip (Tells l) 0 l.length A [] (several l A 0 l.length) := by
  refine trip_all h ?_
  have q := trip (Goes := Tells l) hr (fun fr n s => s ++ several l A fr n) (fun fr n s => fr + n ≤ l.length ∧ s.length + long A fr n ≤ 400) ?_ ?_ ?_ 0 l.length h1 [] ⟨by omega, by have := long_le A 0 l.length h1; simp; omega⟩
  · rw [List.nil_append] at q
    exact q
  · intro fr n s h1 h hs
    rw [long_no h1 h] at hs
    refine ⟨by omega, by omega, hs.1, ?_⟩
    rw [if_pos rfl, several_no h1 h, show fr + n - fr = n by omega]
  · intro fr s h hs
    refine ⟨by omega, by omega, hs.1, ?_⟩
    rw [if_neg (by omega), several_one h, List.append_nil]
  · intro fr n s h2 h hs
    have ha := half_lt n h2
    have hb := half_pos n
    rw [long_two h2 h] at hs
    have e1 := several_length l A fr (half n) hb
    have e2 := several_length l A (fr + half n) (n - half n) (by omega)
    refine ⟨⟨by omega, by omega⟩, ⟨by omega, by rw [List.length_append]; omega⟩, fun c hc => ⟨by rw [List.length_append, List.length_append]; omega, by omega, hs.1, ?_⟩⟩
    rw [if_neg (by omega), several_two h2 h, List.append_assoc]

/-- coming up: the roots whose node is not made yet, the sums and the proof that are left -/
structure Pile where
  roots : List Int
  sums : List Int
  proof : List Int
def allSums (l : List Int) : Prop := ∀ x ∈ l, Nums.valid x = true
inductive Ups (lo hi : Nat) : Nat → Pile → Pile → Prop
  | told {o s p : List Int} {x : Int} : o.length ≤ 400 → Ups lo hi 0 ⟨o, s, x :: p⟩ ⟨o ++ [x], s, p⟩
  | one {c : Nat} {o s p : List Int} {x : Int} : 0 < c → hi = lo + 1 → o.length ≤ 400 → Ups lo hi c ⟨o, x :: s, p⟩ ⟨o ++ [x], s, p⟩
  | both {c : Nat} {o s p : List Int} {x y : Int} : 0 < c → lo + 1 < hi → o.length ≤ 400 → Nums.valid x = true → Nums.valid y = true → Ups lo hi c ⟨o ++ [x, y], s, p⟩ ⟨o ++ [node x y], s, p⟩
theorem cons_of {l : List Int} (h : 1 ≤ l.length) : ∃ x r, l = x :: r ∧ l.getD 0 0 = x ∧ l.drop 1 = r := by
  cases l with
  | nil => simp at h
  | cons x r => exact ⟨x, r, rfl, rfl, rfl⟩
theorem trip_ups {A : List Int} (hr : rising A) {n : Nat} (h1 : 1 ≤ n) (hn : n ≤ 200) (h : ∀ x ∈ A, 0 ≤ x ∧ x < (n : Int)) {s p : List Int} (hs : allSums s) (hp : allSums p) (hm : A.length = s.length) (hl : long A 0 n = p.length) :
    Trip Ups 0 n A ⟨[], s, p⟩ ⟨[up A 0 n s p], [], []⟩ := by
  refine trip_all h ?_
  have q := trip (Goes := Ups) hr (fun fr n (q : Pile) => ⟨q.roots ++ [up A fr n q.sums q.proof], q.sums.drop (many A fr n), q.proof.drop (long A fr n)⟩)
    (fun fr n (q : Pile) => allSums q.sums ∧ allSums q.proof ∧ many A fr n ≤ q.sums.length ∧ long A fr n ≤ q.proof.length ∧ q.roots.length + n ≤ 400) ?_ ?_ ?_ 0 n h1 ⟨[], s, p⟩ ⟨hs, hp, by rw [many_all hr h1 h]; show A.length ≤ s.length; omega, by show long A 0 n ≤ p.length; omega, by show 0 + n ≤ 400; omega⟩
  · have e1 : s.drop (many A 0 n) = [] := by rw [many_all hr h1 h, hm, List.drop_length]
    have e2 : p.drop (long A 0 n) = [] := by rw [hl, List.drop_length]
    simp only [List.nil_append, e1, e2] at q
    exact q
  · rintro fr n ⟨o, s, p⟩ h1 h ⟨q1, q2, q3, q4, q5⟩
    simp only at q1 q2 q3 q4 q5 ⊢
    rw [long_no h1 h] at q4 ⊢
    rw [many_no h1 h, up_no h1 h, List.drop_zero]
    obtain ⟨x, r, rfl, e1, e2⟩ := cons_of q4
    rw [e1, e2]
    exact .told (by omega)
  · rintro fr ⟨o, s, p⟩ h ⟨q1, q2, q3, q4, q5⟩
    simp only at q1 q2 q3 q4 q5 ⊢
    rw [many_one h] at q3 ⊢
    rw [long_one h, up_one h, List.drop_zero]
    obtain ⟨x, r, rfl, e1, e2⟩ := cons_of q3
    rw [e1, e2]
    exact .one (by omega) rfl (by omega)
  · rintro fr n ⟨o, s, p⟩ h2 h ⟨q1, q2, q3, q4, q5⟩
    have ha := half_lt n h2
    have hb := half_pos n
    simp only at q1 q2 q3 q4 q5 ⊢
    rw [many_two h2 h] at q3 ⊢
    rw [long_two h2 h] at q4 ⊢
    have v1 := up_valid (at_ := A) fr (half n) hb s p q1 q2 (by omega) (by omega)
    have d1 : allSums (s.drop (many A fr (half n))) := fun x hx => q1 x (List.mem_of_mem_drop hx)
    have d2 : allSums (p.drop (long A fr (half n))) := fun x hx => q2 x (List.mem_of_mem_drop hx)
    have v2 := up_valid (at_ := A) (fr + half n) (n - half n) (by omega) _ _ d1 d2 (by rw [List.length_drop]; omega) (by rw [List.length_drop]; omega)
    refine ⟨⟨q1, q2, by omega, by omega, by omega⟩, ⟨d1, d2, by rw [List.length_drop]; omega, by rw [List.length_drop]; omega, by rw [List.length_append]; simp; omega⟩, fun c hc => ?_⟩
    rw [up_two h2 h, List.drop_drop, List.drop_drop, List.append_assoc]
    exact .both hc (by omega) (by omega) v1 v2
end Go.Proofs.YtndhbimgicnhkaaDoor.BatchTrips
