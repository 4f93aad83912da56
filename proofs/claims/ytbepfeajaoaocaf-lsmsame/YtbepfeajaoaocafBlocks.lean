/-
  Plain mathematics of blocks that are sorted each, and merged two by two till there is one; and of what is left of sorted pairs when of each key the first one is kept, and those that are gone are left out.
-/
import Derived.Test.YtbepfeajaoaocafMerges
import Derived.Test.YtbepfeajaoaocafLsms
namespace Go.Proofs.Ytbepfeajaoaocaf.Blocks
open Stores (Pair lt find Rising)
open Stables Merges

/-! blocks -/
def Full (s : Nat) (D : List Pair) : Prop := ∃ L : List (List Pair), D = L.flatten ∧ ∀ c ∈ L, c.length = s ∧ Sorted c
theorem full_nil (s : Nat) : Full s [] := ⟨[], rfl, fun c hc => by cases hc⟩
theorem full_snoc {s : Nat} {D c : List Pair} (h : Full s D) (hl : c.length = s) (hc : Sorted c) : Full s (D ++ c) := by
  obtain ⟨L, rfl, hL⟩ := h
  refine ⟨L ++ [c], by simp, fun x hx => ?_⟩
  rcases List.mem_append.1 hx with hx | hx
  · exact hL x hx
  · rw [List.mem_singleton.1 hx]
    exact ⟨hl, hc⟩
theorem full_cons {s : Nat} {D : List Pair} (h : Full s D) (hl : 0 < D.length) : ∃ c D', D = c ++ D' ∧ c.length = s ∧ Sorted c ∧ Full s D' := by
  obtain ⟨L, rfl, hL⟩ := h
  cases L with
  | nil => simp at hl
  | cons c L => exact ⟨c, L.flatten, by simp, (hL c (List.mem_cons_self ..)).1, (hL c (List.mem_cons_self ..)).2, L, rfl, fun x hx => hL x (List.mem_cons_of_mem _ hx)⟩

/-- the first ones, up to a, in sorted blocks -/
def Laying (s a : Nat) (d0 d : List Pair) : Prop := Same d0 d ∧ ∃ D R, d = D ++ R ∧ D.length = a ∧ Full s D
theorem Laying.length {s a : Nat} {d0 d : List Pair} (h : Laying s a d0 d) : d.length = d0.length := h.1.1.symm
theorem laying_start (s : Nat) (d : List Pair) : Laying s 0 d d := ⟨Same.refl _, [], d, rfl, rfl, full_nil s⟩
theorem laying_step {s a : Nat} {d0 d d' : List Pair} (h : Laying s a d0 d) (hs : Sorts a (a + s) d d') : Laying s (a + s) d0 d' := by
  refine ⟨h.1.trans hs.same, ?_⟩
  obtain ⟨_, D, R, rfl, hD, hF⟩ := h
  obtain ⟨A, D1, Z, R1, e, rfl, g1, g2, g3, g4⟩ := hs
  obtain ⟨rfl, _⟩ := append_cut e (by omega)
  have := g4.1
  exact ⟨D ++ Z, R1, by simp, by rw [List.length_append]; omega, full_snoc hF (by omega) g3⟩
/-- all in sorted blocks, the last one shorter -/
def Blocks (s : Nat) (d0 d : List Pair) : Prop := Same d0 d ∧ ∃ F Z, d = F ++ Z ∧ Full s F ∧ Sorted Z ∧ Z.length < s
theorem Blocks.length {s : Nat} {d0 d : List Pair} (h : Blocks s d0 d) : d.length = d0.length := h.1.1.symm
theorem laying_end {s a : Nat} {d0 d d' : List Pair} (h : Laying s a d0 d) (hl : d.length < a + s) (hs : Sorts a d.length d d') : Blocks s d0 d' := by
  refine ⟨h.1.trans hs.same, ?_⟩
  obtain ⟨_, D, R, rfl, hD, hF⟩ := h
  obtain ⟨A, D1, Z, R1, e, rfl, g1, g2, g3, g4⟩ := hs
  have hl2 : (D ++ R).length = A.length + (D1.length + R1.length) := by rw [e]; simp
  have hR : R1 = [] := List.length_eq_zero_iff.1 (by omega)
  subst hR
  obtain ⟨rfl, _⟩ := append_cut e (by omega)
  have := g4.1
  exact ⟨D, Z, by simp, hF, g3, by omega⟩
/-- the first ones, up to a, in blocks of twice the size -/
def Merging (s a : Nat) (d0 d : List Pair) : Prop := Same d0 d ∧ ∃ E F Z, d = E ++ (F ++ Z) ∧ E.length = a ∧ Full (2 * s) E ∧ Full s F ∧ Sorted Z ∧ Z.length < s
theorem Merging.length {s a : Nat} {d0 d : List Pair} (h : Merging s a d0 d) : d.length = d0.length := h.1.1.symm
theorem merging_start {s : Nat} {d0 d : List Pair} (h : Blocks s d0 d) : Merging s 0 d0 d := by
  obtain ⟨h1, F, Z, rfl, hF, hZ, hl⟩ := h
  exact ⟨h1, [], F, Z, rfl, rfl, full_nil _, hF, hZ, hl⟩
theorem merging_parts {s a : Nat} {d0 d : List Pair} (h : Merging s a d0 d) (hl : a + 2 * s ≤ d.length) : Parts a (a + s) (a + 2 * s) d := by
  obtain ⟨_, E, F, Z, rfl, hE, _, hF, hZ, hz⟩ := h
  simp only [List.length_append] at hl
  obtain ⟨c1, F1, rfl, l1, s1, hF1⟩ := full_cons hF (by omega)
  rw [List.length_append] at hl
  obtain ⟨c2, F2, rfl, l2, s2, hF2⟩ := full_cons hF1 (by omega)
  exact ⟨E, c1, c2, F2 ++ Z, by simp, hE, by omega, by omega, s1, s2⟩
theorem merging_step {s a : Nat} {d0 d d' : List Pair} (h : Merging s a d0 d) (hl : a + 2 * s ≤ d.length) (hs : Sorts a (a + 2 * s) d d') : Merging s (a + 2 * s) d0 d' := by
  refine ⟨h.1.trans hs.same, ?_⟩
  obtain ⟨_, E, F, Z, rfl, hE, hE2, hF, hZ, hz⟩ := h
  simp only [List.length_append] at hl
  obtain ⟨c1, F1, rfl, l1, s1, hF1⟩ := full_cons hF (by omega)
  rw [List.length_append] at hl
  obtain ⟨c2, F2, rfl, l2, s2, hF2⟩ := full_cons hF1 (by omega)
  obtain ⟨A, D, Y, R, e, rfl, g1, g2, g3, g4⟩ := hs
  obtain ⟨rfl, e1⟩ := append_cut e (by omega)
  rw [show c1 ++ (c2 ++ F2) ++ Z = (c1 ++ c2) ++ (F2 ++ Z) by simp] at e1
  obtain ⟨_, rfl⟩ := append_cut e1 (by rw [List.length_append]; omega)
  have := g4.1
  exact ⟨E ++ Y, F2, Z, by simp, by rw [List.length_append]; omega, full_snoc hE2 (by omega) g3, hF2, hZ, hz⟩
/-- what is left is one block and a part -/
theorem merging_last {s a : Nat} {d0 d : List Pair} (h : Merging s a d0 d) (hl : d.length < a + 2 * s) (hm : a + s < d.length) : Parts a (a + s) d.length d ∧ ∀ d', Sorts a d.length d d' → Blocks (2 * s) d0 d' := by
  obtain ⟨h0, E, F, Z, rfl, hE, hE2, hF, hZ, hz⟩ := h
  simp only [List.length_append] at hl hm
  obtain ⟨c1, F1, rfl, l1, s1, hF1⟩ := full_cons hF (by omega)
  rw [List.length_append] at hl hm
  have hF0 : F1 = [] := by
    by_cases h1 : 0 < F1.length
    · obtain ⟨c2, F2, rfl, l2, _, _⟩ := full_cons hF1 h1
      rw [List.length_append] at hl
      omega
    · exact List.length_eq_zero_iff.1 (by omega)
  subst hF0
  refine ⟨⟨E, c1, Z, [], by simp, hE, by omega, by simp only [List.length_append, List.length_nil]; omega, s1, hZ⟩, fun d' hs => ⟨h0.trans hs.same, ?_⟩⟩
  obtain ⟨A, D, Y, R, e, rfl, g1, g2, g3, g4⟩ := hs
  have hl2 := congrArg List.length e
  simp only [List.length_append, List.length_nil] at hl2 g2
  have hR : R = [] := List.length_eq_zero_iff.1 (by omega)
  subst hR
  obtain ⟨rfl, e1⟩ := append_cut e (by omega)
  have := g4.1
  exact ⟨E, Y, by simp, hE2, g3, by simp only [List.length_nil] at hl; omega⟩
theorem merging_none {s a : Nat} {d0 d : List Pair} (h : Merging s a d0 d) (hm : d.length ≤ a + s) : Blocks (2 * s) d0 d := by
  obtain ⟨h0, E, F, Z, rfl, hE, hE2, hF, hZ, hz⟩ := h
  refine ⟨h0, E, F ++ Z, rfl, hE2, ?_, ?_⟩
  · simp only [List.length_append] at hm
    by_cases h1 : 0 < F.length
    · obtain ⟨c1, F1, rfl, l1, s1, hF1⟩ := full_cons hF h1
      rw [List.length_append] at hm
      have e1 : F1 = [] := List.length_eq_zero_iff.1 (by omega)
      have e2 : Z = [] := List.length_eq_zero_iff.1 (by omega)
      subst e1
      subst e2
      simpa using s1
    · have e1 : F = [] := List.length_eq_zero_iff.1 (by omega)
      subst e1
      exact hZ
  · simp only [List.length_append] at hm ⊢
    omega
theorem blocks_done {s : Nat} {d0 d : List Pair} (h : Blocks s d0 d) (hl : d.length ≤ s) : Sorted d ∧ Same d0 d := by
  refine ⟨?_, h.1⟩
  obtain ⟨_, F, Z, rfl, hF, hZ, hz⟩ := h
  simp only [List.length_append] at hl
  by_cases h1 : 0 < F.length
  · obtain ⟨c1, F1, rfl, l1, s1, hF1⟩ := full_cons hF h1
    rw [List.length_append] at hl
    have e1 : F1 = [] := List.length_eq_zero_iff.1 (by omega)
    have e2 : Z = [] := List.length_eq_zero_iff.1 (by omega)
    subst e1
    subst e2
    simpa using s1
  · have e1 : F = [] := List.length_eq_zero_iff.1 (by omega)
    subst e1
    exact hZ

/-! the first of each key -/
/-- of each run of one key the first -/
def firsts : List Pair → List Pair
  | [] => []
  | [p] => [p]
  | p :: q :: l => if q.key = p.key then (match firsts (q :: l) with | [] => [p] | _ :: t => p :: t) else p :: firsts (q :: l)
theorem firsts_two (p q : Pair) (l : List Pair) : firsts (p :: q :: l) = if q.key = p.key then (match firsts (q :: l) with | [] => [p] | _ :: t => p :: t) else p :: firsts (q :: l) := rfl
theorem firsts_head : ∀ (q : Pair) (l : List Pair), ∃ t, firsts (q :: l) = q :: t
  | q, [] => ⟨[], rfl⟩
  | q, r :: l => by
    obtain ⟨t, ht⟩ := firsts_head r l
    unfold firsts
    split
    · rw [ht]; exact ⟨t, rfl⟩
    · exact ⟨_, rfl⟩
/-- one more behind -/
theorem firsts_snoc : ∀ (l : List Pair) (p q : Pair), firsts (l ++ [p] ++ [q]) = firsts (l ++ [p]) ++ (if q.key = p.key then [] else [q])
  | [], p, q => by
    show firsts [p, q] = [p] ++ _
    by_cases h : q.key = p.key
    · rw [if_pos h]; unfold firsts; rw [if_pos h]; rfl
    · rw [if_neg h]; unfold firsts; rw [if_neg h]; rfl
  | [a], p, q => by
    have i := firsts_snoc [] p q
    simp only [List.nil_append, List.cons_append] at i ⊢
    obtain ⟨t, ht⟩ := firsts_head p [q]
    obtain ⟨t2, ht2⟩ := firsts_head p []
    rw [ht, ht2] at i
    show firsts (a :: p :: [q]) = firsts [a, p] ++ _
    rw [firsts_two a p [q], firsts_two a p [], ht, ht2]
    by_cases h : p.key = a.key
    · rw [if_pos h, if_pos h]
      simp only [List.cons_append, List.cons.injEq, true_and] at i ⊢
      exact i
    · rw [if_neg h, if_neg h]
      simp only [List.cons_append, List.cons.injEq, true_and] at i ⊢
      exact i
  | a :: b :: l, p, q => by
    have i := firsts_snoc (b :: l) p q
    simp only [List.cons_append] at i ⊢
    obtain ⟨t, ht⟩ := firsts_head b (l ++ [p] ++ [q])
    obtain ⟨t2, ht2⟩ := firsts_head b (l ++ [p])
    rw [ht, ht2] at i
    rw [firsts_two a b (l ++ [p] ++ [q]), firsts_two a b (l ++ [p]), ht, ht2]
    by_cases h : b.key = a.key
    · rw [if_pos h, if_pos h]
      simp only [List.cons_append, List.cons.injEq, true_and] at i ⊢
      exact i
    · rw [if_neg h, if_neg h]
      simp only [List.cons_append, List.cons.injEq, true_and] at i ⊢
      exact i
theorem firsts_next {l : List Pair} {k : Nat} (hk : k + 1 < l.length) : firsts (l.take (k + 2)) = firsts (l.take (k + 1)) ++ (if (l[k + 1]).key = (l[k]).key then [] else [l[k + 1]]) := by
  rw [List.take_succ_eq_append_getElem hk, List.take_succ_eq_append_getElem (by omega : k < l.length)]
  exact firsts_snoc _ _ _
theorem mem_firsts : ∀ (l : List Pair) {x : Pair}, x ∈ firsts l → x ∈ l
  | [], _, h => h
  | [p], _, h => h
  | p :: q :: l, x, h => by
    have i := mem_firsts (q :: l) (x := x)
    obtain ⟨t, ht⟩ := firsts_head q l
    unfold firsts at h
    rw [ht] at h i
    split at h
    · rcases List.mem_cons.1 h with rfl | h
      · exact List.mem_cons_self ..
      · exact List.mem_cons_of_mem _ (i (List.mem_cons_of_mem _ h))
    · rcases List.mem_cons.1 h with rfl | h
      · exact List.mem_cons_self ..
      · exact List.mem_cons_of_mem _ (i h)
theorem firsts_len : ∀ (l : List Pair), (firsts l).length ≤ l.length
  | [] => Nat.le_refl _
  | [p] => Nat.le_refl _
  | p :: q :: l => by
    have i := firsts_len (q :: l)
    obtain ⟨t, ht⟩ := firsts_head q l
    unfold firsts
    rw [ht] at i ⊢
    simp only [List.length_cons] at i
    split <;> simp only [List.length_cons] <;> omega
theorem firsts_rising : ∀ {l : List Pair}, Sorted l → Rising (firsts l)
  | [], _ => List.Pairwise.nil
  | [p], _ => List.pairwise_singleton ..
  | p :: q :: l, h => by
    obtain ⟨h1, h2⟩ := List.pairwise_cons.1 h
    have i := firsts_rising h2
    obtain ⟨t, ht⟩ := firsts_head q l
    unfold firsts
    rw [ht] at i ⊢
    obtain ⟨i1, i2⟩ := List.pairwise_cons.1 i
    split
    · rename_i e
      exact List.pairwise_cons.2 ⟨fun x hx => by rw [← e]; exact i1 x hx, i2⟩
    · rename_i e
      have hlt : lt p.key q.key = true := by
        cases h3 : lt p.key q.key with
        | true => rfl
        | false => exact absurd (Stores.lt_total (h1 q (List.mem_cons_self ..)) h3) e
      refine List.pairwise_cons.2 ⟨fun x hx => ?_, i⟩
      rcases List.mem_cons.1 hx with rfl | hx
      · exact hlt
      · exact Stores.lt_trans hlt (i1 x hx)
theorem firsts_find : ∀ (l : List Pair) (k : ByteArray), find (firsts l) k = find l k
  | [], _ => rfl
  | [p], _ => rfl
  | p :: q :: l, k => by
    have i := firsts_find (q :: l) k
    obtain ⟨t, ht⟩ := firsts_head q l
    unfold firsts
    rw [ht] at i ⊢
    rw [Stores.find_cons q t] at i
    by_cases e : q.key = p.key
    · rw [if_pos e, Stores.find_cons, Stores.find_cons]
      by_cases h : p.key = k
      · rw [if_pos h, if_pos h]
      · rw [if_neg h, if_neg h, ← i, if_neg (by rw [e]; exact h)]
    · rw [if_neg e, Stores.find_cons, Stores.find_cons p, ← i, Stores.find_cons]

/-! all levels together -/
theorem find_append (a b : List Pair) (k : ByteArray) : find (a ++ b) k = (find a k).or (find b k) := by
  unfold find
  rw [List.find?_append]
theorem look_flat : ∀ (r : List (List Pair)) (k : ByteArray), find r.flatten k = Lsms.look r k
  | [], _ => rfl
  | l :: r, k => by rw [List.flatten_cons, find_append, Lsms.look, look_flat r]
theorem live_of (r : List (List Pair)) {d : List Pair} (hs : Sorted d) (hd : Same r.flatten d) : (firsts d).filter (fun p => !p.gone) = Lsms.live r := by
  refine Lsms.rising_ext (Lsms.rising_alive (firsts_rising hs)) (Lsms.live_rising r) fun k => ?_
  show find (Lsms.alive (firsts d)) k = _
  rw [Lsms.find_alive (firsts_rising hs), Lsms.live_find, firsts_find, ← hd.find, look_flat]
theorem total_flat : ∀ (r : List (List Pair)), r.flatten.length = Lsms.total r
  | [] => rfl
  | l :: r => by rw [List.flatten_cons, List.length_append, total_flat r, Lsms.total]

end Go.Proofs.Ytbepfeajaoaocaf.Blocks
