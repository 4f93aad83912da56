/-
  Plain mathematics of merging in place: two sorted parts side by side become one, by halves; and of blocks that are merged, two by two, till there is one.
-/
import Derived.Test.YtbepfeajaoaocafStables
namespace Go.Proofs.Ytbepfeajaoaocaf.Merges
open Stores (Pair lt find Rising)
open Stables

/-- the key at a place -/
def kx (d : List Pair) (i : Nat) : ByteArray := match d[i]? with
  | some p => p.key
  | none => ⟨#[]⟩
theorem kx_of {d : List Pair} {i : Nat} {p : Pair} (h : d[i]? = some p) : kx d i = p.key := by unfold kx; rw [h]

/-! a search by halves -/
def Mono (Q : Nat → Bool) (lo hi : Nat) : Prop := ∀ x y, lo ≤ x → x ≤ y → y < hi → Q y = true → Q x = true
structure Between (Q : Nat → Bool) (lo hi i j : Nat) : Prop where
  flo : lo ≤ i
  fmid : i ≤ j
  fhi : j ≤ hi
  ahead : ∀ x, lo ≤ x → x < i → Q x = true
  behind : ∀ x, j ≤ x → x < hi → Q x = false
theorem between_start {Q : Nat → Bool} {lo hi : Nat} (h : lo ≤ hi) : Between Q lo hi lo hi := ⟨Nat.le_refl _, h, Nat.le_refl _, fun _ _ _ => by omega, fun _ _ _ => by omega⟩
theorem between_up {Q : Nat → Bool} {lo hi i j h : Nat} (b : Between Q lo hi i j) (m : Mono Q lo hi) (h1 : i ≤ h) (h2 : h < j) (hq : Q h = true) : Between Q lo hi (h + 1) j :=
  ⟨by have := b.flo; omega, h2, b.fhi, fun x hx hxh => m x h hx (by omega) (by have := b.fhi; omega) hq, b.behind⟩
theorem between_down {Q : Nat → Bool} {lo hi i j h : Nat} (b : Between Q lo hi i j) (m : Mono Q lo hi) (h1 : i ≤ h) (h2 : h < j) (hq : Q h = false) : Between Q lo hi i h :=
  ⟨b.flo, h1, by have := b.fhi; omega, b.ahead, fun x hx hxh => by
    cases hx2 : Q x with
    | false => rfl
    | true =>
      have := m h x (by have := b.flo; omega) hx hxh hx2
      rw [hq] at this
      cases this⟩

/-- two sorted parts side by side -/
def Parts (a m b : Nat) (d : List Pair) : Prop := ∃ A X Y R, d = A ++ (X ++ (Y ++ R)) ∧ A.length = a ∧ a + X.length = m ∧ m + Y.length = b ∧ Sorted X ∧ Sorted Y
theorem Parts.room {a m b : Nat} {d : List Pair} (h : Parts a m b d) : a ≤ m ∧ m ≤ b ∧ b ≤ d.length := by
  obtain ⟨A, X, Y, R, rfl, h1, h2, h3, _, _⟩ := h
  simp only [List.length_append]
  omega
theorem at_left {A X T : List Pair} {a i : Nat} (hA : A.length = a) (h1 : a ≤ i) (h2 : i < a + X.length) : (A ++ (X ++ T))[i]? = some (X[i - a]'(by omega)) := by
  rw [List.getElem?_append_right (by omega), List.getElem?_append_left (by omega), hA, List.getElem?_eq_getElem]
theorem at_right {A X Y T : List Pair} {a m i : Nat} (hA : A.length = a) (hX : a + X.length = m) (h1 : m ≤ i) (h2 : i < m + Y.length) : (A ++ (X ++ (Y ++ T)))[i]? = some (Y[i - m]'(by omega)) := by
  rw [show A ++ (X ++ (Y ++ T)) = (A ++ X) ++ (Y ++ T) by simp]
  exact at_left (by rw [List.length_append]; omega) h1 h2
theorem Parts.le_left {a m b : Nat} {d : List Pair} (h : Parts a m b d) {i j : Nat} (h1 : a ≤ i) (h2 : i ≤ j) (h3 : j < m) : lt (kx d j) (kx d i) = false := by
  obtain ⟨A, X, Y, R, rfl, hA, hX, hY, sX, sY⟩ := h
  rw [kx_of (at_left hA h1 (by omega)), kx_of (at_left hA (by omega) (by omega))]
  exact sorted_at sX _ _ (by omega)
theorem Parts.le_right {a m b : Nat} {d : List Pair} (h : Parts a m b d) {i j : Nat} (h1 : m ≤ i) (h2 : i ≤ j) (h3 : j < b) : lt (kx d j) (kx d i) = false := by
  obtain ⟨A, X, Y, R, rfl, hA, hX, hY, sX, sY⟩ := h
  rw [kx_of (at_right hA hX h1 (by omega)), kx_of (at_right hA hX (by omega) (by omega))]
  exact sorted_at sY _ _ (by omega)
theorem parts_sorts {a m b : Nat} {d : List Pair} (h : Parts a m b d) (he : a = m ∨ m = b) : Sorts a b d d := by
  obtain ⟨A, X, Y, R, rfl, hA, hX, hY, sX, sY⟩ := h
  refine ⟨A, X ++ Y, X ++ Y, R, by simp, by simp, hA, by rw [List.length_append]; omega, ?_, Same.refl _⟩
  rcases he with he | he
  · have : X = [] := List.length_eq_zero_iff.1 (by omega)
    subst this
    simpa using sY
  · have : Y = [] := List.length_eq_zero_iff.1 (by omega)
    subst this
    simpa using sX
/-- what is behind stays -/
theorem parts_behind {a m b c : Nat} {d d' : List Pair} (h : Parts m b c d) (s : Sorts a m d d') : Parts m b c d' := by
  obtain ⟨A, X, Y, R, hd, hA, hX, hY, sX, sY⟩ := h
  obtain ⟨A', D, Z, R', e, rfl, g1, g2, _, gs⟩ := s
  rw [hd, show A' ++ (D ++ R') = (A' ++ D) ++ R' by simp] at e
  obtain ⟨_, rfl⟩ := append_cut e (by rw [List.length_append]; omega)
  have := gs.1
  exact ⟨A' ++ Z, X, Y, R, by simp, by rw [List.length_append]; omega, hX, hY, sX, sY⟩

/-! one ahead of sorted ones -/
def Climbs (a k : Nat) (d d' : List Pair) : Prop := ∃ A x Y Z, d = A ++ (x :: (Y ++ Z)) ∧ d' = A ++ (Y ++ (x :: Z)) ∧ A.length = a ∧ a + Y.length = k
theorem Climbs.length {a k : Nat} {d d' : List Pair} (h : Climbs a k d d') : d'.length = d.length := by
  obtain ⟨A, x, Y, Z, rfl, rfl, _⟩ := h
  simp only [List.length_append, List.length_cons]
  omega
theorem climbs_start {a : Nat} {d : List Pair} (h : a < d.length) : Climbs a a d d :=
  ⟨d.take a, d[a], [], d.drop (a + 1), by simp, by simp, by rw [List.length_take]; omega, rfl⟩
theorem climbs_step {a k : Nat} {d d' : List Pair} (h : Climbs a k d d') (hk : k + 1 < d.length) : ∃ p q, d'[k]? = some p ∧ d'[k + 1]? = some q ∧ Climbs a (k + 1) d ((d'.set k q).set (k + 1) p) := by
  obtain ⟨A, x, Y, Z, rfl, rfl, h1, h2⟩ := h
  cases Z with
  | nil => simp at hk; omega
  | cons z Z =>
    have e : A ++ (Y ++ x :: z :: Z) = (A ++ Y) ++ x :: ([] ++ z :: Z) := by simp
    have l1 : (A ++ Y).length = k := by rw [List.length_append]; omega
    refine ⟨x, z, by rw [e, at_first l1], by rw [e, at_second l1 (by simp)], A, x, Y ++ [z], Z, by simp, ?_, h1, by simp; omega⟩
    rw [e, set_two l1 (by simp)]
    simp
theorem climbs_end {a b i : Nat} {d d' : List Pair} (h : Parts a (a + 1) b d) (hi : Between (fun x => lt (kx d x) (kx d a)) (a + 1) b i i) (hc : Climbs a (i - 1) d d') : Sorts a b d d' := by
  have hlo := hi.flo
  have hhi := hi.fhi
  have hah := hi.ahead
  have hbe := hi.behind
  obtain ⟨A, X, Y, R, rfl, hA, hX, hY, sX, sY⟩ := h
  obtain ⟨A', x, Y1, Z, e, rfl, g1, g2⟩ := hc
  obtain ⟨y, rfl⟩ : ∃ y, X = [y] := List.length_eq_one_iff.1 (by omega)
  obtain ⟨rfl, e1⟩ := append_cut e (by omega)
  clear e
  simp only [List.cons_append, List.nil_append, List.cons.injEq] at e1
  obtain ⟨rfl, e2⟩ := e1
  have hz : Z = Y.drop Y1.length ++ R ∧ Y1 = Y.take Y1.length := by
    have hle : Y1.length ≤ Y.length := by omega
    have e3 : Y.take Y1.length ++ (Y.drop Y1.length ++ R) = Y1 ++ Z := by rw [← e2, ← List.append_assoc, List.take_append_drop]
    obtain ⟨h1, h2⟩ := append_cut e3 (by rw [List.length_take]; omega)
    exact ⟨h2.symm, h1.symm⟩
  obtain ⟨rfl, hY1⟩ := hz
  have kx0 : kx (A ++ ([y] ++ (Y ++ R))) a = y.key := by rw [kx_of (at_left hA (Nat.le_refl _) (by simp))]; simp
  have kxY : ∀ t (ht : t < Y.length), kx (A ++ ([y] ++ (Y ++ R))) (a + 1 + t) = (Y[t]).key := fun t ht => by
    rw [kx_of (at_right hA rfl (by simp) (by simp; omega))]
    simp
  have low : ∀ p ∈ Y1, lt p.key y.key = true := fun p hp => by
    rw [hY1] at hp
    obtain ⟨t, ht, rfl⟩ := List.getElem_of_mem hp
    rw [List.length_take] at ht
    rw [List.getElem_take]
    have := hah (a + 1 + t) (by omega) (by omega)
    simp only [kx0] at this
    rw [kxY t (by omega)] at this
    exact this
  have high : ∀ p ∈ Y.drop Y1.length, lt p.key y.key = false := fun p hp => by
    obtain ⟨t, ht, rfl⟩ := List.getElem_of_mem hp
    rw [List.length_drop] at ht
    rw [List.getElem_drop]
    have := hbe (a + 1 + (Y1.length + t)) (by omega) (by omega)
    simp only [kx0] at this
    rw [kxY (Y1.length + t) (by omega)] at this
    exact this
  have hYc : Y = Y1 ++ Y.drop Y1.length := by conv => lhs; rw [← List.take_append_drop Y1.length Y, ← hY1]
  have sY' := sY
  rw [hYc] at sY'
  obtain ⟨s1, s2, s3⟩ := sorted_append.1 sY'
  refine ⟨A, [y] ++ Y, Y1 ++ (y :: Y.drop Y1.length), R, by simp, by simp, hA, by rw [List.length_append]; simp only [List.length_cons, List.length_nil] at hX ⊢; omega, ?_, ?_⟩
  · refine sorted_append.2 ⟨s1, List.pairwise_cons.2 ⟨fun q hq => high q hq, s2⟩, fun p hp q hq => ?_⟩
    rcases List.mem_cons.1 hq with rfl | hq
    · exact le_of_lt (low p hp)
    · exact s3 p hp q hq
  · have h1 : Same (([y] ++ Y1) ++ Y.drop Y1.length) ((Y1 ++ [y]) ++ Y.drop Y1.length) := (same_swap fun p hp q hq => by rw [List.mem_singleton.1 hp]; exact low q hq).append (Same.refl _)
    rw [List.append_assoc, ← hYc] at h1
    simpa using h1

/-! one behind sorted ones -/
def Falls (m k : Nat) (d d' : List Pair) : Prop := ∃ A X y R, d = A ++ (X ++ (y :: R)) ∧ d' = A ++ (y :: (X ++ R)) ∧ A.length = k ∧ k + X.length = m
theorem Falls.length {m k : Nat} {d d' : List Pair} (h : Falls m k d d') : d'.length = d.length := by
  obtain ⟨A, x, Y, Z, rfl, rfl, _⟩ := h
  simp only [List.length_append, List.length_cons]
  omega
theorem falls_start {m : Nat} {d : List Pair} (h : m < d.length) : Falls m m d d :=
  ⟨d.take m, [], d[m], d.drop (m + 1), by simp, by simp, by rw [List.length_take]; omega, rfl⟩
theorem falls_step {m k : Nat} {d d' : List Pair} (h : Falls m k d d') (hk : 0 < k) : ∃ p q, d'[k - 1]? = some p ∧ d'[k]? = some q ∧ Falls m (k - 1) d ((d'.set (k - 1) q).set k p) := by
  obtain ⟨A, X, y, R, rfl, rfl, h1, h2⟩ := h
  have hne : A ≠ [] := fun e => by subst e; simp at h1; omega
  obtain ⟨A, z, rfl⟩ : ∃ A' z, A = A' ++ [z] := ⟨A.dropLast, A.getLast hne, (List.dropLast_concat_getLast hne).symm⟩
  simp only [List.length_append, List.length_cons, List.length_nil] at h1
  have e : A ++ [z] ++ y :: (X ++ R) = A ++ z :: ([] ++ y :: (X ++ R)) := by simp
  have l1 : A.length = k - 1 := by omega
  refine ⟨z, y, by rw [e, at_first l1], by rw [e, at_second l1 (by simp; omega)], A, z :: X, y, R, by simp, ?_, l1, by simp; omega⟩
  rw [e, set_two l1 (by simp; omega)]
  simp
theorem falls_end {a m i : Nat} {d d' : List Pair} (h : Parts a m (m + 1) d) (hi : Between (fun x => !lt (kx d m) (kx d x)) a m i i) (hc : Falls m i d d') : Sorts a (m + 1) d d' := by
  have hlo := hi.flo
  have hhi := hi.fhi
  have hah := hi.ahead
  have hbe := hi.behind
  obtain ⟨A, X, Y, R, rfl, hA, hX, hY, sX, sY⟩ := h
  obtain ⟨A', X2, x, Z, e, rfl, g1, g2⟩ := hc
  obtain ⟨y, rfl⟩ : ∃ y, Y = [y] := List.length_eq_one_iff.1 (by omega)
  -- A' is A and the first of X
  have e1 : (A ++ X) ++ ([y] ++ R) = (A' ++ X2) ++ (x :: Z) := by rw [List.append_assoc, e, List.append_assoc]
  obtain ⟨e2, e3⟩ := append_cut e1 (by simp only [List.length_append]; omega)
  simp only [List.cons_append, List.nil_append, List.cons.injEq] at e3
  obtain ⟨rfl, rfl⟩ := e3
  have hX1 : A' = A ++ X.take (i - a) ∧ X2 = X.drop (i - a) := by
    have e4 : (A ++ X.take (i - a)) ++ X.drop (i - a) = A' ++ X2 := by rw [List.append_assoc, List.take_append_drop, e2]
    obtain ⟨h1, h2⟩ := append_cut e4 (by rw [List.length_append, List.length_take]; omega)
    exact ⟨h1.symm, h2.symm⟩
  obtain ⟨rfl, rfl⟩ := hX1
  have kx0 : kx (A ++ (X ++ ([y] ++ R))) m = y.key := by rw [kx_of (at_right hA hX (Nat.le_refl _) (by simp))]; simp
  have kxX : ∀ t (ht : t < X.length), kx (A ++ (X ++ ([y] ++ R))) (a + t) = (X[t]).key := fun t ht => by
    rw [kx_of (at_left hA (by omega) (by omega))]
    simp
  have low : ∀ p ∈ X.take (i - a), lt y.key p.key = false := fun p hp => by
    obtain ⟨t, ht, rfl⟩ := List.getElem_of_mem hp
    rw [List.length_take] at ht
    rw [List.getElem_take]
    have := hah (a + t) (by omega) (by omega)
    simp only [kx0] at this
    rw [kxX t (by omega)] at this
    simpa using this
  have high : ∀ p ∈ X.drop (i - a), lt y.key p.key = true := fun p hp => by
    obtain ⟨t, ht, rfl⟩ := List.getElem_of_mem hp
    rw [List.length_drop] at ht
    rw [List.getElem_drop]
    have := hbe (a + (i - a + t)) (by omega) (by omega)
    simp only [kx0] at this
    rw [kxX (i - a + t) (by omega)] at this
    simpa using this
  have hXc : X = X.take (i - a) ++ X.drop (i - a) := (List.take_append_drop ..).symm
  have sX' := sX
  rw [hXc] at sX'
  obtain ⟨s1, s2, s3⟩ := sorted_append.1 sX'
  refine ⟨A, X ++ [y], X.take (i - a) ++ (y :: X.drop (i - a)), R, by simp, by simp, hA, by rw [List.length_append]; simp only [List.length_cons, List.length_nil] at hY ⊢; omega, ?_, ?_⟩
  · refine sorted_append.2 ⟨s1, List.pairwise_cons.2 ⟨fun q hq => le_of_lt (high q hq), s2⟩, fun p hp q hq => ?_⟩
    rcases List.mem_cons.1 hq with rfl | hq
    · exact low p hp
    · exact s3 p hp q hq
  · have h1 : Same (X.take (i - a) ++ (X.drop (i - a) ++ [y])) (X.take (i - a) ++ ([y] ++ X.drop (i - a))) := (Same.refl _).append (same_swap fun p hp q hq => by rw [List.mem_singleton.1 hq]; exact high p hp)
    rw [← List.append_assoc, List.take_append_drop] at h1
    simpa using h1

/-! by halves -/
/-- t is d with its lower ones ahead -/
def Halves (a mid b : Nat) (d t : List Pair) : Prop := ∃ A D L H R, d = A ++ (D ++ R) ∧ t = A ++ (L ++ (H ++ R)) ∧ A.length = a ∧ a + L.length = mid ∧ mid + H.length = b ∧ Same D (L ++ H) ∧ ∀ p ∈ L, ∀ q ∈ H, lt q.key p.key = false
theorem halves_sorts {a mid b : Nat} {d t t1 t2 : List Pair} (h : Halves a mid b d t) (s1 : Sorts a mid t t1) (s2 : Sorts mid b t1 t2) : Sorts a b d t2 := by
  obtain ⟨A, D, L, H, R, rfl, rfl, hA, hL, hH, hs, hlow⟩ := h
  obtain ⟨A1, D1, Z1, R1, e1, rfl, g1, g2, sz1, ss1⟩ := s1
  obtain ⟨rfl, e2⟩ := append_cut e1 (by omega)
  obtain ⟨rfl, rfl⟩ := append_cut e2 (by omega)
  clear e1 e2
  obtain ⟨A2, D2, Z2, R2, e3, rfl, k1, k2, sz2, ss2⟩ := s2
  have l1 := ss1.1
  have l2 := ss2.1
  rw [show A ++ (Z1 ++ (H ++ R)) = (A ++ Z1) ++ (H ++ R) by simp] at e3
  obtain ⟨rfl, e4⟩ := append_cut e3 (by rw [List.length_append]; omega)
  obtain ⟨rfl, rfl⟩ := append_cut e4 (by omega)
  clear e3 e4
  have l3 := hs.1
  rw [List.length_append] at l3
  refine ⟨A, D, Z1 ++ Z2, R, rfl, by simp, hA, by omega, sorted_append.2 ⟨sz1, sz2, fun p hp q hq => hlow p (ss1.mem hp) q (ss2.mem hq)⟩, hs.trans (ss1.append ss2)⟩

/-- where the parts are cut -/
def lowC (a m b : Nat) : Nat := if (a + b) / 2 < m then (a + b) / 2 + m - b else a
def highC (a m b : Nat) : Nat := if (a + b) / 2 < m then (a + b) / 2 else m
def cutQ (d : List Pair) (n c : Nat) : Bool := !lt (kx d (n - 1 - c)) (kx d c)
theorem cut_room {a m b : Nat} (h1 : a ≤ m) (h2 : m ≤ b) : a ≤ lowC a m b ∧ lowC a m b ≤ highC a m b ∧ highC a m b ≤ m ∧ highC a m b ≤ (a + b) / 2 ∧ (a + b) / 2 + m - lowC a m b ≤ b ∧ m ≤ (a + b) / 2 + m - highC a m b ∧ (a + b) / 2 ≤ (a + b) / 2 + m - highC a m b := by
  unfold lowC highC
  split <;> omega
theorem cut_mono {a m b : Nat} {d : List Pair} (h : Parts a m b d) : Mono (cutQ d ((a + b) / 2 + m)) (lowC a m b) (highC a m b) := by
  obtain ⟨r1, r2, r3⟩ := h.room
  obtain ⟨c1, c2, c3, c4, c5, c6, c7⟩ := cut_room r1 r2
  intro x y hx hxy hy hq
  unfold cutQ at hq ⊢
  have hq : lt (kx d ((a + b) / 2 + m - 1 - y)) (kx d y) = false := by simpa using hq
  have i1 := h.le_left (i := x) (j := y) (by omega) hxy (by omega)
  have i2 := h.le_right (i := (a + b) / 2 + m - 1 - y) (j := (a + b) / 2 + m - 1 - x) (by omega) (by omega) (by omega)
  have := Stores.le_trans (Stores.le_trans i1 hq) i2
  simpa using this
theorem cut_of {a m b s : Nat} {d : List Pair} (h : Parts a m b d) (hs : Between (cutQ d ((a + b) / 2 + m)) (lowC a m b) (highC a m b) s s) :
    a ≤ s ∧ s ≤ m ∧ s ≤ (a + b) / 2 ∧ m ≤ (a + b) / 2 + m - s ∧ (a + b) / 2 ≤ (a + b) / 2 + m - s ∧ (a + b) / 2 + m - s ≤ b ∧
    ∃ t, Turns m (m - s) ((a + b) / 2 + m - s - m) t d ∧ (s = m ∨ m = (a + b) / 2 + m - s → t = d) ∧ Parts a s ((a + b) / 2) t ∧ Parts ((a + b) / 2) ((a + b) / 2 + m - s) b t ∧ Halves a ((a + b) / 2) b d t := by
  obtain ⟨r1, r2, r3⟩ := h.room
  obtain ⟨c1, c2, c3, c4, c5, c6, c7⟩ := cut_room r1 r2
  have hlo := hs.flo
  have hhi := hs.fhi
  have hah := hs.ahead
  have hbe := hs.behind
  have hparts := h
  obtain ⟨A, X, Y, R, hd, hA, hX, hY, sX, sY⟩ := h
  have hlow : s = lowC a m b → s = a ∨ (a + b) / 2 + m - s = b := fun e => by
    unfold lowC at e
    split at e
    · exact .inr (by omega)
    · exact .inl e
  have hhigh : s = highC a m b → s = m ∨ (a + b) / 2 + m - s = m := fun e => by
    unfold highC at e
    split at e
    · exact .inr (by omega)
    · exact .inl e
  have q1 : (a + b) / 2 + m - s ≤ b := by omega
  have q2 : m ≤ (a + b) / 2 + m - s := by omega
  have q3 : s ≤ m := by omega
  have q4 : s ≤ (a + b) / 2 := by omega
  have q5 : a ≤ s := by omega
  have q6 : (a + b) / 2 ≤ (a + b) / 2 + m - s := by omega
  have q7 : s ≠ highC a m b → s < highC a m b := fun h => by omega
  have q8 : s ≠ lowC a m b → lowC a m b ≤ s - 1 ∧ a < s := fun h => by omega
  clear c1 c2 c3 c4 c5 c6 c7 hlo hhi hs
  generalize (a + b) / 2 = mid at *
  -- the four pieces
  generalize hX1 : X.take (s - a) = X1
  generalize hX2 : X.drop (s - a) = X2
  generalize hY1 : Y.take (mid + m - s - m) = Y1
  generalize hY2 : Y.drop (mid + m - s - m) = Y2
  have eX : X = X1 ++ X2 := by rw [← hX1, ← hX2, List.take_append_drop]
  have eY : Y = Y1 ++ Y2 := by rw [← hY1, ← hY2, List.take_append_drop]
  have lX1 : a + X1.length = s := by rw [← hX1, List.length_take]; omega
  have lX2 : s + X2.length = m := by rw [← hX2, List.length_drop]; omega
  have lY1 : m + Y1.length = mid + m - s := by rw [← hY1, List.length_take]; omega
  have lY2 : mid + m - s + Y2.length = b := by rw [← hY2, List.length_drop]; omega
  rw [eX] at sX
  rw [eY] at sY
  obtain ⟨sX1, sX2, sXX⟩ := sorted_append.1 sX
  obtain ⟨sY1, sY2, sYY⟩ := sorted_append.1 sY
  have hd4 : d = A ++ (X1 ++ (X2 ++ (Y1 ++ (Y2 ++ R)))) := by rw [hd, eX, eY]; simp
  -- what lies where
  have kX1 : ∀ p ∈ X1, ∃ i, a ≤ i ∧ i < s ∧ kx d i = p.key := fun p hp => by
    obtain ⟨t, ht, rfl⟩ := List.getElem_of_mem hp
    refine ⟨a + t, by omega, by omega, ?_⟩
    rw [hd4, kx_of (at_left hA (by omega) (by omega))]
    simp
  have kX2 : ∀ p ∈ X2, ∃ i, s ≤ i ∧ i < m ∧ kx d i = p.key := fun p hp => by
    obtain ⟨t, ht, rfl⟩ := List.getElem_of_mem hp
    refine ⟨s + t, by omega, by omega, ?_⟩
    rw [hd4, kx_of (at_right hA lX1 (by omega) (by omega))]
    simp
  have kY1 : ∀ p ∈ Y1, ∃ i, m ≤ i ∧ i < mid + m - s ∧ kx d i = p.key := fun p hp => by
    obtain ⟨t, ht, rfl⟩ := List.getElem_of_mem hp
    refine ⟨m + t, by omega, by omega, ?_⟩
    rw [hd4, show A ++ (X1 ++ (X2 ++ (Y1 ++ (Y2 ++ R)))) = (A ++ X1) ++ (X2 ++ (Y1 ++ (Y2 ++ R))) by simp, kx_of (at_right (a := s) (m := m) (by rw [List.length_append]; omega) lX2 (by omega) (by omega))]
    simp
  have kY2 : ∀ p ∈ Y2, ∃ i, mid + m - s ≤ i ∧ i < b ∧ kx d i = p.key := fun p hp => by
    obtain ⟨t, ht, rfl⟩ := List.getElem_of_mem hp
    refine ⟨mid + m - s + t, by omega, by omega, ?_⟩
    rw [hd4, show A ++ (X1 ++ (X2 ++ (Y1 ++ (Y2 ++ R)))) = (A ++ (X1 ++ X2)) ++ (Y1 ++ (Y2 ++ R)) by simp, kx_of (at_right (a := m) (m := mid + m - s) (by simp only [List.length_append]; omega) lY1 (by omega) (by omega))]
    simp
  -- the second of the left are above the first of the right
  have cross : ∀ p ∈ X2, ∀ q ∈ Y1, lt q.key p.key = true := fun p hp q hq => by
    obtain ⟨i, i1, i2, i3⟩ := kX2 p hp
    obtain ⟨j, j1, j2, j3⟩ := kY1 q hq
    have hne : s ≠ highC a m b := fun e => by rcases hhigh e with h | h <;> omega
    have h1 := hbe s (Nat.le_refl _) (q7 hne)
    unfold cutQ at h1
    have h1 : lt (kx d (mid + m - 1 - s)) (kx d s) = true := by simpa using h1
    have h2 := hparts.le_left (i := s) (j := i) (by omega) i1 i2
    have h3 := hparts.le_right (i := j) (j := mid + m - 1 - s) j1 (by omega) (by omega)
    rw [← i3, ← j3]
    exact lt_of_le_of_lt h3 (Stores.lt_of_lt_of_le h1 h2)
  -- the first of the left are not above the second of the right
  have cross2 : ∀ p ∈ X1, ∀ q ∈ Y2, lt q.key p.key = false := fun p hp q hq => by
    obtain ⟨i, i1, i2, i3⟩ := kX1 p hp
    obtain ⟨j, j1, j2, j3⟩ := kY2 q hq
    have hne : s ≠ lowC a m b := fun e => by rcases hlow e with h | h <;> omega
    have h1 := hah (s - 1) (q8 hne).1 (by have := (q8 hne).2; omega)
    unfold cutQ at h1
    have h1 : lt (kx d (mid + m - 1 - (s - 1))) (kx d (s - 1)) = false := by simpa using h1
    have h2 := hparts.le_left (i := i) (j := s - 1) i1 (by omega) (by omega)
    have h3 := hparts.le_right (i := mid + m - 1 - (s - 1)) (j := j) (by omega) (by omega) j2
    rw [← i3, ← j3]
    exact Stores.le_trans (Stores.le_trans h2 h1) h3
  refine ⟨by omega, by omega, by omega, q2, by omega, q1, A ++ (X1 ++ (Y1 ++ (X2 ++ (Y2 ++ R)))), ?_, ?_, ?_, ?_, ?_⟩
  · exact ⟨A ++ X1, X2, Y1, Y2 ++ R, by rw [hd4]; simp, by simp, by rw [List.length_append]; omega, by omega, by omega⟩
  · intro he
    rw [hd4]
    rcases he with he | he
    · have : X2 = [] := List.length_eq_zero_iff.1 (by omega)
      subst this
      simp
    · have : Y1 = [] := List.length_eq_zero_iff.1 (by omega)
      subst this
      simp
  · exact ⟨A, X1, Y1, X2 ++ (Y2 ++ R), by simp, hA, lX1, by omega, sX1, sY1⟩
  · exact ⟨A ++ (X1 ++ Y1), X2, Y2, R, by simp, by simp only [List.length_append]; omega, by omega, lY2, sX2, sY2⟩
  · refine ⟨A, X1 ++ (X2 ++ (Y1 ++ Y2)), X1 ++ Y1, X2 ++ Y2, R, by rw [hd4]; simp, by simp, hA, by rw [List.length_append]; omega, by rw [List.length_append]; omega, ?_, ?_⟩
    · have h1 : Same (X1 ++ ((X2 ++ Y1) ++ Y2)) (X1 ++ ((Y1 ++ X2) ++ Y2)) := (Same.refl _).append ((same_swap cross).append (Same.refl _))
      simpa using h1
    · intro p hp q hq
      rcases List.mem_append.1 hp with hp | hp
      · rcases List.mem_append.1 hq with hq | hq
        · exact sXX p hp q hq
        · exact cross2 p hp q hq
      · rcases List.mem_append.1 hq with hq | hq
        · exact le_of_lt (cross q hq p hp)
        · exact sYY p hp q hq

end Go.Proofs.Ytbepfeajaoaocaf.Merges
