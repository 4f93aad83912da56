/-
  Plain mathematics of a tree of keys: the place of a key and its bits, what stands at each place, the sums level by level, the proof of a place and what comes of one, and what is wrong with pairs. Nothing of the program is named here.
-/
import Derived.Test.YtfpkngpgmllhnaaGreatDoorGrowPlain
import Derived.Test.YtfpkngpgmllhnaaGreatDoorStores
namespace Go.Proofs.YtfpkngpgmllhnaaGreatDoor.KeyTrees
open Stores (Pair lt keyE)
open Ways (node up1 upL)

/-- the place of a key -/
def spot (k : ByteArray) : Nat := (Sums.sum k.data.toList).toNat % 256
theorem spot_lt (k : ByteArray) : spot k < 256 := Nat.mod_lt _ (by decide)
theorem spot_int (k : ByteArray) : Sums.sum k.data.toList % 256 = (spot k : Int) := by
  have := (Sums.sum_bd k.data.toList).1
  unfold spot
  omega
/-- the leaf of a place that a key has -/
def placed (k v : ByteArray) : Int := Sums.sum (0 :: (k.data.toList ++ 0 :: v.data.toList))
/-- the leaf of one that none has -/
def nothing : Int := Sums.sum [0]
theorem placed_valid (k v : ByteArray) : Nums.valid (placed k v) = true := Nums.valid_iff.2 (Sums.sum_bd _)
theorem nothing_valid : Nums.valid nothing = true := Nums.valid_iff.2 (Sums.sum_bd _)

/-- the bits of a place, the low ones first -/
def turnsF : Nat → Nat → List Bool
  | 0, _ => []
  | k + 1, n => decide (n % 2 = 1) :: turnsF k (n / 2)
theorem turnsF_length : ∀ k n, (turnsF k n).length = k
  | 0, _ => rfl
  | k + 1, n => by rw [turnsF, List.length_cons, turnsF_length]
def turns (n : Nat) : List Bool := turnsF 8 n
theorem turns_length (n : Nat) : (turns n).length = 8 := turnsF_length _ _
/-- a bit as a letter -/
def letter (t : Bool) : UInt8 := if t then 49 else 48
/-- the bits as text, the high one first -/
def bitsT (n : Nat) : List UInt8 := ((turns n).map letter).reverse
theorem bitsT_length (n : Nat) : (bitsT n).length = 8 := by unfold bitsT; rw [List.length_reverse, List.length_map, turns_length]
theorem letter_inj {a b : Bool} (h : letter a = letter b) : a = b := by cases a <;> cases b <;> first | rfl | exact absurd h (by decide)
theorem map_inj : ∀ {a b : List Bool}, a.map letter = b.map letter → a = b
  | [], [], _ => rfl
  | [], _ :: _, h => by simp at h
  | _ :: _, [], h => by simp at h
  | x :: a, y :: b, h => by
    simp only [List.map_cons, List.cons.injEq] at h
    rw [letter_inj h.1, map_inj h.2]
theorem turnsF_inj : ∀ (k n m : Nat), n < 2 ^ k → m < 2 ^ k → turnsF k n = turnsF k m → n = m
  | 0, n, m, h1, h2, _ => by simp at h1 h2; omega
  | k + 1, n, m, h1, h2, h => by
    simp only [turnsF, List.cons.injEq] at h
    have e := turnsF_inj k (n / 2) (m / 2) (by rw [Nat.pow_succ] at h1; omega) (by rw [Nat.pow_succ] at h2; omega) h.2
    have d := h.1
    simp only [decide_eq_decide] at d
    omega
/-- other places have other bits -/
theorem bitsT_inj {n m : Nat} (hn : n < 256) (hm : m < 256) (h : bitsT n = bitsT m) : n = m := by
  unfold bitsT at h
  exact turnsF_inj 8 n m hn hm (map_inj (List.reverse_inj.1 h))

/-- what stands at a place -/
def place (l : List Pair) (p : Nat) : Int := match l.find? (fun e => spot e.key == p) with
  | some e => placed e.key e.val
  | none => nothing
theorem place_nil (p : Nat) : place [] p = nothing := rfl
theorem place_valid (l : List Pair) (p : Nat) : Nums.valid (place l p) = true := by
  unfold place
  split
  · exact placed_valid _ _
  · exact nothing_valid
theorem place_none {l : List Pair} {p : Nat} (h : ∀ e ∈ l, spot e.key ≠ p) : place l p = nothing := by
  unfold place
  rw [List.find?_eq_none.2 (fun e he => by simpa using h e he)]
theorem place_at {l : List Pair} {e : Pair} (he : e ∈ l) (h : ∀ q ∈ l, spot q.key = spot e.key → q = e) : place l (spot e.key) = placed e.key e.val := by
  unfold place
  cases hf : l.find? (fun q => spot q.key == spot e.key) with
  | none => exact absurd (List.find?_eq_none.1 hf e he) (by simp)
  | some q =>
    have h1 : spot q.key = spot e.key := by simpa using List.find?_some hf
    simp only
    rw [h q (List.mem_of_find?_eq_some hf) h1]
/-- one more, at a place that none has -/
theorem place_snoc {l : List Pair} {e : Pair} (h : ∀ q ∈ l, spot q.key ≠ spot e.key) (p : Nat) : place (l ++ [e]) p = if p = spot e.key then placed e.key e.val else place l p := by
  unfold place
  rw [List.find?_append]
  by_cases hp : p = spot e.key
  · subst hp
    rw [if_pos rfl, List.find?_eq_none.2 (fun q hq => by simpa using h q hq)]
    simp
  · rw [if_neg hp]
    cases hf : l.find? (fun q => spot q.key == p) with
    | some q => rfl
    | none =>
      have : (spot e.key == p) = false := by simpa using fun z => hp z.symm
      simp [this]

/-- the sums, level by level, by what stands at each place -/
def level (f : Nat → Int) : Nat → Nat → Int
  | 0, p => f p
  | j + 1, p => node (level f j (2 * p)) (level f j (2 * p + 1))
theorem level_valid {f : Nat → Int} (h : ∀ p, Nums.valid (f p) = true) : ∀ j p, Nums.valid (level f j p) = true
  | 0, p => h p
  | _ + 1, _ => Ways.node_valid _ _
/-- the place beside another -/
def sib (n : Nat) : Nat := if n % 2 = 1 then n - 1 else n + 1
/-- the sums beside the way up -/
def besF (f : Nat → Int) : Nat → Nat → Nat → List Int
  | 0, _, _ => []
  | k + 1, j, n => level f j (sib n) :: besF f k (j + 1) (n / 2)
theorem besF_length (f : Nat → Int) : ∀ k j n, (besF f k j n).length = k
  | 0, _, _ => rfl
  | k + 1, j, n => by rw [besF, List.length_cons, besF_length]
def beside (f : Nat → Int) (n : Nat) : List Int := besF f 8 0 n
theorem beside_length (f : Nat → Int) (n : Nat) : (beside f n).length = 8 := besF_length _ _ _ _
theorem besF_valid {f : Nat → Int} (h : ∀ p, Nums.valid (f p) = true) : ∀ k j n, ∀ x ∈ besF f k j n, Nums.valid x = true
  | 0, _, _, x, hx => by simp [besF] at hx
  | k + 1, j, n, x, hx => by
    rw [besF, List.mem_cons] at hx
    rcases hx with rfl | hx
    · exact level_valid h _ _
    · exact besF_valid h k (j + 1) (n / 2) x hx
/-- one level up, on the way -/
theorem level_up (f : Nat → Int) (j n : Nat) : up1 (level f j n) (level f j (sib n)) (decide (n % 2 = 1)) = level f (j + 1) (n / 2) := by
  unfold up1 sib
  by_cases h : n % 2 = 1
  · rw [if_pos (decide_eq_true h), if_pos h, level, show 2 * (n / 2) = n - 1 by omega, show n - 1 + 1 = n by omega]
  · rw [if_neg (by simpa using h), if_neg h, level, show 2 * (n / 2) = n by omega]
theorem up_besF (f : Nat → Int) : ∀ k j n, upL (level f j n) (besF f k j n) (turnsF k n) = level f (j + k) (n / 2 ^ k)
  | 0, j, n => by simp [besF, turnsF, upL]
  | k + 1, j, n => by
    rw [besF, turnsF]
    show upL (up1 (level f j n) (level f j (sib n)) (decide (n % 2 = 1))) _ _ = _
    rw [level_up, up_besF f k (j + 1) (n / 2), show j + 1 + k = j + (k + 1) by omega, Nat.div_div_eq_div_mul, Nat.pow_succ, Nat.mul_comm]
def rootK (l : List Pair) : Int := level (place l) 8 0
theorem root_valid (l : List Pair) : Nums.valid (rootK l) = true := level_valid (place_valid l) _ _
/-- what stands at a place comes to the root by its proof -/
theorem up_beside (l : List Pair) {n : Nat} (h : n < 256) : upL (place l n) (beside (place l) n) (turns n) = rootK l := by
  have := up_besF (place l) 8 0 n
  rw [show n / 2 ^ 8 = 0 by omega] at this
  exact this

/-- what is wrong with a pair, behind others -/
def oneE (l : List Pair) (p : Pair) : Nat :=
  if keyE p.key ≠ 0 then keyE p.key else if 200 < p.val.size then 4 else if p.gone = true then 3 else if (∃ q, l.getLast? = some q ∧ lt q.key p.key = false) ∨ (∃ q ∈ l, spot q.key = spot p.key) then 7 else 0
theorem oneE_ok {l : List Pair} {p : Pair} (h : oneE l p = 0) : keyE p.key = 0 ∧ p.val.size ≤ 200 ∧ p.gone = false ∧ ∀ q ∈ l, spot q.key ≠ spot p.key := by
  unfold oneE at h
  split at h
  · contradiction
  split at h
  · contradiction
  split at h
  · contradiction
  split at h
  · contradiction
  rename_i h1 h2 h3 h4
  refine ⟨by omega, by omega, by simpa using h3, fun q hq e => h4 (.inr ⟨q, hq, e⟩)⟩
theorem one_key {l : List Pair} {p : Pair} (h : keyE p.key ≠ 0) : oneE l p = keyE p.key := if_pos h
theorem one_val {l : List Pair} {p : Pair} (h : keyE p.key = 0) (h2 : 200 < p.val.size) : oneE l p = 4 := by
  unfold oneE
  rw [if_neg (fun g => g h), if_pos h2]
theorem one_gone {l : List Pair} {p : Pair} (h : keyE p.key = 0) (h2 : ¬ 200 < p.val.size) (h3 : p.gone = true) : oneE l p = 3 := by
  unfold oneE
  rw [if_neg (fun g => g h), if_neg h2, if_pos h3]
theorem one_clash {l : List Pair} {p : Pair} (h : keyE p.key = 0) (h2 : ¬ 200 < p.val.size) (h3 : p.gone = false) (h4 : (∃ q, l.getLast? = some q ∧ lt q.key p.key = false) ∨ (∃ q ∈ l, spot q.key = spot p.key)) : oneE l p = 7 := by
  unfold oneE
  rw [if_neg (fun g => g h), if_neg h2, if_neg (by rw [h3]; decide), if_pos h4]
theorem one_fine {l : List Pair} {p : Pair} (h : keyE p.key = 0) (h2 : ¬ 200 < p.val.size) (h3 : p.gone = false) (h4 : ∀ q, l.getLast? = some q → lt q.key p.key = true) (h5 : ∀ q ∈ l, spot q.key ≠ spot p.key) : oneE l p = 0 := by
  unfold oneE
  rw [if_neg (fun g => g h), if_neg h2, if_neg (by rw [h3]; decide), if_neg]
  rintro (⟨q, q1, q2⟩ | ⟨q, q1, q2⟩)
  · rw [h4 q q1] at q2
    cases q2
  · exact h5 q q1 q2
/-- the last one of the first k -/
theorem take_last {l : List Pair} {k : Nat} (h : k < l.length) : (l.take (k + 1)).getLast? = some l[k] := by
  rw [List.take_succ_eq_append_getElem h, List.getLast?_append]
  rfl
/-- what is wrong with the first k -/
def firstE (l : List Pair) : Nat → Nat
  | 0 => 0
  | k + 1 => if firstE l k ≠ 0 then firstE l k else match l[k]? with
    | some p => oneE (l.take k) p
    | none => 0
theorem firstE_next {l : List Pair} {k : Nat} {p : Pair} (h : firstE l k = 0) (hk : l[k]? = some p) : firstE l (k + 1) = oneE (l.take k) p := by
  rw [firstE, if_neg (by omega), hk]
theorem firstE_stop {l : List Pair} {k : Nat} (h : firstE l k ≠ 0) : ∀ j, firstE l (k + j) = firstE l k
  | 0 => rfl
  | j + 1 => by rw [show k + (j + 1) = (k + j) + 1 by omega, firstE, firstE_stop h j, if_pos h]
theorem firstE_low {l : List Pair} {k : Nat} (h : firstE l k = 0) : ∀ j, j ≤ k → firstE l j = 0 := fun j hj => by
  rcases Nat.eq_zero_or_pos (firstE l j) with q | q
  · exact q
  · have := firstE_stop (l := l) (k := j) (by omega) (k - j)
    rw [show j + (k - j) = k by omega] at this
    omega
/-- what is wrong with pairs -/
def pairsE (l : List Pair) : Nat := if 60 < l.length then 4 else firstE l l.length
theorem pairs_first {l : List Pair} (h : pairsE l = 0) : l.length ≤ 60 ∧ firstE l l.length = 0 := by
  unfold pairsE at h
  split at h
  · contradiction
  · exact ⟨by omega, h⟩
theorem pairs_stop {l : List Pair} {k : Nat} (hl : l.length ≤ 60) (hk : k ≤ l.length) (h : firstE l k ≠ 0) : pairsE l = firstE l k := by
  unfold pairsE
  rw [if_neg (by omega)]
  have := firstE_stop h (l.length - k)
  rwa [show k + (l.length - k) = l.length by omega] at this
theorem pairs_one {l : List Pair} (h : pairsE l = 0) (k : Nat) (hk : k < l.length) : oneE (l.take k) (l[k]) = 0 := by
  have h1 := (pairs_first h).2
  have h2 := firstE_low h1 k (by omega)
  have h3 := firstE_low h1 (k + 1) (by omega)
  rwa [firstE_next h2 (List.getElem?_eq_getElem hk)] at h3
theorem pairs_all {l : List Pair} (h : pairsE l = 0) : ∀ e ∈ l, keyE e.key = 0 ∧ e.val.size ≤ 200 ∧ e.gone = false := fun e he => by
  obtain ⟨k, hk, rfl⟩ := List.getElem_of_mem he
  obtain ⟨a, b, c, _⟩ := oneE_ok (pairs_one h k hk)
  exact ⟨a, b, c⟩
/-- no two have one place -/
theorem pairs_apart {l : List Pair} (h : pairsE l = 0) {i k : Nat} (hi : i < l.length) (hk : k < l.length) (e : spot (l[i]).key = spot (l[k]).key) : i = k := by
  have key : ∀ {i k : Nat} (hi : i < l.length) (hk : k < l.length), i < k → spot (l[i]).key ≠ spot (l[k]).key := fun {i k} hi hk hlt => by
    obtain ⟨_, _, _, d⟩ := oneE_ok (pairs_one h k hk)
    refine d _ ?_
    rw [List.mem_take_iff_getElem]
    exact ⟨i, by omega, rfl⟩
  rcases Nat.lt_trichotomy i k with q | q | q
  · exact absurd e (key hi hk q)
  · exact q
  · exact absurd e.symm (key hk hi q)
theorem pairs_same {l : List Pair} (h : pairsE l = 0) {p q : Pair} (hp : p ∈ l) (hq : q ∈ l) (e : spot q.key = spot p.key) : q = p := by
  obtain ⟨i, hi, rfl⟩ := List.getElem_of_mem hp
  obtain ⟨k, hk, rfl⟩ := List.getElem_of_mem hq
  have := pairs_apart h hk hi e
  subst this
  rfl
/-- each pair stands at its place -/
theorem place_pair {l : List Pair} (h : pairsE l = 0) {p : Pair} (hp : p ∈ l) : place l (spot p.key) = placed p.key p.val := place_at hp fun _ hq e => pairs_same h hp hq e

/-- what Prove answers -/
def proveE (l : List Pair) (k : ByteArray) : Nat := if pairsE l ≠ 0 then pairsE l else keyE k
def proveL (l : List Pair) (k : ByteArray) : List Int := if proveE l k = 0 then beside (place l) (spot k) else []
def rootV (l : List Pair) : Int := if pairsE l = 0 then rootK l else 0
def bitsV (k : ByteArray) : List UInt8 := if keyE k = 0 then bitsT (spot k) else []
/-- the sum at a place, there or not -/
def stands (k v : ByteArray) (there : Bool) : Int := if there = true then placed k v else nothing
theorem stands_valid (k v : ByteArray) (there : Bool) : Nums.valid (stands k v there) = true := by
  unfold stands
  split
  · exact placed_valid _ _
  · exact nothing_valid
/-- what Check answers -/
def checkE (root : Int) (k v : ByteArray) (there : Bool) (p : List Int) : Nat :=
  if Nums.valid root = false then 1 else if keyE k ≠ 0 then keyE k else if 200 < v.size then 4 else if p.length ≠ 8 ∨ (there = false ∧ v.size ≠ 0) then 3 else if Trees.allOk p = false then 1 else if upL (stands k v there) p (turns (spot k)) ≠ root then 8 else 0
theorem check_is {root : Int} {k v : ByteArray} {there : Bool} {p : List Int} (h1 : Nums.valid root = true) (h2 : keyE k = 0) (h3 : v.size ≤ 200) (h4 : p.length = 8) (h5 : there = false → v.size = 0) (h6 : Trees.allOk p = true) : checkE root k v there p = if upL (stands k v there) p (turns (spot k)) = root then 0 else 8 := by
  unfold checkE
  rw [if_neg (by rw [h1]; decide), if_neg (by omega), if_neg (by omega), if_neg (by
    rintro (q | ⟨q, q2⟩)
    · exact q h4
    · exact q2 (h5 q)), if_neg (by rw [h6]; decide)]
  by_cases e : upL (stands k v there) p (turns (spot k)) = root
  · rw [if_neg (fun z => z e), if_pos e]
  · rw [if_pos e, if_neg e]
theorem beside_ok (l : List Pair) (n : Nat) : Trees.allOk (beside (place l) n) = true := List.all_eq_true.2 (besF_valid (place_valid l) 8 0 n)
/-- each pair is proved by its proof -/
theorem check_pair {l : List Pair} (h : pairsE l = 0) {p : Pair} (hp : p ∈ l) : proveE l p.key = 0 ∧ checkE (rootK l) p.key p.val true (beside (place l) (spot p.key)) = 0 := by
  obtain ⟨h1, h2, _⟩ := pairs_all h p hp
  refine ⟨?_, ?_⟩
  · unfold proveE
    rw [if_neg (by omega), h1]
  · rw [check_is (root_valid l) h1 h2 (beside_length _ _) (fun q => by cases q) (beside_ok _ _), if_pos]
    show upL (placed p.key p.val) _ _ = _
    rw [← place_pair h hp]
    exact up_beside l (spot_lt _)
/-- and a key whose place none has is proved not to be there -/
theorem check_none {l : List Pair} {k : ByteArray} (hk : keyE k = 0) (h : ∀ e ∈ l, spot e.key ≠ spot k) : checkE (rootK l) k ⟨#[]⟩ false (beside (place l) (spot k)) = 0 := by
  rw [check_is (root_valid l) hk (by decide) (beside_length _ _) (fun _ => rfl) (beside_ok _ _), if_pos]
  show upL nothing _ _ = _
  rw [← place_none h]
  exact up_beside l (spot_lt _)
/-- another value of a key that is there: proved just if it comes to the root as well -/
theorem check_other {l : List Pair} {k v : ByteArray} (hk : keyE k = 0) (hv : v.size ≤ 200) : checkE (rootK l) k v true (beside (place l) (spot k)) = if upL (placed k v) (beside (place l) (spot k)) (turns (spot k)) = rootK l then 0 else 8 := by
  rw [check_is (root_valid l) hk hv (beside_length _ _) (fun q => by cases q) (beside_ok _ _)]
  rfl
/-- then two texts on the way have one sum -/
theorem meets_other {l : List Pair} (h : pairsE l = 0) {p : Pair} (hp : p ∈ l) {v : ByteArray} (hn : placed p.key v ≠ placed p.key p.val) (he : upL (placed p.key v) (beside (place l) (spot p.key)) (turns (spot p.key)) = rootK l) :
    Ways.meetsL (placed p.key v) (placed p.key p.val) (beside (place l) (spot p.key)) (turns (spot p.key)) = true := by
  refine Ways.meets_true _ _ _ _ (by rw [beside_length, turns_length]) (placed_valid _ _) (placed_valid _ _) (List.all_eq_true.1 (beside_ok _ _)) hn ?_
  rw [he, ← place_pair h hp]
  exact (up_beside l (spot_lt _)).symm

/-! step by step, as the loops go -/
theorem turnsF_snoc : ∀ k n, turnsF (k + 1) n = turnsF k n ++ [decide (n / 2 ^ k % 2 = 1)]
  | 0, n => by simp [turnsF]
  | k + 1, n => by
    rw [turnsF, turnsF_snoc k (n / 2), turnsF, Nat.div_div_eq_div_mul, Nat.pow_succ, Nat.mul_comm 2]
    rfl
theorem besF_snoc (f : Nat → Int) : ∀ k j n, besF f (k + 1) j n = besF f k j n ++ [level f (j + k) (sib (n / 2 ^ k))]
  | 0, j, n => by simp [besF]
  | k + 1, j, n => by
    rw [besF, besF_snoc f k (j + 1) (n / 2), besF, Nat.div_div_eq_div_mul, Nat.pow_succ, Nat.mul_comm 2, show j + 1 + k = j + (k + 1) by omega]
    rfl
/-- the low bits of a place as text -/
def bitsF (k n : Nat) : List UInt8 := ((turnsF k n).map letter).reverse
theorem bitsF_length (k n : Nat) : (bitsF k n).length = k := by unfold bitsF; rw [List.length_reverse, List.length_map, turnsF_length]
theorem bitsF_cons (k n : Nat) : bitsF (k + 1) n = letter (decide (n / 2 ^ k % 2 = 1)) :: bitsF k n := by
  unfold bitsF
  rw [turnsF_snoc, List.map_append, List.reverse_append]
  rfl
theorem half_pow (n k : Nat) : n / 2 ^ (k + 1) = n / 2 ^ k / 2 := by rw [Nat.pow_succ, Nat.div_div_eq_div_mul]
/-- a step up by one sum more of the proof -/
theorem up_next {s : Int} {p : List Int} {n k : Nat} (h : k < p.length) : upL s (p.take (k + 1)) (turnsF (k + 1) n) = up1 (upL s (p.take k) (turnsF k n)) (p.getD k 0) (decide (n / 2 ^ k % 2 = 1)) := by
  rw [turnsF_snoc, List.take_succ_eq_append_getElem h, Ways.upL_append _ _ _ _ _ (by rw [List.length_take, turnsF_length]; omega), List.getD_eq_getElem?_getD, List.getElem?_eq_getElem h]
  rfl
/-- a whole level -/
def rowL (f : Nat → Int) (j : Nat) : List Int := (List.range (2 ^ (8 - j))).map (level f j)
theorem rowL_length (f : Nat → Int) (j : Nat) : (rowL f j).length = 2 ^ (8 - j) := by unfold rowL; rw [List.length_map, List.length_range]
theorem rowL_at (f : Nat → Int) {j p : Nat} (h : p < 2 ^ (8 - j)) : (rowL f j).getD p 0 = level f j p := by
  unfold rowL
  rw [List.getD_eq_getElem?_getD, List.getElem?_map, List.getElem?_range h]
  rfl
theorem rowL_next (f : Nat → Int) {j p : Nat} (hj : j < 8) (h : p < 2 ^ (8 - (j + 1))) : level f (j + 1) p = node ((rowL f j).getD (2 * p) 0) ((rowL f j).getD (2 * p + 1) 0) := by
  have e : 2 ^ (8 - j) = 2 ^ (8 - (j + 1)) * 2 := by rw [← Nat.pow_succ]; congr 1; omega
  rw [rowL_at f (by omega), rowL_at f (by omega), level]
theorem rowL_valid {f : Nat → Int} (h : ∀ p, Nums.valid (f p) = true) (j : Nat) : ∀ x ∈ rowL f j, Nums.valid x = true := fun x hx => by
  obtain ⟨p, _, rfl⟩ := List.mem_map.1 hx
  exact level_valid h j p
theorem rowL_take (f : Nat → Int) {j p : Nat} (h : p < 2 ^ (8 - j)) : (rowL f j).take (p + 1) = (rowL f j).take p ++ [level f j p] := by
  rw [List.take_succ_eq_append_getElem (by rw [rowL_length]; exact h)]
  simp [rowL]
/-- all levels, from below -/
def rowsL (f : Nat → Int) (k : Nat) : List (List Int) := (List.range k).map (rowL f)
theorem rowsL_length (f : Nat → Int) (k : Nat) : (rowsL f k).length = k := by unfold rowsL; rw [List.length_map, List.length_range]
theorem rowsL_next (f : Nat → Int) (k : Nat) : rowsL f (k + 1) = rowsL f k ++ [rowL f k] := by unfold rowsL; rw [List.range_succ, List.map_append]; rfl
theorem rowsL_at (f : Nat → Int) {k j : Nat} (h : j < k) : (rowsL f k)[j]? = some (rowL f j) := by unfold rowsL; rw [List.getElem?_map, List.getElem?_range h]; rfl
/-- the lowest level when one more is laid -/
theorem row_snoc {l : List Pair} {e : Pair} (h : ∀ q ∈ l, spot q.key ≠ spot e.key) : rowL (place (l ++ [e])) 0 = (rowL (place l) 0).set (spot e.key) (placed e.key e.val) := by
  apply List.ext_getElem?
  intro i
  rw [List.getElem?_set, rowL_length]
  unfold rowL
  simp only [List.getElem?_map, level]
  by_cases hi : i < 256
  · rw [List.getElem?_range (by simpa using hi)]
    simp only [Option.map_some, place_snoc h]
    have := spot_lt e.key
    by_cases hs : spot e.key = i
    · rw [if_pos hs.symm, if_pos hs, if_pos (by simpa using this)]
    · rw [if_neg (fun z => hs z.symm), if_neg hs]
  · rw [List.getElem?_eq_none (by simpa using hi)]
    have := spot_lt e.key
    rw [if_neg (by omega)]
    rfl
theorem row_nil : rowL (place []) 0 = List.replicate 256 nothing := by
  apply List.ext_getElem?
  intro i
  unfold rowL
  simp only [List.getElem?_map, level, List.getElem?_replicate]
  by_cases hi : i < 256
  · rw [List.getElem?_range (by simpa using hi), if_pos hi]
    rfl
  · rw [List.getElem?_eq_none (by simpa using hi), if_neg hi]
    rfl
theorem sib_lt {n j : Nat} (hn : n < 256) (hj : j < 8) : sib (n / 2 ^ j) < 2 ^ (8 - j) := by
  have e : 2 ^ 8 = 2 ^ (8 - j) * 2 ^ j := by rw [← Nat.pow_add]; congr 1; omega
  have h1 : n / 2 ^ j < 2 ^ (8 - j) := by
    rw [Nat.div_lt_iff_lt_mul (Nat.pow_pos (by decide)), ← e]
    exact hn
  have h2 : 2 ^ (8 - j) % 2 = 0 := by
    rw [show 8 - j = (8 - j - 1) + 1 by omega, Nat.pow_succ]
    omega
  unfold sib
  generalize n / 2 ^ j = a at h1 ⊢
  generalize 2 ^ (8 - j) = b at h1 h2 ⊢
  split <;> omega

end Go.Proofs.YtfpkngpgmllhnaaGreatDoor.KeyTrees
