/-
  Plain mathematics: numbers of at most four digits as the library reads and writes them, and words joined and parted. Nothing of the program is named here.
-/
import Derived.Test.YticadkggaanbjaaGreatDoorSePlain
import Derived.Test.YticadkggaanbjaaGreatDoorHdWords
import Derived.Lib.Atoi
namespace Go.Proofs.YticadkggaanbjaaGreatDoor.SeNums
open Decimals (dec dig isDig allDig val number number_some number_dec words joined)
open Answers (num)

theorem decFrom_is : ∀ (l : List UInt8) (acc : Nat), allDig l = true → Lib.decFrom acc l = some (l.foldl (fun n c => n * 10 + (c.toNat - 48)) acc)
  | [], acc, _ => rfl
  | c :: l, acc, h => by
    simp only [allDig, List.all_cons, Bool.and_eq_true] at h
    have h1 := of_decide_eq_true h.1
    have hd : Lib.digitVal c = some (c.toNat - 48) := if_pos h1
    rw [Lib.decFrom, hd]
    exact decFrom_is l _ h.2
/-- a number is what the library reads -/
theorem num_atoi {l : List UInt8} {k : Nat} (h : num l = some k) : Lib.atoi l = some (k : Int) ∧ dec k = l ∧ l.length ≤ 4 := by
  obtain ⟨h1, h2⟩ := number_some h
  refine ⟨?_, h1, h2⟩
  have hd : allDig l = true := by rw [← h1]; exact Decimals.dec_digs k
  have hv : val l = k := by rw [← h1]; exact Decimals.dec_val k
  have hn : l ≠ [] := by rw [← h1]; exact Decimals.dec_ne k
  match l, hd, hv, hn with
  | b :: r, hd, hv, _ =>
    have hb : isDig b = true := by
      simp only [allDig, List.all_cons, Bool.and_eq_true] at hd
      exact hd.1
    have hb' := of_decide_eq_true hb
    have e1 : (b == 45) = false := by
      rw [beq_eq_false_iff_ne]
      rintro rfl
      exact absurd hb'.1 (by decide)
    have e2 : (b == 43) = false := by
      rw [beq_eq_false_iff_ne]
      rintro rfl
      exact absurd hb'.1 (by decide)
    have e3 : Lib.decNat (b :: r) = some k := by
      unfold Lib.decNat
      rw [if_neg (by simp), decFrom_is _ 0 hd]
      exact congrArg some hv
    rw [Lib.atoi, e1, e2, e3]
    rfl
theorem atoi_bd {l : List UInt8} {v : Int} (h : Lib.atoi l = some v) (hl : l.length ≤ 4) : -10000 < v ∧ v < 10000 := by
  have key : ∀ (r : List UInt8) (m : Nat), r.length ≤ 4 → Lib.decFrom 0 r = some m → m < 10000 := fun r m hr hm => by
    have h1 := Lib.decFrom_lt r 0 m hm
    have h3 := Nat.pow_le_pow_right (n := 10) (by decide) hr
    have e : (10 : Nat) ^ 4 = 10000 := by decide
    omega
  obtain ⟨b0, r, rfl, ⟨_, m, _, h1, rfl⟩ | ⟨_, m, _, h1, rfl⟩ | ⟨_, _, m, h1, rfl⟩⟩ := Lib.atoi_cases h
  · have := key r m (by simp at hl; omega) h1
    omega
  · have := key r m (by simp at hl; omega) h1
    omega
  · have := key (b0 :: r) m hl h1
    omega
theorem num_none {l : List UInt8} (h : Lib.atoi l = none) : num l = none := by
  cases hn : num l with
  | none => rfl
  | some k => rw [(num_atoi hn).1] at h; cases h
theorem num_below {l : List UInt8} {v : Int} (h : Lib.atoi l = some v) (hv : v < 0) : num l = none := by
  cases hn : num l with
  | none => rfl
  | some k =>
    rw [(num_atoi hn).1] at h
    simp only [Option.some.injEq] at h
    omega
theorem num_not {l : List UInt8} {v : Int} (h : Lib.atoi l = some v) (hv : dec v.toNat ≠ l) : num l = none := by
  cases hn : num l with
  | none => rfl
  | some k =>
    rw [(num_atoi hn).1] at h
    simp only [Option.some.injEq] at h
    subst h
    exact absurd (num_atoi hn).2.1 hv
theorem num_yes {l : List UInt8} {v : Int} (hl : l.length ≤ 4) (hv : dec v.toNat = l) : num l = some v.toNat := by
  have h := number_dec v.toNat 4 (by rw [hv]; exact hl)
  rw [hv] at h
  exact h
theorem num_long {l : List UInt8} (hl : 4 < l.length) : num l = none := if_pos (.inr (.inl hl))
theorem num_lt {l : List UInt8} {k : Nat} (h : num l = some k) : k < 10000 := by
  obtain ⟨h1, _, h3⟩ := num_atoi h
  have := (atoi_bd h1 h3).2
  omega

theorem nums_lt : ∀ {ws : List (List UInt8)} {ns : List Nat}, Answers.nums ws = some ns → ∀ n ∈ ns, n < 10000
  | [], ns, h => by
    obtain rfl : [] = ns := by simpa [Answers.nums] using h
    intro n hn
    cases hn
  | w :: ws, ns, h => by
    unfold Answers.nums at h
    split at h
    · rename_i n ms h1 h2
      obtain rfl : n :: ms = ns := by simpa using h
      intro k hk
      rcases List.mem_cons.1 hk with rfl | hk
      · exact num_lt h1
      · exact nums_lt h2 k hk
    · cases h

/-- words joined -/
theorem join_is : ∀ ws : List (List UInt8), Lib.join ws [32] = joined 32 ws
  | [] => by simp [Lib.join, List.intercalate, joined]
  | [a] => by simp [Lib.join, List.intercalate, joined]
  | a :: b :: ws => by
    have i := join_is (b :: ws)
    rw [joined, ← i]
    simp [Lib.join, List.intercalate, List.intersperse]
theorem joined_length : ∀ (ws : List (List UInt8)) (k : Nat), (∀ w ∈ ws, w.length ≤ k) → (joined 32 ws).length ≤ ws.length * (k + 1)
  | [], _, _ => by simp [joined]
  | [a], k, h => by
    have := h a (by simp)
    simp [joined]
    omega
  | a :: b :: ws, k, h => by
    have i := joined_length (b :: ws) k (fun w hw => h w (List.mem_cons_of_mem _ hw))
    have := h a (by simp)
    rw [joined]
    simp only [List.length_append, List.length_cons] at i ⊢
    rw [Nat.add_mul (ws.length + 1)]
    omega

/-- a text parted at blanks into four at most: into its words, where it has at most three -/
theorem split_four (s : List UInt8) : ((words 32 s).length ≤ 3 ∧ Lib.splitK [32] 0 (min 4 (s.length + 1) - 1) s = words 32 s) ∨ (3 < (words 32 s).length ∧ (Lib.splitK [32] 0 (min 4 (s.length + 1) - 1) s).length = 4) := by
  have hl := HdWords.words_length 32 s
  by_cases h4 : 4 ≤ (words 32 s).length
  · refine .inr ⟨by omega, ?_⟩
    rw [show min 4 (s.length + 1) - 1 = 3 by omega, HdWords.split_many 32 3 s (by omega)]
  · exact .inl ⟨by omega, HdWords.split_all 32 (min 4 (s.length + 1) - 1) s (by omega)⟩

/-! the tile that is looked for -/
def isT (L I : Nat) (t : Tiles.Tile) : Bool := decide (t.1 = L ∧ t.2.1 = I)
def tileS (l : List Int) (L I : Nat) : List Int := match (Tiles.tiles l.length).find? (isT L I) with | some t => Tiles.sumsOf l t | none => []
def tileE (n : Nat) (L I : Nat) : Nat := if (Tiles.tiles n).find? (isT L I) = none then 5 else 0
theorem find_yes {α : Type} (f : α → Bool) : ∀ (l : List α) (k : Nat) (x : α), l[k]? = some x → (∀ y ∈ l.take k, f y = false) → f x = true → l.find? f = some x
  | [], k, x, h, _, _ => by simp at h
  | a :: l, 0, x, h, _, hx => by
    obtain rfl : a = x := by simpa using h
    simp [List.find?, hx]
  | a :: l, k + 1, x, h, hy, hx => by
    have ha := hy a (by simp)
    rw [List.find?, ha]
    exact find_yes f l k x (by simpa using h) (fun y hm => hy y (by simp [hm])) hx
theorem find_no {α : Type} (f : α → Bool) (l : List α) (h : ∀ y ∈ l, f y = false) : l.find? f = none := by
  rw [List.find?_eq_none]
  intro y hy
  rw [h y hy]
  decide
theorem tile_yes {l : List Int} {L I k : Nat} {t : Tiles.Tile} (h0 : Trees.leafsE l = 0) (h : (Tiles.tiles l.length)[k]? = some t) (hy : ∀ y ∈ (Tiles.tiles l.length).take k, isT L I y = false) (hx : isT L I t = true) :
    tileE l.length L I = 0 ∧ Tiles.tileE l t.1 t.2.1 t.2.2 = 0 ∧ tileS l L I = Tiles.tileL l t.1 t.2.1 t.2.2 := by
  have hf := find_yes _ _ _ _ h hy hx
  have hm := List.mem_of_getElem? h
  obtain ⟨a, b, c⟩ := t
  obtain ⟨h1, h2, rfl⟩ := Tiles.mem_tiles.1 hm
  have hE : Tiles.tileE l (a : Int) (b : Int) ((min 4 (l.length / 4 ^ a - 4 * b) : Nat) : Int) = 0 := by
    unfold Tiles.tileE
    rw [if_pos h0, if_neg, if_pos]
    · rw [Tiles.asTile_of rfl rfl rfl]
      exact (Tiles.there_iff h1 (by omega) (by omega)).2 ⟨_, hm, Nat.le_refl _⟩
    · unfold Tiles.bad
      rw [decide_eq_true_iff]
      omega
  refine ⟨?_, hE, ?_⟩
  · unfold tileE
    rw [hf, if_neg (by simp)]
  · unfold tileS Tiles.tileL
    rw [hf, if_pos hE, Tiles.asTile_of rfl rfl rfl]
theorem tile_no {l : List Int} {L I : Nat} (h : ∀ y ∈ Tiles.tiles l.length, isT L I y = false) : tileE l.length L I = 5 ∧ tileS l L I = [] := by
  have hf := find_no _ _ h
  unfold tileE tileS
  rw [hf]
  exact ⟨rfl, rfl⟩
theorem tileS_valid {l : List Int} {L I : Nat} (h : ∀ x ∈ l, Nums.valid x = true) : ∀ x ∈ tileS l L I, Nums.valid x = true := by
  unfold tileS
  split
  · exact Tiles.sumsOf_valid l _ h
  · intro x hx
    cases hx
theorem tileS_len {l : List Int} {L I : Nat} (hn : l.length ≤ 200) : (tileS l L I).length ≤ 200 := by
  unfold tileS
  split
  · rename_i t ht
    rw [Tiles.sumsOf_length]
    have := (Tiles.tiles_le hn t (List.mem_of_find?_eq_some ht)).2.2.2
    omega
  · simp

/-! what a text says -/
/-- the word and the numbers of a text that is one -/
def readW (ask : List UInt8) : Option (List UInt8 × List Nat) := match words 32 ask with
  | [] => none
  | w0 :: wt => if wt.length + 1 = Answers.many w0 then (Answers.nums wt).map (fun ns => (w0, ns)) else none
theorem answer_none {l : List Entries.Entry} {key now : Int} {ask : List UInt8} (h : readW ask = none) : Answers.answer l key now ask = ([], 2) := by
  cases hw : words 32 ask with
  | nil => exact absurd hw (Decimals.words_ne 32 ask)
  | cons w0 wt =>
    obtain ⟨h1, h2, _⟩ := Answers.answer_cases l key now ask hw
    unfold readW at h
    rw [hw] at h
    simp only at h
    split at h
    · cases hn : Answers.nums wt with
      | none => exact h2 hn
      | some ns => rw [hn] at h; cases h
    · rename_i hc
      exact h1 hc
theorem answer_some {l : List Entries.Entry} {key now : Int} {ask w0 : List UInt8} {ns : List Nat} (h : readW ask = some (w0, ns)) :
    ns.length + 1 = Answers.many w0 ∧ (∀ n ∈ ns, n < 10000) ∧ (Answers.logE l key now ≠ 0 → Answers.answer l key now ask = ([], Answers.logE l key now)) ∧ (Answers.logE l key now = 0 → Answers.answer l key now ask = Answers.tell l key now w0 (ns.getD 0 0) (ns.getD 1 0)) := by
  cases hw : words 32 ask with
  | nil => exact absurd hw (Decimals.words_ne 32 ask)
  | cons v0 wt =>
    obtain ⟨_, _, h3⟩ := Answers.answer_cases l key now ask hw
    unfold readW at h
    rw [hw] at h
    simp only at h
    split at h
    · rename_i hc
      cases hn : Answers.nums wt with
      | none => rw [hn] at h; cases h
      | some ms =>
        rw [hn] at h
        simp only [Option.map_some, Option.some.injEq, Prod.mk.injEq] at h
        obtain ⟨rfl, rfl⟩ := h
        refine ⟨by rw [Answers.nums_len hn]; exact hc, nums_lt hn, h3 _ hc hn⟩
    · cases h

end Go.Proofs.YticadkggaanbjaaGreatDoor.SeNums
