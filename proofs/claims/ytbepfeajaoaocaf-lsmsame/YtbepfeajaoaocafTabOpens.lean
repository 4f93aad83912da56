/-
  Plain mathematics of bytes that may be a table: cut word by word and text by text, as a reader from the front goes. Nothing of the program is named here.
-/
import Derived.Test.YtbepfeajaoaocafTabs
namespace Go.Proofs.Ytbepfeajaoaocaf.TabOpens
open Stores (Pair lt keyE Rising)
open Nums (str four)
open Tabs (fault pairsF pairsE last one body headT table take1 parse openT openE)

/-! a number in bytes, the high one first -/
def word (l : List UInt8) : Nat := l.foldl (fun n c => n * 256 + c.toNat) 0
theorem word_snoc (l : List UInt8) (c : UInt8) : word (l ++ [c]) = word l * 256 + c.toNat := by simp [word]
theorem word_lt : ∀ (k : Nat) (l : List UInt8), l.length = k → word l < 256 ^ k
  | 0, l, h => by rw [List.length_eq_zero_iff.1 h]; decide
  | k + 1, l, h => by
    obtain ⟨m, c, rfl⟩ : ∃ m c, l = m ++ [c] := ⟨l.dropLast, l.getLast (by intro e; rw [e] at h; cases h), (List.dropLast_concat_getLast _).symm⟩
    have h1 := word_lt k m (by rw [List.length_append] at h; simpa using h)
    have h2 := c.toNat_lt
    rw [word_snoc, Nat.pow_succ]
    omega
theorem four_word {l : List UInt8} (h : l.length = 4) : four ((word l : Nat) : Int) = l := by
  match l, h with
  | [a, b, c, d], _ =>
    have la := a.toNat_lt
    have lb := b.toNat_lt
    have lc := c.toNat_lt
    have ld := d.toNat_lt
    simp only [four, word, List.foldl_cons, List.foldl_nil, List.cons.injEq, and_true, ← UInt8.toNat_inj, UInt8.toNat_ofNat', Int.toNat_natCast]
    omega
theorem word_four {a : Int} (h0 : 0 ≤ a) (h1 : a < 4294967296) : ((word (four a) : Nat) : Int) = a := by
  simp only [four, word, List.foldl_cons, List.foldl_nil, UInt8.toNat_ofNat']
  omega
theorem word_is {l : List UInt8} {a : Int} (h : l.length = 4) (h0 : 0 ≤ a) (h1 : a < 4294967296) : ((word l : Nat) : Int) = a ↔ l = four a := by
  constructor
  · rintro rfl
    exact (four_word h).symm
  · rintro rfl
    exact word_four h0 h1

/-! a text behind its length -/
def text1 : List UInt8 → Option (List UInt8 × List UInt8)
  | [] => none
  | n :: r => if r.length < n.toNat then none else some (r.take n.toNat, r.drop n.toNat)
theorem text1_shorter {s t q : List UInt8} (h : text1 s = some (t, q)) : t.length + q.length + 1 = s.length ∧ t.length < 256 := by
  match s, h with
  | n :: r, h =>
    rw [text1] at h
    by_cases c : r.length < n.toNat
    · rw [if_pos c] at h; cases h
    · rw [if_neg c] at h
      simp only [Option.some.injEq, Prod.mk.injEq] at h
      obtain ⟨rfl, rfl⟩ := h
      have := n.toNat_lt
      rw [List.length_take, List.length_drop, List.length_cons]
      omega
theorem take1_none_key {s : List UInt8} (h : text1 s = none) : take1 s = none := by
  match s, h with
  | [], _ => rfl
  | n :: r, h =>
    rw [text1] at h
    by_cases c : r.length < n.toNat
    · rw [take1, if_pos (by omega)]
    · rw [if_neg c] at h; cases h
theorem take1_of {s k : List UInt8} {g : UInt8} {t : List UInt8} (h : text1 s = some (k, g :: t)) :
    take1 s = if 1 < g.toNat then none else match text1 t with | none => none | some (v, q) => some (⟨str k, str v, decide (g.toNat = 1)⟩, q) := by
  match s, h with
  | n :: r, h =>
    rw [text1] at h
    by_cases c : r.length < n.toNat
    · rw [if_pos c] at h; cases h
    · rw [if_neg c] at h
      simp only [Option.some.injEq, Prod.mk.injEq] at h
      obtain ⟨rfl, hd⟩ := h
      have hl : (r.drop n.toNat).length = t.length + 1 := by rw [hd]; rfl
      rw [List.length_drop] at hl
      rw [take1]
      match t, hd, hl with
      | [], hd, hl =>
        rw [if_pos (by simp at hl; omega)]
        simp [text1]
      | v :: q, hd, hl =>
        rw [if_neg (by simp at hl; omega), hd]
        simp only [text1]
        by_cases h1 : 1 < g.toNat
        · rw [if_pos h1, if_neg (by omega)]
        · rw [if_neg h1]
          by_cases h2 : q.length < v.toNat
          · rw [if_pos h2, if_neg (by omega)]
          · rw [if_neg h2, if_pos (by omega)]
theorem take1_none_end {s k : List UInt8} (h : text1 s = some (k, [])) : take1 s = none := by
  match s, h with
  | n :: r, h =>
    rw [text1] at h
    by_cases c : r.length < n.toNat
    · rw [if_pos c] at h; cases h
    · rw [if_neg c] at h
      simp only [Option.some.injEq, Prod.mk.injEq] at h
      obtain ⟨rfl, hd⟩ := h
      have hl : (r.drop n.toNat).length = 0 := by rw [hd]; rfl
      rw [List.length_drop] at hl
      rw [take1, if_pos (by omega)]

/-! all of them -/
def takesT (s : List UInt8) : Option (List Pair) := match parse s with
  | some l => if pairsE l = 0 then some l else none
  | none => none
theorem parse_back : ∀ (f : Nat) (s : List UInt8) (l : List Pair), s.length ≤ f → parse s = some l → body l = s
  | _, [], l, _, h => by
    rw [Tabs.parse_nil] at h
    obtain rfl : [] = l := by simpa using h
    rfl
  | 0, _ :: _, _, hf, _ => by simp at hf
  | f + 1, n :: r, l, hf, h => by
    match ht : take1 (n :: r) with
    | none =>
      rw [Tabs.parse_none (by simp) ht] at h
      cases h
    | some (p, q) =>
      rw [Tabs.parse_some ht] at h
      have hs := Tabs.take1_shorter ht
      obtain ⟨e, _, _⟩ := Tabs.take1_some ht
      match hq : parse q, h with
      | some m, h =>
        obtain rfl : p :: m = l := by simpa using h
        rw [Tabs.body_cons, parse_back f q m (by rw [List.length_cons] at hs hf; omega) hq, ← e]
theorem takes_back {s : List UInt8} {l : List Pair} (h : takesT s = some l) : pairsE l = 0 ∧ body l = s := by
  unfold takesT at h
  match hp : parse s, h with
  | some m, h =>
    simp only at h
    by_cases c : pairsE m = 0
    · rw [if_pos c] at h
      obtain rfl : m = l := by simpa using h
      exact ⟨c, parse_back _ s m (Nat.le_refl _) hp⟩
    · rw [if_neg c] at h; cases h
theorem takes_stop {s r : List UInt8} {m : List Pair} (h : parse s = (parse r).map (m ++ ·)) (h0 : r ≠ []) (h1 : take1 r = none) : takesT s = none := by
  unfold takesT
  rw [Tabs.parse_stop h h0 h1]
theorem takes_end {s : List UInt8} {m : List Pair} (h : parse s = (parse []).map (m ++ ·)) (hm : pairsE m = 0) : takesT s = some m := by
  unfold takesT
  rw [Tabs.parse_end h]
  simp only
  rw [if_pos hm]
theorem pairsE_snoc (m : List Pair) (p : Pair) (hm : pairsE m = 0) : pairsE (m ++ [p]) = fault (last none m) p := by
  unfold pairsE at *
  rw [Tabs.pairsF_append, if_neg (by rw [hm]; exact fun q => q rfl), pairsF, pairsF]
  by_cases c : fault (last none m) p ≠ 0
  · rw [if_pos c]
  · rw [if_neg c]; exact (Decidable.not_not.1 c).symm
theorem takes_fault {s r q : List UInt8} {m : List Pair} {p : Pair} (h : parse s = (parse r).map (m ++ ·)) (h1 : take1 r = some (p, q)) (hm : pairsE m = 0) (hf : fault (last none m) p ≠ 0) : takesT s = none := by
  unfold takesT
  rw [Tabs.parse_step h h1]
  match parse q with
  | none => rfl
  | some x =>
    simp only [Option.map_some]
    rw [if_neg]
    unfold pairsE at *
    rw [Tabs.pairsF_append]
    have e : pairsF none (m ++ [p]) = fault (last none m) p := pairsE_snoc m p hm
    rw [e, if_pos hf]
    exact hf

/-- the key of the last one, empty ahead of the first -/
def lastKey (m : List Pair) : ByteArray := (last none m).getD ⟨#[]⟩
theorem lastKey_nil : lastKey [] = ⟨#[]⟩ := rfl
theorem lastKey_snoc (m : List Pair) (p : Pair) : lastKey (m ++ [p]) = p.key := by unfold lastKey; rw [Tabs.last_snoc]; rfl
theorem lt_empty (k : ByteArray) (h : k.size ≠ 0) : lt ⟨#[]⟩ k = true := by
  cases h1 : lt ⟨#[]⟩ k with
  | true => rfl
  | false =>
    have h2 : lt k ⟨#[]⟩ = false := by
      unfold lt
      rw [show (⟨#[]⟩ : ByteArray).toList = [] by rw [ByteArray.toList_eq]]
      cases k.toList <;> rfl
    have e := Stores.lt_total h1 h2
    rw [← e] at h
    exact absurd rfl h
theorem fault_last (m : List Pair) (p : Pair) : fault (some (lastKey m)) p = fault (last none m) p := by
  unfold lastKey
  cases last none m with
  | some k => rfl
  | none =>
    show fault (some ⟨#[]⟩) p = fault none p
    unfold fault
    by_cases h0 : keyE p.key ≠ 0
    · rw [if_pos h0, if_pos h0]
    · rw [if_neg h0, if_neg h0]
      by_cases h1 : 200 < p.val.size
      · rw [if_pos h1, if_pos h1]
      · rw [if_neg h1, if_neg h1]
        by_cases h2 : p.gone = true ∧ p.val.size ≠ 0
        · rw [if_pos h2, if_pos h2]
        · rw [if_neg h2, if_neg h2]
          have hk : p.key.size ≠ 0 := fun e => h0 (by unfold keyE; rw [if_pos e]; decide)
          simp only
          rw [if_pos (lt_empty _ hk)]

/-! opened -/
theorem open_short {s : List UInt8} (h : s.length < 8) : openT s = none := if_pos h
/-- the three parts of what is long enough -/
theorem open_parts {b r q : List UInt8} (hr : r.length = 4) (hq : q.length = 4) (hn : b.length ≤ 4294967295) : openT (b ++ r ++ q) = match takesT b with
    | some l => if ((word r : Nat) : Int) = (l.length : Int) ∧ ((word q : Nat) : Int) = Sums.sum (b ++ r) then some l else none
    | none => none := by
  unfold openT takesT
  rw [if_neg (by rw [List.length_append, List.length_append]; omega)]
  rw [show (b ++ r ++ q).length - 8 = b.length by rw [List.length_append, List.length_append]; omega]
  rw [show (b ++ r ++ q).take b.length = b by rw [List.append_assoc, List.take_left]]
  match hp : parse b with
  | none => rfl
  | some l =>
    simp only
    by_cases hE : pairsE l = 0
    · rw [if_pos hE]
      simp only
      have hb : body l = b := parse_back _ b l (Nat.le_refl _) hp
      have hs := Sums.sum_bd (b ++ r)
      have e : table l = b ++ r ++ q ↔ r = four (l.length : Int) ∧ q = four (Sums.sum (b ++ r)) := by
        unfold table headT
        rw [hb]
        constructor
        · intro h
          have h1 := List.append_inj h (by rw [List.length_append, List.length_append, hr]; rfl)
          have h2 := List.append_inj h1.1 rfl
          exact ⟨h2.2.symm, by rw [← h1.2, ← h2.2]⟩
        · rintro ⟨rfl, rfl⟩
          rfl
      have hw : ((word q : Nat) : Int) = Sums.sum (b ++ r) ↔ q = four (Sums.sum (b ++ r)) := word_is hq (by omega) (by omega)
      have hl : (l.length : Int) < 4294967296 := by have := Tabs.body_le l; rw [hb] at this; omega
      have hv : ((word r : Nat) : Int) = (l.length : Int) ↔ r = four (l.length : Int) := word_is hr (by omega) hl
      by_cases c : ((word r : Nat) : Int) = (l.length : Int) ∧ ((word q : Nat) : Int) = Sums.sum (b ++ r)
      · rw [if_pos c, if_pos ⟨hE, e.2 ⟨hv.1 c.1, hw.1 c.2⟩⟩]
      · rw [if_neg c, if_neg fun h => c ⟨hv.2 (e.1 h.2).1, hw.2 (e.1 h.2).2⟩]
    · rw [if_neg hE, if_neg fun h => hE h.1]

end Go.Proofs.Ytbepfeajaoaocaf.TabOpens
