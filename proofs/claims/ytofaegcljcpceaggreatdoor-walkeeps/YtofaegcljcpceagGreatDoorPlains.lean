/-
  Plain mathematics of pairs as bytes, for good: what is wrong with some, their bytes, and bytes read as some. Nothing of the program is named here.
-/
import Derived.Test.YtofaegcljcpceagGreatDoorStores
import Derived.Test.YtofaegcljcpceagGreatDoorNums
namespace Go.Proofs.YtofaegcljcpceagGreatDoor.Tabs
open Stores (Pair lt keyE Rising)
open Nums (str four)

/-! what is wrong -/
def fault (q : Option ByteArray) (p : Pair) : Nat :=
  if keyE p.key ≠ 0 then keyE p.key else if 200 < p.val.size then 4 else if p.gone = true ∧ p.val.size ≠ 0 then 3 else match q with
    | some k => if lt k p.key = true then 0 else 7
    | none => 0
def pairsF : Option ByteArray → List Pair → Nat
  | _, [] => 0
  | q, p :: r => if fault q p ≠ 0 then fault q p else pairsF (some p.key) r
def pairsE (l : List Pair) : Nat := pairsF none l
/-- the key of the last one -/
def last (q : Option ByteArray) : List Pair → Option ByteArray
  | [] => q
  | p :: r => last (some p.key) r
theorem last_snoc (q : Option ByteArray) : ∀ (l : List Pair) (p : Pair), last q (l ++ [p]) = some p.key
  | [], _ => rfl
  | x :: l, p => last_snoc (some x.key) l p
theorem pairsF_append : ∀ (q : Option ByteArray) (a b : List Pair), pairsF q (a ++ b) = if pairsF q a ≠ 0 then pairsF q a else pairsF (last q a) b
  | q, [], b => by simp [pairsF, last]
  | q, p :: a, b => by
    rw [List.cons_append, pairsF, pairsF, last]
    by_cases h : fault q p ≠ 0
    · rw [if_pos h, if_pos h, if_pos h]
    · rw [if_neg h, if_neg h, pairsF_append (some p.key) a b]
/-- the first that is none -/
theorem pairs_at {l : List Pair} {k : Nat} (hk : k < l.length) (h : pairsE (l.take k) = 0) (hf : fault (last none (l.take k)) l[k] ≠ 0) : pairsE l = fault (last none (l.take k)) l[k] := by
  have e : l = l.take k ++ l[k] :: l.drop (k + 1) := by rw [List.getElem_cons_drop, List.take_append_drop]
  have h2 : pairsE (l.take k ++ l[k] :: l.drop (k + 1)) = fault (last none (l.take k)) l[k] := by
    unfold pairsE
    rw [pairsF_append, if_neg (by show ¬ pairsE _ ≠ 0; rw [h]; exact fun q => q rfl), pairsF, if_pos hf]
  rw [← e] at h2
  exact h2
theorem pairs_next {l : List Pair} {k : Nat} (hk : k < l.length) (h : pairsE (l.take k) = 0) (hf : fault (last none (l.take k)) l[k] = 0) : pairsE (l.take (k + 1)) = 0 := by
  rw [List.take_succ_eq_append_getElem hk]
  unfold pairsE
  rw [pairsF_append, if_neg (by show ¬ pairsE _ ≠ 0; rw [h]; exact fun q => q rfl), pairsF, if_neg (by rw [hf]; exact fun q => q rfl)]
  rfl
theorem last_zero (l : List Pair) : last none (l.take 0) = none := rfl
theorem last_at {l : List Pair} {k : Nat} (hk : k < l.length) : last none (l.take (k + 1)) = some (l[k]).key := by
  rw [List.take_succ_eq_append_getElem hk, last_snoc]
theorem fault_ok {q : Option ByteArray} {p : Pair} (h : fault q p = 0) : 0 < p.key.size ∧ p.key.size ≤ 200 ∧ p.val.size ≤ 200 ∧ (p.gone = true → p.val.size = 0) ∧ ∀ k, q = some k → lt k p.key = true := by
  unfold fault at h
  by_cases h0 : keyE p.key ≠ 0
  · rw [if_pos h0] at h
    exact absurd h h0
  rw [if_neg h0] at h
  have h0 : keyE p.key = 0 := Decidable.not_not.1 h0
  unfold keyE at h0
  by_cases a : p.key.size = 0
  · rw [if_pos a] at h0; cases h0
  rw [if_neg a] at h0
  by_cases b : 200 < p.key.size
  · rw [if_pos b] at h0; cases h0
  by_cases c : 200 < p.val.size
  · rw [if_pos c] at h; cases h
  rw [if_neg c] at h
  by_cases d : p.gone = true ∧ p.val.size ≠ 0
  · rw [if_pos d] at h; cases h
  rw [if_neg d] at h
  refine ⟨by omega, by omega, by omega, fun hg => Decidable.not_not.1 fun hv => d ⟨hg, hv⟩, ?_⟩
  rintro k rfl
  simp only at h
  by_cases e : lt k p.key = true
  · exact e
  · rw [if_neg e] at h; cases h
theorem pairsF_ok : ∀ {l : List Pair} {q : Option ByteArray}, pairsF q l = 0 → (∀ p ∈ l, 0 < p.key.size ∧ p.key.size ≤ 200 ∧ p.val.size ≤ 200) ∧ Rising l ∧ ∀ k, q = some k → ∀ p ∈ l, lt k p.key = true
  | [], _, _ => ⟨fun p hp => (by cases hp), List.Pairwise.nil, fun _ _ p hp => (by cases hp)⟩
  | p :: r, q, h => by
    rw [pairsF] at h
    by_cases hf : fault q p ≠ 0
    · rw [if_pos hf] at h
      exact absurd h hf
    rw [if_neg hf] at h
    obtain ⟨f1, f2, f3, _, f5⟩ := fault_ok (Decidable.not_not.1 hf)
    obtain ⟨g1, g2, g3⟩ := pairsF_ok h
    refine ⟨fun x hx => ?_, List.pairwise_cons.2 ⟨g3 _ rfl, g2⟩, fun k hk x hx => ?_⟩
    · rcases List.mem_cons.1 hx with rfl | hx
      · exact ⟨f1, f2, f3⟩
      · exact g1 x hx
    · rcases List.mem_cons.1 hx with rfl | hx
      · exact f5 k hk
      · exact Stores.lt_trans (f5 k hk) (g3 _ rfl x hx)
theorem pairs_ok {l : List Pair} (h : pairsE l = 0) : (∀ p ∈ l, 0 < p.key.size ∧ p.key.size ≤ 200 ∧ p.val.size ≤ 200) ∧ Rising l := ⟨(pairsF_ok h).1, (pairsF_ok h).2.1⟩
theorem pairsE_cases (l : List Pair) : pairsE l = 0 ∨ pairsE l = 2 ∨ pairsE l = 3 ∨ pairsE l = 4 ∨ pairsE l = 7 := by
  have hf : ∀ q p, fault q p = 0 ∨ fault q p = 2 ∨ fault q p = 3 ∨ fault q p = 4 ∨ fault q p = 7 := by
    intro q p
    unfold fault keyE
    repeat (first | split | simp)
  have hl : ∀ (l : List Pair) q, pairsF q l = 0 ∨ pairsF q l = 2 ∨ pairsF q l = 3 ∨ pairsF q l = 4 ∨ pairsF q l = 7 := by
    intro l
    induction l with
    | nil => intro q; exact .inl rfl
    | cons p r ih =>
      intro q
      rw [pairsF]
      split
      · exact hf q p
      · exact ih _
  exact hl l none

/-! as bytes -/
def mark (g : Bool) : UInt8 := if g = true then 1 else 0
def one (p : Pair) : List UInt8 := UInt8.ofNat p.key.size :: (p.key.data.toList ++ mark p.gone :: UInt8.ofNat p.val.size :: p.val.data.toList)
theorem one_length (p : Pair) : (one p).length = p.key.size + p.val.size + 3 := by
  simp only [one, List.length_cons, List.length_append, Array.length_toList]
  show p.key.size + (p.val.size + 1 + 1) + 1 = _
  omega
def body (l : List Pair) : List UInt8 := l.flatMap one
theorem body_snoc (l : List Pair) (p : Pair) : body (l ++ [p]) = body l ++ one p := by simp [body]
theorem body_cons (p : Pair) (l : List Pair) : body (p :: l) = one p ++ body l := by simp [body]
def headT (l : List Pair) : List UInt8 := body l ++ four (l.length : Int)
def table (l : List Pair) : List UInt8 := headT l ++ four (Sums.sum (headT l))
theorem table_length (l : List Pair) : (table l).length = (body l).length + 8 := by
  simp only [table, headT, List.length_append, Nums.four_length]
theorem body_le : ∀ (l : List Pair), 3 * l.length ≤ (body l).length
  | [] => Nat.le_refl _
  | p :: l => by
    have := body_le l
    rw [body_cons, List.length_append, one_length, List.length_cons]
    omega
theorem body_len : ∀ (l : List Pair) (M : Nat), (∀ p ∈ l, p.key.size ≤ 200 ∧ p.val.size ≤ 200) → l.length ≤ M → (body l).length ≤ 403 * M
  | [], _, _, _ => Nat.zero_le _
  | p :: l, M, h, hm => by
    have h1 := h p (List.mem_cons_self ..)
    rw [List.length_cons] at hm
    have := body_len l (M - 1) (fun x hx => h x (List.mem_cons_of_mem _ hx)) (by omega)
    rw [body_cons, List.length_append, one_length]
    omega

/-! bytes as pairs -/
def take1 : List UInt8 → Option (Pair × List UInt8)
  | [] => none
  | n :: r => if r.length < n.toNat + 2 then none else match r.drop n.toNat with
    | g :: v :: q => if g.toNat ≤ 1 ∧ v.toNat ≤ q.length then some (⟨str (r.take n.toNat), str (q.take v.toNat), decide (g.toNat = 1)⟩, q.drop v.toNat) else none
    | _ => none
theorem mark_le (g : Bool) : (mark g).toNat ≤ 1 ∧ decide ((mark g).toNat = 1) = g := by cases g <;> decide
theorem take1_one (p : Pair) (r : List UInt8) (hk : p.key.size < 256) (hv : p.val.size < 256) : take1 (one p ++ r) = some (p, r) := by
  obtain ⟨k, v, g⟩ := p
  simp only at hk hv
  have e1 : (UInt8.ofNat k.size).toNat = k.size := by rw [UInt8.toNat_ofNat']; omega
  have e2 : (UInt8.ofNat v.size).toNat = v.size := by rw [UInt8.toNat_ofNat']; omega
  have l1 : k.data.toList.length = k.size := Array.length_toList
  have l2 : v.data.toList.length = v.size := Array.length_toList
  simp only [one, List.cons_append, List.append_assoc]
  rw [take1, e1]
  rw [if_neg (by simp only [List.length_append, List.length_cons]; omega)]
  rw [show k.size = k.data.toList.length from l1.symm, List.drop_left, List.take_left]
  simp only
  rw [e2, if_pos ⟨(mark_le g).1, by rw [List.length_append]; omega⟩, (mark_le g).2]
  rw [show v.size = v.data.toList.length from l2.symm, List.drop_left, List.take_left]
  rfl
theorem take1_some {s r : List UInt8} {p : Pair} (h : take1 s = some (p, r)) : s = one p ++ r ∧ p.key.size < 256 ∧ p.val.size < 256 := by
  match s, h with
  | n :: q, h =>
    rw [take1] at h
    by_cases h1 : q.length < n.toNat + 2
    · rw [if_pos h1] at h; cases h
    rw [if_neg h1] at h
    match hd : q.drop n.toNat, h with
    | g :: v :: t, h =>
      simp only at h
      by_cases h2 : g.toNat ≤ 1 ∧ v.toNat ≤ t.length
      · rw [if_pos h2] at h
        simp only [Option.some.injEq, Prod.mk.injEq] at h
        obtain ⟨rfl, rfl⟩ := h
        have e0 : q = q.take n.toNat ++ g :: v :: t := by rw [← hd, List.take_append_drop]
        have lq : (q.take n.toNat).length = n.toNat := by rw [List.length_take]; omega
        have lt' : (t.take v.toNat).length = v.toNat := by rw [List.length_take]; omega
        have hm : mark (decide (g.toNat = 1)) = g := by
          apply UInt8.toNat_inj.1
          by_cases hg : g.toNat = 1
          · rw [decide_eq_true hg, hg]; rfl
          · rw [decide_eq_false hg, show g.toNat = 0 by omega]; rfl
        refine ⟨?_, ?_, ?_⟩
        · simp only [one, Nums.str_size, lq, lt', hm, Nums.str_data, UInt8.ofNat_toNat, List.cons_append, List.append_assoc, List.take_append_drop]
          rw [← e0]
        · simp only [Nums.str_size, lq]; exact n.toNat_lt
        · simp only [Nums.str_size, lt']; exact v.toNat_lt
      · rw [if_neg h2] at h; cases h
theorem take1_shorter {s r : List UInt8} {p : Pair} (h : take1 s = some (p, r)) : r.length + 3 ≤ s.length := by
  rw [(take1_some h).1, List.length_append, one_length]
  omega
def parseF : Nat → List UInt8 → Option (List Pair)
  | _, [] => some []
  | 0, _ :: _ => none
  | f + 1, n :: s => match take1 (n :: s) with
    | none => none
    | some (p, r) => (parseF f r).map (p :: ·)
theorem parseF_fuel : ∀ (f g : Nat) (s : List UInt8), s.length ≤ f → s.length ≤ g → parseF f s = parseF g s
  | 0, 0, _, _, _ => rfl
  | 0, g + 1, [], _, _ => rfl
  | f + 1, 0, [], _, _ => rfl
  | f + 1, g + 1, [], _, _ => rfl
  | f + 1, g + 1, n :: s, hf, hg => by
    rw [parseF, parseF]
    match h : take1 (n :: s) with
    | none => rfl
    | some (p, r) =>
      have := take1_shorter h
      simp only [List.length_cons] at this hf hg
      simp only
      rw [parseF_fuel f g r (by omega) (by omega)]
def parse (s : List UInt8) : Option (List Pair) := parseF s.length s
theorem parse_nil : parse [] = some [] := rfl
theorem parse_some {s r : List UInt8} {p : Pair} (h : take1 s = some (p, r)) : parse s = (parse r).map (p :: ·) := by
  match s, h with
  | n :: q, h =>
    have hs := take1_shorter h
    unfold parse
    rw [List.length_cons, parseF, h]
    simp only
    rw [List.length_cons] at hs
    rw [parseF_fuel q.length r.length r (by omega) (Nat.le_refl _)]
theorem parse_none {s : List UInt8} (h0 : s ≠ []) (h : take1 s = none) : parse s = none := by
  match s, h0 with
  | n :: q, _ =>
    unfold parse
    rw [List.length_cons, parseF, h]
theorem parse_body : ∀ (l : List Pair), (∀ p ∈ l, p.key.size < 256 ∧ p.val.size < 256) → parse (body l) = some l
  | [], _ => rfl
  | p :: l, h => by
    have h1 := h p (List.mem_cons_self ..)
    rw [body_cons, parse_some (take1_one p (body l) h1.1 h1.2), parse_body l fun x hx => h x (List.mem_cons_of_mem _ hx)]
    rfl
/-- so far, and what is left -/
theorem parse_step {s r q : List UInt8} {l : List Pair} {p : Pair} (h : parse s = (parse r).map (l ++ ·)) (h1 : take1 r = some (p, q)) : parse s = (parse q).map ((l ++ [p]) ++ ·) := by
  rw [h, parse_some h1, Option.map_map]
  congr 1
  funext x
  simp
theorem parse_start (s : List UInt8) : parse s = (parse s).map (([] : List Pair) ++ ·) := by
  rw [show (fun x : List Pair => ([] : List Pair) ++ x) = id from rfl, Option.map_id]
  rfl
theorem parse_end {s : List UInt8} {l : List Pair} (h : parse s = (parse []).map (l ++ ·)) : parse s = some l := by
  rw [h, parse_nil]
  simp
theorem parse_stop {s r : List UInt8} {l : List Pair} (h : parse s = (parse r).map (l ++ ·)) (h0 : r ≠ []) (h1 : take1 r = none) : parse s = none := by
  rw [h, parse_none h0 h1]
  rfl

/-- of just such bytes -/
def openT (s : List UInt8) : Option (List Pair) :=
  if s.length < 8 then none else match parse (s.take (s.length - 8)) with
    | some l => if pairsE l = 0 ∧ table l = s then some l else none
    | none => none
theorem open_table {l : List Pair} (h : pairsE l = 0) : openT (table l) = some l := by
  unfold openT
  rw [if_neg (by rw [table_length]; omega), table_length, show (body l).length + 8 - 8 = (body l).length by omega]
  rw [show (table l).take (body l).length = body l by unfold table headT; rw [List.append_assoc, List.take_left]]
  rw [parse_body l fun p hp => ⟨by have := (pairs_ok h).1 p hp; omega, by have := (pairs_ok h).1 p hp; omega⟩]
  simp [h]
theorem table_open {s : List UInt8} {l : List Pair} (h : openT s = some l) : pairsE l = 0 ∧ table l = s := by
  unfold openT at h
  by_cases h8 : s.length < 8
  · rw [if_pos h8] at h; cases h
  rw [if_neg h8] at h
  match hp : parse (s.take (s.length - 8)), h with
  | some m, h =>
    simp only at h
    by_cases h2 : pairsE m = 0 ∧ table m = s
    · rw [if_pos h2] at h
      obtain rfl : m = l := by simpa using h
      exact h2
    · rw [if_neg h2] at h; cases h
theorem open_len {s : List UInt8} {l : List Pair} (h : openT s = some l) : 3 * l.length + 8 ≤ s.length := by
  obtain ⟨_, rfl⟩ := table_open h
  have := body_le l
  rw [table_length]
  omega
/-- what Build and Open answer -/
def buildV (l : List Pair) : List UInt8 := if pairsE l = 0 then table l else []
def openE (s : List UInt8) : Nat := if (openT s).isSome = true then 0 else 2
def openV (s : List UInt8) : List Pair := (openT s).getD []
theorem open_is {s : List UInt8} {l : List Pair} (h : openT s = some l) : openE s = 0 ∧ openV s = l := by
  unfold openE openV
  rw [h]
  exact ⟨rfl, rfl⟩
theorem open_not {s : List UInt8} (h : openT s = none) : openE s = 2 ∧ openV s = [] := by
  unfold openE openV
  rw [h]
  exact ⟨rfl, rfl⟩
/-- the pair of a key, one that is gone, too -/
def getP (l : List Pair) (k : ByteArray) : Pair := (Stores.find l k).getD ⟨⟨#[]⟩, ⟨#[]⟩, false⟩
def getPE (l : List Pair) (k : ByteArray) : Nat := if (Stores.find l k).isSome = true then 0 else 5
def firstK (l : List Pair) : ByteArray := (l.head?.map (·.key)).getD ⟨#[]⟩
def lastK (l : List Pair) : ByteArray := (l.getLast?.map (·.key)).getD ⟨#[]⟩

end Go.Proofs.YtofaegcljcpceagGreatDoor.Tabs

/-
  Plain mathematics of bytes that may be a table: cut word by word and text by text, as a reader from the front goes. Nothing of the program is named here.
-/
namespace Go.Proofs.YtofaegcljcpceagGreatDoor.TabOpens
open Stores (Pair lt keyE Rising)
open Nums (str four)
open Tabs (fault pairsF pairsE last one body headT table take1 parse openT openE)

/-! a number in bytes, the high one first -/
def word (l : List UInt8) : Nat := l.foldl (fun n c => n * 256 + c.toNat) 0
theorem word_snoc (l : List UInt8) (c : UInt8) : word (l ++ [c]) = word l * 256 + c.toNat := by simp [word]
theorem word_lt : ∀ (k : Nat) (l : List UInt8), l.length = k → word l < 256 ^ k
  | 0, l, h => by rw [List.length_eq_zero_iff.1 h]; decide
  | k + 1, l, h => by
    obtain ⟨m, c, rfl⟩ : ∃ m c, l = m ++ [c] := ⟨l.dropLast, l.getLast (by intro e; rw [e] at h; cases h), (List.dropLast_concat_getLast _).symm⟩
    have h1 := word_lt k m (by rw [List.length_append] at h; simpa using h)
    have h2 := c.toNat_lt
    rw [word_snoc, Nat.pow_succ]
    omega
theorem four_word {l : List UInt8} (h : l.length = 4) : four ((word l : Nat) : Int) = l := by
  match l, h with
  | [a, b, c, d], _ =>
    have la := a.toNat_lt
    have lb := b.toNat_lt
    have lc := c.toNat_lt
    have ld := d.toNat_lt
    simp only [four, word, List.foldl_cons, List.foldl_nil, List.cons.injEq, and_true, ← UInt8.toNat_inj, UInt8.toNat_ofNat', Int.toNat_natCast]
    omega
theorem word_four {a : Int} (h0 : 0 ≤ a) (h1 : a < 4294967296) : ((word (four a) : Nat) : Int) = a := by
  simp only [four, word, List.foldl_cons, List.foldl_nil, UInt8.toNat_ofNat']
  omega
theorem word_is {l : List UInt8} {a : Int} (h : l.length = 4) (h0 : 0 ≤ a) (h1 : a < 4294967296) : ((word l : Nat) : Int) = a ↔ l = four a := by
  constructor
  · rintro rfl
    exact (four_word h).symm
  · rintro rfl
    exact word_four h0 h1

/-! a text behind its length -/
def text1 : List UInt8 → Option (List UInt8 × List UInt8)
  | [] => none
  | n :: r => if r.length < n.toNat then none else some (r.take n.toNat, r.drop n.toNat)
theorem text1_shorter {s t q : List UInt8} (h : text1 s = some (t, q)) : t.length + q.length + 1 = s.length ∧ t.length < 256 := by
  match s, h with
  | n :: r, h =>
    rw [text1] at h
    by_cases c : r.length < n.toNat
    · rw [if_pos c] at h; cases h
    · rw [if_neg c] at h
      simp only [Option.some.injEq, Prod.mk.injEq] at h
      obtain ⟨rfl, rfl⟩ := h
      have := n.toNat_lt
      rw [List.length_take, List.length_drop, List.length_cons]
      omega
theorem take1_none_key {s : List UInt8} (h : text1 s = none) : take1 s = none := by
  match s, h with
  | [], _ => rfl
  | n :: r, h =>
    rw [text1] at h
    by_cases c : r.length < n.toNat
    · rw [take1, if_pos (by omega)]
    · rw [if_neg c] at h; cases h
theorem take1_of {s k : List UInt8} {g : UInt8} {t : List UInt8} (h : text1 s = some (k, g :: t)) :
    take1 s = if 1 < g.toNat then none else match text1 t with | none => none | some (v, q) => some (⟨str k, str v, decide (g.toNat = 1)⟩, q) := by
  match s, h with
  | n :: r, h =>
    rw [text1] at h
    by_cases c : r.length < n.toNat
    · rw [if_pos c] at h; cases h
    · rw [if_neg c] at h
      simp only [Option.some.injEq, Prod.mk.injEq] at h
      obtain ⟨rfl, hd⟩ := h
      have hl : (r.drop n.toNat).length = t.length + 1 := by rw [hd]; rfl
      rw [List.length_drop] at hl
      rw [take1]
      match t, hd, hl with
      | [], hd, hl =>
        rw [if_pos (by simp at hl; omega)]
        simp [text1]
      | v :: q, hd, hl =>
        rw [if_neg (by simp at hl; omega), hd]
        simp only [text1]
        by_cases h1 : 1 < g.toNat
        · rw [if_pos h1, if_neg (by omega)]
        · rw [if_neg h1]
          by_cases h2 : q.length < v.toNat
          · rw [if_pos h2, if_neg (by omega)]
          · rw [if_neg h2, if_pos (by omega)]
theorem take1_none_end {s k : List UInt8} (h : text1 s = some (k, [])) : take1 s = none := by
  match s, h with
  | n :: r, h =>
    rw [text1] at h
    by_cases c : r.length < n.toNat
    · rw [if_pos c] at h; cases h
    · rw [if_neg c] at h
      simp only [Option.some.injEq, Prod.mk.injEq] at h
      obtain ⟨rfl, hd⟩ := h
      have hl : (r.drop n.toNat).length = 0 := by rw [hd]; rfl
      rw [List.length_drop] at hl
      rw [take1, if_pos (by omega)]

/-! all of them -/
def takesT (s : List UInt8) : Option (List Pair) := match parse s with
  | some l => if pairsE l = 0 then some l else none
  | none => none
theorem parse_back : ∀ (f : Nat) (s : List UInt8) (l : List Pair), s.length ≤ f → parse s = some l → body l = s
  | _, [], l, _, h => by
    rw [Tabs.parse_nil] at h
    obtain rfl : [] = l := by simpa using h
    rfl
  | 0, _ :: _, _, hf, _ => by simp at hf
  | f + 1, n :: r, l, hf, h => by
    match ht : take1 (n :: r) with
    | none =>
      rw [Tabs.parse_none (by simp) ht] at h
      cases h
    | some (p, q) =>
      rw [Tabs.parse_some ht] at h
      have hs := Tabs.take1_shorter ht
      obtain ⟨e, _, _⟩ := Tabs.take1_some ht
      match hq : parse q, h with
      | some m, h =>
        obtain rfl : p :: m = l := by simpa using h
        rw [Tabs.body_cons, parse_back f q m (by rw [List.length_cons] at hs hf; omega) hq, ← e]
theorem takes_back {s : List UInt8} {l : List Pair} (h : takesT s = some l) : pairsE l = 0 ∧ body l = s := by
  unfold takesT at h
  match hp : parse s, h with
  | some m, h =>
    simp only at h
    by_cases c : pairsE m = 0
    · rw [if_pos c] at h
      obtain rfl : m = l := by simpa using h
      exact ⟨c, parse_back _ s m (Nat.le_refl _) hp⟩
    · rw [if_neg c] at h; cases h
theorem takes_stop {s r : List UInt8} {m : List Pair} (h : parse s = (parse r).map (m ++ ·)) (h0 : r ≠ []) (h1 : take1 r = none) : takesT s = none := by
  unfold takesT
  rw [Tabs.parse_stop h h0 h1]
theorem takes_end {s : List UInt8} {m : List Pair} (h : parse s = (parse []).map (m ++ ·)) (hm : pairsE m = 0) : takesT s = some m := by
  unfold takesT
  rw [Tabs.parse_end h]
  simp only
  rw [if_pos hm]
theorem pairsE_snoc (m : List Pair) (p : Pair) (hm : pairsE m = 0) : pairsE (m ++ [p]) = fault (last none m) p := by
  unfold pairsE at *
  rw [Tabs.pairsF_append, if_neg (by rw [hm]; exact fun q => q rfl), pairsF, pairsF]
  by_cases c : fault (last none m) p ≠ 0
  · rw [if_pos c]
  · rw [if_neg c]; exact (Decidable.not_not.1 c).symm
theorem takes_fault {s r q : List UInt8} {m : List Pair} {p : Pair} (h : parse s = (parse r).map (m ++ ·)) (h1 : take1 r = some (p, q)) (hm : pairsE m = 0) (hf : fault (last none m) p ≠ 0) : takesT s = none := by
  unfold takesT
  rw [Tabs.parse_step h h1]
  match parse q with
  | none => rfl
  | some x =>
    simp only [Option.map_some]
    rw [if_neg]
    unfold pairsE at *
    rw [Tabs.pairsF_append]
    have e : pairsF none (m ++ [p]) = fault (last none m) p := pairsE_snoc m p hm
    rw [e, if_pos hf]
    exact hf

/-- the key of the last one, empty ahead of the first -/
def lastKey (m : List Pair) : ByteArray := (last none m).getD ⟨#[]⟩
theorem lastKey_nil : lastKey [] = ⟨#[]⟩ := rfl
theorem lastKey_snoc (m : List Pair) (p : Pair) : lastKey (m ++ [p]) = p.key := by unfold lastKey; rw [Tabs.last_snoc]; rfl
theorem lt_empty (k : ByteArray) (h : k.size ≠ 0) : lt ⟨#[]⟩ k = true := by
  cases h1 : lt ⟨#[]⟩ k with
  | true => rfl
  | false =>
    have h2 : lt k ⟨#[]⟩ = false := by
      unfold lt
      rw [show (⟨#[]⟩ : ByteArray).toList = [] by rw [ByteArray.toList_eq]]
      cases k.toList <;> rfl
    have e := Stores.lt_total h1 h2
    rw [← e] at h
    exact absurd rfl h
theorem fault_last (m : List Pair) (p : Pair) : fault (some (lastKey m)) p = fault (last none m) p := by
  unfold lastKey
  cases last none m with
  | some k => rfl
  | none =>
    show fault (some ⟨#[]⟩) p = fault none p
    unfold fault
    by_cases h0 : keyE p.key ≠ 0
    · rw [if_pos h0, if_pos h0]
    · rw [if_neg h0, if_neg h0]
      by_cases h1 : 200 < p.val.size
      · rw [if_pos h1, if_pos h1]
      · rw [if_neg h1, if_neg h1]
        by_cases h2 : p.gone = true ∧ p.val.size ≠ 0
        · rw [if_pos h2, if_pos h2]
        · rw [if_neg h2, if_neg h2]
          have hk : p.key.size ≠ 0 := fun e => h0 (by unfold keyE; rw [if_pos e]; decide)
          simp only
          rw [if_pos (lt_empty _ hk)]

/-! opened -/
theorem open_short {s : List UInt8} (h : s.length < 8) : openT s = none := if_pos h
/-- the three parts of what is long enough -/
theorem open_parts {b r q : List UInt8} (hr : r.length = 4) (hq : q.length = 4) (hn : b.length ≤ 4294967295) : openT (b ++ r ++ q) = match takesT b with
    | some l => if ((word r : Nat) : Int) = (l.length : Int) ∧ ((word q : Nat) : Int) = Sums.sum (b ++ r) then some l else none
    | none => none := by
  unfold openT takesT
  rw [if_neg (by rw [List.length_append, List.length_append]; omega)]
  rw [show (b ++ r ++ q).length - 8 = b.length by rw [List.length_append, List.length_append]; omega]
  rw [show (b ++ r ++ q).take b.length = b by rw [List.append_assoc, List.take_left]]
  match hp : parse b with
  | none => rfl
  | some l =>
    simp only
    by_cases hE : pairsE l = 0
    · rw [if_pos hE]
      simp only
      have hb : body l = b := parse_back _ b l (Nat.le_refl _) hp
      have hs := Sums.sum_bd (b ++ r)
      have e : table l = b ++ r ++ q ↔ r = four (l.length : Int) ∧ q = four (Sums.sum (b ++ r)) := by
        unfold table headT
        rw [hb]
        constructor
        · intro h
          have h1 := List.append_inj h (by rw [List.length_append, List.length_append, hr]; rfl)
          have h2 := List.append_inj h1.1 rfl
          exact ⟨h2.2.symm, by rw [← h1.2, ← h2.2]⟩
        · rintro ⟨rfl, rfl⟩
          rfl
      have hw : ((word q : Nat) : Int) = Sums.sum (b ++ r) ↔ q = four (Sums.sum (b ++ r)) := word_is hq (by omega) (by omega)
      have hl : (l.length : Int) < 4294967296 := by have := Tabs.body_le l; rw [hb] at this; omega
      have hv : ((word r : Nat) : Int) = (l.length : Int) ↔ r = four (l.length : Int) := word_is hr (by omega) hl
      by_cases c : ((word r : Nat) : Int) = (l.length : Int) ∧ ((word q : Nat) : Int) = Sums.sum (b ++ r)
      · rw [if_pos c, if_pos ⟨hE, e.2 ⟨hv.1 c.1, hw.1 c.2⟩⟩]
      · rw [if_neg c, if_neg fun h => c ⟨hv.2 (e.1 h.2).1, hw.2 (e.1 h.2).2⟩]
    · rw [if_neg hE, if_neg fun h => hE h.1]

end Go.Proofs.YtofaegcljcpceagGreatDoor.TabOpens

/-
  Plain mathematics of keys that rise: two letters for each number, put one behind the other: sixty, and no more.
-/
namespace Go.Proofs.YtofaegcljcpceagGreatDoor.Letters
open Stores

/-- the two letters of a number -/
def ltr (i : Nat) : ByteArray := ⟨#[UInt8.ofNat (97 + i / 26 % 26), UInt8.ofNat (97 + i % 26)]⟩
def bytesOf (i : Nat) : List UInt8 := [UInt8.ofNat (97 + i / 26 % 26), UInt8.ofNat (97 + i % 26)]
theorem ltr_list (i : Nat) : (ltr i).toList = bytesOf i := by rw [ByteArray.toList_eq]; rfl
theorem rise_all : ∀ i : Fin 70, ∀ j : Fin 70, i.val < j.val → less (bytesOf i.val) (bytesOf j.val) = true := by decide +kernel
theorem rise {i j : Nat} (h : i < j) (hj : j < 70) : lt (ltr i) (ltr j) = true := by
  show less _ _ = true
  rw [ltr_list, ltr_list]
  exact rise_all ⟨i, by omega⟩ ⟨j, hj⟩ h
theorem ltr_size (i : Nat) : (ltr i).size = 2 := rfl
def ex : ByteArray := ⟨#[120]⟩
def why : ByteArray := ⟨#[121]⟩
/-- so many of them -/
def L (k : Nat) : List Pair := (List.range k).map fun i => ⟨ltr i, ex, false⟩
theorem L_length (k : Nat) : (L k).length = k := by simp [L]
theorem L_mem {k : Nat} {p : Pair} (h : p ∈ L k) : ∃ i, i < k ∧ p = ⟨ltr i, ex, false⟩ := by
  obtain ⟨i, hi, rfl⟩ := List.mem_map.1 h
  exact ⟨i, List.mem_range.1 hi, rfl⟩
theorem find_new {k j : Nat} (h : k ≤ j) (hj : j < 70) : find (L k) (ltr j) = none := find_none.2 fun p hp => by
  obtain ⟨i, hi, rfl⟩ := L_mem hp
  exact lt_ne (rise (by omega) hj)
theorem key_ok (j : Nat) : keyE (ltr j) = 0 := by
  unfold keyE
  rw [ltr_size]
  rfl
theorem put_new {k : Nat} (h : k < 60) : putE (L k) ⟨ltr k, ex, false⟩ = 0 ∧ putL (L k) ⟨ltr k, ex, false⟩ = L (k + 1) := by
  have h0 : putE (L k) ⟨ltr k, ex, false⟩ = 0 := by
    unfold putE
    simp only
    rw [key_ok, if_neg (by decide), if_neg]
    rintro (q | ⟨_, q⟩)
    · exact absurd q (by decide)
    · rw [L_length] at q
      omega
  refine ⟨h0, ?_⟩
  unfold putL
  rw [if_pos h0, with_end (fun q hq => by obtain ⟨i, hi, rfl⟩ := L_mem hq; exact rise hi (by omega))]
  unfold L
  rw [List.range_succ, List.map_append]
  rfl
theorem put_full {j : Nat} (h : 60 ≤ j) (hj : j < 70) : putE (L 60) ⟨ltr j, ex, false⟩ = 4 ∧ putL (L 60) ⟨ltr j, ex, false⟩ = L 60 := by
  have h0 : putE (L 60) ⟨ltr j, ex, false⟩ = 4 := by
    unfold putE
    simp only
    rw [key_ok, if_neg (by decide), if_pos (.inr ⟨find_new h hj, by rw [L_length]; omega⟩)]
  refine ⟨h0, ?_⟩
  unfold putL
  rw [if_neg (by rw [h0]; decide)]
/-- one step -/
theorem put_step {j : Nat} (hj : j < 70) : putE (L (min j 60)) ⟨ltr j, ex, false⟩ = (if j < 60 then 0 else 4) ∧ putL (L (min j 60)) ⟨ltr j, ex, false⟩ = L (min (j + 1) 60) := by
  by_cases h : j < 60
  · rw [if_pos h, Nat.min_eq_left (by omega), Nat.min_eq_left (by omega)]
    exact put_new h
  · rw [if_neg h, Nat.min_eq_right (by omega), Nat.min_eq_right (by omega)]
    exact put_full (by omega) hj
theorem rising_L {k : Nat} (h : k ≤ 60) : Rising (L k) := by
  unfold Rising L
  rw [List.pairwise_map]
  exact (List.pairwise_lt_range (n := k)).imp_of_mem fun ha hb h1 => rise h1 (by have := List.mem_range.1 hb; omega)
theorem find_old {k i : Nat} (hi : i < k) : find (L k) (ltr i) ≠ none := fun h => find_none.1 h ⟨ltr i, ex, false⟩ (List.mem_map.2 ⟨i, List.mem_range.2 hi, rfl⟩) rfl
/-- what is there can be put anew -/
theorem put_again {k i : Nat} (hi : i < k) (hk : k ≤ 60) : putE (L k) ⟨ltr i, why, false⟩ = 0 ∧ Rising (putL (L k) ⟨ltr i, why, false⟩) ∧ (putL (L k) ⟨ltr i, why, false⟩).length = k ∧ find (putL (L k) ⟨ltr i, why, false⟩) (ltr i) ≠ none := by
  have h0 : putE (L k) ⟨ltr i, why, false⟩ = 0 := by
    unfold putE
    simp only
    rw [key_ok, if_neg (by decide), if_neg]
    rintro (q | ⟨q, _⟩)
    · exact absurd q (by decide)
    · exact find_old hi q
  have hp : putL (L k) ⟨ltr i, why, false⟩ = withP (L k) ⟨ltr i, why, false⟩ := if_pos h0
  rw [hp]
  refine ⟨h0, rising_with _ (rising_L hk), ?_, ?_⟩
  · rw [with_length _ (rising_L hk), if_neg (find_old hi), L_length]
  · rw [find_with_same (L k) ⟨ltr i, why, false⟩]
    exact fun h => by cases h
/-- and dropped -/
theorem drop_again {m : List Pair} {i : Nat} (hr : Rising m) (hf : find m (ltr i) ≠ none) : putE m ⟨ltr i, ⟨#[]⟩, true⟩ = 0 ∧ (putL m ⟨ltr i, ⟨#[]⟩, true⟩).length = m.length ∧ getE (putL m ⟨ltr i, ⟨#[]⟩, true⟩) (ltr i) = 5 := by
  have h0 : putE m ⟨ltr i, ⟨#[]⟩, true⟩ = 0 := by
    unfold putE
    simp only
    rw [key_ok, if_neg (by decide), if_neg]
    rintro (q | ⟨q, _⟩)
    · exact absurd q (by decide)
    · exact hf q
  have hp : putL m ⟨ltr i, ⟨#[]⟩, true⟩ = withP m ⟨ltr i, ⟨#[]⟩, true⟩ := if_pos h0
  rw [hp]
  refine ⟨h0, ?_, ?_⟩
  · rw [with_length _ hr, if_neg hf]
  · unfold getE
    rw [find_with_same m ⟨ltr i, ⟨#[]⟩, true⟩]
    rfl

end Go.Proofs.YtofaegcljcpceagGreatDoor.Letters

/-
  Plain mathematics of levels: young pairs and tables, the youngest first; what one can get of them; that a flush or a merge changes none of it. Nothing of the program is named here.
-/
namespace Go.Proofs.YtofaegcljcpceagGreatDoor.Lsms
open Stores

/-! lists, the youngest first -/
def joinL (a : List Pair) : List Pair → List Pair
  | [] => a
  | p :: l => joinL (if find a p.key = none then withP a p else a) l
def liveA (a : List Pair) : List (List Pair) → List Pair
  | [] => a
  | l :: r => liveA (joinL a l) r
def alive (l : List Pair) : List Pair := l.filter fun p => !p.gone
def live (r : List (List Pair)) : List Pair := alive (liveA [] r)
/-- the youngest that has the key -/
def look : List (List Pair) → ByteArray → Option Pair
  | [], _ => none
  | l :: r, k => (find l k).or (look r k)
theorem find_join : ∀ (l a : List Pair) (k : ByteArray), find (joinL a l) k = (find a k).or (find l k)
  | [], a, k => by rw [joinL, find_nil]; simp
  | p :: l, a, k => by
    rw [joinL, find_join l, find_cons]
    by_cases h : find a p.key = none
    · rw [if_pos h]
      by_cases hk : p.key = k
      · subst hk
        rw [find_with_same, h, if_pos rfl]
        rfl
      · rw [find_with_other a p (fun e => hk e.symm), if_neg hk]
    · rw [if_neg h]
      by_cases hk : p.key = k
      · subst hk
        rw [if_pos rfl]
        cases h2 : find a p.key with
        | none => exact absurd h2 h
        | some q => rfl
      · rw [if_neg hk]
theorem find_live : ∀ (r : List (List Pair)) (a : List Pair) (k : ByteArray), find (liveA a r) k = (find a k).or (look r k)
  | [], a, k => by rw [liveA, look]; simp
  | l :: r, a, k => by rw [liveA, find_live r, find_join, look, Option.or_assoc]
theorem rising_join : ∀ (l a : List Pair), Rising a → Rising (joinL a l)
  | [], _, h => h
  | p :: l, a, h => by
    rw [joinL]
    apply rising_join l
    split
    · exact rising_with p h
    · exact h
theorem rising_live : ∀ (r : List (List Pair)) (a : List Pair), Rising a → Rising (liveA a r)
  | [], _, h => h
  | l :: r, a, h => rising_live r _ (rising_join l a h)
theorem rising_alive {l : List Pair} (h : Rising l) : Rising (alive l) := List.Pairwise.filter _ h
theorem rising_nil : Rising [] := List.Pairwise.nil
/-- of rising pairs: one that is there and alive -/
theorem find_alive : ∀ {l : List Pair}, Rising l → ∀ (k : ByteArray), find (alive l) k = (find l k).filter fun p => !p.gone
  | [], _, k => rfl
  | q :: l, h, k => by
    obtain ⟨h1, h2⟩ := List.pairwise_cons.1 h
    have i := find_alive h2 k
    have hn : q.key = k → find l k = none := fun e => find_none.2 fun x hx => by rw [← e]; exact (lt_ne (h1 x hx)).symm
    rw [find_cons]
    by_cases hg : q.gone = true
    · rw [show alive (q :: l) = alive l by simp [alive, hg], i]
      by_cases hk : q.key = k
      · rw [if_pos hk, hn hk]
        simp [Option.filter, hg]
      · rw [if_neg hk]
    · rw [show alive (q :: l) = q :: alive l by simp [alive, hg], find_cons]
      by_cases hk : q.key = k
      · rw [if_pos hk, if_pos hk]
        simp [Option.filter, hg]
      · rw [if_neg hk, if_neg hk, i]
theorem rising_ext : ∀ {a b : List Pair}, Rising a → Rising b → (∀ k, find a k = find b k) → a = b
  | [], [], _, _, _ => rfl
  | [], q :: b, _, _, h => by
    have := h q.key
    rw [find_nil, find_cons, if_pos rfl] at this
    cases this
  | p :: a, [], _, _, h => by
    have := h p.key
    rw [find_nil, find_cons, if_pos rfl] at this
    cases this
  | p :: a, q :: b, ha, hb, h => by
    obtain ⟨a1, a2⟩ := List.pairwise_cons.1 ha
    obtain ⟨b1, b2⟩ := List.pairwise_cons.1 hb
    have hp := h p.key
    have hq := h q.key
    rw [find_cons, find_cons, if_pos rfl] at hp
    rw [find_cons, find_cons, if_pos rfl] at hq
    have he : p.key = q.key := by
      by_cases e : q.key = p.key
      · exact e.symm
      · rw [if_neg e] at hp
        rw [if_neg (fun x => e x.symm)] at hq
        have m1 : p ∈ b := List.mem_of_find?_eq_some hp.symm
        have m2 : q ∈ a := List.mem_of_find?_eq_some hq
        have l1 := b1 p m1
        have l2 := a1 q m2
        rw [lt_asymm l1] at l2
        cases l2
    rw [if_pos he.symm] at hp
    obtain rfl : p = q := by simpa using hp
    congr 1
    apply rising_ext a2 b2
    intro k
    have hk := h k
    rw [find_cons, find_cons] at hk
    by_cases e : p.key = k
    · subst e
      rw [find_none.2 fun x hx => (lt_ne (a1 x hx)).symm, find_none.2 fun x hx => (lt_ne (b1 x hx)).symm]
    · rw [if_neg e, if_neg e] at hk
      exact hk

theorem join_append : ∀ (l a m : List Pair), joinL a (l ++ m) = joinL (joinL a l) m
  | [], _, _ => rfl
  | p :: l, a, m => by rw [List.cons_append, joinL, joinL, join_append l]
theorem join_next (a l : List Pair) {k : Nat} (hk : k < l.length) : joinL a (l.take (k + 1)) = if find (joinL a (l.take k)) (l[k]).key = none then withP (joinL a (l.take k)) l[k] else joinL a (l.take k) := by
  rw [List.take_succ_eq_append_getElem hk, join_append]
  rfl
theorem live_append : ∀ (r : List (List Pair)) (a : List Pair) (q : List (List Pair)), liveA a (r ++ q) = liveA (liveA a r) q
  | [], _, _ => rfl
  | l :: r, a, q => by rw [List.cons_append, liveA, liveA, live_append r]
theorem live_next (r : List (List Pair)) {i : Nat} (hi : i < r.length) : liveA [] (r.take (i + 1)) = joinL (liveA [] (r.take i)) r[i] := by
  rw [List.take_succ_eq_append_getElem hi, live_append]
  rfl
theorem alive_next {s : List Pair} {j : Nat} (hj : j < s.length) : alive (s.take (j + 1)) = alive (s.take j) ++ (if (s[j]).gone = true then [] else [s[j]]) := by
  rw [List.take_succ_eq_append_getElem hj]
  unfold alive
  rw [List.filter_append]
  congr 1
  by_cases h : (s[j]).gone = true
  · rw [if_pos h]; simp [h]
  · rw [if_neg h]; simp [h]

/-! an lsm -/
structure Lsm where
  limit : Nat
  young : List Pair
  levels : List (List Pair)
def Lsm.lists (x : Lsm) : List (List Pair) := x.young :: x.levels
/-- what one can get of a key -/
def Lsm.val (x : Lsm) (k : ByteArray) : Option Pair := (look x.lists k).filter fun p => !p.gone
def Lsm.all (x : Lsm) : List Pair := live x.lists
theorem live_find (r : List (List Pair)) (k : ByteArray) : find (live r) k = (look r k).filter fun p => !p.gone := by
  unfold live
  rw [find_alive (rising_live r [] rising_nil), find_live, find_nil]
  rfl
theorem live_rising (r : List (List Pair)) : Rising (live r) := rising_alive (rising_live r [] rising_nil)
theorem all_find (x : Lsm) (k : ByteArray) : find x.all k = x.val k := live_find _ k
theorem all_rising (x : Lsm) : Rising x.all := live_rising _
theorem all_eq {x y : Lsm} (h : ∀ k, x.val k = y.val k) : x.all = y.all := rising_ext (all_rising x) (all_rising y) fun k => by rw [all_find, all_find, h]
def mergeV (x : Lsm) : List (List Pair) := if x.levels = [] then [] else if live x.levels = [] then [] else [live x.levels]
def mergeE (x : Lsm) : Nat := if x.levels = [] then 6 else 0
def merged (x : Lsm) : Lsm := { x with levels := mergeV x }
def room (x : Lsm) : List (List Pair) := if 8 ≤ x.levels.length then mergeV x else x.levels
def flushE (x : Lsm) : Nat := if x.young = [] then 6 else 0
def flushed (x : Lsm) : Lsm := if x.young = [] then x else { x with young := [], levels := x.young :: room x }
def putE' (x : Lsm) (p : Pair) : Nat := putE x.young p
def putted (x : Lsm) (p : Pair) : Lsm := if putE x.young p = 0 then (if x.limit ≤ (withP x.young p).length then flushed { x with young := withP x.young p } else { x with young := withP x.young p }) else x
theorem filter_twice {o : Option Pair} : (o.filter fun p => !p.gone).filter (fun p => !p.gone) = o.filter fun p => !p.gone := by
  cases o with
  | none => rfl
  | some p =>
    simp
theorem or_filter {a b c : Option Pair} (h : b.filter (fun p => !p.gone) = c.filter fun p => !p.gone) : (a.or b).filter (fun p => !p.gone) = (a.or c).filter fun p => !p.gone := by
  cases a with
  | none => exact h
  | some p => rfl
theorem look_merge (x : Lsm) (k : ByteArray) : (look (mergeV x) k).filter (fun p => !p.gone) = (look x.levels k).filter fun p => !p.gone := by
  unfold mergeV
  by_cases h : x.levels = []
  · rw [if_pos h, h]
  · rw [if_neg h]
    by_cases h2 : live x.levels = []
    · rw [if_pos h2, look, ← live_find, h2, find_nil]
      rfl
    · rw [if_neg h2, look, look, Option.or_none, live_find, filter_twice]
theorem merge_val (x : Lsm) (k : ByteArray) : (merged x).val k = x.val k := by
  unfold Lsm.val Lsm.lists merged
  rw [look, look]
  exact or_filter (look_merge x k)
theorem flush_val (x : Lsm) (k : ByteArray) : (flushed x).val k = x.val k := by
  unfold flushed
  by_cases h : x.young = []
  · rw [if_pos h]
  · rw [if_neg h]
    unfold Lsm.val Lsm.lists
    simp only
    rw [look, find_nil, Option.none_or, look, look]
    refine or_filter ?_
    unfold room
    split
    · exact look_merge x k
    · rfl
theorem put_val (x : Lsm) (p : Pair) (h : putE x.young p = 0) (k : ByteArray) : (putted x p).val k = if p.key = k then (some p).filter (fun p => !p.gone) else x.val k := by
  have h2 : ({ x with young := withP x.young p } : Lsm).val k = if p.key = k then (some p).filter (fun p => !p.gone) else x.val k := by
    unfold Lsm.val Lsm.lists
    simp only
    rw [look, look]
    by_cases hk : p.key = k
    · subst hk
      rw [find_with_same, if_pos rfl]
      rfl
    · rw [find_with_other _ p (fun e => hk e.symm), if_neg hk]
  unfold putted
  rw [if_pos h]
  split
  · rw [flush_val]
    exact h2
  · exact h2
/-! how many pairs there are at most -/
def total : List (List Pair) → Nat
  | [] => 0
  | l :: r => l.length + total r
def Lsm.size (x : Lsm) : Nat := x.young.length + total x.levels
theorem with_le : ∀ (l : List Pair) (p : Pair), (withP l p).length ≤ l.length + 1
  | [], _ => Nat.le_refl _
  | q :: r, p => by
    have i := with_le r p
    unfold withP
    split
    · simp only [List.length_cons]; omega
    · split
      · simp only [List.length_cons]; omega
      · simp only [List.length_cons]; omega
theorem join_le : ∀ (l a : List Pair), (joinL a l).length ≤ a.length + l.length
  | [], a => Nat.le_refl _
  | p :: l, a => by
    rw [joinL]
    have i := join_le l (if find a p.key = none then withP a p else a)
    have j : (if find a p.key = none then withP a p else a).length ≤ a.length + 1 := by
      split
      · exact with_le a p
      · omega
    simp only [List.length_cons]
    omega
theorem liveA_le : ∀ (r : List (List Pair)) (a : List Pair), (liveA a r).length ≤ a.length + total r
  | [], a => Nat.le_refl _
  | l :: r, a => by
    rw [liveA, total]
    have i := liveA_le r (joinL a l)
    have j := join_le l a
    omega
theorem live_le (r : List (List Pair)) : (live r).length ≤ total r := by
  have h := liveA_le r []
  have h2 := List.length_filter_le (fun p : Pair => !p.gone) (liveA [] r)
  unfold live alive
  simp only [List.length_nil] at h
  omega
theorem merge_le (x : Lsm) : total (mergeV x) ≤ total x.levels := by
  unfold mergeV
  split
  · exact Nat.zero_le _
  · split
    · exact Nat.zero_le _
    · have := live_le x.levels
      simp only [total]
      omega
theorem size_merge (x : Lsm) : (merged x).size ≤ x.size := by
  have := merge_le x
  unfold Lsm.size merged
  simp only
  omega
theorem size_flush (x : Lsm) : (flushed x).size ≤ x.size := by
  unfold flushed
  split
  · exact Nat.le_refl _
  · have h : total (room x) ≤ total x.levels := by
      unfold room
      split
      · exact merge_le x
      · exact Nat.le_refl _
    unfold Lsm.size
    simp only [total, List.length_nil]
    omega
theorem size_put (x : Lsm) (p : Pair) : (putted x p).size ≤ x.size + 1 := by
  have h := with_le x.young p
  have h2 : ({ x with young := withP x.young p } : Lsm).size ≤ x.size + 1 := by
    unfold Lsm.size
    simp only
    omega
  unfold putted
  split
  · split
    · exact Nat.le_trans (size_flush _) h2
    · exact h2
  · omega
/-- what Get answers -/
def getLV (x : Lsm) (k : ByteArray) : ByteArray := ((x.val k).map (·.val)).getD ⟨#[]⟩
def getLE (x : Lsm) (k : ByteArray) : Nat := if (x.val k).isSome = true then 0 else 5
/-- what New refuses -/
def newE (limit : Int) : Nat := if limit < 1 ∨ 60 < limit then 1 else 0
theorem put_same (x : Lsm) (p : Pair) (h : putE x.young p ≠ 0) : putted x p = x := if_neg h

end Go.Proofs.YtofaegcljcpceagGreatDoor.Lsms

/-
  Plain mathematics of LsmMerges: rising keys that are put one by one, flushed and merged, and dropped one by one: one table, or none.
-/
namespace Go.Proofs.YtofaegcljcpceagGreatDoor.LsmLetters
open Stores
open Letters (ltr ltr_size key_ok ltr_list bytesOf)
open Lsms

theorem rise_all : ∀ i : Fin 110, ∀ j : Fin 110, i.val < j.val → less (bytesOf i.val) (bytesOf j.val) = true := by decide +kernel
theorem rise {i j : Nat} (h : i < j) (hj : j < 110) : lt (ltr i) (ltr j) = true := by
  show less _ _ = true
  rw [ltr_list, ltr_list]
  exact rise_all ⟨i, by omega⟩ ⟨j, hj⟩ h
theorem ltr_inj {i j : Nat} (hi : i < 110) (hj : j < 110) (h : ltr i = ltr j) : i = j := by
  rcases Nat.lt_trichotomy i j with q | q | q
  · exact absurd h (lt_ne (rise q hj))
  · exact q
  · exact absurd h.symm (lt_ne (rise q hi))
def vee : ByteArray := ⟨#[118]⟩
def one (i : Nat) : Pair := ⟨ltr i, vee, false⟩
def off (i : Nat) : Pair := ⟨ltr i, ⟨#[]⟩, true⟩
def V (k : Nat) : List Pair := (List.range k).map one
theorem V_length (k : Nat) : (V k).length = k := by simp [V]
theorem V_succ (k : Nat) : V (k + 1) = V k ++ [one k] := by simp [V, List.range_succ]
theorem V_mem {k : Nat} {p : Pair} (h : p ∈ V k) : ∃ i, i < k ∧ p = one i := by
  obtain ⟨i, hi, rfl⟩ := List.mem_map.1 h
  exact ⟨i, List.mem_range.1 hi, rfl⟩
theorem V_rising : ∀ (k : Nat), k ≤ 110 → Rising (V k)
  | 0, _ => rising_nil
  | k + 1, h => by
    rw [V_succ]
    exact List.pairwise_append.2 ⟨V_rising k (by omega), List.pairwise_singleton _ _, fun p hp q hq => by
      obtain ⟨i, hi, rfl⟩ := V_mem hp
      rw [List.mem_singleton.1 hq]
      exact rise hi (by omega)⟩
theorem find_end (l : List Pair) (p : Pair) (k : ByteArray) : find (l ++ [p]) k = (find l k).or (if p.key = k then some p else none) := by
  unfold find
  rw [List.find?_append]
  congr 1
  by_cases h : p.key = k
  · rw [if_pos h]; simp [h]
  · rw [if_neg h]; simp [h]
theorem V_find : ∀ (k : Nat), k ≤ 110 → ∀ j, j < 110 → find (V k) (ltr j) = if j < k then some (one j) else none
  | 0, _, j, _ => rfl
  | k + 1, h, j, hj => by
    rw [V_succ, find_end, V_find k (by omega) j hj, show (one k).key = ltr k from rfl]
    by_cases h1 : j < k
    · rw [if_pos h1, show (if j < k + 1 then some (one j) else none) = some (one j) from if_pos (by omega)]
      rfl
    · rw [if_neg h1, Option.none_or]
      by_cases h2 : ltr k = ltr j
      · have := ltr_inj (by omega) hj h2
        subst this
        rw [if_pos rfl, if_pos (by omega)]
      · rw [if_neg h2, if_neg]
        intro h3
        have : j = k := by omega
        subst this
        exact h2 rfl

/-! what an lsm never leaves -/
structure Good (x : Lsm) : Prop where
  low : 1 ≤ x.limit
  high : x.limit ≤ 60
  small : x.young.length < x.limit
  few : x.levels.length ≤ 8
theorem merge_few (x : Lsm) : (mergeV x).length ≤ 1 := by
  unfold mergeV
  split
  · exact Nat.zero_le _
  · split
    · exact Nat.zero_le _
    · exact Nat.le_refl _
theorem room_few (x : Lsm) : (room x).length ≤ 7 := by
  unfold room
  split
  · have := merge_few x
    omega
  · omega
theorem good_flush {x : Lsm} (h : Good x) : Good (flushed x) := by
  unfold flushed
  split
  · exact h
  · exact ⟨h.low, h.high, by have := h.low; show 0 < x.limit; omega, by have := room_few x; show (x.young :: room x).length ≤ 8; rw [List.length_cons]; omega⟩
theorem good_merge {x : Lsm} (h : Good x) : Good (merged x) := ⟨h.low, h.high, h.small, by have := merge_few x; show (mergeV x).length ≤ 8; omega⟩
theorem good_put {x : Lsm} (h : Good x) (p : Pair) : Good (putted x p) := by
  unfold putted
  split
  · split
    · unfold flushed
      split
      · rename_i h2
        simp only at h2
        exact ⟨h.low, h.high, by show (withP x.young p).length < x.limit; rw [h2]; have := h.low; simp; omega, h.few⟩
      · exact ⟨h.low, h.high, by have := h.low; show 0 < x.limit; omega, by have := room_few { x with young := withP x.young p }; show (withP x.young p :: room { x with young := withP x.young p }).length ≤ 8; rw [List.length_cons]; omega⟩
    · rename_i h2
      exact ⟨h.low, h.high, by show (withP x.young p).length < x.limit; omega, h.few⟩
  · exact h
theorem put_fine {x : Lsm} (h : Good x) {p : Pair} (hk : keyE p.key = 0) (hv : p.val.size ≤ 200) : putE x.young p = 0 := by
  unfold putE
  rw [hk, if_neg (by decide), if_neg]
  rintro (q | ⟨_, q⟩)
  · omega
  · have := h.high
    have := h.small
    omega
theorem limit_flush (x : Lsm) : (flushed x).limit = x.limit := by unfold flushed; split <;> rfl
/-- tables there are, once there was one -/
theorem levels_flush {x : Lsm} (h : x.levels ≠ []) : (flushed x).levels ≠ [] := by
  unfold flushed
  split
  · exact h
  · exact List.cons_ne_nil _ _
theorem levels_put {x : Lsm} (p : Pair) (h : x.levels ≠ []) : (putted x p).levels ≠ [] := by
  unfold putted
  split
  · split
    · exact levels_flush (x := { x with young := withP x.young p }) h
    · exact h
  · exact h
theorem young_flush (x : Lsm) : (flushed x).young = [] := by
  unfold flushed
  split
  · assumption
  · rfl

/-! the law's own -/
def X0 (limit : Nat) : Lsm := ⟨limit, [], []⟩
def X1 (limit : Nat) : Nat → Lsm
  | 0 => X0 limit
  | k + 1 => putted (X1 limit k) (one k)
def Y0 (limit n : Nat) : Lsm := merged (flushed (X1 limit n))
def X2 (limit n : Nat) : Nat → Lsm
  | 0 => Y0 limit n
  | k + 1 => putted (X2 limit n k) (off k)
theorem good1 {limit : Nat} (h1 : 1 ≤ limit) (h2 : limit ≤ 60) : ∀ k, Good (X1 limit k)
  | 0 => ⟨h1, h2, by show 0 < limit; omega, Nat.zero_le _⟩
  | k + 1 => good_put (good1 h1 h2 k) _
theorem good2 {limit : Nat} (h1 : 1 ≤ limit) (h2 : limit ≤ 60) (n : Nat) : ∀ k, Good (X2 limit n k)
  | 0 => good_merge (good_flush (good1 h1 h2 n))
  | k + 1 => good_put (good2 h1 h2 n k) _
theorem ok1 {limit : Nat} (h1 : 1 ≤ limit) (h2 : limit ≤ 60) (k : Nat) : putE (X1 limit k).young (one k) = 0 := put_fine (good1 h1 h2 k) (key_ok k) (by show vee.size ≤ 200; decide)
theorem ok2 {limit : Nat} (h1 : 1 ≤ limit) (h2 : limit ≤ 60) (n k : Nat) : putE (X2 limit n k).young (off k) = 0 := put_fine (good2 h1 h2 n k) (key_ok k) (by show (⟨#[]⟩ : ByteArray).size ≤ 200; decide)
theorem size1 (limit : Nat) : ∀ k, (X1 limit k).size ≤ k
  | 0 => Nat.le_refl _
  | k + 1 => by
    have := size1 limit k
    have := size_put (X1 limit k) (one k)
    rw [X1]
    omega
theorem size2 (limit n : Nat) : ∀ k, (X2 limit n k).size ≤ n + k
  | 0 => by
    have := size1 limit n
    have := size_flush (X1 limit n)
    have := size_merge (flushed (X1 limit n))
    show (Y0 limit n).size ≤ _
    unfold Y0
    omega
  | k + 1 => by
    have := size2 limit n k
    have := size_put (X2 limit n k) (off k)
    rw [X2]
    omega
theorem val1 {limit : Nat} (h1 : 1 ≤ limit) (h2 : limit ≤ 60) : ∀ (k : Nat), k ≤ 100 → ∀ q, (X1 limit k).val q = find (V k) q
  | 0, _, q => rfl
  | k + 1, h, q => by
    rw [X1, put_val _ _ (ok1 h1 h2 k), val1 h1 h2 k (by omega), V_succ, find_end, show (one k).key = ltr k from rfl]
    by_cases e : ltr k = q
    · subst e
      rw [if_pos rfl, if_pos rfl, V_find k (by omega) k (by omega), if_neg (by omega)]
      rfl
    · rw [if_neg e, if_neg e, Option.or_none]
theorem all1 {limit n : Nat} (h1 : 1 ≤ limit) (h2 : limit ≤ 60) (h : n ≤ 100) : (flushed (X1 limit n)).all = V n ∧ (Y0 limit n).all = V n :=
  ⟨rising_ext (all_rising _) (V_rising n (by omega)) fun k => by rw [all_find, flush_val, val1 h1 h2 n h],
   rising_ext (all_rising _) (V_rising n (by omega)) fun k => by rw [all_find, Y0, merge_val, flush_val, val1 h1 h2 n h]⟩
/-- young ones alone are told of -/
theorem all_young {x : Lsm} (h : x.young = []) : x.all = live x.levels := by
  unfold Lsm.all Lsm.lists live
  rw [h]
  rfl
theorem merge1 {limit n : Nat} (h1 : 1 ≤ limit) (h2 : limit ≤ 60) (h : n ≤ 100) : mergeE (flushed (X1 limit n)) = (if n = 0 then 6 else 0) ∧ (n ≠ 0 → (Y0 limit n).levels = [V n]) := by
  have hy := young_flush (X1 limit n)
  have ha := all_young hy
  rw [(all1 h1 h2 h).1] at ha
  by_cases hn : n = 0
  · subst hn
    exact ⟨rfl, fun q => absurd rfl q⟩
  · have hne : V n ≠ [] := fun e => hn (by rw [← V_length n, e]; rfl)
    have hl : (flushed (X1 limit n)).levels ≠ [] := fun e => hne (by rw [ha, e]; rfl)
    refine ⟨by rw [if_neg hn]; exact if_neg hl, fun _ => ?_⟩
    show mergeV _ = _
    unfold mergeV
    rw [if_neg hl, ← ha, if_neg hne]
theorem levels2 {limit n : Nat} (h1 : 1 ≤ limit) (h2 : limit ≤ 60) (h : n ≤ 100) (hn : n ≠ 0) : ∀ k, (X2 limit n k).levels ≠ []
  | 0 => by rw [X2, (merge1 h1 h2 h).2 hn]; exact List.cons_ne_nil _ _
  | k + 1 => levels_put _ (levels2 h1 h2 h hn k)
theorem val2 {limit n : Nat} (h1 : 1 ≤ limit) (h2 : limit ≤ 60) (h : n ≤ 100) : ∀ (k : Nat) q, (X2 limit n k).val q = if (∃ i, i < k ∧ ltr i = q) then none else find (V n) q
  | 0, q => by
    rw [if_neg (by rintro ⟨i, hi, _⟩; omega), X2, Y0, merge_val, flush_val, val1 h1 h2 n h]
  | k + 1, q => by
    rw [X2, put_val _ _ (ok2 h1 h2 n k), val2 h1 h2 h k, show (off k).key = ltr k from rfl]
    by_cases e : ltr k = q
    · rw [if_pos e, if_pos ⟨k, by omega, e⟩]
      rfl
    · rw [if_neg e]
      by_cases e2 : ∃ i, i < k ∧ ltr i = q
      · rw [if_pos e2, if_pos (by obtain ⟨i, hi, hq⟩ := e2; exact ⟨i, by omega, hq⟩)]
      · rw [if_neg e2, if_neg]
        rintro ⟨i, hi, hq⟩
        by_cases e3 : i = k
        · exact e (by rw [← e3]; exact hq)
        · exact e2 ⟨i, by omega, hq⟩
theorem end2 {limit n : Nat} (h1 : 1 ≤ limit) (h2 : limit ≤ 60) (h : n ≤ 100) (hn : n ≠ 0) :
    mergeE (flushed (X2 limit n n)) = 0 ∧ (merged (flushed (X2 limit n n))).levels = [] ∧ (merged (flushed (X2 limit n n))).all = [] := by
  have hl := levels_flush (levels2 h1 h2 h hn n)
  have hv : ∀ q, (X2 limit n n).val q = none := fun q => by
    rw [val2 h1 h2 h]
    split
    · rfl
    · rename_i h3
      refine find_none.2 fun p hp e => h3 ?_
      obtain ⟨i, hi, rfl⟩ := V_mem hp
      exact ⟨i, hi, e⟩
  have ha : ∀ x : Lsm, (∀ q, x.val q = none) → x.all = [] := fun x hx => rising_ext (all_rising x) rising_nil fun k => by rw [all_find, hx]; rfl
  have h3 : (flushed (X2 limit n n)).all = [] := ha _ fun q => by rw [flush_val, hv]
  refine ⟨if_neg hl, ?_, ha _ fun q => by rw [merge_val, flush_val, hv]⟩
  rw [all_young (young_flush _)] at h3
  show mergeV _ = _
  unfold mergeV
  rw [if_neg hl, if_pos h3]

end Go.Proofs.YtofaegcljcpceagGreatDoor.LsmLetters

/-
  Plain mathematics of LsmPlays: what an lsm never leaves, whatever is put, flushed and merged: its levels can be written as tables.
-/
namespace Go.Proofs.YtofaegcljcpceagGreatDoor.LsmFines
open Stores
open Lsms
open Tabs (pairsE pairsF fault)
open LsmLetters (good_put good_flush good_merge)

/-- a pair that a table takes -/
def Ok (p : Pair) : Prop := keyE p.key = 0 ∧ p.val.size ≤ 200 ∧ (p.gone = true → p.val.size = 0)
theorem pairsF_of : ∀ (l : List Pair) (q : Option ByteArray), Rising l → (∀ p ∈ l, Ok p) → (∀ k, q = some k → ∀ p ∈ l, lt k p.key = true) → pairsF q l = 0
  | [], _, _, _, _ => rfl
  | p :: l, q, hr, ho, hq => by
    obtain ⟨h1, h2⟩ := List.pairwise_cons.1 hr
    obtain ⟨o1, o2, o3⟩ := ho p (List.mem_cons_self ..)
    have hf : fault q p = 0 := by
      unfold fault
      rw [if_neg (by rw [o1]; exact fun g => g rfl), if_neg (by omega), if_neg (by rintro ⟨g, e⟩; exact e (o3 g))]
      cases q with
      | none => rfl
      | some k => exact if_pos (hq k rfl p (List.mem_cons_self ..))
    rw [pairsF, if_neg (by rw [hf]; exact fun g => g rfl)]
    exact pairsF_of l (some p.key) h2 (fun y hy => ho y (List.mem_cons_of_mem _ hy)) fun k e y hy => by
      obtain rfl : p.key = k := by simpa using e
      exact h1 y hy
theorem pairs_of {l : List Pair} (hr : Rising l) (ho : ∀ p ∈ l, Ok p) : pairsE l = 0 := pairsF_of l none hr ho fun k e => by cases e
theorem mem_join : ∀ (l a : List Pair) (y : Pair), y ∈ joinL a l → y ∈ a ∨ y ∈ l
  | [], a, y, h => .inl h
  | p :: l, a, y, h => by
    rw [joinL] at h
    rcases mem_join l _ y h with h | h
    · split at h
      · rcases mem_with a p y h with rfl | h
        · exact .inr (List.mem_cons_self ..)
        · exact .inl h
      · exact .inl h
    · exact .inr (List.mem_cons_of_mem _ h)
theorem mem_liveA : ∀ (r : List (List Pair)) (a : List Pair) (y : Pair), y ∈ liveA a r → y ∈ a ∨ ∃ l ∈ r, y ∈ l
  | [], a, y, h => .inl h
  | l :: r, a, y, h => by
    rcases mem_liveA r _ y h with h | ⟨m, hm, hy⟩
    · rcases mem_join l a y h with h | h
      · exact .inl h
      · exact .inr ⟨l, List.mem_cons_self .., h⟩
    · exact .inr ⟨m, List.mem_cons_of_mem _ hm, hy⟩
theorem mem_live {r : List (List Pair)} {y : Pair} (h : y ∈ live r) : ∃ l ∈ r, y ∈ l := by
  rcases mem_liveA r [] y (List.mem_filter.1 h).1 with h | h
  · cases h
  · exact h
/-- after so many puts -/
structure Fine (m : Nat) (x : Lsm) (i : Nat) : Prop where
  limit : x.limit = m
  good : LsmLetters.Good x
  size : x.size ≤ i
  young : Rising x.young ∧ ∀ p ∈ x.young, Ok p
  levels : ∀ l ∈ x.levels, Rising l ∧ ∀ p ∈ l, Ok p
theorem Fine.start {m : Nat} (h1 : 1 ≤ m) (h2 : m ≤ 60) : Fine m ⟨m, [], []⟩ 0 := ⟨rfl, ⟨h1, h2, by show 0 < m; omega, Nat.zero_le _⟩, Nat.le_refl _, ⟨rising_nil, fun p hp => by cases hp⟩, fun l hl => by cases hl⟩
theorem Fine.more {m i : Nat} {x : Lsm} (h : Fine m x i) : Fine m x (i + 1) := ⟨h.limit, h.good, by have := h.size; omega, h.young, h.levels⟩
theorem mergeV_fine {x : Lsm} (h : ∀ l ∈ x.levels, Rising l ∧ ∀ p ∈ l, Ok p) : ∀ l ∈ mergeV x, Rising l ∧ ∀ p ∈ l, Ok p := by
  intro l hl
  unfold mergeV at hl
  split at hl
  · cases hl
  · split at hl
    · cases hl
    · rw [List.mem_singleton.1 hl]
      refine ⟨live_rising _, fun p hp => ?_⟩
      obtain ⟨q, hq, hpq⟩ := mem_live hp
      exact (h q hq).2 p hpq
theorem Fine.merge {m i : Nat} {x : Lsm} (h : Fine m x i) : Fine m (merged x) i := ⟨h.limit, good_merge h.good, Nat.le_trans (size_merge x) h.size, h.young, mergeV_fine h.levels⟩
theorem flush_limit (x : Lsm) : (flushed x).limit = x.limit := by unfold flushed; split <;> rfl
theorem room_fine {x : Lsm} (h : ∀ l ∈ x.levels, Rising l ∧ ∀ p ∈ l, Ok p) : ∀ l ∈ room x, Rising l ∧ ∀ p ∈ l, Ok p := by
  unfold room
  split
  · exact mergeV_fine h
  · exact h
theorem Fine.flush {m i : Nat} {x : Lsm} (h : Fine m x i) : Fine m (flushed x) i := by
  refine ⟨by rw [flush_limit]; exact h.limit, good_flush h.good, Nat.le_trans (size_flush x) h.size, ?_, ?_⟩
  · unfold flushed
    split
    · exact h.young
    · exact ⟨rising_nil, fun p hp => by cases hp⟩
  · unfold flushed
    split
    · exact h.levels
    · intro l hl
      rcases List.mem_cons.1 hl with rfl | hl
      · exact h.young
      · exact room_fine h.levels l hl
theorem Fine.put {m i : Nat} {x : Lsm} (h : Fine m x i) (p : Pair) (hg : p.gone = true → p.val.size = 0) : Fine m (putted x p) (i + 1) := by
  by_cases h0 : putE x.young p = 0
  · have hok : Ok p := by
      have h1 := put_ok h0
      refine ⟨?_, h1.2.2.1, hg⟩
      unfold keyE
      rw [if_neg (by omega), if_neg (by omega)]
    have hy : Rising (withP x.young p) ∧ ∀ q ∈ withP x.young p, Ok q := ⟨rising_with p h.young.1, fun q hq => by
      rcases mem_with _ _ _ hq with rfl | hq
      · exact hok
      · exact h.young.2 q hq⟩
    refine ⟨?_, good_put h.good p, by have := size_put x p; have := h.size; omega, ?_, ?_⟩
    · unfold putted
      rw [if_pos h0]
      split
      · rw [flush_limit]; exact h.limit
      · exact h.limit
    · unfold putted
      rw [if_pos h0]
      split
      · unfold flushed
        split
        · exact hy
        · exact ⟨rising_nil, fun p hp => by cases hp⟩
      · exact hy
    · unfold putted
      rw [if_pos h0]
      split
      · unfold flushed
        split
        · exact h.levels
        · intro l hl
          rcases List.mem_cons.1 hl with rfl | hl
          · exact hy
          · exact room_fine (x := { x with young := withP x.young p }) h.levels l hl
      · exact h.levels
  · rw [put_same x p h0]
    exact h.more
theorem total_mem : ∀ {r : List (List Pair)} {l : List Pair}, l ∈ r → l.length ≤ total r
  | a :: r, l, h => by
    rcases List.mem_cons.1 h with rfl | h
    · simp [total]
    · have := total_mem h
      simp only [total]
      omega
/-- what the tables want -/
theorem Fine.tabs {m i : Nat} {x : Lsm} (h : Fine m x i) : ∀ l ∈ x.levels, pairsE l = 0 ∧ l.length ≤ i := fun l hl =>
  ⟨pairs_of (h.levels l hl).1 (h.levels l hl).2, by
    have h1 := total_mem hl
    have h2 := h.size
    unfold Lsm.size at h2
    omega⟩
/-- what is there of a key, by the list of all -/
theorem all_get (x : Lsm) (k : ByteArray) : getE x.all k = getLE x k ∧ getV x.all k = getLV x k := by
  have hf := all_find x k
  unfold getE getV getLE getLV
  rw [hf]
  unfold Lsm.val
  cases Lsms.look x.lists k with
  | none => exact ⟨rfl, rfl⟩
  | some p =>
    obtain ⟨a, b, g⟩ := p
    cases g <;> exact ⟨rfl, rfl⟩

end Go.Proofs.YtofaegcljcpceagGreatDoor.LsmFines

/-
  Plain mathematics of a stable sort: pairs by key, of one key in the order in which they were; by insertion, by merging in place, block by block. Nothing of the program is named here.
-/
namespace Go.Proofs.YtofaegcljcpceagGreatDoor.Stables
open Stores (Pair lt find Rising)

/-- none is above one behind it -/
def Sorted (l : List Pair) : Prop := l.Pairwise fun p q => lt q.key p.key = false
/-- those of one key -/
def keyed (k : ByteArray) (l : List Pair) : List Pair := l.filter fun p => decide (p.key = k)
/-- the same ones, those of one key in one order -/
def Same (a b : List Pair) : Prop := a.length = b.length ∧ ∀ k, keyed k a = keyed k b

theorem Same.refl (a : List Pair) : Same a a := ⟨rfl, fun _ => rfl⟩
theorem Same.trans {a b c : List Pair} (h : Same a b) (k : Same b c) : Same a c := ⟨h.1.trans k.1, fun x => (h.2 x).trans (k.2 x)⟩
theorem Same.symm {a b : List Pair} (h : Same a b) : Same b a := ⟨h.1.symm, fun x => (h.2 x).symm⟩
theorem keyed_append (k : ByteArray) (a b : List Pair) : keyed k (a ++ b) = keyed k a ++ keyed k b := List.filter_append ..
theorem Same.append {a b c d : List Pair} (h : Same a b) (k : Same c d) : Same (a ++ c) (b ++ d) :=
  ⟨by rw [List.length_append, List.length_append, h.1, k.1], fun x => by rw [keyed_append, keyed_append, h.2, k.2]⟩
theorem mem_keyed {k : ByteArray} {l : List Pair} {p : Pair} : p ∈ keyed k l ↔ p ∈ l ∧ p.key = k := by simp [keyed]
theorem Same.mem {a b : List Pair} (h : Same a b) {p : Pair} (hp : p ∈ b) : p ∈ a := by
  have h1 : p ∈ keyed p.key b := mem_keyed.2 ⟨hp, rfl⟩
  rw [← h.2] at h1
  exact (mem_keyed.1 h1).1
theorem find_keyed (l : List Pair) (k : ByteArray) : find l k = (keyed k l).head? := by
  unfold find keyed
  exact (List.head?_filter ..).symm
theorem Same.find {a b : List Pair} (h : Same a b) (k : ByteArray) : find a k = find b k := by rw [find_keyed, find_keyed, h.2]
/-- two parts of other keys may change places -/
theorem same_swap {x y : List Pair} (h : ∀ p ∈ x, ∀ q ∈ y, lt q.key p.key = true) : Same (x ++ y) (y ++ x) := by
  refine ⟨by rw [List.length_append, List.length_append, Nat.add_comm], fun k => ?_⟩
  rw [keyed_append, keyed_append]
  by_cases hx : keyed k x = []
  · rw [hx, List.nil_append, List.append_nil]
  · have hy : keyed k y = [] := by
      rw [List.eq_nil_iff_forall_not_mem]
      intro q hq
      obtain ⟨p, hp⟩ := List.exists_mem_of_ne_nil _ hx
      have h1 := mem_keyed.1 hp
      have h2 := mem_keyed.1 hq
      have h3 := h p h1.1 q h2.1
      rw [h1.2, h2.2, Stores.lt_irrefl] at h3
      cases h3
    rw [hy, List.nil_append, List.append_nil]
theorem sorted_append {a b : List Pair} : Sorted (a ++ b) ↔ Sorted a ∧ Sorted b ∧ ∀ p ∈ a, ∀ q ∈ b, lt q.key p.key = false := List.pairwise_append
theorem sorted_nil : Sorted [] := List.Pairwise.nil
theorem sorted_one (p : Pair) : Sorted [p] := List.pairwise_singleton ..
theorem sorted_at {l : List Pair} (h : Sorted l) {i j : Nat} (hi : i < l.length) (hj : j < l.length) (hij : i ≤ j) : lt (l[j]).key (l[i]).key = false := by
  rcases Nat.lt_or_eq_of_le hij with h1 | rfl
  · exact List.pairwise_iff_getElem.1 h i j hi hj h1
  · exact Stores.lt_irrefl _
theorem le_of_lt {a b : ByteArray} (h : lt a b = true) : lt b a = false := Stores.lt_asymm h
theorem lt_of_le_of_lt {a b c : ByteArray} (h : lt b a = false) (h2 : lt b c = true) : lt a c = true := by
  cases h3 : lt a c with
  | true => rfl
  | false =>
    have := Stores.le_trans h3 h
    rw [h2] at this
    cases this

/-- from a to b the pairs have become sorted ones, of one key in one order; all else is as it was -/
def Sorts (a b : Nat) (d d' : List Pair) : Prop := ∃ A D Z R, d = A ++ (D ++ R) ∧ d' = A ++ (Z ++ R) ∧ A.length = a ∧ a + D.length = b ∧ Sorted Z ∧ Same D Z
theorem Sorts.same {a b : Nat} {d d' : List Pair} (h : Sorts a b d d') : Same d d' := by
  obtain ⟨A, D, Z, R, rfl, rfl, _, _, _, hs⟩ := h
  exact (Same.refl A).append (hs.append (Same.refl R))
theorem Sorts.length {a b : Nat} {d d' : List Pair} (h : Sorts a b d d') : d'.length = d.length := h.same.1.symm
/-- one alone, or none, is sorted -/
theorem sorts_start {a b : Nat} {d : List Pair} (hb : b ≤ d.length) (hab : a ≤ b) (h1 : b ≤ a + 1) : Sorts a b d d := by
  refine ⟨d.take a, (d.drop a).take (b - a), (d.drop a).take (b - a), (d.drop a).drop (b - a), by rw [List.take_append_drop, List.take_append_drop], by rw [List.take_append_drop, List.take_append_drop], by rw [List.length_take]; omega, ?_, ?_, Same.refl _⟩
  · rw [List.length_take, List.length_drop]; omega
  · have hl : ((d.drop a).take (b - a)).length ≤ 1 := by rw [List.length_take]; omega
    generalize (d.drop a).take (b - a) = l at hl
    match l, hl with
    | [], _ => exact sorted_nil
    | [p], _ => exact sorted_one p

/-! two that change places -/
theorem set_two {U V M : List Pair} {p q : Pair} {i j : Nat} (hi : U.length = i) (hj : i + 1 + M.length = j) : ((U ++ p :: (M ++ q :: V)).set i q).set j p = U ++ q :: (M ++ p :: V) := by
  subst hi
  subst hj
  rw [List.set_append_right _ _ (Nat.le_refl _), Nat.sub_self, List.set_cons_zero, List.set_append_right _ _ (by omega), show U.length + 1 + M.length - U.length = M.length + 1 by omega, List.set_cons_succ, List.set_append_right _ _ (Nat.le_refl _), Nat.sub_self, List.set_cons_zero]
theorem at_first {U V M : List Pair} {p q : Pair} {i : Nat} (hi : U.length = i) : (U ++ p :: (M ++ q :: V))[i]? = some p := by
  subst hi
  rw [List.getElem?_append_right (Nat.le_refl _), Nat.sub_self]
  rfl
theorem at_second {U V M : List Pair} {p q : Pair} {i j : Nat} (hi : U.length = i) (hj : i + 1 + M.length = j) : (U ++ p :: (M ++ q :: V))[j]? = some q := by
  subst hi
  subst hj
  rw [List.getElem?_append_right (by omega), show U.length + 1 + M.length - U.length = M.length + 1 by omega, List.getElem?_cons_succ, List.getElem?_append_right (Nat.le_refl _), Nat.sub_self]
  rfl

/-! insertion: one goes down among those that are sorted -/
/-- the pair that came from i stands at j; those from j on are above it -/
def Sinks (a i j : Nat) (d d' : List Pair) : Prop := ∃ A D Y x Z R, d = A ++ (D ++ R) ∧ d' = A ++ (Y ++ (x :: (Z ++ R))) ∧ A.length = a ∧ a + D.length = i + 1 ∧ a + Y.length = j ∧ j + Z.length = i ∧ Sorted (Y ++ Z) ∧ (∀ z ∈ Z, lt x.key z.key = true) ∧ Same D (Y ++ (x :: Z))
theorem Sinks.length {a i j : Nat} {d d' : List Pair} (h : Sinks a i j d d') : d'.length = d.length := by
  obtain ⟨A, D, Y, x, Z, R, rfl, rfl, _, _, _, _, _, _, hs⟩ := h
  have := hs.1
  simp only [List.length_append, List.length_cons] at this ⊢
  omega
theorem sinks_start {a i : Nat} {d d' : List Pair} (h : Sorts a i d d') (hi : i < d.length) : Sinks a i i d d' := by
  have hl := h.length
  obtain ⟨A, D, Z, R, rfl, rfl, hA, hD, hZ, hs⟩ := h
  have hsl := hs.1
  cases R with
  | nil => simp only [List.length_append, List.length_nil] at hi; omega
  | cons x R =>
    refine ⟨A, D ++ [x], Z, x, [], R, by simp, by simp, hA, by simp; omega, by omega, rfl, by simpa using hZ, (fun z hz => by cases hz), hs.append (Same.refl [x])⟩
/-- it changes places with the one ahead of it, which is above it -/
theorem sinks_step {a i j : Nat} {d d' : List Pair} (h : Sinks a i j d d') (hj : a < j) {p q : Pair} (hp : d'[j - 1]? = some p) (hq : d'[j]? = some q) (hlt : lt q.key p.key = true) : Sinks a i (j - 1) d ((d'.set (j - 1) q).set j p) := by
  obtain ⟨A, D, Y, x, Z, R, rfl, rfl, hA, hD, hY, hZ, hs, hz, hsame⟩ := h
  have hne : Y ≠ [] := fun e => by subst e; simp at hY; omega
  obtain ⟨Y, y, rfl⟩ : ∃ Y' y, Y = Y' ++ [y] := ⟨Y.dropLast, Y.getLast hne, (List.dropLast_concat_getLast hne).symm⟩
  simp only [List.length_append, List.length_cons, List.length_nil] at hY
  have e : A ++ (Y ++ [y] ++ x :: (Z ++ R)) = (A ++ Y) ++ y :: ([] ++ x :: (Z ++ R)) := by simp
  rw [e] at hp hq ⊢
  have hl : (A ++ Y).length = j - 1 := by rw [List.length_append]; omega
  rw [at_first hl] at hp
  rw [at_second hl (by simp; omega)] at hq
  obtain rfl : y = p := Option.some.inj hp
  obtain rfl : x = q := Option.some.inj hq
  rw [set_two hl (by simp; omega)]
  refine ⟨A, D, Y, x, y :: Z, R, rfl, by simp, hA, hD, by omega, by simp; omega, by simpa using hs, fun z hzz => ?_, hsame.trans ?_⟩
  · rcases List.mem_cons.1 hzz with rfl | hzz
    · exact hlt
    · exact hz z hzz
  · have h1 : Same (Y ++ ([y] ++ [x]) ++ Z) (Y ++ ([x] ++ [y]) ++ Z) := ((Same.refl Y).append (same_swap (x := [y]) (y := [x]) (by intro p hp q hq; rw [List.mem_singleton.1 hp, List.mem_singleton.1 hq]; exact hlt))).append (Same.refl Z)
    simpa using h1
theorem sinks_end {a i j : Nat} {d d' : List Pair} (h : Sinks a i j d d') (hj : j = a ∨ ∃ p q, d'[j - 1]? = some p ∧ d'[j]? = some q ∧ lt q.key p.key = false) : Sorts a (i + 1) d d' := by
  obtain ⟨A, D, Y, x, Z, R, rfl, rfl, hA, hD, hY, hZ, hs, hz, hsame⟩ := h
  obtain ⟨s1, s2, s3⟩ := sorted_append.1 hs
  refine ⟨A, D, Y ++ x :: Z, R, rfl, by simp, hA, hD, ?_, hsame⟩
  refine sorted_append.2 ⟨s1, List.pairwise_cons.2 ⟨fun z hzz => le_of_lt (hz z hzz), s2⟩, fun p hp q hq => ?_⟩
  rcases List.mem_cons.1 hq with rfl | hq
  rotate_left
  · exact s3 p hp q hq
  · rcases hj with rfl | ⟨p', q', h1, h2, h3⟩
    · have : Y = [] := List.length_eq_zero_iff.1 (by omega)
      subst this
      cases hp
    · have hne : Y ≠ [] := fun e => by subst e; cases hp
      obtain ⟨Y, y, rfl⟩ : ∃ Y' y, Y = Y' ++ [y] := ⟨Y.dropLast, Y.getLast hne, (List.dropLast_concat_getLast hne).symm⟩
      simp only [List.length_append, List.length_cons, List.length_nil] at hY
      have e : A ++ (Y ++ [y] ++ q :: (Z ++ R)) = (A ++ Y) ++ y :: ([] ++ q :: (Z ++ R)) := by simp
      rw [e] at h1 h2
      have hl : (A ++ Y).length = j - 1 := by rw [List.length_append]; omega
      rw [at_first hl] at h1
      rw [at_second hl (by simp; omega)] at h2
      obtain rfl : y = p' := Option.some.inj h1
      obtain rfl : q = q' := Option.some.inj h2
      rcases List.mem_append.1 hp with hp | hp
      · exact Stores.le_trans ((sorted_append.1 s1).2.2 p hp y (List.mem_singleton.2 rfl)) h3
      · rw [List.mem_singleton.1 hp]
        exact h3

/-! ranges that change places -/
/-- n from a on have changed places with n from b on, the first k of them so far -/
def Swaps (a b n k : Nat) (d d' : List Pair) : Prop := ∃ U P1 P2 M Q1 Q2 V, d = U ++ (P1 ++ (P2 ++ (M ++ (Q1 ++ (Q2 ++ V))))) ∧ d' = U ++ (Q1 ++ (P2 ++ (M ++ (P1 ++ (Q2 ++ V))))) ∧ U.length = a ∧ P1.length = k ∧ Q1.length = k ∧ k + P2.length = n ∧ k + Q2.length = n ∧ a + n + M.length = b
theorem Swaps.length {a b n k : Nat} {d d' : List Pair} (h : Swaps a b n k d d') : d'.length = d.length := by
  obtain ⟨U, P1, P2, M, Q1, Q2, V, rfl, rfl, h1, h2, h3, h4, h5, h6⟩ := h
  simp only [List.length_append]
  omega
theorem swaps_start {a b n : Nat} {d : List Pair} (h : a + n ≤ b) (hb : b + n ≤ d.length) : Swaps a b n 0 d d := by
  refine ⟨d.take a, [], (d.drop a).take n, (d.drop (a + n)).take (b - (a + n)), [], (d.drop b).take n, d.drop (b + n), ?_, ?_, by rw [List.length_take]; omega, rfl, rfl, by rw [List.length_take, List.length_drop]; omega, by rw [List.length_take, List.length_drop]; omega, by rw [List.length_take, List.length_drop]; omega⟩
  all_goals
    simp only [List.nil_append]
    have e1 : (d.drop b).take n ++ d.drop (b + n) = d.drop b := by rw [← List.drop_drop, List.take_append_drop]
    have e2 : (d.drop (a + n)).take (b - (a + n)) ++ d.drop b = d.drop (a + n) := by
      conv => lhs; rhs; rw [show b = (a + n) + (b - (a + n)) by omega, ← List.drop_drop]
      rw [List.take_append_drop]
    have e3 : (d.drop a).take n ++ d.drop (a + n) = d.drop a := by rw [← List.drop_drop, List.take_append_drop]
    rw [e1, e2, e3, List.take_append_drop]
theorem swaps_step {a b n k : Nat} {d d' : List Pair} (h : Swaps a b n k d d') (hk : k < n) : ∃ p q, d'[a + k]? = some p ∧ d'[b + k]? = some q ∧ Swaps a b n (k + 1) d ((d'.set (a + k) q).set (b + k) p) := by
  obtain ⟨U, P1, P2, M, Q1, Q2, V, rfl, rfl, h1, h2, h3, h4, h5, h6⟩ := h
  cases P2 with
  | nil => simp at h4; omega
  | cons p P2 =>
    cases Q2 with
    | nil => simp at h5; omega
    | cons q Q2 =>
      simp only [List.length_cons] at h4 h5
      have e : U ++ (Q1 ++ (p :: P2 ++ (M ++ (P1 ++ (q :: Q2 ++ V))))) = (U ++ Q1) ++ p :: ((P2 ++ (M ++ P1)) ++ q :: (Q2 ++ V)) := by simp
      have l1 : (U ++ Q1).length = a + k := by rw [List.length_append]; omega
      have l2 : a + k + 1 + (P2 ++ (M ++ P1)).length = b + k := by simp only [List.length_append]; omega
      refine ⟨p, q, ?_, ?_, U, P1 ++ [p], P2, M, Q1 ++ [q], Q2, V, by simp, ?_, h1, by simp; omega, by simp; omega, by omega, by omega, h6⟩
      · rw [e, at_first l1]
      · rw [e, at_second l1 l2]
      · rw [e, set_two l1 l2]
        simp
theorem swaps_end {a b n : Nat} {d d' : List Pair} (h : Swaps a b n n d d') : ∃ U P M Q V, d = U ++ (P ++ (M ++ (Q ++ V))) ∧ d' = U ++ (Q ++ (M ++ (P ++ V))) ∧ U.length = a ∧ P.length = n ∧ Q.length = n ∧ a + n + M.length = b := by
  obtain ⟨U, P1, P2, M, Q1, Q2, V, rfl, rfl, h1, h2, h3, h4, h5, h6⟩ := h
  have e1 : P2 = [] := List.length_eq_zero_iff.1 (by omega)
  have e2 : Q2 = [] := List.length_eq_zero_iff.1 (by omega)
  subst e1
  subst e2
  exact ⟨U, P1, M, Q1, V, by simp, by simp, h1, h2, h3, h6⟩

/-! two parts that change places -/
/-- what is still to be turned: i ahead of m, j from m on; in the end there will be t -/
def Turns (m i j : Nat) (t d : List Pair) : Prop := ∃ A X Y R, d = A ++ (X ++ (Y ++ R)) ∧ t = A ++ (Y ++ (X ++ R)) ∧ A.length + i = m ∧ X.length = i ∧ Y.length = j
theorem Turns.length {m i j : Nat} {t d : List Pair} (h : Turns m i j t d) : t.length = d.length := by
  obtain ⟨A, X, Y, R, rfl, rfl, _⟩ := h
  simp only [List.length_append]
  omega
theorem Turns.room {m i j : Nat} {t d : List Pair} (h : Turns m i j t d) : i ≤ m ∧ m + j ≤ d.length := by
  obtain ⟨A, X, Y, R, rfl, rfl, h1, h2, h3⟩ := h
  simp only [List.length_append]
  omega
theorem append_cut {α : Type} {a b c d : List α} (h : a ++ b = c ++ d) (hl : a.length = c.length) : a = c ∧ b = d := List.append_inj h hl
/-- more ahead than behind -/
theorem turns_left {m i j : Nat} {t d d' : List Pair} (h : Turns m i j t d) (hij : j < i) (hs : Swaps (m - i) m j j d d') : Turns m (i - j) j t d' := by
  obtain ⟨A, X, Y, R, rfl, rfl, h1, h2, h3⟩ := h
  obtain ⟨U, P, M, Q, V, e, rfl, g1, g2, g3, g4⟩ := swaps_end hs
  clear hs
  obtain ⟨rfl, e1⟩ := append_cut e (by omega)
  clear e
  have e2 : X ++ (Y ++ R) = (P ++ M) ++ (Q ++ V) := by rw [e1]; simp
  clear e1
  obtain ⟨rfl, e3⟩ := append_cut e2 (by rw [List.length_append]; omega)
  clear e2
  obtain ⟨rfl, rfl⟩ := append_cut e3 (by omega)
  rw [List.length_append] at h2
  exact ⟨A ++ Y, M, P, R, by simp, by simp, by rw [List.length_append]; omega, by omega, by omega⟩
/-- more behind -/
theorem turns_right {m i j : Nat} {t d d' : List Pair} (h : Turns m i j t d) (hij : i < j) (hs : Swaps (m - i) (m + j - i) i i d d') : Turns m i (j - i) t d' := by
  obtain ⟨A, X, Y, R, rfl, rfl, h1, h2, h3⟩ := h
  obtain ⟨U, P, M, Q, V, e, rfl, g1, g2, g3, g4⟩ := swaps_end hs
  clear hs
  obtain ⟨rfl, e1⟩ := append_cut e (by omega)
  clear e
  obtain ⟨rfl, e2⟩ := append_cut e1 (by omega)
  clear e1
  have e3 : Y ++ R = (M ++ Q) ++ V := by rw [e2]; simp
  clear e2
  obtain ⟨rfl, rfl⟩ := append_cut e3 (by rw [List.length_append]; omega)
  rw [List.length_append] at h3
  exact ⟨A, Q, M, X ++ R, by simp, by simp, by omega, by omega, by omega⟩
/-- as many -/
theorem turns_end {m i : Nat} {t d d' : List Pair} (h : Turns m i i t d) (hs : Swaps (m - i) m i i d d') : d' = t := by
  obtain ⟨A, X, Y, R, rfl, rfl, h1, h2, h3⟩ := h
  obtain ⟨U, P, M, Q, V, e, rfl, g1, g2, g3, g4⟩ := swaps_end hs
  clear hs
  obtain ⟨rfl, e1⟩ := append_cut e (by omega)
  clear e
  obtain ⟨rfl, e2⟩ := append_cut e1 (by omega)
  clear e1
  have hM : M = [] := List.length_eq_zero_iff.1 (by omega)
  subst hM
  rw [List.nil_append] at e2 ⊢
  obtain ⟨rfl, rfl⟩ := append_cut e2 (by omega)
  rfl

end Go.Proofs.YtofaegcljcpceagGreatDoor.Stables

/-
  Plain mathematics of merging in place: two sorted parts side by side become one, by halves; and of blocks that are merged, two by two, till there is one.
-/
namespace Go.Proofs.YtofaegcljcpceagGreatDoor.Merges
open Stores (Pair lt find Rising)
open Stables

/-- the key at a place -/
def kx (d : List Pair) (i : Nat) : ByteArray := match d[i]? with
  | some p => p.key
  | none => ⟨#[]⟩
theorem kx_of {d : List Pair} {i : Nat} {p : Pair} (h : d[i]? = some p) : kx d i = p.key := by unfold kx; rw [h]

/-! a search by halves -/
def Mono (Q : Nat → Bool) (lo hi : Nat) : Prop := ∀ x y, lo ≤ x → x ≤ y → y < hi → Q y = true → Q x = true
structure Between (Q : Nat → Bool) (lo hi i j : Nat) : Prop where
  flo : lo ≤ i
  fmid : i ≤ j
  fhi : j ≤ hi
  ahead : ∀ x, lo ≤ x → x < i → Q x = true
  behind : ∀ x, j ≤ x → x < hi → Q x = false
theorem between_start {Q : Nat → Bool} {lo hi : Nat} (h : lo ≤ hi) : Between Q lo hi lo hi := ⟨Nat.le_refl _, h, Nat.le_refl _, fun _ _ _ => by omega, fun _ _ _ => by omega⟩
theorem between_up {Q : Nat → Bool} {lo hi i j h : Nat} (b : Between Q lo hi i j) (m : Mono Q lo hi) (h1 : i ≤ h) (h2 : h < j) (hq : Q h = true) : Between Q lo hi (h + 1) j :=
  ⟨by have := b.flo; omega, h2, b.fhi, fun x hx hxh => m x h hx (by omega) (by have := b.fhi; omega) hq, b.behind⟩
theorem between_down {Q : Nat → Bool} {lo hi i j h : Nat} (b : Between Q lo hi i j) (m : Mono Q lo hi) (h1 : i ≤ h) (h2 : h < j) (hq : Q h = false) : Between Q lo hi i h :=
  ⟨b.flo, h1, by have := b.fhi; omega, b.ahead, fun x hx hxh => by
    cases hx2 : Q x with
    | false => rfl
    | true =>
      have := m h x (by have := b.flo; omega) hx hxh hx2
      rw [hq] at this
      cases this⟩

/-- two sorted parts side by side -/
def Parts (a m b : Nat) (d : List Pair) : Prop := ∃ A X Y R, d = A ++ (X ++ (Y ++ R)) ∧ A.length = a ∧ a + X.length = m ∧ m + Y.length = b ∧ Sorted X ∧ Sorted Y
theorem Parts.room {a m b : Nat} {d : List Pair} (h : Parts a m b d) : a ≤ m ∧ m ≤ b ∧ b ≤ d.length := by
  obtain ⟨A, X, Y, R, rfl, h1, h2, h3, _, _⟩ := h
  simp only [List.length_append]
  omega
theorem at_left {A X T : List Pair} {a i : Nat} (hA : A.length = a) (h1 : a ≤ i) (h2 : i < a + X.length) : (A ++ (X ++ T))[i]? = some (X[i - a]'(by omega)) := by
  rw [List.getElem?_append_right (by omega), List.getElem?_append_left (by omega), hA, List.getElem?_eq_getElem]
theorem at_right {A X Y T : List Pair} {a m i : Nat} (hA : A.length = a) (hX : a + X.length = m) (h1 : m ≤ i) (h2 : i < m + Y.length) : (A ++ (X ++ (Y ++ T)))[i]? = some (Y[i - m]'(by omega)) := by
  rw [show A ++ (X ++ (Y ++ T)) = (A ++ X) ++ (Y ++ T) by simp]
  exact at_left (by rw [List.length_append]; omega) h1 h2
theorem Parts.le_left {a m b : Nat} {d : List Pair} (h : Parts a m b d) {i j : Nat} (h1 : a ≤ i) (h2 : i ≤ j) (h3 : j < m) : lt (kx d j) (kx d i) = false := by
  obtain ⟨A, X, Y, R, rfl, hA, hX, hY, sX, sY⟩ := h
  rw [kx_of (at_left hA h1 (by omega)), kx_of (at_left hA (by omega) (by omega))]
  exact sorted_at sX _ _ (by omega)
theorem Parts.le_right {a m b : Nat} {d : List Pair} (h : Parts a m b d) {i j : Nat} (h1 : m ≤ i) (h2 : i ≤ j) (h3 : j < b) : lt (kx d j) (kx d i) = false := by
  obtain ⟨A, X, Y, R, rfl, hA, hX, hY, sX, sY⟩ := h
  rw [kx_of (at_right hA hX h1 (by omega)), kx_of (at_right hA hX (by omega) (by omega))]
  exact sorted_at sY _ _ (by omega)
theorem parts_sorts {a m b : Nat} {d : List Pair} (h : Parts a m b d) (he : a = m ∨ m = b) : Sorts a b d d := by
  obtain ⟨A, X, Y, R, rfl, hA, hX, hY, sX, sY⟩ := h
  refine ⟨A, X ++ Y, X ++ Y, R, by simp, by simp, hA, by rw [List.length_append]; omega, ?_, Same.refl _⟩
  rcases he with he | he
  · have : X = [] := List.length_eq_zero_iff.1 (by omega)
    subst this
    simpa using sY
  · have : Y = [] := List.length_eq_zero_iff.1 (by omega)
    subst this
    simpa using sX
/-- what is behind stays -/
theorem parts_behind {a m b c : Nat} {d d' : List Pair} (h : Parts m b c d) (s : Sorts a m d d') : Parts m b c d' := by
  obtain ⟨A, X, Y, R, hd, hA, hX, hY, sX, sY⟩ := h
  obtain ⟨A', D, Z, R', e, rfl, g1, g2, _, gs⟩ := s
  rw [hd, show A' ++ (D ++ R') = (A' ++ D) ++ R' by simp] at e
  obtain ⟨_, rfl⟩ := append_cut e (by rw [List.length_append]; omega)
  have := gs.1
  exact ⟨A' ++ Z, X, Y, R, by simp, by rw [List.length_append]; omega, hX, hY, sX, sY⟩

/-! one ahead of sorted ones -/
def Climbs (a k : Nat) (d d' : List Pair) : Prop := ∃ A x Y Z, d = A ++ (x :: (Y ++ Z)) ∧ d' = A ++ (Y ++ (x :: Z)) ∧ A.length = a ∧ a + Y.length = k
theorem Climbs.length {a k : Nat} {d d' : List Pair} (h : Climbs a k d d') : d'.length = d.length := by
  obtain ⟨A, x, Y, Z, rfl, rfl, _⟩ := h
  simp only [List.length_append, List.length_cons]
  omega
theorem climbs_start {a : Nat} {d : List Pair} (h : a < d.length) : Climbs a a d d :=
  ⟨d.take a, d[a], [], d.drop (a + 1), by simp, by simp, by rw [List.length_take]; omega, rfl⟩
theorem climbs_step {a k : Nat} {d d' : List Pair} (h : Climbs a k d d') (hk : k + 1 < d.length) : ∃ p q, d'[k]? = some p ∧ d'[k + 1]? = some q ∧ Climbs a (k + 1) d ((d'.set k q).set (k + 1) p) := by
  obtain ⟨A, x, Y, Z, rfl, rfl, h1, h2⟩ := h
  cases Z with
  | nil => simp at hk; omega
  | cons z Z =>
    have e : A ++ (Y ++ x :: z :: Z) = (A ++ Y) ++ x :: ([] ++ z :: Z) := by simp
    have l1 : (A ++ Y).length = k := by rw [List.length_append]; omega
    refine ⟨x, z, by rw [e, at_first l1], by rw [e, at_second l1 (by simp)], A, x, Y ++ [z], Z, by simp, ?_, h1, by simp; omega⟩
    rw [e, set_two l1 (by simp)]
    simp
theorem climbs_end {a b i : Nat} {d d' : List Pair} (h : Parts a (a + 1) b d) (hi : Between (fun x => lt (kx d x) (kx d a)) (a + 1) b i i) (hc : Climbs a (i - 1) d d') : Sorts a b d d' := by
  have hlo := hi.flo
  have hhi := hi.fhi
  have hah := hi.ahead
  have hbe := hi.behind
  obtain ⟨A, X, Y, R, rfl, hA, hX, hY, sX, sY⟩ := h
  obtain ⟨A', x, Y1, Z, e, rfl, g1, g2⟩ := hc
  obtain ⟨y, rfl⟩ : ∃ y, X = [y] := List.length_eq_one_iff.1 (by omega)
  obtain ⟨rfl, e1⟩ := append_cut e (by omega)
  clear e
  simp only [List.cons_append, List.nil_append, List.cons.injEq] at e1
  obtain ⟨rfl, e2⟩ := e1
  have hz : Z = Y.drop Y1.length ++ R ∧ Y1 = Y.take Y1.length := by
    have hle : Y1.length ≤ Y.length := by omega
    have e3 : Y.take Y1.length ++ (Y.drop Y1.length ++ R) = Y1 ++ Z := by rw [← e2, ← List.append_assoc, List.take_append_drop]
    obtain ⟨h1, h2⟩ := append_cut e3 (by rw [List.length_take]; omega)
    exact ⟨h2.symm, h1.symm⟩
  obtain ⟨rfl, hY1⟩ := hz
  have kx0 : kx (A ++ ([y] ++ (Y ++ R))) a = y.key := by rw [kx_of (at_left hA (Nat.le_refl _) (by simp))]; simp
  have kxY : ∀ t (ht : t < Y.length), kx (A ++ ([y] ++ (Y ++ R))) (a + 1 + t) = (Y[t]).key := fun t ht => by
    rw [kx_of (at_right hA rfl (by simp) (by simp; omega))]
    simp
  have low : ∀ p ∈ Y1, lt p.key y.key = true := fun p hp => by
    rw [hY1] at hp
    obtain ⟨t, ht, rfl⟩ := List.getElem_of_mem hp
    rw [List.length_take] at ht
    rw [List.getElem_take]
    have := hah (a + 1 + t) (by omega) (by omega)
    simp only [kx0] at this
    rw [kxY t (by omega)] at this
    exact this
  have high : ∀ p ∈ Y.drop Y1.length, lt p.key y.key = false := fun p hp => by
    obtain ⟨t, ht, rfl⟩ := List.getElem_of_mem hp
    rw [List.length_drop] at ht
    rw [List.getElem_drop]
    have := hbe (a + 1 + (Y1.length + t)) (by omega) (by omega)
    simp only [kx0] at this
    rw [kxY (Y1.length + t) (by omega)] at this
    exact this
  have hYc : Y = Y1 ++ Y.drop Y1.length := by conv => lhs; rw [← List.take_append_drop Y1.length Y, ← hY1]
  have sY' := sY
  rw [hYc] at sY'
  obtain ⟨s1, s2, s3⟩ := sorted_append.1 sY'
  refine ⟨A, [y] ++ Y, Y1 ++ (y :: Y.drop Y1.length), R, by simp, by simp, hA, by rw [List.length_append]; simp only [List.length_cons, List.length_nil] at hX ⊢; omega, ?_, ?_⟩
  · refine sorted_append.2 ⟨s1, List.pairwise_cons.2 ⟨fun q hq => high q hq, s2⟩, fun p hp q hq => ?_⟩
    rcases List.mem_cons.1 hq with rfl | hq
    · exact le_of_lt (low p hp)
    · exact s3 p hp q hq
  · have h1 : Same (([y] ++ Y1) ++ Y.drop Y1.length) ((Y1 ++ [y]) ++ Y.drop Y1.length) := (same_swap fun p hp q hq => by rw [List.mem_singleton.1 hp]; exact low q hq).append (Same.refl _)
    rw [List.append_assoc, ← hYc] at h1
    simpa using h1

/-! one behind sorted ones -/
def Falls (m k : Nat) (d d' : List Pair) : Prop := ∃ A X y R, d = A ++ (X ++ (y :: R)) ∧ d' = A ++ (y :: (X ++ R)) ∧ A.length = k ∧ k + X.length = m
theorem Falls.length {m k : Nat} {d d' : List Pair} (h : Falls m k d d') : d'.length = d.length := by
  obtain ⟨A, x, Y, Z, rfl, rfl, _⟩ := h
  simp only [List.length_append, List.length_cons]
  omega
theorem falls_start {m : Nat} {d : List Pair} (h : m < d.length) : Falls m m d d :=
  ⟨d.take m, [], d[m], d.drop (m + 1), by simp, by simp, by rw [List.length_take]; omega, rfl⟩
theorem falls_step {m k : Nat} {d d' : List Pair} (h : Falls m k d d') (hk : 0 < k) : ∃ p q, d'[k - 1]? = some p ∧ d'[k]? = some q ∧ Falls m (k - 1) d ((d'.set (k - 1) q).set k p) := by
  obtain ⟨A, X, y, R, rfl, rfl, h1, h2⟩ := h
  have hne : A ≠ [] := fun e => by subst e; simp at h1; omega
  obtain ⟨A, z, rfl⟩ : ∃ A' z, A = A' ++ [z] := ⟨A.dropLast, A.getLast hne, (List.dropLast_concat_getLast hne).symm⟩
  simp only [List.length_append, List.length_cons, List.length_nil] at h1
  have e : A ++ [z] ++ y :: (X ++ R) = A ++ z :: ([] ++ y :: (X ++ R)) := by simp
  have l1 : A.length = k - 1 := by omega
  refine ⟨z, y, by rw [e, at_first l1], by rw [e, at_second l1 (by simp; omega)], A, z :: X, y, R, by simp, ?_, l1, by simp; omega⟩
  rw [e, set_two l1 (by simp; omega)]
  simp
theorem falls_end {a m i : Nat} {d d' : List Pair} (h : Parts a m (m + 1) d) (hi : Between (fun x => !lt (kx d m) (kx d x)) a m i i) (hc : Falls m i d d') : Sorts a (m + 1) d d' := by
  have hlo := hi.flo
  have hhi := hi.fhi
  have hah := hi.ahead
  have hbe := hi.behind
  obtain ⟨A, X, Y, R, rfl, hA, hX, hY, sX, sY⟩ := h
  obtain ⟨A', X2, x, Z, e, rfl, g1, g2⟩ := hc
  obtain ⟨y, rfl⟩ : ∃ y, Y = [y] := List.length_eq_one_iff.1 (by omega)
  -- A' is A and the first of X
  have e1 : (A ++ X) ++ ([y] ++ R) = (A' ++ X2) ++ (x :: Z) := by rw [List.append_assoc, e, List.append_assoc]
  obtain ⟨e2, e3⟩ := append_cut e1 (by simp only [List.length_append]; omega)
  simp only [List.cons_append, List.nil_append, List.cons.injEq] at e3
  obtain ⟨rfl, rfl⟩ := e3
  have hX1 : A' = A ++ X.take (i - a) ∧ X2 = X.drop (i - a) := by
    have e4 : (A ++ X.take (i - a)) ++ X.drop (i - a) = A' ++ X2 := by rw [List.append_assoc, List.take_append_drop, e2]
    obtain ⟨h1, h2⟩ := append_cut e4 (by rw [List.length_append, List.length_take]; omega)
    exact ⟨h1.symm, h2.symm⟩
  obtain ⟨rfl, rfl⟩ := hX1
  have kx0 : kx (A ++ (X ++ ([y] ++ R))) m = y.key := by rw [kx_of (at_right hA hX (Nat.le_refl _) (by simp))]; simp
  have kxX : ∀ t (ht : t < X.length), kx (A ++ (X ++ ([y] ++ R))) (a + t) = (X[t]).key := fun t ht => by
    rw [kx_of (at_left hA (by omega) (by omega))]
    simp
  have low : ∀ p ∈ X.take (i - a), lt y.key p.key = false := fun p hp => by
    obtain ⟨t, ht, rfl⟩ := List.getElem_of_mem hp
    rw [List.length_take] at ht
    rw [List.getElem_take]
    have := hah (a + t) (by omega) (by omega)
    simp only [kx0] at this
    rw [kxX t (by omega)] at this
    simpa using this
  have high : ∀ p ∈ X.drop (i - a), lt y.key p.key = true := fun p hp => by
    obtain ⟨t, ht, rfl⟩ := List.getElem_of_mem hp
    rw [List.length_drop] at ht
    rw [List.getElem_drop]
    have := hbe (a + (i - a + t)) (by omega) (by omega)
    simp only [kx0] at this
    rw [kxX (i - a + t) (by omega)] at this
    simpa using this
  have hXc : X = X.take (i - a) ++ X.drop (i - a) := (List.take_append_drop ..).symm
  have sX' := sX
  rw [hXc] at sX'
  obtain ⟨s1, s2, s3⟩ := sorted_append.1 sX'
  refine ⟨A, X ++ [y], X.take (i - a) ++ (y :: X.drop (i - a)), R, by simp, by simp, hA, by rw [List.length_append]; simp only [List.length_cons, List.length_nil] at hY ⊢; omega, ?_, ?_⟩
  · refine sorted_append.2 ⟨s1, List.pairwise_cons.2 ⟨fun q hq => le_of_lt (high q hq), s2⟩, fun p hp q hq => ?_⟩
    rcases List.mem_cons.1 hq with rfl | hq
    · exact low p hp
    · exact s3 p hp q hq
  · have h1 : Same (X.take (i - a) ++ (X.drop (i - a) ++ [y])) (X.take (i - a) ++ ([y] ++ X.drop (i - a))) := (Same.refl _).append (same_swap fun p hp q hq => by rw [List.mem_singleton.1 hq]; exact high p hp)
    rw [← List.append_assoc, List.take_append_drop] at h1
    simpa using h1

/-! by halves -/
/-- t is d with its lower ones ahead -/
def Halves (a mid b : Nat) (d t : List Pair) : Prop := ∃ A D L H R, d = A ++ (D ++ R) ∧ t = A ++ (L ++ (H ++ R)) ∧ A.length = a ∧ a + L.length = mid ∧ mid + H.length = b ∧ Same D (L ++ H) ∧ ∀ p ∈ L, ∀ q ∈ H, lt q.key p.key = false
theorem halves_sorts {a mid b : Nat} {d t t1 t2 : List Pair} (h : Halves a mid b d t) (s1 : Sorts a mid t t1) (s2 : Sorts mid b t1 t2) : Sorts a b d t2 := by
  obtain ⟨A, D, L, H, R, rfl, rfl, hA, hL, hH, hs, hlow⟩ := h
  obtain ⟨A1, D1, Z1, R1, e1, rfl, g1, g2, sz1, ss1⟩ := s1
  obtain ⟨rfl, e2⟩ := append_cut e1 (by omega)
  obtain ⟨rfl, rfl⟩ := append_cut e2 (by omega)
  clear e1 e2
  obtain ⟨A2, D2, Z2, R2, e3, rfl, k1, k2, sz2, ss2⟩ := s2
  have l1 := ss1.1
  have l2 := ss2.1
  rw [show A ++ (Z1 ++ (H ++ R)) = (A ++ Z1) ++ (H ++ R) by simp] at e3
  obtain ⟨rfl, e4⟩ := append_cut e3 (by rw [List.length_append]; omega)
  obtain ⟨rfl, rfl⟩ := append_cut e4 (by omega)
  clear e3 e4
  have l3 := hs.1
  rw [List.length_append] at l3
  refine ⟨A, D, Z1 ++ Z2, R, rfl, by simp, hA, by omega, sorted_append.2 ⟨sz1, sz2, fun p hp q hq => hlow p (ss1.mem hp) q (ss2.mem hq)⟩, hs.trans (ss1.append ss2)⟩

/-- where the parts are cut -/
def lowC (a m b : Nat) : Nat := if (a + b) / 2 < m then (a + b) / 2 + m - b else a
def highC (a m b : Nat) : Nat := if (a + b) / 2 < m then (a + b) / 2 else m
def cutQ (d : List Pair) (n c : Nat) : Bool := !lt (kx d (n - 1 - c)) (kx d c)
theorem cut_room {a m b : Nat} (h1 : a ≤ m) (h2 : m ≤ b) : a ≤ lowC a m b ∧ lowC a m b ≤ highC a m b ∧ highC a m b ≤ m ∧ highC a m b ≤ (a + b) / 2 ∧ (a + b) / 2 + m - lowC a m b ≤ b ∧ m ≤ (a + b) / 2 + m - highC a m b ∧ (a + b) / 2 ≤ (a + b) / 2 + m - highC a m b := by
  unfold lowC highC
  split <;> omega
theorem cut_mono {a m b : Nat} {d : List Pair} (h : Parts a m b d) : Mono (cutQ d ((a + b) / 2 + m)) (lowC a m b) (highC a m b) := by
  obtain ⟨r1, r2, r3⟩ := h.room
  obtain ⟨c1, c2, c3, c4, c5, c6, c7⟩ := cut_room r1 r2
  intro x y hx hxy hy hq
  unfold cutQ at hq ⊢
  have hq : lt (kx d ((a + b) / 2 + m - 1 - y)) (kx d y) = false := by simpa using hq
  have i1 := h.le_left (i := x) (j := y) (by omega) hxy (by omega)
  have i2 := h.le_right (i := (a + b) / 2 + m - 1 - y) (j := (a + b) / 2 + m - 1 - x) (by omega) (by omega) (by omega)
  have := Stores.le_trans (Stores.le_trans i1 hq) i2
  simpa using this
theorem cut_of {a m b s : Nat} {d : List Pair} (h : Parts a m b d) (hs : Between (cutQ d ((a + b) / 2 + m)) (lowC a m b) (highC a m b) s s) :
    a ≤ s ∧ s ≤ m ∧ s ≤ (a + b) / 2 ∧ m ≤ (a + b) / 2 + m - s ∧ (a + b) / 2 ≤ (a + b) / 2 + m - s ∧ (a + b) / 2 + m - s ≤ b ∧
    ∃ t, Turns m (m - s) ((a + b) / 2 + m - s - m) t d ∧ (s = m ∨ m = (a + b) / 2 + m - s → t = d) ∧ Parts a s ((a + b) / 2) t ∧ Parts ((a + b) / 2) ((a + b) / 2 + m - s) b t ∧ Halves a ((a + b) / 2) b d t := by
  obtain ⟨r1, r2, r3⟩ := h.room
  obtain ⟨c1, c2, c3, c4, c5, c6, c7⟩ := cut_room r1 r2
  have hlo := hs.flo
  have hhi := hs.fhi
  have hah := hs.ahead
  have hbe := hs.behind
  have hparts := h
  obtain ⟨A, X, Y, R, hd, hA, hX, hY, sX, sY⟩ := h
  have hlow : s = lowC a m b → s = a ∨ (a + b) / 2 + m - s = b := fun e => by
    unfold lowC at e
    split at e
    · exact .inr (by omega)
    · exact .inl e
  have hhigh : s = highC a m b → s = m ∨ (a + b) / 2 + m - s = m := fun e => by
    unfold highC at e
    split at e
    · exact .inr (by omega)
    · exact .inl e
  have q1 : (a + b) / 2 + m - s ≤ b := by omega
  have q2 : m ≤ (a + b) / 2 + m - s := by omega
  have q3 : s ≤ m := by omega
  have q4 : s ≤ (a + b) / 2 := by omega
  have q5 : a ≤ s := by omega
  have q6 : (a + b) / 2 ≤ (a + b) / 2 + m - s := by omega
  have q7 : s ≠ highC a m b → s < highC a m b := fun h => by omega
  have q8 : s ≠ lowC a m b → lowC a m b ≤ s - 1 ∧ a < s := fun h => by omega
  clear c1 c2 c3 c4 c5 c6 c7 hlo hhi hs
  generalize (a + b) / 2 = mid at *
  -- the four pieces
  generalize hX1 : X.take (s - a) = X1
  generalize hX2 : X.drop (s - a) = X2
  generalize hY1 : Y.take (mid + m - s - m) = Y1
  generalize hY2 : Y.drop (mid + m - s - m) = Y2
  have eX : X = X1 ++ X2 := by rw [← hX1, ← hX2, List.take_append_drop]
  have eY : Y = Y1 ++ Y2 := by rw [← hY1, ← hY2, List.take_append_drop]
  have lX1 : a + X1.length = s := by rw [← hX1, List.length_take]; omega
  have lX2 : s + X2.length = m := by rw [← hX2, List.length_drop]; omega
  have lY1 : m + Y1.length = mid + m - s := by rw [← hY1, List.length_take]; omega
  have lY2 : mid + m - s + Y2.length = b := by rw [← hY2, List.length_drop]; omega
  rw [eX] at sX
  rw [eY] at sY
  obtain ⟨sX1, sX2, sXX⟩ := sorted_append.1 sX
  obtain ⟨sY1, sY2, sYY⟩ := sorted_append.1 sY
  have hd4 : d = A ++ (X1 ++ (X2 ++ (Y1 ++ (Y2 ++ R)))) := by rw [hd, eX, eY]; simp
  -- what lies where
  have kX1 : ∀ p ∈ X1, ∃ i, a ≤ i ∧ i < s ∧ kx d i = p.key := fun p hp => by
    obtain ⟨t, ht, rfl⟩ := List.getElem_of_mem hp
    refine ⟨a + t, by omega, by omega, ?_⟩
    rw [hd4, kx_of (at_left hA (by omega) (by omega))]
    simp
  have kX2 : ∀ p ∈ X2, ∃ i, s ≤ i ∧ i < m ∧ kx d i = p.key := fun p hp => by
    obtain ⟨t, ht, rfl⟩ := List.getElem_of_mem hp
    refine ⟨s + t, by omega, by omega, ?_⟩
    rw [hd4, kx_of (at_right hA lX1 (by omega) (by omega))]
    simp
  have kY1 : ∀ p ∈ Y1, ∃ i, m ≤ i ∧ i < mid + m - s ∧ kx d i = p.key := fun p hp => by
    obtain ⟨t, ht, rfl⟩ := List.getElem_of_mem hp
    refine ⟨m + t, by omega, by omega, ?_⟩
    rw [hd4, show A ++ (X1 ++ (X2 ++ (Y1 ++ (Y2 ++ R)))) = (A ++ X1) ++ (X2 ++ (Y1 ++ (Y2 ++ R))) by simp, kx_of (at_right (a := s) (m := m) (by rw [List.length_append]; omega) lX2 (by omega) (by omega))]
    simp
  have kY2 : ∀ p ∈ Y2, ∃ i, mid + m - s ≤ i ∧ i < b ∧ kx d i = p.key := fun p hp => by
    obtain ⟨t, ht, rfl⟩ := List.getElem_of_mem hp
    refine ⟨mid + m - s + t, by omega, by omega, ?_⟩
    rw [hd4, show A ++ (X1 ++ (X2 ++ (Y1 ++ (Y2 ++ R)))) = (A ++ (X1 ++ X2)) ++ (Y1 ++ (Y2 ++ R)) by simp, kx_of (at_right (a := m) (m := mid + m - s) (by simp only [List.length_append]; omega) lY1 (by omega) (by omega))]
    simp
  -- the second of the left are above the first of the right
  have cross : ∀ p ∈ X2, ∀ q ∈ Y1, lt q.key p.key = true := fun p hp q hq => by
    obtain ⟨i, i1, i2, i3⟩ := kX2 p hp
    obtain ⟨j, j1, j2, j3⟩ := kY1 q hq
    have hne : s ≠ highC a m b := fun e => by rcases hhigh e with h | h <;> omega
    have h1 := hbe s (Nat.le_refl _) (q7 hne)
    unfold cutQ at h1
    have h1 : lt (kx d (mid + m - 1 - s)) (kx d s) = true := by simpa using h1
    have h2 := hparts.le_left (i := s) (j := i) (by omega) i1 i2
    have h3 := hparts.le_right (i := j) (j := mid + m - 1 - s) j1 (by omega) (by omega)
    rw [← i3, ← j3]
    exact lt_of_le_of_lt h3 (Stores.lt_of_lt_of_le h1 h2)
  -- the first of the left are not above the second of the right
  have cross2 : ∀ p ∈ X1, ∀ q ∈ Y2, lt q.key p.key = false := fun p hp q hq => by
    obtain ⟨i, i1, i2, i3⟩ := kX1 p hp
    obtain ⟨j, j1, j2, j3⟩ := kY2 q hq
    have hne : s ≠ lowC a m b := fun e => by rcases hlow e with h | h <;> omega
    have h1 := hah (s - 1) (q8 hne).1 (by have := (q8 hne).2; omega)
    unfold cutQ at h1
    have h1 : lt (kx d (mid + m - 1 - (s - 1))) (kx d (s - 1)) = false := by simpa using h1
    have h2 := hparts.le_left (i := i) (j := s - 1) i1 (by omega) (by omega)
    have h3 := hparts.le_right (i := mid + m - 1 - (s - 1)) (j := j) (by omega) (by omega) j2
    rw [← i3, ← j3]
    exact Stores.le_trans (Stores.le_trans h2 h1) h3
  refine ⟨by omega, by omega, by omega, q2, by omega, q1, A ++ (X1 ++ (Y1 ++ (X2 ++ (Y2 ++ R)))), ?_, ?_, ?_, ?_, ?_⟩
  · exact ⟨A ++ X1, X2, Y1, Y2 ++ R, by rw [hd4]; simp, by simp, by rw [List.length_append]; omega, by omega, by omega⟩
  · intro he
    rw [hd4]
    rcases he with he | he
    · have : X2 = [] := List.length_eq_zero_iff.1 (by omega)
      subst this
      simp
    · have : Y1 = [] := List.length_eq_zero_iff.1 (by omega)
      subst this
      simp
  · exact ⟨A, X1, Y1, X2 ++ (Y2 ++ R), by simp, hA, lX1, by omega, sX1, sY1⟩
  · exact ⟨A ++ (X1 ++ Y1), X2, Y2, R, by simp, by simp only [List.length_append]; omega, by omega, lY2, sX2, sY2⟩
  · refine ⟨A, X1 ++ (X2 ++ (Y1 ++ Y2)), X1 ++ Y1, X2 ++ Y2, R, by rw [hd4]; simp, by simp, hA, by rw [List.length_append]; omega, by rw [List.length_append]; omega, ?_, ?_⟩
    · have h1 : Same (X1 ++ ((X2 ++ Y1) ++ Y2)) (X1 ++ ((Y1 ++ X2) ++ Y2)) := (Same.refl _).append ((same_swap cross).append (Same.refl _))
      simpa using h1
    · intro p hp q hq
      rcases List.mem_append.1 hp with hp | hp
      · rcases List.mem_append.1 hq with hq | hq
        · exact sXX p hp q hq
        · exact cross2 p hp q hq
      · rcases List.mem_append.1 hq with hq | hq
        · exact le_of_lt (cross q hq p hp)
        · exact sYY p hp q hq

end Go.Proofs.YtofaegcljcpceagGreatDoor.Merges

/-
  Plain mathematics of blocks that are sorted each, and merged two by two till there is one; and of what is left of sorted pairs when of each key the first one is kept, and those that are gone are left out.
-/
namespace Go.Proofs.YtofaegcljcpceagGreatDoor.Blocks
open Stores (Pair lt find Rising)
open Stables Merges

/-! blocks -/
def Full (s : Nat) (D : List Pair) : Prop := ∃ L : List (List Pair), D = L.flatten ∧ ∀ c ∈ L, c.length = s ∧ Sorted c
theorem full_nil (s : Nat) : Full s [] := ⟨[], rfl, fun c hc => by cases hc⟩
theorem full_snoc {s : Nat} {D c : List Pair} (h : Full s D) (hl : c.length = s) (hc : Sorted c) : Full s (D ++ c) := by
  obtain ⟨L, rfl, hL⟩ := h
  refine ⟨L ++ [c], by simp, fun x hx => ?_⟩
  rcases List.mem_append.1 hx with hx | hx
  · exact hL x hx
  · rw [List.mem_singleton.1 hx]
    exact ⟨hl, hc⟩
theorem full_cons {s : Nat} {D : List Pair} (h : Full s D) (hl : 0 < D.length) : ∃ c D', D = c ++ D' ∧ c.length = s ∧ Sorted c ∧ Full s D' := by
  obtain ⟨L, rfl, hL⟩ := h
  cases L with
  | nil => simp at hl
  | cons c L => exact ⟨c, L.flatten, by simp, (hL c (List.mem_cons_self ..)).1, (hL c (List.mem_cons_self ..)).2, L, rfl, fun x hx => hL x (List.mem_cons_of_mem _ hx)⟩

/-- the first ones, up to a, in sorted blocks -/
def Laying (s a : Nat) (d0 d : List Pair) : Prop := Same d0 d ∧ ∃ D R, d = D ++ R ∧ D.length = a ∧ Full s D
theorem Laying.length {s a : Nat} {d0 d : List Pair} (h : Laying s a d0 d) : d.length = d0.length := h.1.1.symm
theorem laying_start (s : Nat) (d : List Pair) : Laying s 0 d d := ⟨Same.refl _, [], d, rfl, rfl, full_nil s⟩
theorem laying_step {s a : Nat} {d0 d d' : List Pair} (h : Laying s a d0 d) (hs : Sorts a (a + s) d d') : Laying s (a + s) d0 d' := by
  refine ⟨h.1.trans hs.same, ?_⟩
  obtain ⟨_, D, R, rfl, hD, hF⟩ := h
  obtain ⟨A, D1, Z, R1, e, rfl, g1, g2, g3, g4⟩ := hs
  obtain ⟨rfl, _⟩ := append_cut e (by omega)
  have := g4.1
  exact ⟨D ++ Z, R1, by simp, by rw [List.length_append]; omega, full_snoc hF (by omega) g3⟩
/-- all in sorted blocks, the last one shorter -/
def Blocks (s : Nat) (d0 d : List Pair) : Prop := Same d0 d ∧ ∃ F Z, d = F ++ Z ∧ Full s F ∧ Sorted Z ∧ Z.length < s
theorem Blocks.length {s : Nat} {d0 d : List Pair} (h : Blocks s d0 d) : d.length = d0.length := h.1.1.symm
theorem laying_end {s a : Nat} {d0 d d' : List Pair} (h : Laying s a d0 d) (hl : d.length < a + s) (hs : Sorts a d.length d d') : Blocks s d0 d' := by
  refine ⟨h.1.trans hs.same, ?_⟩
  obtain ⟨_, D, R, rfl, hD, hF⟩ := h
  obtain ⟨A, D1, Z, R1, e, rfl, g1, g2, g3, g4⟩ := hs
  have hl2 : (D ++ R).length = A.length + (D1.length + R1.length) := by rw [e]; simp
  have hR : R1 = [] := List.length_eq_zero_iff.1 (by omega)
  subst hR
  obtain ⟨rfl, _⟩ := append_cut e (by omega)
  have := g4.1
  exact ⟨D, Z, by simp, hF, g3, by omega⟩
/-- the first ones, up to a, in blocks of twice the size -/
def Merging (s a : Nat) (d0 d : List Pair) : Prop := Same d0 d ∧ ∃ E F Z, d = E ++ (F ++ Z) ∧ E.length = a ∧ Full (2 * s) E ∧ Full s F ∧ Sorted Z ∧ Z.length < s
theorem Merging.length {s a : Nat} {d0 d : List Pair} (h : Merging s a d0 d) : d.length = d0.length := h.1.1.symm
theorem merging_start {s : Nat} {d0 d : List Pair} (h : Blocks s d0 d) : Merging s 0 d0 d := by
  obtain ⟨h1, F, Z, rfl, hF, hZ, hl⟩ := h
  exact ⟨h1, [], F, Z, rfl, rfl, full_nil _, hF, hZ, hl⟩
theorem merging_parts {s a : Nat} {d0 d : List Pair} (h : Merging s a d0 d) (hl : a + 2 * s ≤ d.length) : Parts a (a + s) (a + 2 * s) d := by
  obtain ⟨_, E, F, Z, rfl, hE, _, hF, hZ, hz⟩ := h
  simp only [List.length_append] at hl
  obtain ⟨c1, F1, rfl, l1, s1, hF1⟩ := full_cons hF (by omega)
  rw [List.length_append] at hl
  obtain ⟨c2, F2, rfl, l2, s2, hF2⟩ := full_cons hF1 (by omega)
  exact ⟨E, c1, c2, F2 ++ Z, by simp, hE, by omega, by omega, s1, s2⟩
theorem merging_step {s a : Nat} {d0 d d' : List Pair} (h : Merging s a d0 d) (hl : a + 2 * s ≤ d.length) (hs : Sorts a (a + 2 * s) d d') : Merging s (a + 2 * s) d0 d' := by
  refine ⟨h.1.trans hs.same, ?_⟩
  obtain ⟨_, E, F, Z, rfl, hE, hE2, hF, hZ, hz⟩ := h
  simp only [List.length_append] at hl
  obtain ⟨c1, F1, rfl, l1, s1, hF1⟩ := full_cons hF (by omega)
  rw [List.length_append] at hl
  obtain ⟨c2, F2, rfl, l2, s2, hF2⟩ := full_cons hF1 (by omega)
  obtain ⟨A, D, Y, R, e, rfl, g1, g2, g3, g4⟩ := hs
  obtain ⟨rfl, e1⟩ := append_cut e (by omega)
  rw [show c1 ++ (c2 ++ F2) ++ Z = (c1 ++ c2) ++ (F2 ++ Z) by simp] at e1
  obtain ⟨_, rfl⟩ := append_cut e1 (by rw [List.length_append]; omega)
  have := g4.1
  exact ⟨E ++ Y, F2, Z, by simp, by rw [List.length_append]; omega, full_snoc hE2 (by omega) g3, hF2, hZ, hz⟩
/-- what is left is one block and a part -/
theorem merging_last {s a : Nat} {d0 d : List Pair} (h : Merging s a d0 d) (hl : d.length < a + 2 * s) (hm : a + s < d.length) : Parts a (a + s) d.length d ∧ ∀ d', Sorts a d.length d d' → Blocks (2 * s) d0 d' := by
  obtain ⟨h0, E, F, Z, rfl, hE, hE2, hF, hZ, hz⟩ := h
  simp only [List.length_append] at hl hm
  obtain ⟨c1, F1, rfl, l1, s1, hF1⟩ := full_cons hF (by omega)
  rw [List.length_append] at hl hm
  have hF0 : F1 = [] := by
    by_cases h1 : 0 < F1.length
    · obtain ⟨c2, F2, rfl, l2, _, _⟩ := full_cons hF1 h1
      rw [List.length_append] at hl
      omega
    · exact List.length_eq_zero_iff.1 (by omega)
  subst hF0
  refine ⟨⟨E, c1, Z, [], by simp, hE, by omega, by simp only [List.length_append, List.length_nil]; omega, s1, hZ⟩, fun d' hs => ⟨h0.trans hs.same, ?_⟩⟩
  obtain ⟨A, D, Y, R, e, rfl, g1, g2, g3, g4⟩ := hs
  have hl2 := congrArg List.length e
  simp only [List.length_append, List.length_nil] at hl2 g2
  have hR : R = [] := List.length_eq_zero_iff.1 (by omega)
  subst hR
  obtain ⟨rfl, e1⟩ := append_cut e (by omega)
  have := g4.1
  exact ⟨E, Y, by simp, hE2, g3, by simp only [List.length_nil] at hl; omega⟩
theorem merging_none {s a : Nat} {d0 d : List Pair} (h : Merging s a d0 d) (hm : d.length ≤ a + s) : Blocks (2 * s) d0 d := by
  obtain ⟨h0, E, F, Z, rfl, hE, hE2, hF, hZ, hz⟩ := h
  refine ⟨h0, E, F ++ Z, rfl, hE2, ?_, ?_⟩
  · simp only [List.length_append] at hm
    by_cases h1 : 0 < F.length
    · obtain ⟨c1, F1, rfl, l1, s1, hF1⟩ := full_cons hF h1
      rw [List.length_append] at hm
      have e1 : F1 = [] := List.length_eq_zero_iff.1 (by omega)
      have e2 : Z = [] := List.length_eq_zero_iff.1 (by omega)
      subst e1
      subst e2
      simpa using s1
    · have e1 : F = [] := List.length_eq_zero_iff.1 (by omega)
      subst e1
      exact hZ
  · simp only [List.length_append] at hm ⊢
    omega
theorem blocks_done {s : Nat} {d0 d : List Pair} (h : Blocks s d0 d) (hl : d.length ≤ s) : Sorted d ∧ Same d0 d := by
  refine ⟨?_, h.1⟩
  obtain ⟨_, F, Z, rfl, hF, hZ, hz⟩ := h
  simp only [List.length_append] at hl
  by_cases h1 : 0 < F.length
  · obtain ⟨c1, F1, rfl, l1, s1, hF1⟩ := full_cons hF h1
    rw [List.length_append] at hl
    have e1 : F1 = [] := List.length_eq_zero_iff.1 (by omega)
    have e2 : Z = [] := List.length_eq_zero_iff.1 (by omega)
    subst e1
    subst e2
    simpa using s1
  · have e1 : F = [] := List.length_eq_zero_iff.1 (by omega)
    subst e1
    exact hZ

/-! the first of each key -/
/-- of each run of one key the first -/
def firsts : List Pair → List Pair
  | [] => []
  | [p] => [p]
  | p :: q :: l => if q.key = p.key then (match firsts (q :: l) with | [] => [p] | _ :: t => p :: t) else p :: firsts (q :: l)
theorem firsts_two (p q : Pair) (l : List Pair) : firsts (p :: q :: l) = if q.key = p.key then (match firsts (q :: l) with | [] => [p] | _ :: t => p :: t) else p :: firsts (q :: l) := rfl
theorem firsts_head : ∀ (q : Pair) (l : List Pair), ∃ t, firsts (q :: l) = q :: t
  | q, [] => ⟨[], rfl⟩
  | q, r :: l => by
    obtain ⟨t, ht⟩ := firsts_head r l
    unfold firsts
    split
    · rw [ht]; exact ⟨t, rfl⟩
    · exact ⟨_, rfl⟩
/-- one more behind -/
theorem firsts_snoc : ∀ (l : List Pair) (p q : Pair), firsts (l ++ [p] ++ [q]) = firsts (l ++ [p]) ++ (if q.key = p.key then [] else [q])
  | [], p, q => by
    show firsts [p, q] = [p] ++ _
    by_cases h : q.key = p.key
    · rw [if_pos h]; unfold firsts; rw [if_pos h]; rfl
    · rw [if_neg h]; unfold firsts; rw [if_neg h]; rfl
  | [a], p, q => by
    have i := firsts_snoc [] p q
    simp only [List.nil_append, List.cons_append] at i ⊢
    obtain ⟨t, ht⟩ := firsts_head p [q]
    obtain ⟨t2, ht2⟩ := firsts_head p []
    rw [ht, ht2] at i
    show firsts (a :: p :: [q]) = firsts [a, p] ++ _
    rw [firsts_two a p [q], firsts_two a p [], ht, ht2]
    by_cases h : p.key = a.key
    · rw [if_pos h, if_pos h]
      simp only [List.cons_append, List.cons.injEq, true_and] at i ⊢
      exact i
    · rw [if_neg h, if_neg h]
      simp only [List.cons_append, List.cons.injEq, true_and] at i ⊢
      exact i
  | a :: b :: l, p, q => by
    have i := firsts_snoc (b :: l) p q
    simp only [List.cons_append] at i ⊢
    obtain ⟨t, ht⟩ := firsts_head b (l ++ [p] ++ [q])
    obtain ⟨t2, ht2⟩ := firsts_head b (l ++ [p])
    rw [ht, ht2] at i
    rw [firsts_two a b (l ++ [p] ++ [q]), firsts_two a b (l ++ [p]), ht, ht2]
    by_cases h : b.key = a.key
    · rw [if_pos h, if_pos h]
      simp only [List.cons_append, List.cons.injEq, true_and] at i ⊢
      exact i
    · rw [if_neg h, if_neg h]
      simp only [List.cons_append, List.cons.injEq, true_and] at i ⊢
      exact i
theorem firsts_next {l : List Pair} {k : Nat} (hk : k + 1 < l.length) : firsts (l.take (k + 2)) = firsts (l.take (k + 1)) ++ (if (l[k + 1]).key = (l[k]).key then [] else [l[k + 1]]) := by
  rw [List.take_succ_eq_append_getElem hk, List.take_succ_eq_append_getElem (by omega : k < l.length)]
  exact firsts_snoc _ _ _
theorem mem_firsts : ∀ (l : List Pair) {x : Pair}, x ∈ firsts l → x ∈ l
  | [], _, h => h
  | [p], _, h => h
  | p :: q :: l, x, h => by
    have i := mem_firsts (q :: l) (x := x)
    obtain ⟨t, ht⟩ := firsts_head q l
    unfold firsts at h
    rw [ht] at h i
    split at h
    · rcases List.mem_cons.1 h with rfl | h
      · exact List.mem_cons_self ..
      · exact List.mem_cons_of_mem _ (i (List.mem_cons_of_mem _ h))
    · rcases List.mem_cons.1 h with rfl | h
      · exact List.mem_cons_self ..
      · exact List.mem_cons_of_mem _ (i h)
theorem firsts_len : ∀ (l : List Pair), (firsts l).length ≤ l.length
  | [] => Nat.le_refl _
  | [p] => Nat.le_refl _
  | p :: q :: l => by
    have i := firsts_len (q :: l)
    obtain ⟨t, ht⟩ := firsts_head q l
    unfold firsts
    rw [ht] at i ⊢
    simp only [List.length_cons] at i
    split <;> simp only [List.length_cons] <;> omega
theorem firsts_rising : ∀ {l : List Pair}, Sorted l → Rising (firsts l)
  | [], _ => List.Pairwise.nil
  | [p], _ => List.pairwise_singleton ..
  | p :: q :: l, h => by
    obtain ⟨h1, h2⟩ := List.pairwise_cons.1 h
    have i := firsts_rising h2
    obtain ⟨t, ht⟩ := firsts_head q l
    unfold firsts
    rw [ht] at i ⊢
    obtain ⟨i1, i2⟩ := List.pairwise_cons.1 i
    split
    · rename_i e
      exact List.pairwise_cons.2 ⟨fun x hx => by rw [← e]; exact i1 x hx, i2⟩
    · rename_i e
      have hlt : lt p.key q.key = true := by
        cases h3 : lt p.key q.key with
        | true => rfl
        | false => exact absurd (Stores.lt_total (h1 q (List.mem_cons_self ..)) h3) e
      refine List.pairwise_cons.2 ⟨fun x hx => ?_, i⟩
      rcases List.mem_cons.1 hx with rfl | hx
      · exact hlt
      · exact Stores.lt_trans hlt (i1 x hx)
theorem firsts_find : ∀ (l : List Pair) (k : ByteArray), find (firsts l) k = find l k
  | [], _ => rfl
  | [p], _ => rfl
  | p :: q :: l, k => by
    have i := firsts_find (q :: l) k
    obtain ⟨t, ht⟩ := firsts_head q l
    unfold firsts
    rw [ht] at i ⊢
    rw [Stores.find_cons q t] at i
    by_cases e : q.key = p.key
    · rw [if_pos e, Stores.find_cons, Stores.find_cons]
      by_cases h : p.key = k
      · rw [if_pos h, if_pos h]
      · rw [if_neg h, if_neg h, ← i, if_neg (by rw [e]; exact h)]
    · rw [if_neg e, Stores.find_cons, Stores.find_cons p, ← i, Stores.find_cons]

/-! all levels together -/
theorem find_append (a b : List Pair) (k : ByteArray) : find (a ++ b) k = (find a k).or (find b k) := by
  unfold find
  rw [List.find?_append]
theorem look_flat : ∀ (r : List (List Pair)) (k : ByteArray), find r.flatten k = Lsms.look r k
  | [], _ => rfl
  | l :: r, k => by rw [List.flatten_cons, find_append, Lsms.look, look_flat r]
theorem live_of (r : List (List Pair)) {d : List Pair} (hs : Sorted d) (hd : Same r.flatten d) : (firsts d).filter (fun p => !p.gone) = Lsms.live r := by
  refine Lsms.rising_ext (Lsms.rising_alive (firsts_rising hs)) (Lsms.live_rising r) fun k => ?_
  show find (Lsms.alive (firsts d)) k = _
  rw [Lsms.find_alive (firsts_rising hs), Lsms.live_find, firsts_find, ← hd.find, look_flat]
theorem total_flat : ∀ (r : List (List Pair)), r.flatten.length = Lsms.total r
  | [] => rfl
  | l :: r => by rw [List.flatten_cons, List.length_append, total_flat r, Lsms.total]

end Go.Proofs.YtofaegcljcpceagGreatDoor.Blocks

