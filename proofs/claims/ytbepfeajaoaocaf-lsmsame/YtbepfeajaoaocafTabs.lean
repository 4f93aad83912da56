/-
  Plain mathematics of pairs as bytes, for good: what is wrong with some, their bytes, and bytes read as some. Nothing of the program is named here.
-/
import Derived.Test.YtbepfeajaoaocafStores
import Derived.Test.YtbepfeajaoaocafNums
namespace Go.Proofs.Ytbepfeajaoaocaf.Tabs
open Stores (Pair lt keyE Rising)
open Nums (str four)

/-! what is wrong -/
def fault (q : Option ByteArray) (p : Pair) : Nat :=
  if keyE p.key ≠ 0 then keyE p.key else if 200 < p.val.size then 4 else if p.gone = true ∧ p.val.size ≠ 0 then 3 else match q with
    | some k => if lt k p.key = true then 0 else 7
    | none => 0
def pairsF : Option ByteArray → List Pair → Nat
  | _, [] => 0
  | q, p :: r => if fault q p ≠ 0 then fault q p else pairsF (some p.key) r
def pairsE (l : List Pair) : Nat := pairsF none l
/-- the key of the last one -/
def last (q : Option ByteArray) : List Pair → Option ByteArray
  | [] => q
  | p :: r => last (some p.key) r
theorem last_snoc (q : Option ByteArray) : ∀ (l : List Pair) (p : Pair), last q (l ++ [p]) = some p.key
  | [], _ => rfl
  | x :: l, p => last_snoc (some x.key) l p
theorem pairsF_append : ∀ (q : Option ByteArray) (a b : List Pair), pairsF q (a ++ b) = if pairsF q a ≠ 0 then pairsF q a else pairsF (last q a) b
  | q, [], b => by simp [pairsF, last]
  | q, p :: a, b => by
    rw [List.cons_append, pairsF, pairsF, last]
    by_cases h : fault q p ≠ 0
    · rw [if_pos h, if_pos h, if_pos h]
    · rw [if_neg h, if_neg h, pairsF_append (some p.key) a b]
/-- the first that is none -/
theorem pairs_at {l : List Pair} {k : Nat} (hk : k < l.length) (h : pairsE (l.take k) = 0) (hf : fault (last none (l.take k)) l[k] ≠ 0) : pairsE l = fault (last none (l.take k)) l[k] := by
  have e : l = l.take k ++ l[k] :: l.drop (k + 1) := by rw [List.getElem_cons_drop, List.take_append_drop]
  have h2 : pairsE (l.take k ++ l[k] :: l.drop (k + 1)) = fault (last none (l.take k)) l[k] := by
    unfold pairsE
    rw [pairsF_append, if_neg (by show ¬ pairsE _ ≠ 0; rw [h]; exact fun q => q rfl), pairsF, if_pos hf]
  rw [← e] at h2
  exact h2
theorem pairs_next {l : List Pair} {k : Nat} (hk : k < l.length) (h : pairsE (l.take k) = 0) (hf : fault (last none (l.take k)) l[k] = 0) : pairsE (l.take (k + 1)) = 0 := by
  rw [List.take_succ_eq_append_getElem hk]
  unfold pairsE
  rw [pairsF_append, if_neg (by show ¬ pairsE _ ≠ 0; rw [h]; exact fun q => q rfl), pairsF, if_neg (by rw [hf]; exact fun q => q rfl)]
  rfl
theorem last_zero (l : List Pair) : last none (l.take 0) = none := rfl
theorem last_at {l : List Pair} {k : Nat} (hk : k < l.length) : last none (l.take (k + 1)) = some (l[k]).key := by
  rw [List.take_succ_eq_append_getElem hk, last_snoc]
theorem fault_ok {q : Option ByteArray} {p : Pair} (h : fault q p = 0) : 0 < p.key.size ∧ p.key.size ≤ 200 ∧ p.val.size ≤ 200 ∧ (p.gone = true → p.val.size = 0) ∧ ∀ k, q = some k → lt k p.key = true := by
  unfold fault at h
  by_cases h0 : keyE p.key ≠ 0
  · rw [if_pos h0] at h
    exact absurd h h0
  rw [if_neg h0] at h
  have h0 : keyE p.key = 0 := Decidable.not_not.1 h0
  unfold keyE at h0
  by_cases a : p.key.size = 0
  · rw [if_pos a] at h0; cases h0
  rw [if_neg a] at h0
  by_cases b : 200 < p.key.size
  · rw [if_pos b] at h0; cases h0
  by_cases c : 200 < p.val.size
  · rw [if_pos c] at h; cases h
  rw [if_neg c] at h
  by_cases d : p.gone = true ∧ p.val.size ≠ 0
  · rw [if_pos d] at h; cases h
  rw [if_neg d] at h
  refine ⟨by omega, by omega, by omega, fun hg => Decidable.not_not.1 fun hv => d ⟨hg, hv⟩, ?_⟩
  rintro k rfl
  simp only at h
  by_cases e : lt k p.key = true
  · exact e
  · rw [if_neg e] at h; cases h
theorem pairsF_ok : ∀ {l : List Pair} {q : Option ByteArray}, pairsF q l = 0 → (∀ p ∈ l, 0 < p.key.size ∧ p.key.size ≤ 200 ∧ p.val.size ≤ 200) ∧ Rising l ∧ ∀ k, q = some k → ∀ p ∈ l, lt k p.key = true
  | [], _, _ => ⟨fun p hp => (by cases hp), List.Pairwise.nil, fun _ _ p hp => (by cases hp)⟩
  | p :: r, q, h => by
    rw [pairsF] at h
    by_cases hf : fault q p ≠ 0
    · rw [if_pos hf] at h
      exact absurd h hf
    rw [if_neg hf] at h
    obtain ⟨f1, f2, f3, _, f5⟩ := fault_ok (Decidable.not_not.1 hf)
    obtain ⟨g1, g2, g3⟩ := pairsF_ok h
    refine ⟨fun x hx => ?_, List.pairwise_cons.2 ⟨g3 _ rfl, g2⟩, fun k hk x hx => ?_⟩
    · rcases List.mem_cons.1 hx with rfl | hx
      · exact ⟨f1, f2, f3⟩
      · exact g1 x hx
    · rcases List.mem_cons.1 hx with rfl | hx
      · exact f5 k hk
      · exact Stores.lt_trans (f5 k hk) (g3 _ rfl x hx)
theorem pairs_ok {l : List Pair} (h : pairsE l = 0) : (∀ p ∈ l, 0 < p.key.size ∧ p.key.size ≤ 200 ∧ p.val.size ≤ 200) ∧ Rising l := ⟨(pairsF_ok h).1, (pairsF_ok h).2.1⟩
theorem pairsE_cases (l : List Pair) : pairsE l = 0 ∨ pairsE l = 2 ∨ pairsE l = 3 ∨ pairsE l = 4 ∨ pairsE l = 7 := by
  have hf : ∀ q p, fault q p = 0 ∨ fault q p = 2 ∨ fault q p = 3 ∨ fault q p = 4 ∨ fault q p = 7 := by
    intro q p
    unfold fault keyE
    repeat (first | split | simp)
  have hl : ∀ (l : List Pair) q, pairsF q l = 0 ∨ pairsF q l = 2 ∨ pairsF q l = 3 ∨ pairsF q l = 4 ∨ pairsF q l = 7 := by
    intro l
    induction l with
    | nil => intro q; exact .inl rfl
    | cons p r ih =>
      intro q
      rw [pairsF]
      split
      · exact hf q p
      · exact ih _
  exact hl l none

/-! as bytes -/
def mark (g : Bool) : UInt8 := if g = true then 1 else 0
def one (p : Pair) : List UInt8 := UInt8.ofNat p.key.size :: (p.key.data.toList ++ mark p.gone :: UInt8.ofNat p.val.size :: p.val.data.toList)
theorem one_length (p : Pair) : (one p).length = p.key.size + p.val.size + 3 := by
  simp only [one, List.length_cons, List.length_append, Array.length_toList]
  show p.key.size + (p.val.size + 1 + 1) + 1 = _
  omega
def body (l : List Pair) : List UInt8 := l.flatMap one
theorem body_snoc (l : List Pair) (p : Pair) : body (l ++ [p]) = body l ++ one p := by simp [body]
theorem body_cons (p : Pair) (l : List Pair) : body (p :: l) = one p ++ body l := by simp [body]
def headT (l : List Pair) : List UInt8 := body l ++ four (l.length : Int)
def table (l : List Pair) : List UInt8 := headT l ++ four (Sums.sum (headT l))
theorem table_length (l : List Pair) : (table l).length = (body l).length + 8 := by
  simp only [table, headT, List.length_append, Nums.four_length]
theorem body_le : ∀ (l : List Pair), 3 * l.length ≤ (body l).length
  | [] => Nat.le_refl _
  | p :: l => by
    have := body_le l
    rw [body_cons, List.length_append, one_length, List.length_cons]
    omega
theorem body_len : ∀ (l : List Pair) (M : Nat), (∀ p ∈ l, p.key.size ≤ 200 ∧ p.val.size ≤ 200) → l.length ≤ M → (body l).length ≤ 403 * M
  | [], _, _, _ => Nat.zero_le _
  | p :: l, M, h, hm => by
    have h1 := h p (List.mem_cons_self ..)
    rw [List.length_cons] at hm
    have := body_len l (M - 1) (fun x hx => h x (List.mem_cons_of_mem _ hx)) (by omega)
    rw [body_cons, List.length_append, one_length]
    omega

/-! bytes as pairs -/
def take1 : List UInt8 → Option (Pair × List UInt8)
  | [] => none
  | n :: r => if r.length < n.toNat + 2 then none else match r.drop n.toNat with
    | g :: v :: q => if g.toNat ≤ 1 ∧ v.toNat ≤ q.length then some (⟨str (r.take n.toNat), str (q.take v.toNat), decide (g.toNat = 1)⟩, q.drop v.toNat) else none
    | _ => none
theorem mark_le (g : Bool) : (mark g).toNat ≤ 1 ∧ decide ((mark g).toNat = 1) = g := by cases g <;> decide
theorem take1_one (p : Pair) (r : List UInt8) (hk : p.key.size < 256) (hv : p.val.size < 256) : take1 (one p ++ r) = some (p, r) := by
  obtain ⟨k, v, g⟩ := p
  simp only at hk hv
  have e1 : (UInt8.ofNat k.size).toNat = k.size := by rw [UInt8.toNat_ofNat']; omega
  have e2 : (UInt8.ofNat v.size).toNat = v.size := by rw [UInt8.toNat_ofNat']; omega
  have l1 : k.data.toList.length = k.size := Array.length_toList
  have l2 : v.data.toList.length = v.size := Array.length_toList
  simp only [one, List.cons_append, List.append_assoc]
  rw [take1, e1]
  rw [if_neg (by simp only [List.length_append, List.length_cons]; omega)]
  rw [show k.size = k.data.toList.length from l1.symm, List.drop_left, List.take_left]
  simp only
  rw [e2, if_pos ⟨(mark_le g).1, by rw [List.length_append]; omega⟩, (mark_le g).2]
  rw [show v.size = v.data.toList.length from l2.symm, List.drop_left, List.take_left]
  rfl
theorem take1_some {s r : List UInt8} {p : Pair} (h : take1 s = some (p, r)) : s = one p ++ r ∧ p.key.size < 256 ∧ p.val.size < 256 := by
  match s, h with
  | n :: q, h =>
    rw [take1] at h
    by_cases h1 : q.length < n.toNat + 2
    · rw [if_pos h1] at h; cases h
    rw [if_neg h1] at h
    match hd : q.drop n.toNat, h with
    | g :: v :: t, h =>
      simp only at h
      by_cases h2 : g.toNat ≤ 1 ∧ v.toNat ≤ t.length
      · rw [if_pos h2] at h
        simp only [Option.some.injEq, Prod.mk.injEq] at h
        obtain ⟨rfl, rfl⟩ := h
        have e0 : q = q.take n.toNat ++ g :: v :: t := by rw [← hd, List.take_append_drop]
        have lq : (q.take n.toNat).length = n.toNat := by rw [List.length_take]; omega
        have lt' : (t.take v.toNat).length = v.toNat := by rw [List.length_take]; omega
        have hm : mark (decide (g.toNat = 1)) = g := by
          apply UInt8.toNat_inj.1
          by_cases hg : g.toNat = 1
          · rw [decide_eq_true hg, hg]; rfl
          · rw [decide_eq_false hg, show g.toNat = 0 by omega]; rfl
        refine ⟨?_, ?_, ?_⟩
        · simp only [one, Nums.str_size, lq, lt', hm, Nums.str_data, UInt8.ofNat_toNat, List.cons_append, List.append_assoc, List.take_append_drop]
          rw [← e0]
        · simp only [Nums.str_size, lq]; exact n.toNat_lt
        · simp only [Nums.str_size, lt']; exact v.toNat_lt
      · rw [if_neg h2] at h; cases h
theorem take1_shorter {s r : List UInt8} {p : Pair} (h : take1 s = some (p, r)) : r.length + 3 ≤ s.length := by
  rw [(take1_some h).1, List.length_append, one_length]
  omega
def parseF : Nat → List UInt8 → Option (List Pair)
  | _, [] => some []
  | 0, _ :: _ => none
  | f + 1, n :: s => match take1 (n :: s) with
    | none => none
    | some (p, r) => (parseF f r).map (p :: ·)
theorem parseF_fuel : ∀ (f g : Nat) (s : List UInt8), s.length ≤ f → s.length ≤ g → parseF f s = parseF g s
  | 0, 0, _, _, _ => rfl
  | 0, g + 1, [], _, _ => rfl
  | f + 1, 0, [], _, _ => rfl
  | f + 1, g + 1, [], _, _ => rfl
  | f + 1, g + 1, n :: s, hf, hg => by
    rw [parseF, parseF]
    match h : take1 (n :: s) with
    | none => rfl
    | some (p, r) =>
      have := take1_shorter h
      simp only [List.length_cons] at this hf hg
      simp only
      rw [parseF_fuel f g r (by omega) (by omega)]
def parse (s : List UInt8) : Option (List Pair) := parseF s.length s
theorem parse_nil : parse [] = some [] := rfl
theorem parse_some {s r : List UInt8} {p : Pair} (h : take1 s = some (p, r)) : parse s = (parse r).map (p :: ·) := by
  match s, h with
  | n :: q, h =>
    have hs := take1_shorter h
    unfold parse
    rw [List.length_cons, parseF, h]
    simp only
    rw [List.length_cons] at hs
    rw [parseF_fuel q.length r.length r (by omega) (Nat.le_refl _)]
theorem parse_none {s : List UInt8} (h0 : s ≠ []) (h : take1 s = none) : parse s = none := by
  match s, h0 with
  | n :: q, _ =>
    unfold parse
    rw [List.length_cons, parseF, h]
theorem parse_body : ∀ (l : List Pair), (∀ p ∈ l, p.key.size < 256 ∧ p.val.size < 256) → parse (body l) = some l
  | [], _ => rfl
  | p :: l, h => by
    have h1 := h p (List.mem_cons_self ..)
    rw [body_cons, parse_some (take1_one p (body l) h1.1 h1.2), parse_body l fun x hx => h x (List.mem_cons_of_mem _ hx)]
    rfl
/-- so far, and what is left -/
theorem parse_step {s r q : List UInt8} {l : List Pair} {p : Pair} (h : parse s = (parse r).map (l ++ ·)) (h1 : take1 r = some (p, q)) : parse s = (parse q).map ((l ++ [p]) ++ ·) := by
  rw [h, parse_some h1, Option.map_map]
  congr 1
  funext x
  simp
theorem parse_start (s : List UInt8) : parse s = (parse s).map (([] : List Pair) ++ ·) := by
  rw [show (fun x : List Pair => ([] : List Pair) ++ x) = id from rfl, Option.map_id]
  rfl
theorem parse_end {s : List UInt8} {l : List Pair} (h : parse s = (parse []).map (l ++ ·)) : parse s = some l := by
  rw [h, parse_nil]
  simp
theorem parse_stop {s r : List UInt8} {l : List Pair} (h : parse s = (parse r).map (l ++ ·)) (h0 : r ≠ []) (h1 : take1 r = none) : parse s = none := by
  rw [h, parse_none h0 h1]
  rfl

/-- of just such bytes -/
def openT (s : List UInt8) : Option (List Pair) :=
  if s.length < 8 then none else match parse (s.take (s.length - 8)) with
    | some l => if pairsE l = 0 ∧ table l = s then some l else none
    | none => none
theorem open_table {l : List Pair} (h : pairsE l = 0) : openT (table l) = some l := by
  unfold openT
  rw [if_neg (by rw [table_length]; omega), table_length, show (body l).length + 8 - 8 = (body l).length by omega]
  rw [show (table l).take (body l).length = body l by unfold table headT; rw [List.append_assoc, List.take_left]]
  rw [parse_body l fun p hp => ⟨by have := (pairs_ok h).1 p hp; omega, by have := (pairs_ok h).1 p hp; omega⟩]
  simp [h]
theorem table_open {s : List UInt8} {l : List Pair} (h : openT s = some l) : pairsE l = 0 ∧ table l = s := by
  unfold openT at h
  by_cases h8 : s.length < 8
  · rw [if_pos h8] at h; cases h
  rw [if_neg h8] at h
  match hp : parse (s.take (s.length - 8)), h with
  | some m, h =>
    simp only at h
    by_cases h2 : pairsE m = 0 ∧ table m = s
    · rw [if_pos h2] at h
      obtain rfl : m = l := by simpa using h
      exact h2
    · rw [if_neg h2] at h; cases h
theorem open_len {s : List UInt8} {l : List Pair} (h : openT s = some l) : 3 * l.length + 8 ≤ s.length := by
  obtain ⟨_, rfl⟩ := table_open h
  have := body_le l
  rw [table_length]
  omega
/-- what Build and Open answer -/
def buildV (l : List Pair) : List UInt8 := if pairsE l = 0 then table l else []
def openE (s : List UInt8) : Nat := if (openT s).isSome = true then 0 else 2
def openV (s : List UInt8) : List Pair := (openT s).getD []
theorem open_is {s : List UInt8} {l : List Pair} (h : openT s = some l) : openE s = 0 ∧ openV s = l := by
  unfold openE openV
  rw [h]
  exact ⟨rfl, rfl⟩
theorem open_not {s : List UInt8} (h : openT s = none) : openE s = 2 ∧ openV s = [] := by
  unfold openE openV
  rw [h]
  exact ⟨rfl, rfl⟩
/-- the pair of a key, one that is gone, too -/
def getP (l : List Pair) (k : ByteArray) : Pair := (Stores.find l k).getD ⟨⟨#[]⟩, ⟨#[]⟩, false⟩
def getPE (l : List Pair) (k : ByteArray) : Nat := if (Stores.find l k).isSome = true then 0 else 5
def firstK (l : List Pair) : ByteArray := (l.head?.map (·.key)).getD ⟨#[]⟩
def lastK (l : List Pair) : ByteArray := (l.getLast?.map (·.key)).getD ⟨#[]⟩

end Go.Proofs.Ytbepfeajaoaocaf.Tabs
