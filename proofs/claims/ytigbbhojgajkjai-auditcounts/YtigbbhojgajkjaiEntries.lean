/-
  Plain mathematics of entries: what is wrong with one, its bytes, what bytes read as one or as many; and that they are read as they were. Nothing of the program is named here.
-/
import Derived.Test.YtigbbhojgajkjaiSums
import Derived.Test.YtigbbhojgajkjaiNums
namespace Go.Proofs.Ytigbbhojgajkjai.Entries
open Nums (str str_data str_size)

/-- a time, and what is said -/
abbrev Entry := Int × ByteArray
/-- what is wrong with one -/
def entE (e : Entry) : Nat := if e.1 < 0 ∨ 1000000 < e.1 then 1 else if 200 < e.2.size then 4 else 0
theorem ent_ok {e : Entry} (h : entE e = 0) : 0 ≤ e.1 ∧ e.1 ≤ 1000000 ∧ e.2.size ≤ 200 := by
  unfold entE at h
  split at h
  · cases h
  · split at h
    · cases h
    · omega
theorem ent_of {e : Entry} (h0 : 0 ≤ e.1) (h1 : e.1 ≤ 1000000) (h2 : e.2.size ≤ 200) : entE e = 0 := by
  unfold entE
  rw [if_neg (by omega), if_neg (by omega)]
/-- its bytes -/
def bytes (e : Entry) : List UInt8 := UInt8.ofNat (e.1.toNat / 65536) :: UInt8.ofNat (e.1.toNat / 256) :: UInt8.ofNat e.1.toNat :: UInt8.ofNat e.2.size :: e.2.data.toList
theorem bytes_length (e : Entry) : (bytes e).length = 4 + e.2.size := by
  simp only [bytes, List.length_cons]
  have : e.2.data.toList.length = e.2.size := by simp
  omega
/-- one of three bytes and of others -/
def made (a b c : UInt8) (d : List UInt8) : Entry := (((a.toNat * 65536 + b.toNat * 256 + c.toNat : Nat) : Int), str d)
/-- an entry off bytes -/
def take1 : List UInt8 → Option (Entry × List UInt8)
  | a :: b :: c :: n :: r => if n.toNat ≤ r.length ∧ entE (made a b c (r.take n.toNat)) = 0 then some (made a b c (r.take n.toNat), r.drop n.toNat) else none
  | _ => none
theorem take1_bytes (e : Entry) (r : List UInt8) (h : entE e = 0) : take1 (bytes e ++ r) = some (e, r) := by
  obtain ⟨h0, h1, h2⟩ := ent_ok h
  have hl : e.2.data.toList.length = e.2.size := by simp
  have hn : (UInt8.ofNat e.2.size).toNat = e.2.size := by rw [UInt8.toNat_ofNat']; omega
  have hm : made (UInt8.ofNat (e.1.toNat / 65536)) (UInt8.ofNat (e.1.toNat / 256)) (UInt8.ofNat e.1.toNat) e.2.data.toList = e := by
    unfold made
    apply Prod.ext
    · simp only [UInt8.toNat_ofNat']
      omega
    · rfl
  show (if (UInt8.ofNat e.2.size).toNat ≤ (e.2.data.toList ++ r).length ∧ entE (made (UInt8.ofNat (e.1.toNat / 65536)) (UInt8.ofNat (e.1.toNat / 256)) (UInt8.ofNat e.1.toNat) ((e.2.data.toList ++ r).take (UInt8.ofNat e.2.size).toNat)) = 0 then some (made (UInt8.ofNat (e.1.toNat / 65536)) (UInt8.ofNat (e.1.toNat / 256)) (UInt8.ofNat e.1.toNat) ((e.2.data.toList ++ r).take (UInt8.ofNat e.2.size).toNat), (e.2.data.toList ++ r).drop (UInt8.ofNat e.2.size).toNat) else none) = some (e, r)
  rw [hn, ← hl, List.take_left, List.drop_left, hm, if_pos ⟨by rw [List.length_append]; omega, h⟩]
theorem bytes_made (a b c n : UInt8) (d : List UInt8) (h : d.length = n.toNat) : bytes (made a b c d) = a :: b :: c :: n :: d := by
  have ha := a.toNat_lt
  have hb := b.toNat_lt
  have hc := c.toNat_lt
  unfold bytes made
  simp only [Int.toNat_natCast, str_data, str_size]
  rw [h]
  congr 1
  · apply UInt8.toNat_inj.1; rw [UInt8.toNat_ofNat']; omega
  · congr 1
    · apply UInt8.toNat_inj.1; rw [UInt8.toNat_ofNat']; omega
    · congr 1
      · apply UInt8.toNat_inj.1; rw [UInt8.toNat_ofNat']; omega
      · congr 1
        apply UInt8.toNat_inj.1
        rw [UInt8.toNat_ofNat']
        have := n.toNat_lt
        omega
theorem take1_four (a b c n : UInt8) (r : List UInt8) : take1 (a :: b :: c :: n :: r) = if n.toNat ≤ r.length ∧ entE (made a b c (r.take n.toNat)) = 0 then some (made a b c (r.take n.toNat), r.drop n.toNat) else none := rfl
theorem take1_short : ∀ (s : List UInt8), s.length < 4 → take1 s = none
  | [], _ => rfl
  | [_], _ => rfl
  | [_, _], _ => rfl
  | [_, _, _], _ => rfl
  | _ :: _ :: _ :: _ :: r, h => by simp at h; omega
theorem four_of : ∀ (s : List UInt8), ¬ s.length < 4 → ∃ a b c n r, s = a :: b :: c :: n :: r
  | [], h => absurd (by simp) h
  | [_], h => absurd (by simp) h
  | [_, _], h => absurd (by simp) h
  | [_, _, _], h => absurd (by simp) h
  | a :: b :: c :: n :: r, _ => ⟨a, b, c, n, r, rfl⟩
theorem take1_some {s r : List UInt8} {e : Entry} (h : take1 s = some (e, r)) : s = bytes e ++ r ∧ entE e = 0 := by
  by_cases hl : s.length < 4
  · rw [take1_short s hl] at h; cases h
  · obtain ⟨a, b, c, n, q, rfl⟩ := four_of s hl
    rw [take1_four] at h
    by_cases hq : n.toNat ≤ q.length ∧ entE (made a b c (q.take n.toNat)) = 0
    · rw [if_pos hq] at h
      simp only [Option.some.injEq, Prod.mk.injEq] at h
      obtain ⟨rfl, rfl⟩ := h
      refine ⟨?_, hq.2⟩
      rw [bytes_made a b c n _ (by rw [List.length_take]; omega)]
      simp
    · rw [if_neg hq] at h; cases h

/-- so many, one behind the other -/
def takes : Nat → List UInt8 → Option (List Entry × List UInt8)
  | 0, s => some ([], s)
  | k + 1, s => match takes k s with
    | none => none
    | some (l, r) => match take1 r with
      | none => none
      | some (e, q) => some (l ++ [e], q)
theorem takes_snoc {k : Nat} {s r q : List UInt8} {l : List Entry} {e : Entry} (h : takes k s = some (l, r)) (h1 : take1 r = some (e, q)) : takes (k + 1) s = some (l ++ [e], q) := by
  simp only [takes, h, h1]
theorem takes_end {k : Nat} {s r : List UInt8} {l : List Entry} (h : takes k s = some (l, r)) (h1 : take1 r = none) : takes (k + 1) s = none := by
  simp only [takes, h, h1]
theorem takes_none {k : Nat} {s : List UInt8} (h : takes k s = none) : ∀ j, takes (k + j) s = none
  | 0 => h
  | j + 1 => by rw [← Nat.add_assoc]; simp only [takes, takes_none h j]
/-- the bytes of some -/
def all (l : List Entry) : List UInt8 := l.flatMap bytes
theorem all_snoc (l : List Entry) (e : Entry) : all (l ++ [e]) = all l ++ bytes e := by simp [all]
theorem takes_some : ∀ {k : Nat} {s r : List UInt8} {l : List Entry}, takes k s = some (l, r) → s = all l ++ r ∧ l.length = k ∧ ∀ e ∈ l, entE e = 0
  | 0, s, r, l, h => by
    simp only [takes, Option.some.injEq, Prod.mk.injEq] at h
    obtain ⟨rfl, rfl⟩ := h
    exact ⟨rfl, rfl, by intro e he; cases he⟩
  | k + 1, s, r, l, h => by
    cases h1 : takes k s with
    | none => simp only [takes, h1] at h; cases h
    | some x =>
      obtain ⟨m, q⟩ := x
      obtain ⟨i1, i2, i3⟩ := takes_some h1
      cases h2 : take1 q with
      | none => simp only [takes, h1, h2] at h; cases h
      | some y =>
        obtain ⟨e, p⟩ := y
        obtain ⟨j1, j2⟩ := take1_some h2
        simp only [takes, h1, h2, Option.some.injEq, Prod.mk.injEq] at h
        obtain ⟨rfl, rfl⟩ := h
        refine ⟨by rw [all_snoc, List.append_assoc, ← j1]; exact i1, by simp [i2], ?_⟩
        intro x hx
        rcases List.mem_append.1 hx with hx | hx
        · exact i3 x hx
        · rw [List.mem_singleton.1 hx]; exact j2
theorem takes_all : ∀ (m : List Entry) (q : List UInt8), (∀ e ∈ m, entE e = 0) → takes m.length (all m ++ q) = some (m, q) := by
  have h : ∀ (n : Nat) (m : List Entry) (q : List UInt8), m.length = n → (∀ e ∈ m, entE e = 0) → takes m.length (all m ++ q) = some (m, q) := by
    intro n
    induction n with
    | zero =>
      intro m q hm _
      rw [List.length_eq_zero_iff.1 hm]
      rfl
    | succ n ih =>
      intro m q hm hv
      obtain ⟨r, e, rfl⟩ : ∃ r e, m = r ++ [e] := ⟨m.dropLast, m.getLast (by intro h; simp [h] at hm), (List.dropLast_concat_getLast _).symm⟩
      have i := ih r (bytes e ++ q) (by simpa using hm) (fun x hx => hv x (List.mem_append_left _ hx))
      rw [all_snoc, List.append_assoc, List.length_append]
      exact takes_snoc i (take1_bytes e q (hv e (by simp)))
  exact fun m q hv => h m.length m q rfl hv

/-- nothing may be left -/
def whole {α : Type} : Option (α × List UInt8) → Option α
  | some (x, []) => some x
  | _ => none
theorem whole_some {α : Type} {o : Option (α × List UInt8)} {x : α} (h : whole o = some x) : o = some (x, []) := by
  match o, h with
  | some (y, []), h => simp only [whole, Option.some.injEq] at h; rw [h]
/-- bytes as one entry -/
def dec (s : List UInt8) : Option Entry := whole (take1 s)
theorem dec_bytes {e : Entry} (h : entE e = 0) : dec (bytes e) = some e := by
  have := take1_bytes e [] h
  rw [List.append_nil] at this
  rw [dec, this]
  rfl
theorem dec_some {s : List UInt8} {e : Entry} (h : dec s = some e) : s = bytes e ∧ entE e = 0 := by
  have := take1_some (whole_some h)
  rw [List.append_nil] at this
  exact this
/-- many as bytes -/
def pack (l : List Entry) : List UInt8 := UInt8.ofNat l.length :: all l
/-- bytes as many -/
def unpack : List UInt8 → Option (List Entry)
  | [] => none
  | n :: r => if 200 < n.toNat then none else whole (takes n.toNat r)
theorem unpack_cons (n : UInt8) (r : List UInt8) : unpack (n :: r) = if 200 < n.toNat then none else whole (takes n.toNat r) := rfl
theorem unpack_pack {l : List Entry} (hn : l.length ≤ 200) (h : ∀ e ∈ l, entE e = 0) : unpack (pack l) = some l := by
  have hm : (UInt8.ofNat l.length).toNat = l.length := by rw [UInt8.toNat_ofNat']; omega
  have i := takes_all l [] h
  rw [List.append_nil] at i
  rw [pack, unpack_cons, hm, if_neg (by omega), i]
  rfl
theorem pack_unpack {s : List UInt8} {l : List Entry} (h : unpack s = some l) : pack l = s ∧ l.length ≤ 200 ∧ ∀ e ∈ l, entE e = 0 := by
  match s with
  | [] => cases h
  | n :: r =>
    rw [unpack_cons] at h
    by_cases hn : 200 < n.toNat
    · rw [if_pos hn] at h; cases h
    · rw [if_neg hn] at h
      obtain ⟨i1, i2, i3⟩ := takes_some (whole_some h)
      rw [List.append_nil] at i1
      refine ⟨?_, by omega, i3⟩
      rw [pack, i2, ← i1]
      simp
/-- what is wrong with some -/
def firstE : List Entry → Nat
  | [] => 0
  | e :: l => if entE e = 0 then firstE l else entE e
def entsE (l : List Entry) : Nat := if 200 < l.length then 4 else firstE l
theorem firstE_zero : ∀ {l : List Entry}, firstE l = 0 ↔ ∀ e ∈ l, entE e = 0
  | [] => by simp [firstE]
  | e :: l => by
    unfold firstE
    by_cases h : entE e = 0
    · rw [if_pos h, firstE_zero]
      simp [h]
    · rw [if_neg h]
      simp [h]
theorem firstE_at : ∀ {l : List Entry} {k : Nat} (h : k < l.length), (∀ e ∈ l.take k, entE e = 0) → entE l[k] ≠ 0 → firstE l = entE l[k]
  | e :: l, 0, _, _, h1 => by
    unfold firstE
    exact if_neg h1
  | e :: l, k + 1, h, h0, h1 => by
    unfold firstE
    rw [if_pos (h0 e (by simp))]
    exact firstE_at (l := l) (k := k) (by simpa using h) (fun x hx => h0 x (by rw [List.take_succ_cons]; exact List.mem_cons_of_mem _ hx)) h1
theorem ents_ok {l : List Entry} (h : entsE l = 0) : l.length ≤ 200 ∧ ∀ e ∈ l, entE e = 0 := by
  unfold entsE at h
  split at h
  · cases h
  · exact ⟨by omega, firstE_zero.1 h⟩
theorem ents_of {l : List Entry} (h0 : l.length ≤ 200) (h1 : ∀ e ∈ l, entE e = 0) : entsE l = 0 := by
  unfold entsE
  rw [if_neg (by omega)]
  exact firstE_zero.2 h1
/-- the leafs of some -/
def leafsOf (l : List Entry) : List Int := l.map fun e => Sums.sum (0 :: bytes e)
def packV (l : List Entry) : List UInt8 := if entsE l = 0 then pack l else []
def leafsV (l : List Entry) : List Int := if entsE l = 0 then leafsOf l else []

/-- what is told where there is nothing wrong, and else -/
def encV (e : Entry) : List UInt8 := if entE e = 0 then bytes e else []
def decE (s : List UInt8) : Nat := if (dec s).isSome = true then 0 else 2
def decV (s : List UInt8) : Entry := (dec s).getD (0, ⟨#[]⟩)
def unpackE (s : List UInt8) : Nat := if (unpack s).isSome = true then 0 else 2
def unpackV (s : List UInt8) : List Entry := (unpack s).getD []
theorem dec_is {s : List UInt8} {e : Entry} (h : dec s = some e) : decE s = 0 ∧ decV s = e := by
  unfold decE decV
  rw [h]
  exact ⟨rfl, rfl⟩
theorem dec_not {s : List UInt8} (h : dec s = none) : decE s = 2 ∧ decV s = (0, ⟨#[]⟩) := by
  unfold decE decV
  rw [h]
  exact ⟨rfl, rfl⟩
theorem unpack_is {s : List UInt8} {l : List Entry} (h : unpack s = some l) : unpackE s = 0 ∧ unpackV s = l := by
  unfold unpackE unpackV
  rw [h]
  exact ⟨rfl, rfl⟩
theorem unpack_not {s : List UInt8} (h : unpack s = none) : unpackE s = 2 ∧ unpackV s = [] := by
  unfold unpackE unpackV
  rw [h]
  exact ⟨rfl, rfl⟩
theorem unpackV_len (s : List UInt8) : (unpackV s).length ≤ 200 := by
  cases h : unpack s with
  | none => rw [(unpack_not h).2]; exact Nat.zero_le _
  | some l => rw [(unpack_is h).2]; exact (pack_unpack h).2.1
theorem all_length : ∀ (l : List Entry), (∀ e ∈ l, entE e = 0) → (all l).length ≤ 204 * l.length
  | [], _ => by simp [all]
  | e :: l, h => by
    have i := all_length l fun x hx => h x (List.mem_cons_of_mem _ hx)
    have k := (ent_ok (h e (by simp))).2.2
    have e1 : all (e :: l) = bytes e ++ all l := by simp [all]
    rw [e1, List.length_append, bytes_length, List.length_cons]
    omega

end Go.Proofs.Ytigbbhojgajkjai.Entries
