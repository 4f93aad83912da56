/-
  Plain mathematics of a text that is answered line by line: a desk with a log and a mirror, what each line answers, and what becomes of the desk. Nothing of the program is named here.
-/
import Derived.Test.YtfpkngpgmllhnaaGreatDoorSePlain
import Derived.Test.YtfpkngpgmllhnaaGreatDoorKeyTrees
namespace Go.Proofs.YtfpkngpgmllhnaaGreatDoor.Runs
open Entries (Entry entE entsE leafsOf)
open Heads (Head)
open Mirrors
open Answers (logE logH answer)
open Decimals (dec words)
open Nums (str text)

/-- the errors by their names -/
def name : Nat → List UInt8
  | 0 => [79, 75]
  | 1 => [69, 114, 114, 82, 97, 110, 103, 101]
  | 2 => [69, 114, 114, 83, 121, 110, 116, 97, 120]
  | 3 => [69, 114, 114, 83, 104, 97, 112, 101]
  | 4 => [69, 114, 114, 70, 117, 108, 108]
  | 5 => [69, 114, 114, 78, 111, 110, 101]
  | 6 => [69, 114, 114, 83, 116, 97, 116, 101]
  | 7 => [69, 114, 114, 67, 108, 97, 115, 104]
  | 8 => [69, 114, 114, 80, 114, 111, 111, 102]
  | _ => [69, 114, 114, 83, 105, 103, 110]
def okT : List UInt8 := [111, 107]
def badT : List UInt8 := [98, 97, 100]
def wWant : List UInt8 := [119, 97, 110, 116]
def wStep : List UInt8 := [115, 116, 101, 112]
def wState : List UInt8 := [115, 116, 97, 116, 101]
def wAdd : List UInt8 := [97, 100, 100]
def wAsk : List UInt8 := [97, 115, 107]
def wKey : List UInt8 := [107, 101, 121]
def longT : List UInt8 := [116, 111, 111, 32, 108, 111, 110, 103, 10]
def tellE (e : Nat) : List UInt8 := if e = 0 then okT else name e

/-- a desk: a log, and who follows it -/
structure Desk where
  log : List Entry
  mir : Mir
def fresh : Desk := ⟨[], Mirrors.start⟩

/-- up to the first blank, and what is behind it -/
def word : List UInt8 → Option (List UInt8 × List UInt8)
  | [] => none
  | c :: s => if c = 32 then some ([], s) else (word s).map fun p => (c :: p.1, p.2)
theorem word_none : ∀ {s : List UInt8}, (32 : UInt8) ∉ s → word s = none
  | [], _ => rfl
  | c :: s, h => by
    rw [word, if_neg (fun e => h (by simp [e])), word_none (fun e => h (List.mem_cons_of_mem _ e))]
    rfl
theorem word_cut : ∀ {a : List UInt8} (b : List UInt8), (32 : UInt8) ∉ a → word (a ++ 32 :: b) = some (a, b)
  | [], b, _ => by rw [List.nil_append, word, if_pos rfl]
  | c :: a, b, h => by
    rw [List.cons_append, word, if_neg (fun e => h (by simp [e])), word_cut b (fun e => h (List.mem_cons_of_mem _ e))]
    rfl
theorem word_some : ∀ {s a b : List UInt8}, word s = some (a, b) → s = a ++ 32 :: b ∧ (32 : UInt8) ∉ a
  | [], _, _, h => by cases h
  | c :: s, a, b, h => by
    rw [word] at h
    split at h
    · rename_i hc
      injection h with h
      injection h with h1 h2
      subst h1 h2 hc
      exact ⟨rfl, by simp⟩
    · rename_i hc
      cases hw : word s with
      | none => rw [hw] at h; cases h
      | some p =>
        rw [hw] at h
        injection h with h
        injection h with h1 h2
        subst h1 h2
        obtain ⟨e1, e2⟩ := word_some (a := p.1) (b := p.2) hw
        refine ⟨by rw [List.cons_append, ← e1], ?_⟩
        intro hm
        rcases List.mem_cons.1 hm with h3 | h3
        · exact hc h3.symm
        · exact e2 h3
theorem word_no : ∀ {s : List UInt8}, word s = none → (32 : UInt8) ∉ s
  | [], _ => by simp
  | c :: s, h => by
    rw [word] at h
    split at h
    · cases h
    · rename_i hc
      cases hw : word s with
      | some p => rw [hw] at h; cases h
      | none =>
        intro hm
        rcases List.mem_cons.1 hm with h3 | h3
        · exact hc h3.symm
        · exact word_no hw h3

/-! what the mirror is told -/
def spoilH (h : Head) : Head := { h with root := if h.root - 1 < 0 then 1 else h.root - 1 }
def spoilP : List Int → List Int
  | [] => [0]
  | _ :: p => 0 :: p
def pageOf (d : Desk) : List Entry := (d.log.take d.mir.want.to_.toNat).drop d.mir.want.fr.toNat
def proofOf (d : Desk) : List Int := if d.mir.want.fr = 0 then [] else Grows.grow (leafsOf (d.log.take d.mir.want.to_.toNat)) d.mir.want.fr.toNat true
def replyOf (d : Desk) (bad : Bool) : Reply :=
  if d.mir.want.what = 1 then ⟨1, if bad = true then spoilH (logH d.log 7 0) else logH d.log 7 0, [], []⟩
  else if d.mir.want.what = 2 then ⟨2, Heads.zero, if bad = true then (pageOf d).map fun e => (0, e.2) else pageOf d, []⟩
  else ⟨3, Heads.zero, [], if bad = true then spoilP (proofOf d) else proofOf d⟩
def stepE (d : Desk) (bad : Bool) : Nat := hearE 7 d.mir (replyOf d bad)
def stepD (d : Desk) (bad : Bool) : Desk := ⟨d.log, hearM 7 d.mir (replyOf d bad)⟩

/-! each line -/
/-- an entry more -/
def addE (d : Desk) (x : Entry) : Nat := if entE x = 0 then (if 200 ≤ d.log.length then 4 else 0) else entE x
def addA (d : Desk) (rest : List UInt8) : List UInt8 × Desk :=
  match word rest with
  | none => (badT, d)
  | some (a, t) => match Decimals.number a 4 with
    | none => (badT, d)
    | some n => (tellE (addE d ((n : Int), str t)), if addE d ((n : Int), str t) = 0 then ⟨d.log ++ [((n : Int), str t)], d.mir⟩ else d)
def askA (d : Desk) (rest : List UInt8) : List UInt8 := if (answer d.log 7 0 rest).2 = 0 then (answer d.log 7 0 rest).1 else name (answer d.log 7 0 rest).2
def keyA (rest : List UInt8) : List UInt8 := if Stores.keyE (str rest) = 0 then KeyTrees.bitsT (KeyTrees.spot (str rest)) else name (Stores.keyE (str rest))
def wantA (d : Desk) : List UInt8 := dec d.mir.want.what.toNat ++ 32 :: (dec d.mir.want.fr.toNat ++ 32 :: dec d.mir.want.to_.toNat)
def stateA (d : Desk) : List UInt8 := dec d.mir.own.length ++ 32 :: text (rootE d.mir.own)
def line (d : Desk) (s : List UInt8) : List UInt8 × Desk :=
  match word s with
  | none => if s = wWant then (wantA d, d) else if s = wStep then (tellE (stepE d false), stepD d false) else if s = badT then (tellE (stepE d true), stepD d true) else if s = wState then (stateA d, d) else (badT, d)
  | some (w, rest) => if w = wAdd then addA d rest else if w = wAsk then (askA d rest, d) else if w = wKey then (keyA rest, d) else (badT, d)
/-- line by line -/
def runL : Desk → List (List UInt8) → List UInt8
  | _, [] => []
  | d, s :: ls => (line d s).1 ++ 10 :: runL (line d s).2 ls
def runD : Desk → List (List UInt8) → Desk
  | d, [] => d
  | d, s :: ls => runD (line d s).2 ls
/-- a last piece that is empty is none -/
def trim (ls : List (List UInt8)) : List (List UInt8) := if ls.getLast? = some [] then ls.dropLast else ls
def lines (t : List UInt8) : List (List UInt8) := trim (words 10 t)
def run (t : List UInt8) : List UInt8 := if 3000 < t.length then longT else runL fresh (lines t)

theorem runL_append : ∀ (a b : List (List UInt8)) (d : Desk), runL d (a ++ b) = runL d a ++ runL (runD d a) b
  | [], _, _ => rfl
  | s :: a, b, d => by
    rw [List.cons_append, runL, runL_append a b, runL, runD]
    simp
theorem runD_append : ∀ (a b : List (List UInt8)) (d : Desk), runD d (a ++ b) = runD (runD d a) b
  | [], _, _ => rfl
  | s :: a, b, d => by rw [List.cons_append, runD, runD_append a b, runD]

/-! lines of a text in two -/
theorem words_append (c : UInt8) : ∀ (a b : List UInt8), words c (a ++ c :: b) = words c a ++ words c b
  | [], b => by
    show words c (c :: b) = [] :: words c b
    rw [words, if_pos rfl]
  | x :: a, b => by
    have ih := words_append c a b
    rw [List.cons_append, words, words]
    split
    · rw [ih]; rfl
    · rw [ih]
      cases hw : words c a with
      | nil => exact absurd hw (Decimals.words_ne c a)
      | cons w ws => rfl
theorem lines_append (a b : List UInt8) : lines (a ++ 10 :: b) = words 10 a ++ lines b := by
  unfold lines trim
  rw [words_append]
  have hb := Decimals.words_ne 10 b
  have e : (words 10 a ++ words 10 b).getLast? = (words 10 b).getLast? := by
    rw [List.getLast?_append]
    cases h : (words 10 b).getLast? with
    | none => exact absurd (List.getLast?_eq_none_iff.1 h) hb
    | some x => rfl
  rw [e]
  split
  · rw [List.dropLast_append_of_ne_nil hb]
  · rfl
theorem lines_nil : lines [] = [] := rfl
theorem lines_end (a : List UInt8) : lines (a ++ [10]) = words 10 a := by
  have := lines_append a []
  rw [lines_nil, List.append_nil] at this
  exact this
/-- the answers to a beginning that ends a line are a beginning of the answers -/
theorem begins (a b : List UInt8) : runL fresh (lines (a ++ [10])) <+: runL fresh (lines (a ++ [10] ++ b)) := by
  rw [lines_end, List.append_assoc, List.singleton_append, lines_append, runL_append]
  exact List.prefix_append _ _
theorem run_begins {t : List UInt8} (ht : t.length ≤ 3000) {k : Nat} (hk : k ≤ t.length) (h : k = t.length ∨ k = 0 ∨ (0 < k ∧ t[k - 1]? = some 10)) : run (t.take k) <+: run t := by
  have hs : (t.take k).length ≤ 3000 := by rw [List.length_take]; omega
  unfold run
  rw [if_neg (show ¬ 3000 < (t.take k).length by omega), if_neg (show ¬ 3000 < t.length by omega)]
  rcases h with rfl | rfl | ⟨h0, h1⟩
  · rw [List.take_of_length_le (Nat.le_refl _)]
    exact List.prefix_refl _
  · rw [List.take_zero, lines_nil]
    exact List.nil_prefix
  · obtain ⟨hl, he⟩ := List.getElem?_eq_some_iff.1 h1
    have e : t.take k = t.take (k - 1) ++ [10] := by
      have := List.take_succ_eq_append_getElem hl
      rw [show k - 1 + 1 = k by omega, he] at this
      exact this
    have b := begins (t.take (k - 1)) (t.drop k)
    rw [← e, List.take_append_drop] at b
    exact b

/-! what holds of a desk -/
structure Fine (d : Desk) : Prop where
  log : entsE d.log = 0
  mir : Ok 7 d.mir
  next : d.mir.next.size ≤ (d.log.length : Int)
  own : d.mir.own.length ≤ d.log.length
theorem fresh_fine : Fine fresh := ⟨rfl, Mirrors.start_ok 7, by decide, Nat.le_refl _⟩
theorem add_fine {d : Desk} (h : Fine d) {x : Entry} (hx : addE d x = 0) : Fine ⟨d.log ++ [x], d.mir⟩ := by
  unfold addE at hx
  split at hx
  · rename_i he
    split at hx
    · cases hx
    · rename_i hl
      obtain ⟨h1, h2⟩ := Entries.ents_ok h.log
      refine ⟨Entries.ents_of (by rw [List.length_append]; simp; omega) (fun e hm => ?_), h.mir, ?_, ?_⟩
      · rcases List.mem_append.1 hm with hm | hm
        · exact h2 e hm
        · rw [List.mem_singleton.1 hm]; exact he
      · have := h.next
        show d.mir.next.size ≤ ((d.log ++ [x]).length : Int)
        rw [List.length_append]; simp; omega
      · have := h.own
        show d.mir.own.length ≤ (d.log ++ [x]).length
        rw [List.length_append]; omega
  · rename_i he
    exact absurd hx he
theorem few {d : Desk} (h : Fine d) : d.log.length ≤ 200 := (Entries.ents_ok h.log).1
theorem log_fine {d : Desk} (h : Fine d) : logE d.log 7 0 = 0 := Serves.log_zero h.log (by decide) (by decide) (by decide)
theorem log_size {d : Desk} (h : Fine d) : (logH d.log 7 0).size = (d.log.length : Int) := by rw [Serves.log_is (log_fine h)]
/-- what is asked for of the log is there -/
theorem want_in {d : Desk} (h : Fine d) (hw : d.mir.want.what ≠ 1) : 0 ≤ d.mir.want.fr ∧ d.mir.want.fr ≤ d.mir.want.to_ ∧ d.mir.want.to_ ≤ (d.log.length : Int) := by
  have hn : d.mir.next.size ≠ 0 := fun e => hw (by unfold Mir.want; rw [if_pos e])
  obtain ⟨_, s2, s3, _⟩ := h.mir.some hn
  have hx := h.next
  have hhas : d.mir.has = d.mir.own.length + d.mir.waits.length := rfl
  unfold Mir.want
  rw [if_neg hn]
  split
  · refine ⟨by show (0 : Int) ≤ (d.mir.own.length : Int); omega, by show (d.mir.own.length : Int) ≤ (d.mir.has : Int); omega, by show (d.mir.has : Int) ≤ _; omega⟩
  · refine ⟨by show (0 : Int) ≤ (d.mir.has : Int); omega, ?_, ?_⟩
    · show (d.mir.has : Int) ≤ if d.mir.next.size < d.mir.has + 16 then d.mir.next.size else d.mir.has + 16
      split <;> omega
    · show (if d.mir.next.size < d.mir.has + 16 then d.mir.next.size else (d.mir.has : Int) + 16) ≤ _
      split <;> omega

/-! a step -/
theorem settled_small {m : Mir} {B : Int} (hh : (m.has : Int) ≤ B) (h0 : 0 ≤ B) : m.settled.next.size ≤ B ∧ (m.settled.own.length : Int) ≤ B := by
  have ho : m.has = m.own.length + m.waits.length := rfl
  unfold Mir.settled
  split
  · refine ⟨h0, ?_⟩
    show ((m.own ++ m.waits).length : Int) ≤ B
    rw [List.length_append]
    omega
  · refine ⟨h0, ?_⟩
    show (m.own.length : Int) ≤ B
    omega
theorem hear_small {key : Int} {m : Mir} (r : Reply) {B : Int} (h0 : 0 ≤ B) (h1 : m.next.size ≤ B) (h2 : (m.own.length : Int) ≤ B) (h3 : r.head.size ≤ B) : (hearM key m r).next.size ≤ B ∧ ((hearM key m r).own.length : Int) ≤ B := by
  unfold hearM
  split
  · exact ⟨h1, h2⟩
  split
  · exact ⟨h1, h2⟩
  split
  · unfold headM
    split
    · split
      · exact ⟨h3, h2⟩
      · split
        · exact ⟨h1, h2⟩
        · exact ⟨h1, h2⟩
    · exact ⟨h1, h2⟩
  split
  · unfold someM
    split
    · split
      · rename_i he
        refine settled_small ?_ h0
        have := (of_decide_eq_true he).2
        have q := (of_decide_eq_true he).1
        show (((m.with r.ents).own.length + (m.with r.ents).waits.length : Nat) : Int) ≤ B
        have q2 : (m.with r.ents).next.size = m.next.size := rfl
        omega
      · exact ⟨h1, h2⟩
    · exact ⟨h0, h2⟩
  · rename_i w1 w2
    obtain ⟨_, _, hh⟩ := want_else w1 w2
    unfold proofM
    split
    · exact settled_small (by omega) h0
    · exact ⟨h0, h2⟩
theorem step_fine {d : Desk} (h : Fine d) (bad : Bool) : Fine (stepD d bad) := by
  have hr : (replyOf d bad).head.size ≤ (d.log.length : Int) := by
    unfold replyOf
    split
    · cases bad with
      | true => exact Int.le_of_eq (log_size h)
      | false => exact Int.le_of_eq (log_size h)
    · split
      · show (0 : Int) ≤ _; omega
      · show (0 : Int) ≤ _; omega
  have q := hear_small (key := 7) (replyOf d bad) (by omega) h.next (by have := h.own; omega) hr
  exact ⟨h.log, hear_ok h.mir _, q.1, by have := q.2; show (hearM 7 d.mir (replyOf d bad)).own.length ≤ d.log.length; omega⟩
theorem line_fine {d : Desk} (h : Fine d) (s : List UInt8) : Fine (line d s).2 := by
  unfold line
  split
  · split
    · exact h
    split
    · exact step_fine h false
    split
    · exact step_fine h true
    split
    · exact h
    · exact h
  · split
    · unfold addA
      split
      · exact h
      · split
        · exact h
        · show Fine (if _ then _ else _)
          split
          · rename_i hx
            exact add_fine h hx
          · exact h
    split
    · exact h
    split
    · exact h
    · exact h

end Go.Proofs.YtfpkngpgmllhnaaGreatDoor.Runs

/-
  Plain mathematics: a text that adds entries, lets the mirror step till it has them, adds more, and lets it step again, is answered 'ok' line by line, and the mirror has all of them. Nothing of the program is named here.
-/
namespace Go.Proofs.YtfpkngpgmllhnaaGreatDoor.RunFollow
open Entries (Entry entE entsE leafsOf)
open Mirrors
open Answers (logE logH answer wHead)
open Decimals (dec words)
open Nums (str text)
open Follows (At Goes)
open Runs

def xEnt : Entry := (1, str [120])
def yEnt : Entry := (2, str [121])
def addX : List UInt8 := [97, 100, 100, 32, 49, 32, 120]
def addY : List UInt8 := [97, 100, 100, 32, 50, 32, 121]
def askHead : List UInt8 := [97, 115, 107, 32, 104, 101, 97, 100]
/-- so many lines that say ok -/
def oks : Nat → List UInt8
  | 0 => []
  | k + 1 => 111 :: 107 :: 10 :: oks k
theorem oks_add : ∀ a b, oks (a + b) = oks a ++ oks b
  | 0, b => by rw [Nat.zero_add]; rfl
  | a + 1, b => by rw [Nat.add_right_comm, oks, oks_add a b]; rfl
theorem oks_length : ∀ a, (oks a).length = 3 * a
  | 0 => rfl
  | a + 1 => by rw [oks]; simp [oks_length a]; omega

theorem line_addX (d : Desk) (h : d.log.length < 200) : line d addX = (okT, ⟨d.log ++ [xEnt], d.mir⟩) := by
  have e : addE d xEnt = 0 := by
    unfold addE
    rw [if_pos (by decide), if_neg (by omega)]
  show addA d [49, 32, 120] = _
  show (tellE (addE d xEnt), if addE d xEnt = 0 then (⟨d.log ++ [xEnt], d.mir⟩ : Desk) else d) = _
  rw [e]
  rfl
theorem line_addY (d : Desk) (h : d.log.length < 200) : line d addY = (okT, ⟨d.log ++ [yEnt], d.mir⟩) := by
  have e : addE d yEnt = 0 := by
    unfold addE
    rw [if_pos (by decide), if_neg (by omega)]
  show addA d [50, 32, 121] = _
  show (tellE (addE d yEnt), if addE d yEnt = 0 then (⟨d.log ++ [yEnt], d.mir⟩ : Desk) else d) = _
  rw [e]
  rfl
theorem adds {s : List UInt8} {x : Entry} (hs : ∀ d : Desk, d.log.length < 200 → line d s = (okT, ⟨d.log ++ [x], d.mir⟩)) : ∀ (k : Nat) (d : Desk), d.log.length + k ≤ 200 →
    runL d (List.replicate k s) = oks k ∧ runD d (List.replicate k s) = ⟨d.log ++ List.replicate k x, d.mir⟩
  | 0, d, _ => ⟨rfl, by simp [runD]⟩
  | k + 1, d, h => by
    obtain ⟨i1, i2⟩ := adds hs k ⟨d.log ++ [x], d.mir⟩ (by show (d.log ++ [x]).length + k ≤ 200; rw [List.length_append]; simp; omega)
    rw [List.replicate_succ, runL, runD, hs d (by omega)]
    refine ⟨?_, ?_⟩
    · show okT ++ 10 :: runL _ _ = _
      rw [i1]
      rfl
    · show runD _ _ = _
      rw [i2]
      show (⟨(d.log ++ [x]) ++ List.replicate k x, d.mir⟩ : Desk) = _
      rw [List.append_assoc, List.replicate_succ]
      rfl

theorem line_step (d : Desk) : line d wStep = (tellE (stepE d false), stepD d false) := rfl
theorem step_head {d : Desk} {o : Nat} (h : At 7 d.log o d.mir) (ho : o < d.log.length) (hl : logE d.log 7 0 = 0) : stepE d false = 0 ∧ Goes 7 0 d.log o d.log.length o (stepD d false).mir := by
  have hr : replyOf d false = ⟨1, logH d.log 7 0, [], []⟩ := by unfold replyOf; rw [h.want]; rfl
  have ht : d.log.take d.log.length = d.log := List.take_of_length_le (Nat.le_refl _)
  have q := Follows.hear_head (now := 0) (t := d.log.length) h (by omega) (Nat.le_refl _) (by rw [ht]; exact hl)
  rw [ht] at q
  refine ⟨?_, ?_⟩
  · show hearE 7 d.mir (replyOf d false) = 0
    rw [hr]; exact q.1
  · show Goes 7 0 d.log o d.log.length o (hearM 7 d.mir (replyOf d false))
    rw [hr]; exact q.2.1 ho
theorem step_page {d : Desk} {o t c : Nat} (h : Goes 7 0 d.log o t c d.mir) (hc : c ≠ t) : stepE d false = 0 ∧ ((o = 0 ∧ min (c + 16) t = t) → At 7 d.log t (stepD d false).mir) ∧ (¬ (o = 0 ∧ min (c + 16) t = t) → Goes 7 0 d.log o t (min (c + 16) t) (stepD d false).mir) := by
  have hw := h.want
  rw [if_neg hc] at hw
  have hr : (replyOf d false).what = 2 ∧ (replyOf d false).ents = (d.log.take (min (c + 16) t)).drop c := by
    unfold replyOf pageOf
    rw [hw]
    exact ⟨rfl, rfl⟩
  exact Follows.hear_page h hc (replyOf d false) hr.1 hr.2
theorem step_proof {d : Desk} {o t : Nat} (h : Goes 7 0 d.log o t t d.mir) : stepE d false = 0 ∧ At 7 d.log t (stepD d false).mir := by
  have hw := h.want
  rw [if_pos rfl] at hw
  have ho : o ≠ 0 := fun e => h.open_ ⟨e, rfl⟩
  have hr : (replyOf d false).what = 3 ∧ (replyOf d false).proof = Grows.grow (leafsOf (d.log.take t)) o true := by
    unfold replyOf proofOf
    rw [hw]
    refine ⟨rfl, ?_⟩
    show (if ((o : Nat) : Int) = 0 then ([] : List Int) else _) = _
    rw [if_neg (by omega)]
    rfl
  exact Follows.hear_proof h (replyOf d false) hr.1 hr.2

/-- page by page -/
theorem pages : ∀ (p : Nat) (d : Desk) (o t c : Nat), Goes 7 0 d.log o t c d.mir → c < t → (t - c + 15) / 16 = p →
    runL d (List.replicate p wStep) = oks p ∧ (runD d (List.replicate p wStep)).log = d.log ∧ (o = 0 → At 7 d.log t (runD d (List.replicate p wStep)).mir) ∧ (o ≠ 0 → Goes 7 0 d.log o t t (runD d (List.replicate p wStep)).mir)
  | 0, d, o, t, c, _, hc, hp => by omega
  | p + 1, d, o, t, c, h, hc, hp => by
    obtain ⟨q1, q2, q3⟩ := step_page h (by omega)
    rw [List.replicate_succ, runL, runD, line_step, q1]
    by_cases hl : c + 16 < t
    · have hm : min (c + 16) t = c + 16 := by omega
      have g := q3 (by omega)
      rw [hm] at g
      obtain ⟨i1, i2, i3, i4⟩ := pages p (stepD d false) o t (c + 16) g (by omega) (by omega)
      refine ⟨?_, i2, i3, i4⟩
      show okT ++ 10 :: runL (stepD d false) (List.replicate p wStep) = _
      rw [i1]
      rfl
    · have hm : min (c + 16) t = t := by omega
      obtain rfl : p = 0 := by omega
      refine ⟨rfl, rfl, fun e => q2 ⟨e, hm⟩, fun e => ?_⟩
      have g := q3 (fun z => e z.1)
      rw [hm] at g
      exact g

theorem at_grow {key : Int} {l r : List Entry} {o : Nat} {m : Mir} (h : At key l o m) : At key (l ++ r) o m :=
  ⟨by rw [h.own, List.take_append_of_le_length h.le], h.next, h.waits, by rw [List.length_append]; have := h.le; omega⟩

/-- the lines -/
def session (n m : Nat) : List (List UInt8) := List.replicate n addX ++ (List.replicate (1 + (n + 15) / 16) wStep ++ (List.replicate m addY ++ (List.replicate (2 + (m + 15) / 16) wStep ++ [wState, askHead])))
def both (n m : Nat) : List Entry := List.replicate n xEnt ++ List.replicate m yEnt
theorem both_ok {n m : Nat} (h : n + m ≤ 200) : entsE (both n m) = 0 := by
  refine Entries.ents_of (by unfold both; simp; omega) fun e he => ?_
  rcases List.mem_append.1 he with he | he
  · rw [(List.mem_replicate.1 he).2]; decide
  · rw [(List.mem_replicate.1 he).2]; decide
theorem both_length (n m : Nat) : (both n m).length = n + m := by unfold both; simp
theorem both_none (n : Nat) : both n 0 = List.replicate n xEnt := by unfold both; simp
theorem log_both {n m : Nat} (h : n + m ≤ 200) : logE (both n m) 7 0 = 0 := Serves.log_zero (both_ok h) (by decide) (by decide) (by decide)

/-- one head, and the pages: from the first o on -/
theorem goes {d : Desk} {o : Nat} (h : At 7 d.log o d.mir) (ho : o < d.log.length) (hl : logE d.log 7 0 = 0) {p : Nat} (hp : (d.log.length - o + 15) / 16 = p) :
    runL d (List.replicate (1 + p) wStep) = oks (1 + p) ∧ (runD d (List.replicate (1 + p) wStep)).log = d.log ∧ (o = 0 → At 7 d.log d.log.length (runD d (List.replicate (1 + p) wStep)).mir) ∧ (o ≠ 0 → Goes 7 0 d.log o d.log.length d.log.length (runD d (List.replicate (1 + p) wStep)).mir) := by
  obtain ⟨q1, q2⟩ := step_head h ho hl
  obtain ⟨i1, i2, i3, i4⟩ := pages p (stepD d false) o d.log.length o q2 ho hp
  rw [Nat.add_comm, List.replicate_succ, runL, runD, line_step, q1]
  refine ⟨?_, i2, i3, i4⟩
  show okT ++ 10 :: runL (stepD d false) (List.replicate p wStep) = _
  rw [i1]
  rfl

theorem line_state (d : Desk) : line d wState = (stateA d, d) := rfl
theorem line_ask (d : Desk) : line d askHead = (askA d wHead, d) := rfl

/-- what is answered -/
theorem follows {n m : Nat} (hn : 1 ≤ n) (hm : 1 ≤ m) (h : n + m ≤ 200) :
    runL fresh (session n m) = oks (n + (1 + (n + 15) / 16) + m + (2 + (m + 15) / 16)) ++ ((dec (n + m) ++ 32 :: text (rootE (both n m))) ++ 10 :: (Heads.print (logH (both n m) 7 0) ++ [10])) := by
  obtain ⟨a1, a2⟩ := adds line_addX n fresh (by show 0 + n ≤ 200; omega)
  have e1 : (⟨fresh.log ++ List.replicate n xEnt, fresh.mir⟩ : Desk) = ⟨both n 0, Mirrors.start⟩ := by rw [both_none]; rfl
  rw [e1] at a2
  have hl1 := both_length n 0
  obtain ⟨b1, b2, b3, _⟩ := goes (d := ⟨both n 0, Mirrors.start⟩) (o := 0) (Follows.start_at 7 _) (by show 0 < (both n 0).length; omega) (log_both (by omega)) (p := (n + 15) / 16) (by show ((both n 0).length - 0 + 15) / 16 = _; rw [hl1]; rfl)
  have b3' := b3 rfl
  generalize hd2 : runD ⟨both n 0, Mirrors.start⟩ (List.replicate (1 + (n + 15) / 16) wStep) = d2 at b2 b3'
  have b2' : d2.log = both n 0 := b2
  have b4 : At 7 (both n 0) n d2.mir := by
    have q : At 7 (both n 0) (both n 0).length d2.mir := b3'
    rw [hl1] at q
    exact q
  obtain ⟨c1, c2⟩ := adds line_addY m d2 (by rw [b2', hl1]; omega)
  have e2 : d2.log ++ List.replicate m yEnt = both n m := by rw [b2', both_none]; rfl
  rw [e2] at c2
  have c3 : At 7 (both n m) n d2.mir := by
    have q := at_grow (r := List.replicate m yEnt) b4
    rw [both_none] at q
    exact q
  have hl2 := both_length n m
  obtain ⟨f1, f2, _, f4⟩ := goes (d := ⟨both n m, d2.mir⟩) (o := n) c3 (by show n < (both n m).length; omega) (log_both h) (p := (m + 15) / 16) (by show ((both n m).length - n + 15) / 16 = _; rw [hl2]; congr 2; omega)
  have f4' := f4 (by omega)
  have hrep : List.replicate (2 + (m + 15) / 16) wStep = List.replicate (1 + (m + 15) / 16) wStep ++ [wStep] := by
    rw [show 2 + (m + 15) / 16 = (1 + (m + 15) / 16) + 1 by omega, List.replicate_succ']
  generalize hd3 : runD ⟨both n m, d2.mir⟩ (List.replicate (1 + (m + 15) / 16) wStep) = d3 at f2 f4'
  have f2' : d3.log = both n m := f2
  have f5 : Goes 7 0 d3.log n (n + m) (n + m) d3.mir := by
    have q : Goes 7 0 (both n m) n (both n m).length (both n m).length d3.mir := f4'
    rw [hl2] at q
    rw [f2']
    exact q
  obtain ⟨g1, g2⟩ := step_proof f5
  have g3 : At 7 (both n m) (n + m) (stepD d3 false).mir := by rw [← f2']; exact g2
  have g4 : (stepD d3 false).log = both n m := f2'
  have hown : (stepD d3 false).mir.own = both n m := by rw [g3.own, List.take_of_length_le (by rw [hl2]; exact Nat.le_refl _)]
  unfold session
  rw [runL_append, a1, a2, runL_append, b1, hd2, runL_append, c1, c2, hrep, List.append_assoc, runL_append, f1, hd3]
  show _ ++ (_ ++ (_ ++ (_ ++ ((line d3 wStep).1 ++ 10 :: ((line (line d3 wStep).2 wState).1 ++ 10 :: ((line (line (line d3 wStep).2 wState).2 askHead).1 ++ 10 :: [])))))) = _
  rw [line_step, g1, line_state, line_ask]
  have hst : stateA (stepD d3 false) = dec (n + m) ++ 32 :: text (rootE (both n m)) := by unfold stateA; rw [hown, hl2]
  have hak : askA (stepD d3 false) wHead = Heads.print (logH (both n m) 7 0) := by
    unfold askA
    rw [g4, Serves.answer_head, if_pos (log_both h)]
    rfl
  rw [show (stateA (stepD d3 false), stepD d3 false).2 = stepD d3 false from rfl]
  show oks n ++ (oks (1 + (n + 15) / 16) ++ (oks m ++ (oks (1 + (m + 15) / 16) ++ (okT ++ 10 :: (stateA (stepD d3 false) ++ 10 :: (askA (stepD d3 false) wHead ++ [10])))))) = _
  have key : oks (n + (1 + (n + 15) / 16) + m + (2 + (m + 15) / 16)) = oks n ++ (oks (1 + (n + 15) / 16) ++ (oks m ++ (oks (1 + (m + 15) / 16) ++ oks 1))) := by
    rw [← oks_add, ← oks_add, ← oks_add, ← oks_add]
    congr 1
    omega
  rw [hst, hak, key]
  simp only [List.append_assoc]
  rfl

/-! the text -/
def asText : List (List UInt8) → List UInt8
  | [] => []
  | s :: ls => s ++ 10 :: asText ls
theorem asText_append : ∀ a b, asText (a ++ b) = asText a ++ asText b
  | [], _ => rfl
  | s :: a, b => by rw [List.cons_append, asText, asText_append a b, asText]; simp
theorem asText_snoc (a : List (List UInt8)) (s : List UInt8) : asText (a ++ [s]) = asText a ++ (s ++ [10]) := by rw [asText_append]; rfl
theorem lines_text : ∀ {ls : List (List UInt8)}, (∀ s ∈ ls, (10 : UInt8) ∉ s) → lines (asText ls) = ls
  | [], _ => rfl
  | s :: ls, h => by
    rw [asText, lines_append, Decimals.words_none (h s (by simp)), lines_text fun t ht => h t (by simp [ht])]
    rfl
theorem session_plain (n m : Nat) : ∀ s ∈ session n m, (10 : UInt8) ∉ s := by
  intro s hs
  unfold session at hs
  simp only [List.mem_append, List.mem_cons, List.not_mem_nil, or_false] at hs
  rcases hs with hs | hs | hs | hs | rfl | rfl
  · rw [(List.mem_replicate.1 hs).2]; decide
  · rw [(List.mem_replicate.1 hs).2]; decide
  · rw [(List.mem_replicate.1 hs).2]; decide
  · rw [(List.mem_replicate.1 hs).2]; decide
  · decide
  · decide
theorem text_rep (s : List UInt8) : ∀ k, (asText (List.replicate k s)).length = k * (s.length + 1)
  | 0 => by simp [asText]
  | k + 1 => by rw [List.replicate_succ, asText, List.length_append, List.length_cons, text_rep s k, Nat.succ_mul]; omega
theorem session_short {n m : Nat} (hn : n ≤ 40) (hm : m ≤ 40) : (asText (session n m)).length ≤ 3000 := by
  unfold session
  rw [asText_append, asText_append, asText_append, asText_append, List.length_append, List.length_append, List.length_append, List.length_append, text_rep, text_rep, text_rep, text_rep]
  have h1 : addX.length = 7 := rfl
  have h2 : addY.length = 7 := rfl
  have h3 : wStep.length = 4 := rfl
  have h4 : (asText [wState, askHead]).length = 15 := rfl
  rw [h1, h2, h3, h4]
  omega
theorem run_session {n m : Nat} (hn : 1 ≤ n) (hn2 : n ≤ 40) (hm : 1 ≤ m) (hm2 : m ≤ 40) : run (asText (session n m)) = oks (n + (1 + (n + 15) / 16) + m + (2 + (m + 15) / 16)) ++ ((dec (n + m) ++ 32 :: text (rootE (both n m))) ++ 10 :: (Heads.print (logH (both n m) 7 0) ++ [10])) := by
  unfold run
  rw [if_neg (by have := session_short hn2 hm2; omega), lines_text (session_plain n m)]
  exact follows hn hm (by omega)

end Go.Proofs.YtfpkngpgmllhnaaGreatDoor.RunFollow

/-
  Bounds of what a desk tells: errors are at most nine, proofs are short.
-/
namespace Go.Proofs.YtfpkngpgmllhnaaGreatDoor.RunLess
open Entries (Entry entE entsE firstE leafsOf)
open Heads (verifyE isKey ok)
open Mirrors
open Runs
open Answers (logE answer)

theorem ent_le (e : Entry) : entE e ≤ 9 := by unfold entE; repeat' split <;> try omega
theorem first_le : ∀ l : List Entry, firstE l ≤ 9
  | [] => Nat.zero_le _
  | e :: l => by
    rw [firstE]
    split
    · exact first_le l
    · exact ent_le e
theorem ents_le (l : List Entry) : entsE l ≤ 9 := by
  unfold entsE
  split
  · omega
  · exact first_le l
theorem verify_le (h : Heads.Head) (key : Int) : verifyE h key ≤ 9 := by unfold Heads.verifyE; repeat' split <;> try omega
theorem grow_le9 (ra O rb N : Int) (p : List Int) : GrowsE.growE ra O rb N p ≤ 9 := by
  unfold GrowsE.growE
  split
  · unfold Grows.grownE
    repeat' split <;> try omega
  · omega
theorem settled_le (m : Mir) : m.settledE ≤ 9 := by unfold Mir.settledE; split <;> omega
theorem head_le (key : Int) (m : Mir) (h : Heads.Head) : headE key m h ≤ 9 := by
  unfold headE
  split
  · split <;> omega
  · exact verify_le h key
theorem some_le (m : Mir) (l : List Entry) : someE m l ≤ 9 := by
  unfold someE
  split
  · split
    · exact settled_le _
    · omega
  · unfold someE0
    split
    · omega
    · exact ents_le l
theorem proofE_le (m : Mir) (p : List Int) : proofE m p ≤ 9 := by
  unfold proofE
  split
  · exact settled_le m
  · exact grow_le9 _ _ _ _ _
theorem hear_le (key : Int) (m : Mir) (r : Reply) : hearE key m r ≤ 9 := by
  unfold hearE
  split
  · omega
  split
  · omega
  split
  · exact head_le _ _ _
  split
  · exact some_le _ _
  · exact proofE_le _ _
theorem step_le (d : Desk) (bad : Bool) : stepE d bad ≤ 9 := hear_le _ _ _
theorem log_le (l : List Entry) (key now : Int) : logE l key now ≤ 9 := by
  unfold Answers.logE
  split
  · split <;> omega
  · exact ents_le l
theorem tell_le (l : List Entry) (key now : Int) (w : List UInt8) (n m : Nat) : (Answers.tell l key now w n m).2 ≤ 9 := by
  unfold Answers.tell
  repeat' split <;> try (simp only; omega)
theorem answer_le (l : List Entry) (key now : Int) (ask : List UInt8) : (answer l key now ask).2 ≤ 9 := by
  unfold Answers.answer
  cases Decimals.words 32 ask with
  | nil => show 2 ≤ 9; omega
  | cons w0 wt =>
    rw [Answers.answerW]
    by_cases h : wt.length + 1 = Answers.many w0
    · rw [if_pos h]
      cases Answers.nums wt with
      | none => show 2 ≤ 9; omega
      | some ns =>
        simp only
        by_cases h2 : logE l key now = 0
        · rw [if_pos h2]; exact tell_le _ _ _ _ _ _
        · rw [if_neg h2]; exact log_le _ _ _
    · rw [if_neg h]
      show 2 ≤ 9
      omega
theorem add_le (d : Desk) (x : Entry) : addE d x ≤ 9 := by
  unfold addE
  split
  · split <;> omega
  · exact ent_le x
theorem key_le (k : ByteArray) : Stores.keyE k ≤ 9 := by unfold Stores.keyE; repeat' split <;> try omega

theorem proof_le {d : Desk} (hf : Fine d) (h1 : d.mir.want.what ≠ 1) (h2 : d.mir.want.what ≠ 2) : (proofOf d).length ≤ 201 := by
  obtain ⟨e, h3, h4⟩ := Mirrors.want_else h1 h2
  have hl := few hf
  have hn := hf.next
  unfold proofOf
  rw [e]
  simp only
  by_cases h0 : (d.mir.own.length : Int) = 0
  · rw [if_pos h0]
    exact Nat.zero_le _
  · rw [if_neg h0, Int.toNat_natCast, Int.toNat_natCast]
    have ho := hf.own
    have hh : d.mir.own.length ≤ d.mir.has := Nat.le_add_right _ _
    have hlen : (leafsOf (d.log.take d.mir.has)).length = d.mir.has := by
      unfold leafsOf
      rw [List.length_map, List.length_take]
      omega
    rw [Grows.grow_length _ _ _ _ (Nat.le_refl _) (by omega) (by omega), hlen]
    have := Grows.gturns_le _ d.mir.own.length d.mir.has (Nat.le_refl _)
    unfold Grows.gsteps
    split <;> omega

end Go.Proofs.YtfpkngpgmllhnaaGreatDoor.RunLess

/-
  How long the answers of a desk are, at most.
-/
namespace Go.Proofs.YtfpkngpgmllhnaaGreatDoor.RunLens
open Entries (Entry entE entsE leafsOf)
open Heads (Head)
open Mirrors
open Runs
open Answers (logE logH answer tell sumsT)
open Decimals (dec joined)
open Nums (str text)

theorem joined_len : ∀ (l : List Int), (joined 32 (l.map text)).length ≤ 9 * l.length
  | [] => by simp [joined]
  | [x] => by simp [joined, Nums.text_length]
  | x :: y :: l => by
    have i := joined_len (y :: l)
    show (text x ++ 32 :: joined 32 ((y :: l).map text)).length ≤ _
    simp only [List.length_append, List.length_cons, Nums.text_length] at i ⊢
    omega
theorem sums_len {l : List Int} (h : l.length ≤ 500) : (sumsT l).length ≤ 5000 := by
  unfold Answers.sumsT
  split
  · decide
  · have := joined_len l
    omega
theorem way_le (l : List Int) (i : Nat) : (Ways.way l i).length ≤ l.length := by
  rw [Ways.way_len]
  exact Ways.steps_le _ _ _ (Nat.le_refl _)
theorem name_len (e : Nat) : (name e).length ≤ 10 := by
  unfold Runs.name
  split <;> decide
theorem dec_len {n : Nat} (h : n < 10 ^ 9) : (dec n).length ≤ 9 := Decimals.dec_length 8 n h

theorem tell_len {l : List Entry} (hf : entsE l = 0) (h0 : logE l 7 0 = 0) (w : List UInt8) (n m : Nat) : (tell l 7 0 w n m).1.length ≤ 6000 := by
  have hl := (Entries.ents_ok hf).1
  have hlf : (leafsOf l).length = l.length := List.length_map _
  unfold Answers.tell
  split
  · have e : logH l 7 0 = ⟨l.length, rootE l, 0, (logH l 7 0).sign⟩ := by unfold Answers.logH; rw [if_pos h0]
    rw [e]
    unfold Heads.print
    have d1 := dec_len (n := l.length) (by omega)
    have d2 := dec_len (n := 0) (by omega)
    simp only [List.length_append, List.length_cons, Nums.text_length, Int.toNat_natCast]
    have : (0 : Int).toNat = 0 := rfl
    rw [this]
    omega
  split
  · split
    · exact Nat.zero_le _
    · have := sums_len (l := Ways.way ((leafsOf l).take m) n) (by have := way_le ((leafsOf l).take m) n; rw [List.length_take] at this; omega)
      simp only
      omega
  split
  · split
    · exact Nat.zero_le _
    · rename_i h
      have hm : ((leafsOf l).take m).length = m := by rw [List.length_take]; omega
      have hg : (Grows.grow ((leafsOf l).take m) n true).length ≤ m + 1 := by
        rw [Grows.grow_length _ _ _ _ (Nat.le_refl _) (by omega) (by omega), hm]
        have := Grows.gturns_le _ n m (Nat.le_refl _)
        unfold Grows.gsteps
        split <;> omega
      have := sums_len (l := Grows.grow ((leafsOf l).take m) n true) (by omega)
      simp only
      omega
  split
  · split
    · rename_i t ht
      have hm := Tiles.tiles_le hl t (List.mem_of_find?_eq_some ht)
      have := sums_len (l := Tiles.sumsOf (leafsOf l) t) (by rw [Tiles.sumsOf_length]; omega)
      simp only
      omega
    · exact Nat.zero_le _
  split
  · exact Nat.zero_le _
  rename_i hn
  split
  · simp only [Nums.text_length]
    omega
  · have hi : n < l.length := by omega
    have hg : l.getD n (0, ⟨#[]⟩) = l[n] := by rw [List.getD_eq_getElem?_getD, List.getElem?_eq_getElem hi]; rfl
    have hok := Entries.ent_ok ((Entries.ents_ok hf).2 l[n] (List.getElem_mem hi))
    rw [hg]
    have d1 := dec_len (n := l[n].1.toNat) (by omega)
    have d2 : l[n].2.data.toList.length = l[n].2.size := Array.length_toList
    simp only [List.length_append, List.length_cons]
    omega
theorem ask_len {d : Desk} (hf : Fine d) (rest : List UInt8) : (askA d rest).length ≤ 6000 := by
  have h0 := log_fine hf
  unfold Runs.askA
  split
  · unfold Answers.answer
    cases Decimals.words 32 rest with
    | nil => exact Nat.zero_le _
    | cons w0 wt =>
      rw [Answers.answerW]
      by_cases h : wt.length + 1 = Answers.many w0
      · rw [if_pos h]
        cases Answers.nums wt with
        | none => exact Nat.zero_le _
        | some ns =>
          simp only
          rw [if_pos h0]
          exact tell_len hf.log h0 _ _ _
      · rw [if_neg h]
        exact Nat.zero_le _
  · have := name_len (answer d.log 7 0 rest).2
    omega
theorem tellE_len (e : Nat) : (tellE e).length ≤ 10 := by
  unfold Runs.tellE
  split
  · decide
  · exact name_len e
theorem key_len (rest : List UInt8) : (keyA rest).length ≤ 10 := by
  unfold Runs.keyA
  split
  · rw [KeyTrees.bitsT_length]; omega
  · exact name_len _
theorem want_len {d : Desk} (hf : Fine d) : (wantA d).length ≤ 100 := by
  have hw : d.mir.want.what ≤ 3 ∧ d.mir.want.fr ≤ 200 ∧ d.mir.want.to_ ≤ 200 := by
    have hl := few hf
    have hh := hf.next
    have ho := hf.own
    unfold Mir.want
    by_cases h0 : d.mir.next.size = 0
    · rw [if_pos h0]; simp
    · rw [if_neg h0]
      obtain ⟨_, h2, h3, _⟩ := hf.mir.some h0
      by_cases h6 : (d.mir.has : Int) = d.mir.next.size
      · rw [if_pos h6]; simp only; omega
      · rw [if_neg h6]; simp only; split <;> omega
  unfold Runs.wantA
  have d1 := dec_len (n := d.mir.want.what.toNat) (by omega)
  have d2 := dec_len (n := d.mir.want.fr.toNat) (by omega)
  have d3 := dec_len (n := d.mir.want.to_.toNat) (by omega)
  simp only [List.length_append, List.length_cons]
  omega
theorem state_len {d : Desk} (hf : Fine d) : (stateA d).length ≤ 100 := by
  have ho := hf.mir.few
  unfold Runs.stateA
  have d1 := dec_len (n := d.mir.own.length) (by omega)
  simp only [List.length_append, List.length_cons, Nums.text_length]
  omega
theorem line_len {d : Desk} (hf : Fine d) (s : List UInt8) : (line d s).1.length ≤ 6000 := by
  have hw := want_len hf
  have hs := state_len hf
  have b : badT.length = 3 := rfl
  unfold Runs.line
  split
  · split
    · simp only; omega
    split
    · have := tellE_len (stepE d false); simp only; omega
    split
    · have := tellE_len (stepE d true); simp only; omega
    split
    · simp only; omega
    · simp only; omega
  · rename_i w rest _
    split
    · unfold Runs.addA
      split
      · simp only; omega
      split
      · simp only; omega
      · rename_i n _
        have := fun x => tellE_len (addE d x)
        simp only
        exact Nat.le_trans (this _) (by omega)
    split
    · have := ask_len hf rest; simp only; omega
    split
    · have := key_len rest; simp only; omega
    · simp only; omega
theorem runD_fine : ∀ (ls : List (List UInt8)) {d : Desk}, Fine d → Fine (runD d ls)
  | [], _, hf => hf
  | s :: ls, _, hf => runD_fine ls (line_fine hf s)
theorem runL_len : ∀ (ls : List (List UInt8)) {d : Desk}, Fine d → (runL d ls).length ≤ 6001 * ls.length
  | [], _, _ => Nat.zero_le _
  | s :: ls, d, hf => by
    have h1 := line_len hf s
    have h2 := runL_len ls (line_fine hf s)
    rw [runL, List.length_append, List.length_cons, List.length_cons]
    omega
theorem runL_snoc : ∀ (ls : List (List UInt8)) (s : List UInt8) (d : Desk), runL d (ls ++ [s]) = runL d ls ++ (line (runD d ls) s).1 ++ [10]
  | ls, s, d => by
    rw [runL_append]
    show runL d ls ++ ((line (runD d ls) s).1 ++ [10]) = _
    rw [List.append_assoc]
theorem runD_snoc : ∀ (ls : List (List UInt8)) (s : List UInt8) (d : Desk), runD d (ls ++ [s]) = (line (runD d ls) s).2
  | ls, s, d => by
    rw [runD_append]
    rfl

end Go.Proofs.YtfpkngpgmllhnaaGreatDoor.RunLens

