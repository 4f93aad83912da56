/-
  Plain mathematics of WalKeeps: what stands behind each step of its loops.
-/
import Derived.Test.YtofaegcljcpceagGreatDoorWalPlain
import Derived.Test.YtofaegcljcpceagGreatDoorWalkBatchRef
namespace Go.Proofs.YtofaegcljcpceagGreatDoor.WalPlays
open Stores (Pair)
open Lsms (Lsm)
open LsmFines (Fine)
open Wals
open WalHolds

/-- the marks -/
def marks (x : Wal) : List Int := x.hist.map fun e => (e.1 : Int)
theorem marks_length (x : Wal) : (marks x).length = x.hist.length := by simp [marks]
theorem marks_at (x : Wal) {i : Nat} (h : i < x.hist.length) : (marks x)[i]? = some ((x.hist[i]).1 : Int) := by simp [marks, h]
/-- the greatest place below i whose mark is not above h -/
def leftOf (ms : List Int) (h : Int) : Nat → Nat
  | 0 => 0
  | i + 1 => if ms.getD i 0 ≤ h then i else leftOf ms h i
theorem left_le (ms : List Int) (h : Int) : ∀ i, leftOf ms h i ≤ i
  | 0 => Nat.le_refl _
  | i + 1 => by
    have := left_le ms h i
    unfold leftOf
    split <;> omega
theorem left_eq {ms : List Int} {h : Int} {m : Nat} : ∀ (n : Nat), m < n → ms.getD m 0 ≤ h → (∀ i, m < i → i < n → h < ms.getD i 0) → leftOf ms h n = m
  | 0, h0, _, _ => absurd h0 (Nat.not_lt_zero _)
  | n + 1, h0, h1, h2 => by
    unfold leftOf
    by_cases e : m = n
    · subst e
      rw [if_pos h1]
    · have h3 := h2 n (by omega) (by omega)
      rw [if_neg (by omega)]
      exact left_eq n (by omega) h1 fun i q r => h2 i q (by omega)

/-- the log x; rs: the lsms of the document (where they lie, what they are); c: how many batches were tried -/
structure Play (limit : Nat) (x : Wal) (rs : List (Nat × Lsm)) (c : Nat) : Prop where
  ok : Ok x limit
  same : rs.map (·.2) = x.hist.map (·.2)
  fine : ∀ i (h : i < x.hist.length), Fine limit (x.hist[i]).2 (20 * i)
  low : ∀ i (h : i < x.hist.length), (x.hist[i]).1 ≤ 100000 * i
  tail : x.tail ≤ 100000
  few : x.hist.length ≤ c + 1
theorem Play.length {limit c : Nat} {x : Wal} {rs : List (Nat × Lsm)} (h : Play limit x rs c) : rs.length = x.hist.length := by
  have := congrArg List.length h.same
  simpa using this
theorem Play.pos {limit c : Nat} {x : Wal} {rs : List (Nat × Lsm)} (h : Play limit x rs c) : 0 < x.hist.length := by
  obtain ⟨r, hr⟩ := h.ok.first
  rw [hr]
  simp
theorem Play.last {limit c : Nat} {x : Wal} {rs : List (Nat × Lsm)} (h : Play limit x rs c) : x.last = x.hist[x.hist.length - 1]'(by have := h.pos; omega) := by
  have := h.pos
  unfold Wal.last
  rw [List.getLastD_eq_getLast?, List.getLast?_eq_getElem?, List.getElem?_eq_getElem (by omega)]
  rfl
theorem Play.at {limit c : Nat} {x : Wal} {rs : List (Nat × Lsm)} (h : Play limit x rs c) {i : Nat} (hi : i < rs.length) : (rs[i]).2 = (x.hist[i]'(by rw [← h.length]; exact hi)).2 := by
  have h1 : (rs.map (·.2))[i]? = (x.hist.map (·.2))[i]? := by rw [h.same]
  have h2 : i < x.hist.length := by rw [← h.length]; exact hi
  simpa [hi, h2] using h1
theorem Play.cur {limit c : Nat} {x : Wal} {rs : List (Nat × Lsm)} (h : Play limit x rs c) : (rs[rs.length - 1]'(by have := h.pos; have := h.length; omega)).2 = x.cur := by
  have h1 := h.length
  have h2 := h.pos
  rw [h.at (by omega)]
  unfold Wal.cur
  rw [h.last]
  simp only [h1]
theorem Play.curFine {limit c : Nat} {x : Wal} {rs : List (Nat × Lsm)} (h : Play limit x rs c) : Fine limit x.cur (20 * c) := by
  have h2 := h.pos
  have h3 := h.few
  have h1 := h.fine (x.hist.length - 1) (by omega)
  unfold Wal.cur
  rw [h.last]
  exact ⟨h1.limit, h1.good, Nat.le_trans h1.size (by omega), h1.young, h1.levels⟩
theorem Play.bytes {limit c : Nat} {x : Wal} {rs : List (Nat × Lsm)} (h : Play limit x rs c) : x.bytes ≤ 100000 * (c + 1) := by
  have h2 := h.pos
  have h3 := h.few
  have h1 := h.low (x.hist.length - 1) (by omega)
  have h4 := h.tail
  unfold Wal.bytes
  rw [h.last]
  omega
theorem Play.more {limit c d : Nat} {x : Wal} {rs : List (Nat × Lsm)} (h : Play limit x rs c) (hd : c ≤ d) : Play limit x rs d := ⟨h.ok, h.same, h.fine, h.low, h.tail, Nat.le_trans h.few (by omega)⟩

theorem play_new {limit : Nat} (h1 : 1 ≤ limit) (h2 : limit ≤ 60) (g : Nat) : Play limit (newW limit) [(g, ⟨limit, [], []⟩)] 0 := by
  refine ⟨ok_new limit, rfl, fun i h => ?_, fun i h => ?_, Nat.zero_le _, Nat.le_refl _⟩
  · obtain rfl : i = 0 := by simpa [newW] using h
    exact Fine.start h1 h2
  · obtain rfl : i = 0 := by simpa [newW] using h
    exact Nat.le_refl _
theorem play_of {limit c : Nat} {x y : Wal} {rs : List (Nat × Lsm)} (h : Play limit x rs c) (hy : y.hist = x.hist) (ho : Ok y limit) (ht : y.tail ≤ 100000) : Play limit y rs c := by
  refine ⟨ho, by rw [hy]; exact h.same, fun i q => ?_, fun i q => ?_, ht, by rw [hy]; exact h.few⟩
  · simp only [hy]
    exact h.fine i (by rw [← hy]; exact q)
  · simp only [hy]
    exact h.low i (by rw [← hy]; exact q)
theorem sync_tail (x : Wal) : (syncW x).tail = x.tail := by
  unfold syncW
  split
  · rfl
  · split <;> rfl
theorem play_sync {limit c : Nat} {x : Wal} {rs : List (Nat × Lsm)} (h : Play limit x rs c) : Play limit (syncW x) rs c := play_of h (sync_hist x) (ok_sync h.ok) (by rw [sync_tail]; exact h.tail)
theorem play_fail {limit c : Nat} {x : Wal} {rs : List (Nat × Lsm)} (h : Play limit x rs c) (n : Int) : Play limit (failW x n) rs c := play_of h rfl (ok_fail h.ok n) h.tail
theorem play_not {limit c n t : Nat} {x : Wal} {rs : List (Nat × Lsm)} {l : List Pair} (h : Play limit x rs c) (he : putWE x l ≠ 0) (h1 : 2 ≤ n) (h2 : n ≤ 100000) (h3 : t < n) : Play limit (putW x l n t) rs (c + 1) := by
  refine (play_of h (put_not he n t).1 (ok_put h.ok l h1) ?_).more (Nat.le_succ _)
  have := h.tail
  unfold putW
  split
  · exact this
  · split
    · show t ≤ _
      omega
    · exact this
theorem play_done {limit c n t g : Nat} {x : Wal} {rs : List (Nat × Lsm)} {l : List Pair} (h : Play limit x rs c) (he : putWE x l = 0) (h1 : 2 ≤ n) (h2 : n ≤ 100000) :
    Play limit (putW x l n t) (rs ++ [(g, batched x.cur l)]) (c + 1) ∧ (putW x l n t).bytes = x.bytes + n ∧ marks (putW x l n t) = marks x ++ [((putW x l n t).bytes : Int)] := by
  obtain ⟨q1, _, q3, q4, q5, _⟩ := put_done he n t
  have ht : x.tail = 0 := h.ok.whole q1
  have hl := last_put he n t
  have hp := h.pos
  have hb : (putW x l n t).bytes = x.last.1 + n := by
    unfold Wal.bytes
    rw [hl, q5, ht]
    rfl
  have hx : x.bytes = x.last.1 := by
    unfold Wal.bytes
    rw [ht]
    rfl
  have hlow := h.low (x.hist.length - 1) (by omega)
  rw [← h.last] at hlow
  refine ⟨⟨ok_put h.ok l h1, ?_, fun i q => ?_, fun i q => ?_, by rw [q5]; exact h.tail, ?_⟩, by rw [hb, hx], ?_⟩
  · rw [q3, List.map_append, List.map_append, h.same]
    rfl
  · simp only [q3]
    rw [q3, List.length_append] at q
    simp only [List.length_cons, List.length_nil] at q
    by_cases e : i < x.hist.length
    · rw [List.getElem_append_left e]
      exact h.fine i e
    · obtain rfl : i = x.hist.length := by omega
      rw [List.getElem_append_right (Nat.le_refl _)]
      simp only [Nat.sub_self, List.getElem_cons_zero]
      have h5 := h.fine (x.hist.length - 1) (by omega)
      rw [← h.last] at h5
      have h6 := WalkBatchRef.fine_batched h5 l
      exact ⟨h6.limit, h6.good, Nat.le_trans h6.size (by omega), h6.young, h6.levels⟩
  · simp only [q3]
    rw [q3, List.length_append] at q
    simp only [List.length_cons, List.length_nil] at q
    by_cases e : i < x.hist.length
    · rw [List.getElem_append_left e]
      exact h.low i e
    · obtain rfl : i = x.hist.length := by omega
      rw [List.getElem_append_right (Nat.le_refl _)]
      simp only [Nat.sub_self, List.getElem_cons_zero]
      omega
  · rw [q3, List.length_append]
    have := h.few
    simp only [List.length_cons, List.length_nil]
    omega
  · unfold marks
    rw [q3, List.map_append, hb]
    rfl
/-- what is left behind a crash -/
theorem play_crash {limit c : Nat} {x : Wal} {rs : List (Nat × Lsm)} (h : Play limit x rs c) (keep : Int) :
    ∃ m, ∃ hm : m < rs.length, leftOf (marks x) (high x keep : Nat) (marks x).length = m ∧ Play limit (crashW x keep) (rs.take (m + 1)) c ∧ marks (crashW x keep) = (marks x).take (m + 1) ∧ (marks x)[m]? = some ((crashW x keep).bytes : Int) ∧ (crashW x keep).safe = (crashW x keep).bytes ∧ (crashW x keep).cur = (rs[m]).2 := by
  obtain ⟨m, hm, q1, q2, q3, q4, q5, q6⟩ := crash_left h.ok keep
  have hl := h.length
  refine ⟨m, by omega, left_eq _ (by rw [marks_length]; exact hm) ?_ fun i hi hi2 => ?_, ⟨ok_crash h.ok keep, ?_, fun i q => ?_, fun i q => ?_, Nat.zero_le _, ?_⟩, ?_, ?_, by rw [q5, q6], ?_⟩
  · rw [List.getD_eq_getElem?_getD, marks_at x hm]
    show ((x.hist[m]).1 : Int) ≤ _
    omega
  · rw [marks_length] at hi2
    have := q3 i hi2 hi
    rw [List.getD_eq_getElem?_getD, marks_at x hi2]
    show _ < ((x.hist[i]).1 : Int)
    omega
  · rw [q1, List.map_take, List.map_take, h.same]
  · simp only [q1, List.getElem_take]
    rw [q1, List.length_take] at q
    exact h.fine i (by omega)
  · simp only [q1, List.getElem_take]
    rw [q1, List.length_take] at q
    exact h.low i (by omega)
  · rw [q1, List.length_take]
    have := h.few
    omega
  · unfold marks
    rw [q1, List.map_take]
  · rw [marks_at x hm, q5]
  · rw [cur_last, q4, h.at (by omega)]
/-- how far it is kept, as the law says it -/
theorem high_eq (x : Wal) (keep : Int) : ((high x keep : Nat) : Int) = if 0 < keep then (if keep < (x.bytes : Int) - x.safe then (x.safe : Int) + keep else x.bytes) else x.safe := by
  unfold high
  by_cases h : 0 < keep
  · rw [if_pos h, if_pos h]
    by_cases h2 : keep < (x.bytes : Int) - x.safe
    · rw [if_pos h2, if_pos h2]
      omega
    · rw [if_neg h2, if_neg h2]
  · rw [if_neg h, if_neg h]

end Go.Proofs.YtofaegcljcpceagGreatDoor.WalPlays
