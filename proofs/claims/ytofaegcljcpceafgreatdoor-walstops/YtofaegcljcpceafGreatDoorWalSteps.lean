/-
  Plain mathematics of WalStops: a log of batches that stops at the step that was told, refuses all then, and goes on behind a crash.
-/
import Derived.Test.YtofaegcljcpceafGreatDoorWalPlain
namespace Go.Proofs.YtofaegcljcpceafGreatDoor.WalSteps
open Stores (Pair putE)
open Lsms (Lsm getLV getLE)
open Wals

def pa : Pair := ⟨⟨#[97]⟩, ⟨#[120]⟩, false⟩
def p0 : Pair := ⟨⟨#[]⟩, ⟨#[120]⟩, false⟩
def pb : Pair := ⟨⟨#[98]⟩, ⟨#[121]⟩, false⟩
/-- nothing, or the one pair -/
def c0 : Lsm := ⟨9, [], []⟩
def c1 : Lsm := ⟨9, [pa], []⟩
def Two (x : Lsm) : Prop := x = c0 ∨ x = c1
theorem bad_batch {x : Lsm} (h : Two x) : batchE x [p0] = 2 := by
  rcases h with rfl | rfl <;> decide +kernel
theorem good_batch {x : Lsm} (h : Two x) : batchE x [pa] = 0 ∧ batched x [pa] = c1 := by
  have e0 : (puts c0 [pa]).1.young = [pa] ∧ (puts c0 [pa]).1.levels = [] ∧ (puts c0 [pa]).1.limit = 9 := by decide +kernel
  have e1 : (puts c1 [pa]).1.young = [pa] ∧ (puts c1 [pa]).1.levels = [] ∧ (puts c1 [pa]).1.limit = 9 := by decide +kernel
  rcases h with rfl | rfl
  · have e : batchE c0 [pa] = 0 := by decide +kernel
    refine ⟨e, ?_⟩
    unfold batched
    rw [if_pos e]
    match hq : (puts c0 [pa]).1, e0 with
    | ⟨_, _, _⟩, ⟨q1, q2, q3⟩ => rw [show c1 = ⟨9, [pa], []⟩ from rfl]; simp only at q1 q2 q3; rw [q1, q2, q3]
  · have e : batchE c1 [pa] = 0 := by decide +kernel
    refine ⟨e, ?_⟩
    unfold batched
    rw [if_pos e]
    match hq : (puts c1 [pa]).1, e1 with
    | ⟨_, _, _⟩, ⟨q1, q2, q3⟩ => rw [show c1 = ⟨9, [pa], []⟩ from rfl]; simp only at q1 q2 q3; rw [q1, q2, q3]
theorem last_batch {x : Lsm} (h : Two x) : batchE x [pb] = 0 ∧ getLV (batched x [pb]) ⟨#[98]⟩ = ⟨#[121]⟩ ∧ getLE (batched x [pb]) ⟨#[98]⟩ = 0 := by
  rcases h with rfl | rfl <;> decide +kernel

/-- so many steps done of a log that stops at one -/
structure St (x : Wal) (after steps : Nat) : Prop where
  ok : Ok x 9
  two : ∀ e ∈ x.hist, Two e.2
  goes : steps ≤ after → x.stopped = false ∧ x.fails = some (after - steps)
  stops : after < steps → x.stopped = true
theorem cur_mem {x : Wal} {limit : Nat} (h : Ok x limit) : x.last ∈ x.hist := by
  obtain ⟨r, hr⟩ := h.first
  have hne : x.hist ≠ [] := by rw [hr]; simp
  unfold Wal.last
  rw [List.getLastD_eq_getLast?, List.getLast?_eq_some_getLast hne]
  exact List.getLast_mem hne
theorem St.cur {x : Wal} {a s : Nat} (h : St x a s) : Two x.cur := h.two _ (cur_mem h.ok)
theorem st_new (a : Nat) : St (failW (newW 9) (a : Int)) a 0 := by
  refine ⟨ok_fail (ok_new 9) _, ?_, fun _ => ⟨rfl, ?_⟩, fun h => by omega⟩
  · intro e he
    rw [List.mem_singleton.1 he]
    exact .inl rfl
  · show (if ((a : Nat) : Int) < 0 then none else some ((a : Nat) : Int).toNat) = _
    rw [if_neg (by omega)]
    simp
theorem st_bad {x : Wal} {a s : Nat} (h : St x a s) (n t : Nat) : putWE x [p0] = (if a < s then 6 else 2) ∧ putW x [p0] n t = x := by
  have e := bad_batch h.cur
  unfold putWE putW
  by_cases hs : a < s
  · rw [if_pos (h.stops hs), if_pos hs, if_pos (.inl (h.stops hs))]
    exact ⟨rfl, rfl⟩
  · obtain ⟨q1, _⟩ := h.goes (by omega)
    rw [q1, e, if_neg (by decide), if_pos (by decide), if_neg hs, if_pos (.inr (by decide))]
    exact ⟨rfl, rfl⟩
theorem st_put {x : Wal} {a s : Nat} (h : St x a s) {n t : Nat} (hn : 2 ≤ n) : putWE x [pa] = (if s < a then 0 else 6) ∧ St (putW x [pa] n t) a (s + 1) := by
  obtain ⟨e, e2⟩ := good_batch h.cur
  have ok := ok_put h.ok [pa] (t := t) hn
  by_cases hs : a < s
  · have q := h.stops hs
    have e3 : putW x [pa] n t = x := if_pos (.inl q)
    refine ⟨?_, ?_⟩
    · unfold putWE
      rw [if_pos q, if_neg (by omega)]
    · rw [e3]
      exact ⟨h.ok, h.two, fun q' => by omega, fun _ => q⟩
  · obtain ⟨q1, q2⟩ := h.goes (by omega)
    have hno : ¬ (x.stopped = true ∨ batchE x.cur [pa] ≠ 0) := by rw [q1, e]; simp
    by_cases h0 : s = a
    · have q3 : x.fails = some 0 := by rw [q2, h0]; simp
      have e3 : putW x [pa] n t = { x with stopped := true, tail := t } := by unfold putW; rw [if_neg hno, if_pos q3]
      refine ⟨?_, ?_⟩
      · unfold putWE
        rw [q1, if_neg (by decide), e, if_neg (by simp), if_pos q3, if_neg (by omega)]
      · rw [e3] at ok ⊢
        exact ⟨ok, h.two, fun q' => by omega, fun _ => rfl⟩
    · have q3 : ¬ x.fails = some 0 := by rw [q2]; simp; omega
      have e3 : putW x [pa] n t = { x with hist := x.hist ++ [(x.last.1 + n, batched x.cur [pa])], fails := x.fails.map (· - 1) } := by unfold putW; rw [if_neg hno, if_neg q3]
      refine ⟨?_, ?_⟩
      · unfold putWE
        rw [q1, if_neg (by decide), e, if_neg (by simp), if_neg q3, if_pos (by omega)]
      · rw [e3] at ok ⊢
        refine ⟨ok, ?_, fun _ => ⟨q1, ?_⟩, fun q' => by omega⟩
        · intro y hy
          rcases List.mem_append.1 hy with hy | hy
          · exact h.two y hy
          · rw [List.mem_singleton.1 hy]
            exact .inr e2
        · show x.fails.map (· - 1) = _
          rw [q2, Option.map_some]
          congr 1
theorem st_sync {x : Wal} {a s : Nat} (h : St x a s) : syncE x = (if s < a then 0 else 6) ∧ St (syncW x) a (s + 1) := by
  have ok := ok_sync h.ok
  by_cases hs : a < s
  · have q := h.stops hs
    have e3 : syncW x = x := if_pos q
    refine ⟨?_, ?_⟩
    · unfold syncE
      rw [if_pos (.inl q), if_neg (by omega)]
    · rw [e3]
      exact ⟨h.ok, h.two, fun q' => by omega, fun _ => q⟩
  · obtain ⟨q1, q2⟩ := h.goes (by omega)
    have hno : ¬ x.stopped = true := by rw [q1]; decide
    by_cases h0 : s = a
    · have q3 : x.fails = some 0 := by rw [q2, h0]; simp
      have e3 : syncW x = { x with stopped := true } := by unfold syncW; rw [if_neg hno, if_pos q3]
      refine ⟨?_, ?_⟩
      · unfold syncE
        rw [if_pos (.inr q3), if_neg (by omega)]
      · rw [e3] at ok ⊢
        exact ⟨ok, h.two, fun q' => by omega, fun _ => rfl⟩
    · have q3 : ¬ x.fails = some 0 := by rw [q2]; simp; omega
      have e3 : syncW x = { x with safe := x.bytes, fails := x.fails.map (· - 1) } := by unfold syncW; rw [if_neg hno, if_neg q3]
      refine ⟨?_, ?_⟩
      · unfold syncE
        rw [if_neg (by rintro (q | q); exact hno q; exact q3 q), if_pos (by omega)]
      · rw [e3] at ok ⊢
        refine ⟨ok, h.two, fun _ => ⟨q1, ?_⟩, fun q' => by omega⟩
        show x.fails.map (· - 1) = _
        rw [q2, Option.map_some]
        congr 1
/-- where it has stopped -/
theorem st_stop {x : Wal} {a s : Nat} (h : St x a s) (hs : a < s) (l : List Pair) (n t : Nat) : syncE x = 6 ∧ syncW x = x ∧ putWE x l = 6 ∧ putW x l n t = x := by
  have q := h.stops hs
  exact ⟨if_pos (.inl q), if_pos q, if_pos q, if_pos (.inl q)⟩
/-- and behind a crash -/
theorem crash_cur {x : Wal} {a s : Nat} (h : St x a s) (keep : Int) {n t : Nat} : (syncW (putW (crashW x keep) [pb] n t)).cur = batched (crashW x keep).cur [pb] := by
  have ok := ok_crash h.ok keep
  have tw : Two (crashW x keep).cur := h.two _ (List.mem_filter.1 (cur_mem ok)).1
  obtain ⟨e, _, _⟩ := last_batch tw
  have hno : ¬ ((crashW x keep).stopped = true ∨ batchE (crashW x keep).cur [pb] ≠ 0) := by rw [e]; rintro (q | q); cases q; exact q rfl
  have hp : putW (crashW x keep) [pb] n t = { crashW x keep with hist := (crashW x keep).hist ++ [((crashW x keep).last.1 + n, batched (crashW x keep).cur [pb])], fails := none } := by
    unfold putW
    rw [if_neg hno, if_neg (show ¬ (crashW x keep).fails = some 0 from fun q => by cases q)]
    rfl
  rw [hp]
  exact congrArg Prod.snd (last_snoc (crashW x keep) _)
theorem st_crash {x : Wal} {a s : Nat} (h : St x a s) (keep : Int) {n t : Nat} : putWE (crashW x keep) [pb] = 0 ∧ syncE (putW (crashW x keep) [pb] n t) = 0 ∧ getLV (syncW (putW (crashW x keep) [pb] n t)).cur ⟨#[98]⟩ = ⟨#[121]⟩ ∧ getLE (syncW (putW (crashW x keep) [pb] n t)).cur ⟨#[98]⟩ = 0 := by
  have ok := ok_crash h.ok keep
  have tw : Two (crashW x keep).cur := h.two _ (List.mem_filter.1 (cur_mem ok)).1
  obtain ⟨e, e1, e2⟩ := last_batch tw
  have hno : ¬ ((crashW x keep).stopped = true ∨ batchE (crashW x keep).cur [pb] ≠ 0) := by rw [e]; rintro (q | q); cases q; exact q rfl
  have hp : putW (crashW x keep) [pb] n t = { crashW x keep with hist := (crashW x keep).hist ++ [((crashW x keep).last.1 + n, batched (crashW x keep).cur [pb])], fails := none } := by
    unfold putW
    rw [if_neg hno, if_neg (show ¬ (crashW x keep).fails = some 0 from fun q => by cases q)]
    rfl
  have hsy : (syncW (putW (crashW x keep) [pb] n t)).cur = batched (crashW x keep).cur [pb] := by
    rw [hp]
    exact congrArg Prod.snd (last_snoc (crashW x keep) _)
  refine ⟨?_, ?_, ?_, ?_⟩
  · unfold putWE
    rw [if_neg (show ¬ (crashW x keep).stopped = true from fun q => by cases q), e, if_neg (by simp), if_neg (show ¬ (crashW x keep).fails = some 0 from fun q => by cases q)]
  · rw [hp]
    rfl
  · rw [hsy]; exact e1
  · rw [hsy]; exact e2

end Go.Proofs.YtofaegcljcpceafGreatDoor.WalSteps
