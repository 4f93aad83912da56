/-
  Plain mathematics of WalKeeps: its first fact.
-/
import Derived.Test.YtofaegcljcpceagGreatDoorWalPlays
namespace Go.Proofs.YtofaegcljcpceagGreatDoor.WalFacts
open Stores (Pair)
open Lsms (Lsm)
open Wals

def pa : Pair := ⟨⟨#[97]⟩, ⟨#[120]⟩, false⟩
def pb : Pair := ⟨⟨#[98]⟩, ⟨#[121]⟩, false⟩
def Y1 : Lsm := batched ⟨5, [], []⟩ [pa]
def Y2 : Lsm := batched Y1 [pb]
theorem one_err : putWE (newW 5) [pa] = 0 := by decide
theorem one_put (n t : Nat) : putW (newW 5) [pa] n t = ⟨[(0, ⟨5, [], []⟩), (0 + n, Y1)], 0, 0, none, false⟩ := by
  have h : batchE (⟨5, [], []⟩ : Lsm) [pa] = 0 := by decide
  simp [putW, newW, Wal.cur, Wal.last, h, Y1]
theorem one_sync (n : Nat) : syncE ⟨[(0, ⟨5, [], []⟩), (0 + n, Y1)], 0, 0, none, false⟩ = 0 ∧ syncW ⟨[(0, ⟨5, [], []⟩), (0 + n, Y1)], 0, 0, none, false⟩ = ⟨[(0, ⟨5, [], []⟩), (0 + n, Y1)], 0, n, none, false⟩ := by
  constructor
  · simp [syncE]
  · simp [syncW, Wal.bytes, Wal.last]
theorem two_err (n : Nat) : putWE ⟨[(0, ⟨5, [], []⟩), (0 + n, Y1)], 0, n, none, false⟩ [pb] = 0 := by
  have h : batchE Y1 [pb] = 0 := by decide
  simp [putWE, Wal.cur, Wal.last, h]
theorem two_put (n m t : Nat) : putW ⟨[(0, ⟨5, [], []⟩), (0 + n, Y1)], 0, n, none, false⟩ [pb] m t = ⟨[(0, ⟨5, [], []⟩), (n, Y1), (n + m, Y2)], 0, n, none, false⟩ := by
  have h : batchE Y1 [pb] = 0 := by decide
  simp [putW, Wal.cur, Wal.last, h, Y2]
theorem two_crash (n m : Nat) (hm : 2 ≤ m) : crashW ⟨[(0, ⟨5, [], []⟩), (n, Y1), (n + m, Y2)], 0, n, none, false⟩ 0 = ⟨[(0, ⟨5, [], []⟩), (n, Y1)], 0, n, none, false⟩ := by
  have h : decide (n + m ≤ n) = false := decide_eq_false (by omega)
  have f : [(0, (⟨5, [], []⟩ : Lsm)), (n, Y1), (n + m, Y2)].filter (fun e => decide (e.1 ≤ n)) = [(0, ⟨5, [], []⟩), (n, Y1)] := by simp [List.filter, h]
  have g : high ⟨[(0, ⟨5, [], []⟩), (n, Y1), (n + m, Y2)], 0, n, none, false⟩ 0 = n := rfl
  unfold crashW
  simp only [g, f]
  rfl
theorem fact_bytes (n : Nat) : (⟨[(0, ⟨5, [], []⟩), (n, Y1)], 0, n, none, false⟩ : Wal).bytes = n ∧ (⟨[(0, ⟨5, [], []⟩), (n, Y1)], 0, n, none, false⟩ : Wal).cur = Y1 := ⟨rfl, rfl⟩
theorem fact_all : Y1.all.length = 1 ∧ Y1.size ≤ 10000 := by decide

end Go.Proofs.YtofaegcljcpceagGreatDoor.WalFacts
