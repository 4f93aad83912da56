/-
  A log of batches of the call's own, among nothing old that has turned: what the walks of its laws use of it.
-/
import Derived.Test.YtofaegcljcpceagGreatDoorWaAll
import Derived.Test.YtofaegcljcpceagGreatDoorLsAll
namespace Go.Proofs.YtofaegcljcpceagGreatDoor.WalkWalAt
open Go.RowKit
open Lists (bt)
open Keeps (Kept)
open Stores (Pair)
open WalkWa (Wa)
open WalkLs (Ls)
open Errs (errv errv0 errv_pos)
open Wides (Wide)
open PairRows (cells)
open Wals

/-- a new one -/
theorem new_any (limit : Int) (w : World) (B : Nat) (hB : B ≤ w.heap.size) : Calls Tryz.prog 4 #[.int .i64 limit] w fun e w' => ∃ v, e = .returned (.tuple #[v, errv (Lsms.newE limit)]) ∧ (Lsms.newE limit = 0 → ∃ b F, v = .pointer (some ⟨b, 0, none⟩) ∧ Wa w' B b F (newW limit.toNat) ∧ ∀ k, F k → w.heap.size ≤ k) ∧ Below w.heap.size w w' := WalkWa.new_any limit w B hB
def At (w0 : World) (b : Nat) (x : Wal) (w : World) : Prop := (∃ F, Wa w w0.heap.size b F x) ∧ Below w0.heap.size w0 w
theorem At.below {w0 w w' : World} {b : Nat} {x : Wal} (h : At w0 b x w) (k : Below w.heap.size w w') : At w0 b x w' := by
  obtain ⟨⟨F, h1⟩, h2⟩ := h
  exact ⟨⟨F, h1.kept (Kept.of_below (fun _ => False) k) fun _ _ q => q⟩, bt h2 k⟩
theorem At.next {w0 w w' : World} {b : Nat} {x y : Wal} {F F' : Nat → Prop} (h : Wa w w0.heap.size b F x) (hb : Below w0.heap.size w0 w) (h2 : Wa w' w0.heap.size b F' y) (k : Kept F w w') : At w0 b y w' :=
  ⟨⟨F', h2⟩, hb.trans (k.below (fun i q => (h.foot i q).1) hb.size)⟩
/-- a batch of one pair, as it is laid ahead of the call -/
theorem one_wide (w : World) (p : Pair) : Wide 3 (w.alloc (.cells #[.string p.key, .string p.val, .bool p.gone] 31)) (some ⟨w.heap.size, 0, none⟩) 1 1 (cells [p]) := by
  refine ⟨rfl, Nat.le_refl _, fun _ => ⟨_, 0, rfl, ?_⟩⟩
  intro j u hj
  match j, hj with
  | 0, hj => simp [cells] at hj; subst hj; simp
  | 1, hj => simp [cells] at hj; subst hj; simp
  | 2, hj => simp [cells] at hj; subst hj; simp
  | j + 3, hj => simp [cells] at hj
theorem put_one {w0 w : World} {b : Nat} {x : Wal} (h : At w0 b x w) (hs : x.hist.length ≤ 400) (p : Pair) (h1 : p.key.size ≤ maxLen) (h2 : p.val.size ≤ maxLen) :
    Calls Tryz.prog 5 #[.pointer (some ⟨b, 0, none⟩), .slice (some ⟨w.heap.size, 0, none⟩) 1 1] (w.alloc (.cells #[.string p.key, .string p.val, .bool p.gone] 31)) fun e w' => e = .returned (errv (putWE x [p])) ∧ ∃ n t, 2 ≤ n ∧ At w0 b (putW x [p] n t) w' := by
  obtain ⟨⟨F, wa⟩, bb⟩ := h
  have k : Below w.heap.size w (w.alloc (.cells #[.string p.key, .string p.val, .bool p.gone] 31)) := (Below.refl _ _).alloc (Nat.le_refl _) _
  have wa1 := wa.kept (Kept.of_below (fun _ => False) k) fun _ _ q => q
  refine (WalkWa.put_any wa1 hs [p] _ 1 1 (one_wide w p) (fun e he => by rw [List.mem_singleton.1 he]; exact ⟨h1, h2⟩) (fun q _ hq hf => by
    simp only [Option.some.injEq] at hq
    subst hq
    have := (wa.foot _ hf).2
    simp at this)).mono ?_
  rintro e w' ⟨rfl, ⟨n, t, F', hn, _, _, h3, _⟩, kk⟩
  exact ⟨rfl, n, t, hn, At.next wa1 (bt bb k) h3 kk⟩
theorem sync_at {w0 w : World} {b : Nat} {x : Wal} (h : At w0 b x w) : Calls Tryz.prog 6 #[.pointer (some ⟨b, 0, none⟩)] w fun e w' => e = .returned (errv (syncE x)) ∧ At w0 b (syncW x) w' := by
  obtain ⟨⟨F, wa⟩, bb⟩ := h
  refine (WalkWa.sync_any wa).mono ?_
  rintro e w' ⟨rfl, ⟨F', h3, _⟩, kk⟩
  exact ⟨rfl, At.next wa bb h3 kk⟩
theorem fail_at {w0 w : World} {b : Nat} {x : Wal} (h : At w0 b x w) (n : Int) (hn : n ≤ 9223372036854775807) : Calls Tryz.prog 12 #[.pointer (some ⟨b, 0, none⟩), .int .i64 n] w fun e w' => e = .returned (.tuple #[]) ∧ At w0 b (failW x n) w' := by
  obtain ⟨⟨F, wa⟩, bb⟩ := h
  refine (WalkWa.fail_any wa n hn).mono ?_
  rintro e w' ⟨rfl, ⟨F', h3, _⟩, kk⟩
  exact ⟨rfl, At.next wa bb h3 kk⟩
theorem crash_at {w0 w : World} {b : Nat} {x : Wal} (h : At w0 b x w) (hs : x.hist.length ≤ 400) (keep : Int) : Calls Tryz.prog 7 #[.pointer (some ⟨b, 0, none⟩), .int .i64 keep] w fun e w' => e = .returned (.tuple #[]) ∧ At w0 b (crashW x keep) w' := by
  obtain ⟨⟨F, wa⟩, bb⟩ := h
  refine (WalkWa.crash_any wa hs keep).mono ?_
  rintro e w' ⟨rfl, ⟨F', h3, _⟩, kk⟩
  exact ⟨rfl, At.next wa bb h3 kk⟩
theorem lsm_at {w0 w : World} {b : Nat} {x : Wal} (h : At w0 b x w) : Calls Tryz.prog 8 #[.pointer (some ⟨b, 0, none⟩)] w fun e w' => ∃ b2 F2, e = .returned (.pointer (some ⟨b2, 0, none⟩)) ∧ Ls w' w0.heap.size b2 F2 x.cur ∧ At w0 b x w' := by
  have h0 := h
  obtain ⟨⟨F, wa⟩, bb⟩ := h
  refine (WalkWa.lsm_any wa).mono ?_
  rintro e w' ⟨⟨b2, F2, rfl, h3, _⟩, kk⟩
  exact ⟨b2, F2, rfl, h3, h0.below kk⟩
theorem bytes_at {w0 w : World} {b : Nat} {x : Wal} (h : At w0 b x w) : Calls Tryz.prog 10 #[.pointer (some ⟨b, 0, none⟩)] w fun e w' => e = .returned (.int .i64 (x.bytes : Nat)) ∧ At w0 b x w' := by
  have h0 := h
  obtain ⟨⟨F, wa⟩, bb⟩ := h
  refine (WalkWa.bytes_any wa).mono ?_
  rintro e w' ⟨rfl, kk⟩
  exact ⟨rfl, h0.below kk⟩

end Go.Proofs.YtofaegcljcpceagGreatDoor.WalkWalAt
