/-
  A log of batches of the call's own, apart from other things of the call's own (their blocks: T).
-/
import Derived.Test.YtofaegcljcpceagGreatDoorWaAll
import Derived.Test.YtofaegcljcpceagGreatDoorLsAll
namespace Go.Proofs.YtofaegcljcpceagGreatDoor.WalkWalOff
open Go.RowKit
open Lists (bt)
open Keeps (Kept)
open Stores (Pair)
open WalkWa (Wa)
open WalkLs (Ls)
open Errs (errv)
open Wides (Wide)
open PairRows (cells)
open Wals

structure Off (T : Nat → Prop) (w0 : World) (b : Nat) (x : Wal) (w : World) : Prop where
  lies : ∃ F, Wa w w0.heap.size b F x ∧ ∀ k, T k → ¬ F k
  foot : ∀ k, T k → w0.heap.size ≤ k ∧ k < w.heap.size
  below : Below w0.heap.size w0 w
/-- the caller writes what is its own, and has more of its own -/
theorem Off.step {T T' S : Nat → Prop} {w0 w w' : World} {b : Nat} {x : Wal} (h : Off T w0 b x w) (k : Kept S w w') (hS : ∀ i, S i → T i ∨ w.heap.size ≤ i) (hT : ∀ i, T' i → T i ∨ (w.heap.size ≤ i ∧ i < w'.heap.size)) : Off T' w0 b x w' := by
  obtain ⟨F, wa, hF⟩ := h.lies
  refine ⟨⟨F, wa.kept k fun i hi q => ?_, fun i q hi => ?_⟩, fun i q => ?_, h.below.trans (k.below (fun i q => ?_) h.below.size)⟩
  · rcases hS i q with q | q
    · exact hF i q hi
    · have := (wa.foot i hi).2
      omega
  · rcases hT i q with q | q
    · exact hF i q hi
    · have := (wa.foot i hi).2
      omega
  · rcases hT i q with q | q
    · have := h.foot i q
      exact ⟨this.1, Nat.lt_of_lt_of_le this.2 k.size⟩
    · exact ⟨Nat.le_trans h.below.size q.1, q.2⟩
  · rcases hS i q with q | q
    · exact (h.foot i q).1
    · exact Nat.le_trans h.below.size q
theorem Off.stays {T : Nat → Prop} {w0 w w' : World} {b : Nat} {x : Wal} (h : Off T w0 b x w) (k : Below w.heap.size w w') : Off T w0 b x w' := h.step (Kept.of_below (fun _ => False) k) (fun _ q => q.elim) fun _ q => .inl q
/-- it writes what is its own -/
theorem Off.next {T F F' : Nat → Prop} {w0 w w' : World} {b : Nat} {x y : Wal} (h : Off T w0 b x w) (wa : Wa w w0.heap.size b F x) (hF : ∀ k, T k → ¬ F k) (wa2 : Wa w' w0.heap.size b F' y) (hF' : ∀ k, F' k → F k ∨ w.heap.size ≤ k) (k : Kept F w w') : Off T w0 b y w' ∧ Kept (fun k => ¬ T k) w w' :=
  ⟨⟨⟨F', wa2, fun i q q2 => by
      rcases hF' i q2 with q2 | q2
      · exact hF i q q2
      · have := (h.foot i q).2
        omega⟩, fun i q => ⟨(h.foot i q).1, Nat.lt_of_lt_of_le (h.foot i q).2 k.size⟩, h.below.trans (k.below (fun i q => (wa.foot i q).1) h.below.size)⟩, k.mono fun i q q2 => hF i q2 q⟩
/-- a batch that was there ahead of all -/
theorem put_off {T : Nat → Prop} {w0 w : World} {b : Nat} {x : Wal} (h : Off T w0 b x w) (hs : x.hist.length ≤ 400) (l : List Pair) (a : Option Addr) (n cap : Nat) (hr : Wide 3 w0 a n cap (cells l)) (hz : ∀ e ∈ l, e.key.size ≤ maxLen ∧ e.val.size ≤ maxLen) :
    Calls Tryz.prog 5 #[.pointer (some ⟨b, 0, none⟩), .slice a n cap] w fun e w' => e = .returned (errv (putWE x l)) ∧ (∃ n t, 2 ≤ n ∧ n ≤ 100000 ∧ t < n ∧ Off T w0 b (putW x l n t) w') ∧ Kept (fun k => ¬ T k) w w' := by
  obtain ⟨F, wa, hF⟩ := h.lies
  refine (WalkWa.put_any wa hs l a n cap (hr.below h.below) hz (fun p hp hq hf => by
    have h1 := (wa.foot _ hf).1
    obtain ⟨b5, off5, h5, hc5⟩ := hr.2.2 hp
    rw [hq] at h5
    obtain rfl : p = ⟨b5, off5, none⟩ := by simpa using h5
    have hl : 0 < (cells l).length := by
      have := PairRows.len_of hr
      rw [PairRows.cells_length]
      omega
    have := Lists.block_lt (hc5 0 _ (List.getElem?_eq_getElem hl))
    simp only at h1 this
    omega)).mono ?_
  rintro e w' ⟨rfl, ⟨n, t, F', hn, hn2, ht, h3, hF'⟩, kk⟩
  have q := h.next wa hF h3 hF' kk
  exact ⟨rfl, ⟨n, t, hn, hn2, ht, q.1⟩, q.2⟩
theorem sync_off {T : Nat → Prop} {w0 w : World} {b : Nat} {x : Wal} (h : Off T w0 b x w) : Calls Tryz.prog 6 #[.pointer (some ⟨b, 0, none⟩)] w fun e w' => e = .returned (errv (syncE x)) ∧ Off T w0 b (syncW x) w' ∧ Kept (fun k => ¬ T k) w w' := by
  obtain ⟨F, wa, hF⟩ := h.lies
  refine (WalkWa.sync_any wa).mono ?_
  rintro e w' ⟨rfl, ⟨F', h3, hF'⟩, kk⟩
  exact ⟨rfl, h.next wa hF h3 hF' kk⟩
theorem fail_off {T : Nat → Prop} {w0 w : World} {b : Nat} {x : Wal} (h : Off T w0 b x w) (n : Int) (hn : n ≤ 9223372036854775807) : Calls Tryz.prog 12 #[.pointer (some ⟨b, 0, none⟩), .int .i64 n] w fun e w' => e = .returned (.tuple #[]) ∧ Off T w0 b (failW x n) w' ∧ Kept (fun k => ¬ T k) w w' := by
  obtain ⟨F, wa, hF⟩ := h.lies
  refine (WalkWa.fail_any wa n hn).mono ?_
  rintro e w' ⟨rfl, ⟨F', h3, hF'⟩, kk⟩
  exact ⟨rfl, h.next wa hF h3 hF' kk⟩
theorem crash_off {T : Nat → Prop} {w0 w : World} {b : Nat} {x : Wal} (h : Off T w0 b x w) (hs : x.hist.length ≤ 400) (keep : Int) : Calls Tryz.prog 7 #[.pointer (some ⟨b, 0, none⟩), .int .i64 keep] w fun e w' => e = .returned (.tuple #[]) ∧ Off T w0 b (crashW x keep) w' ∧ Kept (fun k => ¬ T k) w w' := by
  obtain ⟨F, wa, hF⟩ := h.lies
  refine (WalkWa.crash_any wa hs keep).mono ?_
  rintro e w' ⟨rfl, ⟨F', h3, hF'⟩, kk⟩
  exact ⟨rfl, h.next wa hF h3 hF' kk⟩
theorem lsm_off {T : Nat → Prop} {w0 w : World} {b : Nat} {x : Wal} (h : Off T w0 b x w) : Calls Tryz.prog 8 #[.pointer (some ⟨b, 0, none⟩)] w fun e w' => ∃ b2 F2, e = .returned (.pointer (some ⟨b2, 0, none⟩)) ∧ Ls w' w0.heap.size b2 F2 x.cur ∧ Below w.heap.size w w' := by
  obtain ⟨F, wa, hF⟩ := h.lies
  refine (WalkWa.lsm_any wa).mono ?_
  rintro e w' ⟨⟨b2, F2, rfl, h3, _⟩, kk⟩
  exact ⟨b2, F2, rfl, h3, kk⟩
theorem bytes_off {T : Nat → Prop} {w0 w : World} {b : Nat} {x : Wal} (h : Off T w0 b x w) : Calls Tryz.prog 10 #[.pointer (some ⟨b, 0, none⟩)] w fun e w' => e = .returned (.int .i64 (x.bytes : Nat)) ∧ Below w.heap.size w w' := by
  obtain ⟨F, wa, hF⟩ := h.lies
  exact WalkWa.bytes_any wa
theorem safe_off {T : Nat → Prop} {w0 w : World} {b : Nat} {x : Wal} (h : Off T w0 b x w) : Calls Tryz.prog 11 #[.pointer (some ⟨b, 0, none⟩)] w fun e w' => e = .returned (.int .i64 (x.safe : Nat)) ∧ Below w.heap.size w w' := by
  obtain ⟨F, wa, hF⟩ := h.lies
  exact WalkWa.safe_any wa

end Go.Proofs.YtofaegcljcpceagGreatDoor.WalkWalOff
