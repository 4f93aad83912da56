/-
  A mirror of the call's own, apart from other things of the call's own (their blocks: T): what the walks of its laws use of it.
-/
import Derived.Test.YticadkggaanbjaaGreatDoorMiRun
namespace Go.Proofs.YticadkggaanbjaaGreatDoor.WalkMiOff
open Go.RowKit
open Lists (bt Row ints)
open Keeps (Kept)
open Wides (Wide)
open EntRows (cells)
open Errs (errv)
open Mirrors (Mir Reply Ok hearE hearM rootE)
open ReplyRows (RFine)
open MirVals (rv)
open MirVals (wv)
open HeadVals (hv)
open WalkMi (Mi Asks)

structure Off (T : Nat → Prop) (w0 : World) (b : Nat) (key : Int) (m : Mir) (w : World) : Prop where
  lies : ∃ F, Mi w w0.heap.size b F key m ∧ ∀ k, T k → ¬ F k
  foot : ∀ k, T k → w0.heap.size ≤ k ∧ k < w.heap.size
  below : Below w0.heap.size w0 w
  ok : Ok key m
/-- the caller writes what is its own, and has more of its own -/
theorem Off.step {T T' S : Nat → Prop} {w0 w w' : World} {b : Nat} {key : Int} {m : Mir} (h : Off T w0 b key m w) (k : Kept S w w') (hS : ∀ i, S i → T i ∨ w.heap.size ≤ i) (hT : ∀ i, T' i → T i ∨ (w.heap.size ≤ i ∧ i < w'.heap.size)) : Off T' w0 b key m w' := by
  obtain ⟨F, wa, hF⟩ := h.lies
  refine ⟨⟨F, wa.kept k fun i hi q => ?_, fun i q hi => ?_⟩, fun i q => ?_, h.below.trans (k.below (fun i q => ?_) h.below.size), h.ok⟩
  · rcases hS i q with q | q
    · exact hF i q hi
    · have := (wa.foot i hi).2
      omega
  · rcases hT i q with q | q
    · exact hF i q hi
    · have := (wa.foot i hi).2
      omega
  · rcases hT i q with q | q
    · have := h.foot i q
      exact ⟨this.1, Nat.lt_of_lt_of_le this.2 k.size⟩
    · exact ⟨Nat.le_trans h.below.size q.1, q.2⟩
  · rcases hS i q with q | q
    · exact (h.foot i q).1
    · exact Nat.le_trans h.below.size q
theorem Off.stays {T : Nat → Prop} {w0 w w' : World} {b : Nat} {key : Int} {m : Mir} (h : Off T w0 b key m w) (k : Below w.heap.size w w') : Off T w0 b key m w' := h.step (Kept.of_below (fun _ => False) k) (fun _ q => q.elim) fun _ q => .inl q
/-- more of the caller's own -/
theorem Off.more {T T' : Nat → Prop} {w0 w w' : World} {b : Nat} {key : Int} {m : Mir} (h : Off T w0 b key m w) (k : Below w.heap.size w w') (hT : ∀ i, T' i → T i ∨ (w.heap.size ≤ i ∧ i < w'.heap.size)) : Off T' w0 b key m w' := h.step (Kept.of_below (fun _ => False) k) (fun _ q => q.elim) hT
/-- it hears: the lists of the reply are the caller's own, or were there ahead of all -/
theorem hear_off {T : Nat → Prop} {w0 w : World} {b : Nat} {key : Int} {m : Mir} (h : Off T w0 b key m w) (hA : Asks w) (r : Reply) (hf : RFine r) (a5 : Option Addr) (c5 : Nat) (a6 : Option Addr) (c6 : Nat) (h5 : Wide 2 w a5 r.ents.length c5 (cells r.ents)) (h6 : Row w a6 r.proof.length c6 (ints r.proof))
    (d5 : ∀ p, 0 < r.ents.length → a5 = some p → p.block < w0.heap.size ∨ T p.block) (d6 : ∀ p, 0 < r.proof.length → a6 = some p → p.block < w0.heap.size ∨ T p.block) :
    Calls Tryz.prog 81 #[.pointer (some ⟨b, 0, none⟩), rv r a5 c5 a6 c6] w fun e w' => e = .returned (errv (hearE key m r)) ∧ Off T w0 b key (hearM key m r) w' ∧ Kept (fun k => ¬ T k) w w' := by
  obtain ⟨F, wa, hF⟩ := h.lies
  have off : ∀ k, (k < w0.heap.size ∨ T k) → ¬ F k := fun k q s => by
    rcases q with q | q
    · have := (wa.foot k s).1
      omega
    · exact hF k q s
  refine (WalkMi.hear_any wa hA h.ok r hf a5 c5 a6 c6 h5 h6 (fun p h0 hp => off _ (d5 p h0 hp)) (fun p h0 hp => off _ (d6 p h0 hp))).mono ?_
  rintro e w' ⟨rfl, ⟨F', h3, hF'⟩, kk⟩
  refine ⟨rfl, ⟨⟨F', h3, fun i q q2 => ?_⟩, fun i q => ⟨(h.foot i q).1, Nat.lt_of_lt_of_le (h.foot i q).2 kk.size⟩, h.below.trans (kk.below (fun i q => (wa.foot i q).1) h.below.size), Mirrors.hear_ok h.ok r⟩, kk.mono fun i q q2 => hF i q2 q⟩
  rcases hF' i q2 with q2 | q2
  · exact hF i q q2
  · have := (h.foot i q).2
    omega
theorem want_off {T : Nat → Prop} {w0 w : World} {b : Nat} {key : Int} {m : Mir} (h : Off T w0 b key m w) : Calls Tryz.prog 82 #[.pointer (some ⟨b, 0, none⟩)] w fun e w' => e = .returned (wv m.want) ∧ Off T w0 b key m w' ∧ Below w.heap.size w w' := by
  obtain ⟨F, wa, hF⟩ := h.lies
  refine (WalkMi.want_any wa h.ok).mono ?_
  rintro e w' ⟨rfl, bb⟩
  exact ⟨rfl, h.stays bb, bb⟩
theorem size_off {T : Nat → Prop} {w0 w : World} {b : Nat} {key : Int} {m : Mir} (h : Off T w0 b key m w) : Calls Tryz.prog 83 #[.pointer (some ⟨b, 0, none⟩)] w fun e w' => e = .returned (.int .i64 (m.own.length : Int)) ∧ Off T w0 b key m w' ∧ Below w.heap.size w w' := by
  obtain ⟨F, wa, hF⟩ := h.lies
  refine (WalkMi.size_any wa).mono ?_
  rintro e w' ⟨rfl, bb⟩
  exact ⟨rfl, h.stays bb, bb⟩
theorem root_off {T : Nat → Prop} {w0 w : World} {b : Nat} {key : Int} {m : Mir} (h : Off T w0 b key m w) : Calls Tryz.prog 176 #[.pointer (some ⟨b, 0, none⟩)] w fun e w' => e = .returned (.int .i64 (rootE m.own)) ∧ Off T w0 b key m w' ∧ Below w.heap.size w w' := by
  obtain ⟨F, wa, hF⟩ := h.lies
  refine (WalkMi.root_any wa h.ok).mono ?_
  rintro e w' ⟨rfl, bb⟩
  exact ⟨rfl, h.stays bb, bb⟩
theorem head_off {T : Nat → Prop} {w0 w : World} {b : Nat} {key : Int} {m : Mir} (h : Off T w0 b key m w) : Calls Tryz.prog 23 #[.pointer (some ⟨b, 0, none⟩)] w fun e w' => e = .returned (hv m.head) ∧ Off T w0 b key m w' ∧ Below w.heap.size w w' := by
  obtain ⟨F, wa, hF⟩ := h.lies
  refine (WalkMi.head_any wa).mono ?_
  rintro e w' ⟨rfl, bb⟩
  exact ⟨rfl, h.stays bb, bb⟩
theorem entries_off {T : Nat → Prop} {w0 w : World} {b : Nat} {key : Int} {m : Mir} (h : Off T w0 b key m w) : Calls Tryz.prog 22 #[.pointer (some ⟨b, 0, none⟩)] w fun e w' => ∃ v, e = .returned v ∧ w'.ownsRow w.heap.size 38 2 v m.own.length (cells m.own) ∧ Off T w0 b key m w' ∧ Below w.heap.size w w' := by
  obtain ⟨F, wa, hF⟩ := h.lies
  refine (WalkMi.entries_any wa h.ok).mono ?_
  rintro e w' ⟨v, rfl, ho, bb⟩
  exact ⟨v, rfl, ho, h.stays bb, bb⟩

end Go.Proofs.YticadkggaanbjaaGreatDoor.WalkMiOff
