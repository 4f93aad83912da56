/-
  A mirror of the program's in block bx, its blocks among G, and a reply apart from them: what the walk of MirrorTrusts uses of it.
-/
import Derived.Test.YtjacioplocmciagGreatDoorWalkMi
namespace Go.Proofs.YtjacioplocmciagGreatDoor.MirOne
open Go.RowKit
open Lists (Row ints bt)
open Keeps (Kept owns_kept)
open Wides (Wide)
open EntRows (cells)
open Errs (errv)
open Mirrors (Mir Reply Ok hearE hearM rootE)
open ReplyRows (RFine)
open MirVals (rv cell7 wv)
open HeadVals (hv)
open WalkMi (Mi Asks)

theorem wide_kept {S : Nat → Prop} {s : Nat} {w w' : World} {a : Option Addr} {n cap : Nat} {xs : List Value} (h : Wide s w a n cap xs) (k : Kept S w w') (hS : ∀ p, 0 < n → a = some p → ¬ S p.block) : Wide s w' a n cap xs := by
  refine ⟨h.1, h.2.1, fun h0 => ?_⟩
  obtain ⟨b, off, rfl, hc⟩ := h.2.2 h0
  refine ⟨b, off, rfl, fun j u hj => ?_⟩
  have h1 := hc j u hj
  rw [k.cell (Lists.block_lt h1) (hS ⟨b, off, none⟩ h0 rfl)]
  exact h1
theorem row_kept {S : Nat → Prop} {w w' : World} {a : Option Addr} {n cap : Nat} {xs : List Value} (h : Row w a n cap xs) (k : Kept S w w') (hS : ∀ p, 0 < n → a = some p → ¬ S p.block) : Row w' a n cap xs := by
  refine ⟨h.1, h.2.1, fun h0 => ?_⟩
  obtain ⟨b, off, rfl, hc⟩ := h.2.2 h0
  refine ⟨b, off, rfl, fun j u hj => ?_⟩
  have h1 := hc j u hj
  rw [k.cell (Lists.block_lt h1) (hS ⟨b, off, none⟩ h0 rfl)]
  exact h1
theorem wide_lt {s : Nat} {w : World} {a : Option Addr} {n cap : Nat} {xs : List Value} (hs : 0 < s) (h : Wide s w a n cap xs) : ∀ p, 0 < n → a = some p → p.block < w.heap.size := by
  intro p h0 hp
  obtain ⟨b, off, ha, hc⟩ := h.2.2 h0
  rw [hp] at ha
  obtain rfl : p = ⟨b, off, none⟩ := by simpa using ha
  have hl : 0 < xs.length := by rw [h.1]; exact Nat.mul_pos h0 hs
  exact Lists.block_lt (hc 0 _ (List.getElem?_eq_getElem hl))
theorem row_lt {w : World} {a : Option Addr} {n cap : Nat} {xs : List Value} (h : Row w a n cap xs) : ∀ p, 0 < n → a = some p → p.block < w.heap.size := by
  intro p h0 hp
  obtain ⟨b, off, ha, hc⟩ := h.2.2 h0
  rw [hp] at ha
  obtain rfl : p = ⟨b, off, none⟩ := by simpa using ha
  have hl : 0 < xs.length := by rw [h.1]; exact h0
  exact Lists.block_lt (hc 0 _ (List.getElem?_eq_getElem hl))

/-- the mirror in block bx; all of its blocks are among G -/
structure One (w0 w : World) (bx : Nat) (G : Nat → Prop) (key : Int) (m : Mir) : Prop where
  lies : ∃ F, Mi w w0.heap.size bx F key m ∧ ∀ k, F k → G k
  foot : ∀ k, G k → w0.heap.size ≤ k ∧ k < w.heap.size
  bel : Below w0.heap.size w0 w
theorem One.kept {S G : Nat → Prop} {w0 w w' : World} {bx : Nat} {key : Int} {m : Mir} (h : One w0 w bx G key m) (k : Kept S w w') (hS : ∀ i, S i → ¬ G i ∧ w0.heap.size ≤ i) : One w0 w' bx G key m := by
  obtain ⟨F, h1, h4⟩ := h.lies
  exact ⟨⟨F, h1.kept k fun i q s => (hS i s).1 (h4 i q), h4⟩, fun i q => ⟨(h.foot i q).1, Nat.lt_of_lt_of_le (h.foot i q).2 k.size⟩, h.bel.trans (k.below (fun i q => (hS i q).2) h.bel.size)⟩
theorem One.below {G : Nat → Prop} {w0 w w' : World} {bx : Nat} {key : Int} {m : Mir} (h : One w0 w bx G key m) (k : Below w.heap.size w w') : One w0 w' bx G key m := h.kept (Kept.of_below (fun _ => False) k) fun _ q => q.elim

/-- a reply in block pr, its lists, all apart from the blocks G -/
structure RO (w : World) (pr : Nat) (r : Reply) (a5 : Option Addr) (c5 : Nat) (a6 : Option Addr) (c6 : Nat) (G : Nat → Prop) : Prop where
  row : w.rowIs pr 65 7 (cell7 r.what r.head.size r.head.root r.head.time r.head.sign (.slice a5 r.ents.length c5) (.slice a6 r.proof.length c6))
  ents : Wide 2 w a5 r.ents.length c5 (cells r.ents)
  proof : Row w a6 r.proof.length c6 (ints r.proof)
  off : ¬ G pr
  off5 : ∀ p, 0 < r.ents.length → a5 = some p → ¬ G p.block
  off6 : ∀ p, 0 < r.proof.length → a6 = some p → ¬ G p.block
  fine : RFine r
theorem RO.next {w w' : World} {pr : Nat} {r : Reply} {a5 : Option Addr} {c5 : Nat} {a6 : Option Addr} {c6 : Nat} {G G' : Nat → Prop} (h : RO w pr r a5 c5 a6 c6 G) (k : Kept G w w') (hG : ∀ i, G' i → G i ∨ w.heap.size ≤ i) : RO w' pr r a5 c5 a6 c6 G' := by
  refine ⟨h.row.of_block (k.block pr h.row.lt h.off), wide_kept h.ents k h.off5, row_kept h.proof k h.off6, fun q => ?_, fun p h0 hp q => ?_, fun p h0 hp q => ?_, h.fine⟩
  · rcases hG _ q with q | q
    · exact h.off q
    · have := h.row.lt
      omega
  · rcases hG _ q with q | q
    · exact h.off5 p h0 hp q
    · have := wide_lt (by omega) h.ents p h0 hp
      omega
  · rcases hG _ q with q | q
    · exact h.off6 p h0 hp q
    · have := row_lt h.proof p h0 hp
      omega
theorem RO.below {w w' : World} {pr : Nat} {r : Reply} {a5 : Option Addr} {c5 : Nat} {a6 : Option Addr} {c6 : Nat} {G : Nat → Prop} (h : RO w pr r a5 c5 a6 c6 G) (k : Below w.heap.size w w') : RO w' pr r a5 c5 a6 c6 G := h.next (Kept.of_below G k) fun _ q => .inl q

/-! what is asked of it -/
/-- it hears: its blocks are then old ones of G, or new ones -/
theorem hear_one {G : Nat → Prop} {w0 w : World} {bx pr : Nat} {key : Int} {m : Mir} (h : One w0 w bx G key m) (hA : Asks w) (ho : Ok key m) {r : Reply} {a5 : Option Addr} {c5 : Nat} {a6 : Option Addr} {c6 : Nat} (hr : RO w pr r a5 c5 a6 c6 G) :
    Calls Tryz.prog 28 #[.pointer (some ⟨bx, 0, none⟩), rv r a5 c5 a6 c6] w fun e w' => e = .returned (errv (hearE key m r)) ∧ ∃ G', One w0 w' bx G' key (hearM key m r) ∧ (∀ k, G' k → G k ∨ w.heap.size ≤ k) ∧ Kept G w w' := by
  obtain ⟨F, h1, h4⟩ := h.lies
  refine (WalkMi.hear_any h1 hA ho r hr.fine a5 c5 a6 c6 hr.ents hr.proof (fun p h0 hp q => hr.off5 p h0 hp (h4 _ q)) (fun p h0 hp q => hr.off6 p h0 hp (h4 _ q))).mono ?_
  rintro e w' ⟨rfl, ⟨F', h1', hn⟩, kk⟩
  have kG : Kept G w w' := kk.mono h4
  refine ⟨rfl, fun k => G k ∨ (w.heap.size ≤ k ∧ k < w'.heap.size), ⟨⟨F', h1', fun k q => ?_⟩, fun k q => ?_, h.bel.trans (kG.below (fun i q => (h.foot i q).1) h.bel.size)⟩, fun k q => q.imp id fun q => q.1, kG⟩
  · rcases hn k q with s | s
    · exact .inl (h4 k s)
    · exact .inr ⟨s, (h1'.foot k q).2⟩
  · rcases q with q | q
    · exact ⟨(h.foot k q).1, Nat.lt_of_lt_of_le (h.foot k q).2 kk.size⟩
    · exact ⟨Nat.le_trans h.bel.size q.1, q.2⟩
theorem want_one {G : Nat → Prop} {w0 w : World} {bx : Nat} {key : Int} {m : Mir} (h : One w0 w bx G key m) (ho : Ok key m) : Calls Tryz.prog 31 #[.pointer (some ⟨bx, 0, none⟩)] w fun e w' => e = .returned (wv m.want) ∧ Below w.heap.size w w' := by
  obtain ⟨F, h1, _⟩ := h.lies
  exact WalkMi.want_any h1 ho
theorem size_one {G : Nat → Prop} {w0 w : World} {bx : Nat} {key : Int} {m : Mir} (h : One w0 w bx G key m) : Calls Tryz.prog 32 #[.pointer (some ⟨bx, 0, none⟩)] w fun e w' => e = .returned (.int .i64 (m.own.length : Int)) ∧ Below w.heap.size w w' := by
  obtain ⟨F, h1, _⟩ := h.lies
  exact WalkMi.size_any h1
theorem root_one {G : Nat → Prop} {w0 w : World} {bx : Nat} {key : Int} {m : Mir} (h : One w0 w bx G key m) (ho : Ok key m) : Calls Tryz.prog 33 #[.pointer (some ⟨bx, 0, none⟩)] w fun e w' => e = .returned (.int .i64 (rootE m.own)) ∧ Below w.heap.size w w' := by
  obtain ⟨F, h1, _⟩ := h.lies
  exact WalkMi.root_any h1 ho
theorem head_one {G : Nat → Prop} {w0 w : World} {bx : Nat} {key : Int} {m : Mir} (h : One w0 w bx G key m) : Calls Tryz.prog 35 #[.pointer (some ⟨bx, 0, none⟩)] w fun e w' => e = .returned (hv m.head) ∧ Below w.heap.size w w' := by
  obtain ⟨F, h1, _⟩ := h.lies
  exact WalkMi.head_any h1
theorem entries_one {G : Nat → Prop} {w0 w : World} {bx : Nat} {key : Int} {m : Mir} (h : One w0 w bx G key m) (ho : Ok key m) : Calls Tryz.prog 30 #[.pointer (some ⟨bx, 0, none⟩)] w fun e w' => ∃ v, e = .returned v ∧ w'.ownsRow w.heap.size 79 2 v m.own.length (cells m.own) ∧ Below w.heap.size w w' := by
  obtain ⟨F, h1, _⟩ := h.lies
  exact WalkMi.entries_any h1 ho

end Go.Proofs.YtjacioplocmciagGreatDoor.MirOne
