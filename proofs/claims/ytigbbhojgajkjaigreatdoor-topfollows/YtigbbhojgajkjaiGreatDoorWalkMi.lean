/-
  The program's mirror as an object whose inside is not looked at: what New, Hear, Want, Size, Root, Head and Entries do with it.
-/
import Derived.Test.YtigbbhojgajkjaiGreatDoorWalkMiHear
namespace Go.Proofs.YtigbbhojgajkjaiGreatDoor.WalkMi
open Go.RowKit
open Keeps (Kept)
open Wides (Wide)
open Lists (Row ints)
open Heads (isKey)
open Mirrors (Mir Reply Ok hearE hearM rootE)
open ReplyRows (RFine)
open MirVals (rv wv)
open HeadVals (hv)
open EntRows (cells)
open Errs (errv)
open MirObj (Lay foot)

/-- what it asks of the library's own variables -/
abbrev Asks (w : World) : Prop := WalkHdLib.Tabs w
theorem Asks.below {w w' : World} (h : Asks w) (b : Below w.heap.size w w') : Asks w' := WalkHdLib.Tabs.below h b
/-- it lies in block b, its blocks are F -/
def Mi (w : World) (B b : Nat) (F : Nat → Prop) (key : Int) (m : Mir) : Prop := ∃ v1 v2, Lay w B b key m v1 v2 ∧ ∀ k, F k ↔ foot b v1 v2 k
theorem Mi.foot {w : World} {B b : Nat} {F : Nat → Prop} {key : Int} {m : Mir} (h : Mi w B b F key m) : ∀ k, F k → B ≤ k ∧ k < w.heap.size := by
  obtain ⟨v1, v2, h1, h2⟩ := h
  exact fun k hk => h1.foot_lt k ((h2 k).1 hk)
theorem Mi.kept {S : Nat → Prop} {w w' : World} {B b : Nat} {F : Nat → Prop} {key : Int} {m : Mir} (h : Mi w B b F key m) (k : Kept S w w') (hS : ∀ i, F i → ¬ S i) : Mi w' B b F key m := by
  obtain ⟨v1, v2, h1, h2⟩ := h
  exact ⟨v1, v2, h1.kept k fun i hi => hS i ((h2 i).2 hi), h2⟩
theorem new_any (key : Int) (w : World) (B : Nat) (hB : B ≤ w.heap.size) (hA : Asks w) : Calls Tryz.prog 19 #[.int .i64 key] w fun e w' => ∃ v, e = .returned (.tuple #[v, errv (if isKey key = true then 0 else 1)]) ∧ (isKey key = true → ∃ b F, v = .pointer (some ⟨b, 0, none⟩) ∧ Mi w' B b F key Mirrors.start ∧ ∀ k, F k → w.heap.size ≤ k) ∧ Below w.heap.size w w' := by
  refine (WalkMiOne.new_any key w B hB hA).mono ?_
  rintro e w' ⟨v, rfl, hv, hb⟩
  refine ⟨v, rfl, fun hk => ?_, hb⟩
  obtain ⟨b, rfl, hl, h⟩ := hv hk
  refine ⟨b, MirObj.foot b (.slice none 0 0) (.slice none 0 0), rfl, ⟨_, _, h, fun _ => Iff.rfl⟩, ?_⟩
  rintro k (rfl | q | q)
  · exact hl
  · simp [Value.ownBlock] at q
  · simp [Value.ownBlock] at q
theorem hear_any {w : World} {B b : Nat} {F : Nat → Prop} {key : Int} {m : Mir} (h : Mi w B b F key m) (hA : Asks w) (ho : Ok key m) (r : Reply) (hr : RFine r) (a5 : Option Addr) (c5 : Nat) (a6 : Option Addr) (c6 : Nat) (h5 : Wide 2 w a5 r.ents.length c5 (cells r.ents)) (h6 : Row w a6 r.proof.length c6 (ints r.proof)) (d5 : ∀ p, 0 < r.ents.length → a5 = some p → ¬ F p.block) (_ : ∀ p, 0 < r.proof.length → a6 = some p → ¬ F p.block) :
    Calls Tryz.prog 47 #[.pointer (some ⟨b, 0, none⟩), rv r a5 c5 a6 c6] w fun e w' => e = .returned (errv (hearE key m r)) ∧ (∃ F', Mi w' B b F' key (hearM key m r) ∧ ∀ k, F' k → F k ∨ w.heap.size ≤ k) ∧ Kept F w w' := by
  obtain ⟨v1, v2, h1, h2⟩ := h
  refine (WalkMiHear.hear_any h1 hA ho r hr a5 c5 a6 c6 h5 h6 fun p h0 hp q => d5 p h0 hp ((h2 _).2 q)).mono ?_
  rintro e w' ⟨rfl, x1, x2, l, k, f⟩
  exact ⟨rfl, ⟨MirObj.foot b x1 x2, ⟨x1, x2, l, fun _ => Iff.rfl⟩, fun i hi => (f i hi).imp (h2 i).2 id⟩, k.mono fun i hi => (h2 i).2 hi⟩
theorem want_any {w : World} {B b : Nat} {F : Nat → Prop} {key : Int} {m : Mir} (h : Mi w B b F key m) (ho : Ok key m) : Calls Tryz.prog 48 #[.pointer (some ⟨b, 0, none⟩)] w fun e w' => e = .returned (wv m.want) ∧ Below w.heap.size w w' := by
  obtain ⟨v1, v2, h1, h2⟩ := h
  exact WalkMiOne.want_any h1 ho
theorem size_any {w : World} {B b : Nat} {F : Nat → Prop} {key : Int} {m : Mir} (h : Mi w B b F key m) : Calls Tryz.prog 49 #[.pointer (some ⟨b, 0, none⟩)] w fun e w' => e = .returned (.int .i64 (m.own.length : Int)) ∧ Below w.heap.size w w' := by
  obtain ⟨v1, v2, h1, h2⟩ := h
  exact WalkMiOne.size_any h1
theorem root_any {w : World} {B b : Nat} {F : Nat → Prop} {key : Int} {m : Mir} (h : Mi w B b F key m) (ho : Ok key m) : Calls Tryz.prog 126 #[.pointer (some ⟨b, 0, none⟩)] w fun e w' => e = .returned (.int .i64 (rootE m.own)) ∧ Below w.heap.size w w' := by
  obtain ⟨v1, v2, h1, h2⟩ := h
  exact WalkMiOne.root_any h1 (Entries.ents_of ho.few ho.own)
theorem head_any {w : World} {B b : Nat} {F : Nat → Prop} {key : Int} {m : Mir} (h : Mi w B b F key m) : Calls Tryz.prog 23 #[.pointer (some ⟨b, 0, none⟩)] w fun e w' => e = .returned (hv m.head) ∧ Below w.heap.size w w' := by
  obtain ⟨v1, v2, h1, h2⟩ := h
  exact WalkMiOne.head_any h1
theorem entries_any {w : World} {B b : Nat} {F : Nat → Prop} {key : Int} {m : Mir} (h : Mi w B b F key m) (ho : Ok key m) : Calls Tryz.prog 22 #[.pointer (some ⟨b, 0, none⟩)] w fun e w' => ∃ v, e = .returned v ∧ w'.ownsRow w.heap.size 65 2 v m.own.length (cells m.own) ∧ Below w.heap.size w w' := by
  obtain ⟨v1, v2, h1, h2⟩ := h
  exact WalkMiOne.entries_any h1 ho.few

end Go.Proofs.YtigbbhojgajkjaiGreatDoor.WalkMi
