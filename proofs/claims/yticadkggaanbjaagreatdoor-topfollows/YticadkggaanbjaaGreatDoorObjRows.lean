/-
  The program's mirror as an object of the call's own: where it lies, and what writing one of its fields leaves.
-/
import Derived.Test.YticadkggaanbjaaGreatDoorMirrors
import Derived.Test.YticadkggaanbjaaGreatDoorListRows
import Derived.Test.YticadkggaanbjaaGreatDoorRows
import Derived.Test.YticadkggaanbjaaGreatDoorHeadRows
namespace Go.Proofs.YticadkggaanbjaaGreatDoor.MirObj
open Go.RowKit
open Keeps (Kept owns_kept owns_base)
open Heads (Head zero)
open Entries (Entry)
open EntRows (cells)
open Mirrors (Mir)

/-- its eleven cells -/
def fld (key : Int) (v1 : Value) (h n : Head) (v2 : Value) : Nat → Value
  | 0 => .int .i64 key
  | 1 => v1
  | 2 => v2
  | 3 => .int .i64 n.size
  | 4 => .int .i64 n.root
  | 5 => .int .i64 n.time
  | 6 => .int .i64 n.sign
  | 7 => .int .i64 h.size
  | 8 => .int .i64 h.root
  | 9 => .int .i64 h.time
  | _ => .int .i64 h.sign

/-- block b holds it; v1 its own entries, v2 those that wait -/
structure Lay (w : World) (B b : Nat) (key : Int) (m : Mir) (v1 v2 : Value) : Prop where
  row : w.rowIs b 119 11 (fld key v1 m.head m.next v2)
  own : w.ownsRow B 38 2 v1 m.own.length (cells m.own)
  waits : w.ownsRow B 38 2 v2 m.waits.length (cells m.waits)
  above : B ≤ b
  ap1 : v1.ownBlock ≠ some b
  ap2 : v2.ownBlock ≠ some b
  ap3 : ∀ k, v1.ownBlock = some k → v2.ownBlock ≠ some k
def foot (b : Nat) (v1 v2 : Value) (k : Nat) : Prop := k = b ∨ v1.ownBlock = some k ∨ v2.ownBlock = some k
/-- the same, with its blocks F -/
def Dm (w : World) (B b : Nat) (F : Nat → Prop) (key : Int) (m : Mir) : Prop := ∃ v1 v2, Lay w B b key m v1 v2 ∧ ∀ k, F k ↔ foot b v1 v2 k
theorem Lay.foot_lt {w : World} {B b : Nat} {key : Int} {m : Mir} {v1 v2 : Value} (h : Lay w B b key m v1 v2) : ∀ k, foot b v1 v2 k → B ≤ k ∧ k < w.heap.size := by
  rintro k (rfl | hk | hk)
  · exact ⟨h.above, h.row.lt⟩
  · exact h.own.lt k hk
  · exact h.waits.lt k hk
theorem Lay.kept {S : Nat → Prop} {w w' : World} {B b : Nat} {key : Int} {m : Mir} {v1 v2 : Value} (h : Lay w B b key m v1 v2) (k : Kept S w w') (hS : ∀ i, foot b v1 v2 i → ¬ S i) : Lay w' B b key m v1 v2 :=
  ⟨h.row.of_block (k.block b h.row.lt (hS b (.inl rfl))), owns_kept h.own k fun i hi => hS i (.inr (.inl hi)), owns_kept h.waits k fun i hi => hS i (.inr (.inr hi)), h.above, h.ap1, h.ap2, h.ap3⟩
theorem Lay.below {w w' : World} {B b : Nat} {key : Int} {m : Mir} {v1 v2 : Value} (h : Lay w B b key m v1 v2) (k : Below w.heap.size w w') : Lay w' B b key m v1 v2 := h.kept (Kept.of_below (fun _ => False) k) fun _ _ q => q
theorem Dm.foot {w : World} {B b : Nat} {F : Nat → Prop} {key : Int} {m : Mir} (h : Dm w B b F key m) : ∀ k, F k → B ≤ k ∧ k < w.heap.size := by
  obtain ⟨v1, v2, h1, h2⟩ := h
  exact fun k hk => h1.foot_lt k ((h2 k).1 hk)
theorem Dm.kept {S : Nat → Prop} {w w' : World} {B b : Nat} {F : Nat → Prop} {key : Int} {m : Mir} (h : Dm w B b F key m) (k : Kept S w w') (hS : ∀ i, F i → ¬ S i) : Dm w' B b F key m := by
  obtain ⟨v1, v2, h1, h2⟩ := h
  exact ⟨v1, v2, h1.kept k fun i hi => hS i ((h2 i).2 hi), h2⟩
theorem Dm.below {w w' : World} {B b : Nat} {F : Nat → Prop} {key : Int} {m : Mir} (h : Dm w B b F key m) (k : Below w.heap.size w w') : Dm w' B b F key m := h.kept (Kept.of_below (fun _ => False) k) fun _ _ q => q

/-! a field is written -/
def put4 (w : World) (b o : Nat) (h : Head) : World := (((w.setCell ⟨b, o, none⟩ (.int .i64 h.size)).setCell ⟨b, o + 1, none⟩ (.int .i64 h.root)).setCell ⟨b, o + 2, none⟩ (.int .i64 h.time)).setCell ⟨b, o + 3, none⟩ (.int .i64 h.sign)
theorem kept_put4 (w : World) (b o : Nat) (h : Head) : Kept (fun k => k = b) w (put4 w b o h) := ((((Kept.refl (fun k => k = b) w).setCell (.inl rfl) _).setCell (.inl rfl) _).setCell (.inl rfl) _).setCell (.inl rfl) _
theorem row_next {w : World} {b : Nat} {t : TypeId} {key : Int} {v1 v2 : Value} {h n : Head} (r : w.rowIs b t 11 (fld key v1 h n v2)) (x : Head) : (put4 w b 3 x).rowIs b t 11 (fld key v1 h x v2) := by
  refine ((((r.set 3 (.int .i64 x.size)).set 4 (.int .i64 x.root)).set 5 (.int .i64 x.time)).set 6 (.int .i64 x.sign)).congr fun i hi => ?_
  match i, hi with
  | 0, _ => rfl
  | 1, _ => rfl
  | 2, _ => rfl
  | 3, _ => rfl
  | 4, _ => rfl
  | 5, _ => rfl
  | 6, _ => rfl
  | 7, _ => rfl
  | 8, _ => rfl
  | 9, _ => rfl
  | 10, _ => rfl
theorem row_head {w : World} {b : Nat} {t : TypeId} {key : Int} {v1 v2 : Value} {h n : Head} (r : w.rowIs b t 11 (fld key v1 h n v2)) (x : Head) : (put4 w b 7 x).rowIs b t 11 (fld key v1 x n v2) := by
  refine ((((r.set 7 (.int .i64 x.size)).set 8 (.int .i64 x.root)).set 9 (.int .i64 x.time)).set 10 (.int .i64 x.sign)).congr fun i hi => ?_
  match i, hi with
  | 0, _ => rfl
  | 1, _ => rfl
  | 2, _ => rfl
  | 3, _ => rfl
  | 4, _ => rfl
  | 5, _ => rfl
  | 6, _ => rfl
  | 7, _ => rfl
  | 8, _ => rfl
  | 9, _ => rfl
  | 10, _ => rfl
theorem row_own {w : World} {b : Nat} {t : TypeId} {key : Int} {v1 v2 : Value} {h n : Head} (r : w.rowIs b t 11 (fld key v1 h n v2)) (x : Value) : (w.setCell ⟨b, 1, none⟩ x).rowIs b t 11 (fld key x h n v2) := by
  refine (r.set 1 x).congr fun i hi => ?_
  match i, hi with
  | 0, _ => rfl
  | 1, _ => rfl
  | 2, _ => rfl
  | 3, _ => rfl
  | 4, _ => rfl
  | 5, _ => rfl
  | 6, _ => rfl
  | 7, _ => rfl
  | 8, _ => rfl
  | 9, _ => rfl
  | 10, _ => rfl
theorem row_waits {w : World} {b : Nat} {t : TypeId} {key : Int} {v1 v2 : Value} {h n : Head} (r : w.rowIs b t 11 (fld key v1 h n v2)) (x : Value) : (w.setCell ⟨b, 2, none⟩ x).rowIs b t 11 (fld key v1 h n x) := by
  refine (r.set 2 x).congr fun i hi => ?_
  match i, hi with
  | 0, _ => rfl
  | 1, _ => rfl
  | 2, _ => rfl
  | 3, _ => rfl
  | 4, _ => rfl
  | 5, _ => rfl
  | 6, _ => rfl
  | 7, _ => rfl
  | 8, _ => rfl
  | 9, _ => rfl
  | 10, _ => rfl

/-- of a block that is written, the others stay -/
theorem owns_off {w w' : World} {B b : Nat} {t : TypeId} {s : Nat} {v : Value} {n : Nat} {xs : List Value} (h : w.ownsRow B t s v n xs) (k : Kept (fun k => k = b) w w') (hb : v.ownBlock ≠ some b) : w'.ownsRow B t s v n xs :=
  owns_kept h k fun i hi e => hb (by rw [← e]; exact hi)
theorem Lay.setNext {w : World} {B b : Nat} {key : Int} {m : Mir} {v1 v2 : Value} (h : Lay w B b key m v1 v2) (x : Head) : Lay (put4 w b 3 x) B b key { m with next := x } v1 v2 :=
  ⟨row_next h.row x, owns_off h.own (kept_put4 w b 3 x) h.ap1, owns_off h.waits (kept_put4 w b 3 x) h.ap2, h.above, h.ap1, h.ap2, h.ap3⟩
theorem Lay.setHead {w : World} {B b : Nat} {key : Int} {m : Mir} {v1 v2 : Value} (h : Lay w B b key m v1 v2) (x : Head) : Lay (put4 w b 7 x) B b key { m with head := x } v1 v2 :=
  ⟨row_head h.row x, owns_off h.own (kept_put4 w b 7 x) h.ap1, owns_off h.waits (kept_put4 w b 7 x) h.ap2, h.above, h.ap1, h.ap2, h.ap3⟩
theorem kept_set (w : World) (b i : Nat) (x : Value) : Kept (fun k => k = b) w (w.setCell ⟨b, i, none⟩ x) := (Kept.refl (fun k => k = b) w).setCell (.inl rfl) _
theorem Lay.setWaits {w : World} {B b : Nat} {key : Int} {m : Mir} {v1 v2 : Value} (h : Lay w B b key m v1 v2) (l : List Entry) (x : Value) (hx : w.ownsRow B 38 2 x l.length (cells l)) (hb : x.ownBlock ≠ some b) (h1 : ∀ k, v1.ownBlock = some k → x.ownBlock ≠ some k) :
    Lay (w.setCell ⟨b, 2, none⟩ x) B b key { m with waits := l } v1 x :=
  ⟨row_waits h.row x, owns_off h.own (kept_set w b 2 x) h.ap1, owns_off hx (kept_set w b 2 x) hb, h.above, h.ap1, hb, h1⟩
theorem Lay.setOwn {w : World} {B b : Nat} {key : Int} {m : Mir} {v1 v2 : Value} (h : Lay w B b key m v1 v2) (l : List Entry) (x : Value) (hx : w.ownsRow B 38 2 x l.length (cells l)) (hb : x.ownBlock ≠ some b) (h1 : ∀ k, x.ownBlock = some k → v2.ownBlock ≠ some k) :
    Lay (w.setCell ⟨b, 1, none⟩ x) B b key { m with own := l } x v2 :=
  ⟨row_own h.row x, owns_off hx (kept_set w b 1 x) hb, owns_off h.waits (kept_set w b 1 x) h.ap2, h.above, hb, h.ap2, h1⟩
/-- what was heard, and what waits, forgotten -/
theorem Lay.forget {w : World} {B b : Nat} {key : Int} {m : Mir} {v1 v2 : Value} (h : Lay w B b key m v1 v2) : Lay (put4 (w.setCell ⟨b, 2, none⟩ (.slice none 0 0)) b 3 zero) B b key m.forget v1 (.slice none 0 0) :=
  (h.setWaits [] (.slice none 0 0) (World.ownsRow_nil _ _ _ _) (by simp [Value.ownBlock]) (fun k _ => by simp [Value.ownBlock])).setNext zero

end Go.Proofs.YticadkggaanbjaaGreatDoor.MirObj

/-
  Replies and wants as the walks spell them.
-/
namespace Go.Proofs.YticadkggaanbjaaGreatDoor.MirVals
open Go.RowKit
open Mirrors (Reply Want)

/-- a reply as a value -/
def rv (r : Reply) (a5 : Option Addr) (c5 : Nat) (a6 : Option Addr) (c6 : Nat) : Value := .agg #[.int .i64 r.what, .int .i64 r.head.size, .int .i64 r.head.root, .int .i64 r.head.time, .int .i64 r.head.sign, .slice a5 r.ents.length c5, .slice a6 r.proof.length c6]
theorem aggR (w : World) : (isAgg 122).run Tryz.prog w = .ok true w := by kernel_rfl
theorem sizeR (w : World) : (sizeOf 122).run Tryz.prog w = .ok 7 w := by kernel_rfl

/-- its seven cells -/
def cell7 (a b c d e : Int) (x y : Value) : Nat → Value
  | 0 => .int .i64 a
  | 1 => .int .i64 b
  | 2 => .int .i64 c
  | 3 => .int .i64 d
  | 4 => .int .i64 e
  | 5 => x
  | _ => y
/-- a want as a value -/
def wv (x : Want) : Value := .agg #[.int .i64 x.what, .int .i64 x.fr, .int .i64 x.to_]
theorem aggW (w : World) : (isAgg 124).run Tryz.prog w = .ok true w := by kernel_rfl
theorem sizeW (w : World) : (sizeOf 124).run Tryz.prog w = .ok 3 w := by kernel_rfl

end Go.Proofs.YticadkggaanbjaaGreatDoor.MirVals

