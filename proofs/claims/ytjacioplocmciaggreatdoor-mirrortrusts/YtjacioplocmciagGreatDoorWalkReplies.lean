/-
  What the law's own replies (package witlaw2) are: some reply, in lists of the call's own.
-/
import Derived.Test.YtjacioplocmciagGreatDoorEntRuns
import Derived.Test.YtjacioplocmciagGreatDoorEntRef
import Derived.Test.YtjacioplocmciagGreatDoorWalkAnyLeaf
import Derived.Test.YtjacioplocmciagGreatDoorWalkLogRef
import Derived.Test.YtjacioplocmciagGreatDoorGrowRef
namespace Go.Proofs.YtjacioplocmciagGreatDoor.WalkReplies
open Go.RowKit
open Lists (Row ints bt)
open Keeps (Kept owns_kept owns_base owns_row)
open Wides (Wide owns_wide)
open Heads (Head zero)
open HeadVals (hv)
open Entries (Entry)
open EntRows (cells cells_append)
open Mirrors (Want Reply)
open ReplyRows (RFine)
open MirVals (rv cell7)

def three (x : Want) : Nat → Value
  | 0 => .int .i64 x.what
  | 1 => .int .i64 x.fr
  | _ => .int .i64 x.to_

/-- the reply as it is made: in block pr; pe is where it is handed back, pw what was wanted -/
structure RS (w wr : World) (pw pe pr : Nat) (x : Want) (r : Reply) (v5 v6 : Value) : Prop where
  row : wr.rowIs pr 65 7 (cell7 r.what r.head.size r.head.root r.head.time r.head.sign v5 v6)
  res : wr.rowIs pe 65 7 (cell7 0 0 0 0 0 (.slice none 0 0) (.slice none 0 0))
  wnt : wr.rowIs pw 68 3 (three x)
  o5 : wr.ownsRow w.heap.size 79 2 v5 r.ents.length (cells r.ents)
  o6 : wr.ownsRow w.heap.size 3 1 v6 r.proof.length (ints r.proof)
  bel : Below w.heap.size w wr
  a5 : ∀ k, v5.ownBlock = some k → k ≠ pr ∧ k ≠ pe ∧ k ≠ pw ∧ v6.ownBlock ≠ some k
  a6 : ∀ k, v6.ownBlock = some k → k ≠ pr ∧ k ≠ pe ∧ k ≠ pw
  ne : pw ≠ pr ∧ pe ≠ pr ∧ pw ≠ pe
  ge : w.heap.size ≤ pw ∧ w.heap.size ≤ pe ∧ w.heap.size ≤ pr
  few : r.ents.length ≤ 200 ∧ r.proof.length ≤ 1000
  data : ∀ e ∈ r.ents, e.2.size ≤ maxLen
theorem RS.below {w wr w' : World} {pw pe pr : Nat} {x : Want} {r : Reply} {v5 v6 : Value} (h : RS w wr pw pe pr x r v5 v6) (b : Below wr.heap.size wr w') : RS w w' pw pe pr x r v5 v6 :=
  ⟨h.row.of_block (b.block _ h.row.lt), h.res.of_block (b.block _ h.res.lt), h.wnt.of_block (b.block _ h.wnt.lt), owns_kept h.o5 (Kept.of_below (fun _ => False) b) fun _ _ q => q, owns_kept h.o6 (Kept.of_below (fun _ => False) b) fun _ _ q => q, bt h.bel b, h.a5, h.a6, h.ne, h.ge, h.few, h.data⟩

theorem RS.upd {w wr w' : World} {pw pe pr : Nat} {x : Want} {r : Reply} {v5 v6 : Value} (h : RS w wr pw pe pr x r v5 v6) (k : Kept (fun k => k = pr) wr w') {a b c d e : Int} (row : w'.rowIs pr 65 7 (cell7 a b c d e v5 v6)) : RS w w' pw pe pr x ⟨a, ⟨b, c, d, e⟩, r.ents, r.proof⟩ v5 v6 :=
  ⟨row, h.res.of_block (k.block _ h.res.lt (fun q => h.ne.2.1 q)), h.wnt.of_block (k.block _ h.wnt.lt (fun q => h.ne.1 q)), owns_kept h.o5 k fun i hi q => (h.a5 i hi).1 q, owns_kept h.o6 k fun i hi q => (h.a6 i hi).1 q, h.bel.trans (k.below (fun i q => by rw [q]; exact h.ge.2.2) h.bel.size), h.a5, h.a6, h.ne, h.ge, h.few, h.data⟩
theorem RS.updE {w wr w' : World} {pw pe pr : Nat} {x : Want} {r : Reply} {v5 v6 : Value} (h : RS w wr pw pe pr x r v5 v6) {v : Value} {l : List Entry} (k : Kept (fun k => k = pr ∨ v5.ownBlock = some k) wr w') (row : w'.rowIs pr 65 7 (cell7 r.what r.head.size r.head.root r.head.time r.head.sign v v6))
    (o : w'.ownsRow w.heap.size 79 2 v l.length (cells l)) (at_ : ∀ i, v.ownBlock = some i → v5.ownBlock = some i ∨ wr.heap.size ≤ i) (hl : l.length ≤ 200) (hd : ∀ e ∈ l, e.2.size ≤ maxLen) : RS w w' pw pe pr x ⟨r.what, r.head, l, r.proof⟩ v v6 := by
  refine ⟨row, h.res.of_block (k.block _ h.res.lt ?_), h.wnt.of_block (k.block _ h.wnt.lt ?_), o, owns_kept h.o6 k fun i hi q => ?_, h.bel.trans (k.below (fun i q => ?_) h.bel.size), fun i hi => ?_, h.a6, h.ne, h.ge, ⟨hl, h.few.2⟩, hd⟩
  · rintro (q | q)
    · exact h.ne.2.1 q
    · exact (h.a5 _ q).2.1 rfl
  · rintro (q | q)
    · exact h.ne.1 q
    · exact (h.a5 _ q).2.2.1 rfl
  · rcases q with q | q
    · exact (h.a6 i hi).1 q
    · exact (h.a5 i q).2.2.2 hi
  · rcases q with q | q
    · rw [q]; exact h.ge.2.2
    · exact (h.o5.lt i q).1
  · rcases at_ i hi with q | q
    · exact h.a5 i q
    · have h1 := h.row.lt
      have h2 := h.res.lt
      have h3 := h.wnt.lt
      exact ⟨by omega, by omega, by omega, fun q2 => by have := (h.o6.lt i q2).2; omega⟩
theorem RS.updP {w wr w' : World} {pw pe pr : Nat} {x : Want} {r : Reply} {v5 v6 : Value} (h : RS w wr pw pe pr x r v5 v6) {v : Value} {l : List Int} (k : Kept (fun k => k = pr ∨ v6.ownBlock = some k) wr w') (row : w'.rowIs pr 65 7 (cell7 r.what r.head.size r.head.root r.head.time r.head.sign v5 v))
    (o : w'.ownsRow w.heap.size 3 1 v l.length (ints l)) (at_ : ∀ i, v.ownBlock = some i → v6.ownBlock = some i ∨ wr.heap.size ≤ i) (hl : l.length ≤ 1000) : RS w w' pw pe pr x ⟨r.what, r.head, r.ents, l⟩ v5 v := by
  refine ⟨row, h.res.of_block (k.block _ h.res.lt ?_), h.wnt.of_block (k.block _ h.wnt.lt ?_), owns_kept h.o5 k fun i hi q => ?_, o, h.bel.trans (k.below (fun i q => ?_) h.bel.size), fun i hi => ⟨(h.a5 i hi).1, (h.a5 i hi).2.1, (h.a5 i hi).2.2.1, fun q => ?_⟩, fun i hi => ?_, h.ne, h.ge, ⟨h.few.1, hl⟩, h.data⟩
  · rintro (q | q)
    · exact h.ne.2.1 q
    · exact (h.a6 _ q).2.1 rfl
  · rintro (q | q)
    · exact h.ne.1 q
    · exact (h.a6 _ q).2.2 rfl
  · rcases q with q | q
    · exact (h.a5 i hi).1 q
    · exact (h.a5 i hi).2.2.2 q
  · rcases q with q | q
    · rw [q]; exact h.ge.2.2
    · exact (h.o6.lt i q).1
  · rcases at_ i q with q2 | q2
    · exact (h.a5 i hi).2.2.2 q2
    · have := (h.o5.lt i hi).2
      omega
  · rcases at_ i hi with q | q
    · exact h.a6 i q
    · have h1 := h.row.lt
      have h2 := h.res.lt
      have h3 := h.wnt.lt
      exact ⟨by omega, by omega, by omega⟩

/-- some reply -/
def Rep (w : World) (e : Ending) (w' : World) : Prop :=
  ∃ r a5 c5 a6 c6, e = .returned (rv r a5 c5 a6 c6) ∧ RFine r ∧ Wide 2 w' a5 r.ents.length c5 (cells r.ents) ∧ Row w' a6 r.proof.length c6 (ints r.proof) ∧ (∀ x, a5 = some x → w.heap.size ≤ x.block) ∧ (∀ x, a6 = some x → w.heap.size ≤ x.block) ∧ Below w.heap.size w w'

theorem size_seven : (Tryz.prog.info? 65).map (·.size) = some 7 := by kernel_rfl
theorem ret_reply {w : World} {g : Nat} {a b c d e : Int} {x y : Value} (tmps : Array Value) (hp : tmps.getD 8 undef = .pointer (some ⟨g, 0, none⟩)) (h : w.heap[g]? = some (.cells #[.int .i64 a, .int .i64 b, .int .i64 c, .int .i64 d, .int .i64 e, x, y] 65 (0, 0))) :
    (results Tryz.f25 tmps).run Tryz.prog w = .ok (.agg #[.int .i64 a, .int .i64 b, .int .i64 c, .int .i64 d, .int .i64 e, x, y]) w :=
  results_cell_row rfl tmps w g _ #[.int .i64 a, .int .i64 b, .int .i64 c, .int .i64 d, .int .i64 e, x, y] (0, 0) _ hp h Tryz.underlying65 rfl size_seven
theorem row_seven {w : World} {g : Nat} {t : TypeId} {f : Nat → Value} (h : w.rowIs g t 7 f) : w.heap[g]? = some (.cells #[f 0, f 1, f 2, f 3, f 4, f 5, f 6] t (0, 0)) := by
  obtain ⟨c, hb, hn, hc⟩ := h
  have : c = #[f 0, f 1, f 2, f 3, f 4, f 5, f 6] := by
    apply Array.ext_getElem?
    intro i
    match i with
    | 0 => rw [hc 0 (by omega)]; rfl
    | 1 => rw [hc 1 (by omega)]; rfl
    | 2 => rw [hc 2 (by omega)]; rfl
    | 3 => rw [hc 3 (by omega)]; rfl
    | 4 => rw [hc 4 (by omega)]; rfl
    | 5 => rw [hc 5 (by omega)]; rfl
    | 6 => rw [hc 6 (by omega)]; rfl
    | i + 7 => rw [Array.getElem?_eq_none (by omega), Array.getElem?_eq_none (by simp)]
  rw [hb, this]
def put7 (w : World) (g : Nat) (a b c d e : Int) (x y : Value) : World := ((((((w.setCell ⟨g, 0, none⟩ (.int .i64 a)).setCell ⟨g, 1, none⟩ (.int .i64 b)).setCell ⟨g, 2, none⟩ (.int .i64 c)).setCell ⟨g, 3, none⟩ (.int .i64 d)).setCell ⟨g, 4, none⟩ (.int .i64 e)).setCell ⟨g, 5, none⟩ x).setCell ⟨g, 6, none⟩ y
theorem put_seven {w : World} {g : Nat} {t : TypeId} {f : Nat → Value} (h : w.rowIs g t 7 f) (a b c d e : Int) (x y : Value) : (put7 w g a b c d e x y).heap[g]? = some (.cells #[.int .i64 a, .int .i64 b, .int .i64 c, .int .i64 d, .int .i64 e, x, y] t (0, 0)) :=
  row_seven (((((((h.set 0 (.int .i64 a)).set 1 (.int .i64 b)).set 2 (.int .i64 c)).set 3 (.int .i64 d)).set 4 (.int .i64 e)).set 5 x).set 6 y)
theorem kept_put7 (w : World) (g : Nat) (a b c d e : Int) (x y : Value) : Kept (fun k => k = g) w (put7 w g a b c d e x y) :=
  (((((((Kept.refl (fun k => k = g) w).setCell (.inl rfl) _).setCell (.inl rfl) _).setCell (.inl rfl) _).setCell (.inl rfl) _).setCell (.inl rfl) _).setCell (.inl rfl) _).setCell (.inl rfl) _
theorem row_what {w : World} {g : Nat} {t : TypeId} {a b c d e : Int} {x y : Value} (r : w.rowIs g t 7 (cell7 a b c d e x y)) (q : Int) : (w.setCell ⟨g, 0, none⟩ (.int .i64 q)).rowIs g t 7 (cell7 q b c d e x y) := by
  refine (r.set 0 (.int .i64 q)).congr fun i hi => ?_
  match i, hi with
  | 0, _ => rfl
  | 1, _ => rfl
  | 2, _ => rfl
  | 3, _ => rfl
  | 4, _ => rfl
  | 5, _ => rfl
  | 6, _ => rfl
theorem row_four {w : World} {g : Nat} {t : TypeId} {a b c d e : Int} {x y : Value} (r : w.rowIs g t 7 (cell7 a b c d e x y)) (b' c' d' e' : Int) : ((((w.setCell ⟨g, 1, none⟩ (.int .i64 b')).setCell ⟨g, 2, none⟩ (.int .i64 c')).setCell ⟨g, 3, none⟩ (.int .i64 d')).setCell ⟨g, 4, none⟩ (.int .i64 e')).rowIs g t 7 (cell7 a b' c' d' e' x y) := by
  refine ((((r.set 1 (.int .i64 b')).set 2 (.int .i64 c')).set 3 (.int .i64 d')).set 4 (.int .i64 e')).congr fun i hi => ?_
  match i, hi with
  | 0, _ => rfl
  | 1, _ => rfl
  | 2, _ => rfl
  | 3, _ => rfl
  | 4, _ => rfl
  | 5, _ => rfl
  | 6, _ => rfl
theorem row_two7 {w : World} {g : Nat} {t : TypeId} {a b c d e : Int} {x y : Value} (r : w.rowIs g t 7 (cell7 a b c d e x y)) (q : Int) : (w.setCell ⟨g, 2, none⟩ (.int .i64 q)).rowIs g t 7 (cell7 a b q d e x y) := by
  refine (r.set 2 (.int .i64 q)).congr fun i hi => ?_
  match i, hi with
  | 0, _ => rfl
  | 1, _ => rfl
  | 2, _ => rfl
  | 3, _ => rfl
  | 4, _ => rfl
  | 5, _ => rfl
  | 6, _ => rfl
theorem row_five {w : World} {g : Nat} {t : TypeId} {a b c d e : Int} {x y : Value} (r : w.rowIs g t 7 (cell7 a b c d e x y)) (q : Value) : (w.setCell ⟨g, 5, none⟩ q).rowIs g t 7 (cell7 a b c d e q y) := by
  refine (r.set 5 q).congr fun i hi => ?_
  match i, hi with
  | 0, _ => rfl
  | 1, _ => rfl
  | 2, _ => rfl
  | 3, _ => rfl
  | 4, _ => rfl
  | 5, _ => rfl
  | 6, _ => rfl
theorem row_six {w : World} {g : Nat} {t : TypeId} {a b c d e : Int} {x y : Value} (r : w.rowIs g t 7 (cell7 a b c d e x y)) (q : Value) : (w.setCell ⟨g, 6, none⟩ q).rowIs g t 7 (cell7 a b c d e x q) := by
  refine (r.set 6 q).congr fun i hi => ?_
  match i, hi with
  | 0, _ => rfl
  | 1, _ => rfl
  | 2, _ => rfl
  | 3, _ => rfl
  | 4, _ => rfl
  | 5, _ => rfl
  | 6, _ => rfl
theorem RS.setWhat {w wr : World} {pw pe pr : Nat} {x : Want} {r : Reply} {v5 v6 : Value} (h : RS w wr pw pe pr x r v5 v6) (q : Int) : RS w (wr.setCell ⟨pr, 0, none⟩ (.int .i64 q)) pw pe pr x ⟨q, r.head, r.ents, r.proof⟩ v5 v6 :=
  h.upd ((Kept.refl (fun k => k = pr) wr).setCell (.inl rfl) _) (row_what h.row q)
/-- what the last statement reads and writes -/
theorem RS.ends {w wr : World} {pw pe pr : Nat} {x : Want} {r : Reply} {v5 v6 : Value} (h : RS w wr pw pe pr x r v5 v6) :
    (wr.cell? ⟨pr, 0, none⟩ = some (.int .i64 r.what) ∧ wr.cell? ⟨pr, 1, none⟩ = some (.int .i64 r.head.size) ∧ wr.cell? ⟨pr, 2, none⟩ = some (.int .i64 r.head.root) ∧ wr.cell? ⟨pr, 3, none⟩ = some (.int .i64 r.head.time) ∧ wr.cell? ⟨pr, 4, none⟩ = some (.int .i64 r.head.sign) ∧ wr.cell? ⟨pr, 5, none⟩ = some v5 ∧ wr.cell? ⟨pr, 6, none⟩ = some v6) ∧
    (wr.cell? ⟨pe, 0, none⟩ = some (.int .i64 0) ∧ wr.cell? ⟨pe, 1, none⟩ = some (.int .i64 0) ∧ wr.cell? ⟨pe, 2, none⟩ = some (.int .i64 0) ∧ wr.cell? ⟨pe, 3, none⟩ = some (.int .i64 0) ∧ wr.cell? ⟨pe, 4, none⟩ = some (.int .i64 0) ∧ wr.cell? ⟨pe, 5, none⟩ = some (.slice none 0 0) ∧ wr.cell? ⟨pe, 6, none⟩ = some (.slice none 0 0)) ∧
    (wr.frozen? ⟨pe, 0, none⟩ = false ∧ wr.frozen? ⟨pe, 1, none⟩ = false ∧ wr.frozen? ⟨pe, 2, none⟩ = false ∧ wr.frozen? ⟨pe, 3, none⟩ = false ∧ wr.frozen? ⟨pe, 4, none⟩ = false ∧ wr.frozen? ⟨pe, 5, none⟩ = false ∧ wr.frozen? ⟨pe, 6, none⟩ = false) :=
  ⟨⟨h.row.cell (i := 0) (by omega), h.row.cell (i := 1) (by omega), h.row.cell (i := 2) (by omega), h.row.cell (i := 3) (by omega), h.row.cell (i := 4) (by omega), h.row.cell (i := 5) (by omega), h.row.cell (i := 6) (by omega)⟩,
   ⟨h.res.cell (i := 0) (by omega), h.res.cell (i := 1) (by omega), h.res.cell (i := 2) (by omega), h.res.cell (i := 3) (by omega), h.res.cell (i := 4) (by omega), h.res.cell (i := 5) (by omega), h.res.cell (i := 6) (by omega)⟩,
   ⟨h.res.frozen 0, h.res.frozen 1, h.res.frozen 2, h.res.frozen 3, h.res.frozen 4, h.res.frozen 5, h.res.frozen 6⟩⟩
/-- handed back -/
theorem RS.rep {w wr : World} {pw pe pr : Nat} {x : Want} {r : Reply} {a5 a6 : Option Addr} {c5 c6 : Nat} (h : RS w wr pw pe pr x r (.slice a5 r.ents.length c5) (.slice a6 r.proof.length c6)) :
    Rep w (.returned (rv r a5 c5 a6 c6)) (put7 wr pe r.what r.head.size r.head.root r.head.time r.head.sign (.slice a5 r.ents.length c5) (.slice a6 r.proof.length c6)) := by
  have k := kept_put7 wr pe r.what r.head.size r.head.root r.head.time r.head.sign (.slice a5 r.ents.length c5) (.slice a6 r.proof.length c6)
  have o5 := owns_kept h.o5 k fun i hi q => (h.a5 i hi).2.1 q
  have o6 := owns_kept h.o6 k fun i hi q => (h.a6 i hi).2.1 q
  exact ⟨r, a5, c5, a6, c6, rfl, ⟨by have := h.few.1; omega, by have := h.few.2; omega, h.data⟩, (Wide.of_owns o5).2, (Row.of_owns o6).2, Wides.owns_fresh o5, Wides.owns_fresh o6, h.bel.trans (k.below (fun i q => by rw [q]; exact h.ge.2.1) h.bel.size)⟩

theorem run_ints (w : World) (B D : Nat) (u : Value) (q : List Int) (hu : w.ownsRow D 3 1 u q.length (ints q)) (hl : q.length ≤ 1000) (hB : B ≤ w.heap.size) :
    ∃ v' w', (∀ ty, (Builtin.append_ #[23, 23] ty #[.slice none 0 0, u]).run Tryz.prog w = .ok v' w') ∧ w'.ownsRow B 3 1 v' q.length (ints q) ∧ Below w.heap.size w w' ∧ ∀ k, v'.ownBlock = some k → w.heap.size ≤ k := by
  obtain ⟨i0, hi, hz0, hz1, hz2⟩ := info_parts WalkUnpackRef.info3
  rcases hu.2 with ⟨rfl, h0⟩ | ⟨g, cap, cur, rfl, _⟩
  · have hq : q = [] := List.eq_nil_of_length_eq_zero h0
    subst hq
    exact ⟨.slice none 0 0, w, fun ty => run_append_owned_none (P := Tryz.prog) (w := w) B 23 ty 3 i0 1 Tryz.underlying23 hi (.slice none 0 0) 0 [] (World.ownsRow_nil _ _ _ _), World.ownsRow_nil _ _ _ _, Below.refl _ _, fun k hk => (by simp [Value.ownBlock] at hk)⟩
  · obtain ⟨_, hrow⟩ := Row.of_owns hu
    obtain ⟨v', w', hr, o', g', _, at'⟩ := run_append_own_at (P := Tryz.prog) w B 23 23 3 i0 (.int .i64 0) 1 8 Tryz.underlying23 hi hz0 hz1 hz2 rfl (by decide) (.slice none 0 0) 0 [] (World.ownsRow_nil _ _ _ _) ⟨g, 0, none⟩ q.length cap (ints q) (by simp [ints])
      (fun j x hj => by
        have hjl : j < q.length := by have := (List.getElem?_eq_some_iff.1 hj).1; simpa [ints] using this
        obtain ⟨b, off, e, hc⟩ := hrow.2.2 (by omega)
        obtain ⟨rfl, rfl⟩ : g = b ∧ 0 = off := by simpa using e
        rw [show (⟨g, 0, none⟩ : Addr).add j = ⟨g, 0 + j, none⟩ by (unfold Addr.add; split <;> simp_all)]
        exact hc j x hj) (fun x hx => by obtain ⟨z, _, rfl⟩ := List.mem_map.1 hx; rfl) (by unfold maxLen; omega) (by omega) hB
    refine ⟨v', w', fun ty => hr, by simpa using o', ((Kept.refl (fun _ => False) w).grown (row := none) g' (fun k hk => by cases hk)).below (fun k hk => hk.elim) (Nat.le_refl _), fun k hk => ?_⟩
    rcases at' with e | e
    · rw [e] at hk
      simp [Value.ownBlock] at hk
    · rw [e] at hk
      simp only [Option.some.injEq] at hk
      omega
theorem cells_take (l : List Entry) (i : Nat) : cells (l.take i) = (cells l).take (i * 2) := by
  induction l generalizing i with
  | nil => simp [cells]
  | cons p l ih =>
    cases i with
    | zero => rfl
    | succ i =>
      rw [show (i + 1) * 2 = i * 2 + 2 by omega]
      simp only [List.take_succ_cons, cells]
      rw [ih i]
theorem wide_take {w : World} {a : Option Addr} {n cap : Nat} {l : List Entry} (h : Wide 2 w a n cap (cells l)) (T : Nat) (hT : T ≤ n) : Wide 2 w a T cap (cells (l.take T)) := by
  have hl := EntRows.len_of h
  refine ⟨by rw [EntRows.cells_length, List.length_take]; congr 1; omega, Nat.le_trans hT h.2.1, fun h0 => ?_⟩
  obtain ⟨b, off, e, hc⟩ := h.2.2 (by omega)
  refine ⟨b, off, e, fun j u hj => hc j u ?_⟩
  rw [cells_take, List.getElem?_take] at hj
  split at hj
  · exact hj
  · cases hj
theorem add_at (g o j : Nat) : (⟨g, o, none⟩ : Addr).add j = ⟨g, o + j, none⟩ := by unfold Addr.add; split <;> simp_all
/-- the first one alone -/
theorem owns_first {w : World} {B g n c : Nat} {e : TypeId} {y : Entry} {l : List Entry} (h : w.ownsRow B e 2 (.slice (some ⟨g, 0, none⟩) n c) n (cells (y :: l))) : w.ownsRow B e 2 (.slice (some ⟨g, 0, none⟩) 1 c) 1 (cells [y]) := by
  rcases h.2 with ⟨h2, _⟩ | ⟨g', c', cur, hv, hg, hh, hc, hm, hs, ht⟩
  · cases h2
  · obtain ⟨rfl, rfl⟩ : g = g' ∧ c = c' := by simpa using hv
    have hl := h.1
    simp only [cells, List.length_cons] at hl
    refine ⟨rfl, .inr ⟨g, c, cur, rfl, hg, hh, by omega, hm, hs, ?_⟩⟩
    have h3 : (cur.toList.take (n * 2)).take 2 = (cells (y :: l)).take 2 := by rw [ht]
    rw [List.take_take, Nat.min_eq_left (by omega)] at h3
    exact h3

set_option maxHeartbeats 8000000 in
set_option maxRecDepth 100000 in
theorem replies_any (l : List Entry) (a : Option Addr) (n cap : Nat) (key : Int) (x : Want) (how : Int) (w : World) (hr : Wide 2 w a n cap (cells l)) (hn : n ≤ 200) (hd : ∀ e ∈ l, e.2.size ≤ 140737488351232) (h0 : 0 ≤ how) (h1 : how ≤ 9223372036854775807) :
    Calls Tryz.prog 25 #[.slice a n cap, .int .i64 key, MirVals.wv x, .int .i64 how] w fun e w' => Rep w e w' := by
  obtain ⟨ww, wf, wt⟩ := x
  simp only [MirVals.wv]
  have hln := EntRows.len_of hr
  have aW := MirVals.aggW
  have zW := MirVals.sizeW
  have aR := MirVals.aggR
  have zR := MirVals.sizeR
  have aH := HeadVals.aggH
  have zH := HeadVals.sizeH
  have HR : Hid (Wide 2 w a n cap (cells l)) := hr
  have HD : Hid (∀ e ∈ l, e.2.size ≤ 140737488351232) := hd
  clear hr hd
  go_enter Tryz.func25, Tryz.ntmps25
  go_upto_block 0 with fail
  have b1 : Below w.heap.size w (w.alloc (.cells #[.int .i64 ww, .int .i64 wf, .int .i64 wt] 68)) := (Below.refl _ _).alloc (Nat.le_refl _) _
  have s1 : (w.alloc (.cells #[.int .i64 ww, .int .i64 wf, .int .i64 wt] 68)).heap.size = w.heap.size + 1 := by simp
  have r1 : (w.alloc (.cells #[.int .i64 ww, .int .i64 wf, .int .i64 wt] 68)).rowIs w.heap.size 68 3 (three ⟨ww, wf, wt⟩) := World.rowIs_alloc w #[.int .i64 ww, .int .i64 wf, .int .i64 wt] _ _ (by intro i hi; match i, hi with | 0, _ => rfl | 1, _ => rfl | 2, _ => rfl)
  generalize w.alloc (.cells #[.int .i64 ww, .int .i64 wf, .int .i64 wt] 68) = wa at b1 s1 r1 ⊢
  have b2 : Below w.heap.size w (wa.alloc (.cells #[.int .i64 0, .int .i64 0, .int .i64 0, .int .i64 0, .int .i64 0, .slice none 0 0, .slice none 0 0] 65)) := b1.alloc b1.size _
  have s2 : (wa.alloc (.cells #[.int .i64 0, .int .i64 0, .int .i64 0, .int .i64 0, .int .i64 0, .slice none 0 0, .slice none 0 0] 65)).heap.size = w.heap.size + 1 + 1 := by simp [s1]
  have r2 : (wa.alloc (.cells #[.int .i64 0, .int .i64 0, .int .i64 0, .int .i64 0, .int .i64 0, .slice none 0 0, .slice none 0 0] 65)).rowIs (w.heap.size + 1) 65 7 (cell7 0 0 0 0 0 (.slice none 0 0) (.slice none 0 0)) := by
    rw [← s1]
    exact World.rowIs_alloc wa #[.int .i64 0, .int .i64 0, .int .i64 0, .int .i64 0, .int .i64 0, .slice none 0 0, .slice none 0 0] _ _ (by intro i hi; match i, hi with | 0, _ => rfl | 1, _ => rfl | 2, _ => rfl | 3, _ => rfl | 4, _ => rfl | 5, _ => rfl | 6, _ => rfl)
  have r12 := r1.alloc (.cells #[.int .i64 0, .int .i64 0, .int .i64 0, .int .i64 0, .int .i64 0, .slice none 0 0, .slice none 0 0] 65)
  generalize wa.alloc (.cells #[.int .i64 0, .int .i64 0, .int .i64 0, .int .i64 0, .int .i64 0, .slice none 0 0, .slice none 0 0] 65) = wb at b2 s2 r2 r12 ⊢
  clear r1 b1 s1 wa
  have r3 : (wb.alloc (.cells #[.int .i64 ww, .int .i64 0, .int .i64 0, .int .i64 0, .int .i64 0, .slice none 0 0, .slice none 0 0] 65)).rowIs (w.heap.size + 1 + 1) 65 7 (cell7 ww 0 0 0 0 (.slice none 0 0) (.slice none 0 0)) := by
    rw [← s2]
    exact World.rowIs_alloc wb #[.int .i64 ww, .int .i64 0, .int .i64 0, .int .i64 0, .int .i64 0, .slice none 0 0, .slice none 0 0] _ _ (by intro i hi; match i, hi with | 0, _ => rfl | 1, _ => rfl | 2, _ => rfl | 3, _ => rfl | 4, _ => rfl | 5, _ => rfl | 6, _ => rfl)
  have HS0 : Hid (RS w (wb.alloc (.cells #[.int .i64 ww, .int .i64 0, .int .i64 0, .int .i64 0, .int .i64 0, .slice none 0 0, .slice none 0 0] 65)) w.heap.size (w.heap.size + 1) (w.heap.size + 1 + 1) ⟨ww, wf, wt⟩ ⟨ww, ⟨0, 0, 0, 0⟩, [], []⟩ (.slice none 0 0) (.slice none 0 0)) :=
    ⟨r3, r2.alloc _, r12.alloc _, World.ownsRow_nil _ _ _ _, World.ownsRow_nil _ _ _ _, b2.alloc b2.size _, fun k hk => (by simp [Value.ownBlock] at hk), fun k hk => (by simp [Value.ownBlock] at hk), ⟨by omega, by omega, by omega⟩, ⟨by omega, by omega, by omega⟩, ⟨by simp, by simp⟩, fun e he => (by cases he)⟩
  clear r3 r2 r12 b2 s2
  generalize wb.alloc (.cells #[.int .i64 ww, .int .i64 0, .int .i64 0, .int .i64 0, .int .i64 0, .slice none 0 0, .slice none 0 0] 65) = w2 at HS0 ⊢
  obtain ⟨pw, HPW⟩ : ∃ pw, Hid (w.heap.size = pw) := ⟨_, rfl⟩
  obtain ⟨pe, HPE⟩ : ∃ pe, Hid (w.heap.size + 1 = pe) := ⟨_, rfl⟩
  obtain ⟨pr, HPR⟩ : ∃ pr, Hid (w.heap.size + 1 + 1 = pr) := ⟨_, rfl⟩
  have HS : Hid (RS w w2 pw pe pr ⟨ww, wf, wt⟩ ⟨ww, ⟨0, 0, 0, 0⟩, [], []⟩ (.slice none 0 0) (.slice none 0 0)) := by rw [← HPW.out, ← HPE.out, ← HPR.out]; exact HS0.out
  rw [show w.heap.size + 1 + 1 = pr from HPR.out, show w.heap.size + 1 = pe from HPE.out, show w.heap.size = pw from HPW.out]
  clear HS0 wb
  go_cut [10, 11, 12, 13] from 19 to 139 (fun _ _ _ _ wc => ∃ r v5 v6, RS w wc pw pe pr ⟨ww, wf, wt⟩ r v5 v6)
  case first => as_aux_lemma =>
    have HRW : Hid (Wide 2 w2 a n cap (cells l)) := HR.out.below HS.out.bel
    have hw0 : w2.cell? ⟨pw, 0, none⟩ = some (.int .i64 ww) := HS.out.wnt.cell (i := 0) (by omega)
    have hw1 : w2.cell? ⟨pw, 1, none⟩ = some (.int .i64 wf) := HS.out.wnt.cell (i := 1) (by omega)
    have hw2 : w2.cell? ⟨pw, 2, none⟩ = some (.int .i64 wt) := HS.out.wnt.cell (i := 2) (by omega)
    by_cases c1 : ww = 1
    · -- a head
      have e1 : (ww == 1) = true := by rw [c1]; rfl
      obtain ⟨now, HNW⟩ : ∃ now, Hid (how % 5 = now) := ⟨_, rfl⟩
      have cL := WalkLogRef.log_any l a n cap key now w2 HRW.out (fun e he => by have := HD.out e he; unfold maxLen; omega)
      obtain ⟨H, HH⟩ : ∃ H, Hid (WalkLogRef.logH l key now = H) := ⟨_, rfl⟩
      obtain ⟨E, HE⟩ : ∃ E, Hid (WalkLogRef.logE l key now = E) := ⟨_, rfl⟩
      rw [HH.out, HE.out] at cL
      obtain ⟨hs, hrt, ht, hsg⟩ := H
      have HRB : Hid (0 ≤ hrt ∧ hrt < 2147483647) := by
        have h := HH.out
        unfold WalkLogRef.logH at h
        split at h
        · have h2 : Mirrors.rootE l = hrt := congrArg Heads.Head.root h
          have h3 : Nums.valid (Mirrors.rootE l) = true := Trees.root_valid _ WalkMirRef.leafs_valid
          rw [h2] at h3
          have := Nums.valid_iff.1 h3
          exact ⟨this.1, this.2⟩
        · have h2 : (0 : Int) = hrt := congrArg Heads.Head.root h
          exact ⟨by omega, by omega⟩
      rw [← HNW.out] at cL
      simp only [hv] at cL
      clear c1
      go_wp2_with fail
      refine cL.mono ?_
      rintro e w3 ⟨rfl, b3⟩
      clear cL hw0 hw1 hw2 HRW
      go_upto_region 5 with fail
      have hb4 : Below w2.heap.size w2 (w3.alloc (.cells #[.int .i64 hs, .int .i64 hrt, .int .i64 ht, .int .i64 hsg] 60)) := b3.alloc b3.size _
      have HS4 : Hid (RS w (w3.alloc (.cells #[.int .i64 hs, .int .i64 hrt, .int .i64 ht, .int .i64 hsg] 60)) pw pe pr ⟨ww, wf, wt⟩ ⟨ww, ⟨0, 0, 0, 0⟩, [], []⟩ (.slice none 0 0) (.slice none 0 0)) := HS.out.below hb4
      have HD4 : Hid (HeadVals.At (w3.alloc (.cells #[.int .i64 hs, .int .i64 hrt, .int .i64 ht, .int .i64 hsg] 60)) w3.heap.size ⟨hs, hrt, ht, hsg⟩) := HeadVals.At.new w3 hs hrt ht hsg
      have HPH : Hid (pr < w3.heap.size) := Nat.lt_of_lt_of_le HS.out.row.lt b3.size
      clear hb4 b3
      generalize w3.alloc (.cells #[.int .i64 hs, .int .i64 hrt, .int .i64 ht, .int .i64 hsg] 60) = w4 at HS4 HD4 ⊢
      generalize w3.heap.size = ph at HD4 HPH ⊢
      have d0 := HD4.out.size
      have d1 := HD4.out.root
      have d2 := HD4.out.time
      have d3 := HD4.out.sign
      simp only at d0 d1 d2 d3
      have g1 : w4.cell? ⟨pr, 1, none⟩ = some (.int .i64 0) := HS4.out.row.cell (i := 1) (by omega)
      have g2 : w4.cell? ⟨pr, 2, none⟩ = some (.int .i64 0) := HS4.out.row.cell (i := 2) (by omega)
      have g3 : w4.cell? ⟨pr, 3, none⟩ = some (.int .i64 0) := HS4.out.row.cell (i := 3) (by omega)
      have g4 : w4.cell? ⟨pr, 4, none⟩ = some (.int .i64 0) := HS4.out.row.cell (i := 4) (by omega)
      have f1 := HS4.out.row.frozen 1
      have f2 := HS4.out.row.frozen 2
      have f3 := HS4.out.row.frozen 3
      have f4 := HS4.out.row.frozen 4
      have K5 : Kept (fun k => k = pr) w4 ((((w4.setCell ⟨pr, 1, none⟩ (.int .i64 hs)).setCell ⟨pr, 2, none⟩ (.int .i64 hrt)).setCell ⟨pr, 3, none⟩ (.int .i64 ht)).setCell ⟨pr, 4, none⟩ (.int .i64 hsg)) := ((((Kept.refl (fun k => k = pr) w4).setCell (.inl rfl) _).setCell (.inl rfl) _).setCell (.inl rfl) _).setCell (.inl rfl) _
      have HS5 : Hid (RS w ((((w4.setCell ⟨pr, 1, none⟩ (.int .i64 hs)).setCell ⟨pr, 2, none⟩ (.int .i64 hrt)).setCell ⟨pr, 3, none⟩ (.int .i64 ht)).setCell ⟨pr, 4, none⟩ (.int .i64 hsg)) pw pe pr ⟨ww, wf, wt⟩ ⟨ww, ⟨hs, hrt, ht, hsg⟩, [], []⟩ (.slice none 0 0) (.slice none 0 0)) := HS4.out.upd K5 (row_four HS4.out.row _ _ _ _)
      have HD5 : Hid (((((w4.setCell ⟨pr, 1, none⟩ (.int .i64 hs)).setCell ⟨pr, 2, none⟩ (.int .i64 hrt)).setCell ⟨pr, 3, none⟩ (.int .i64 ht)).setCell ⟨pr, 4, none⟩ (.int .i64 hsg)).cell? ⟨ph, 1, none⟩ = some (.int .i64 hrt)) := by
        show _ = _
        rw [K5.cell (p := ⟨ph, 1, none⟩) (Lists.block_lt d1) (fun q => by have := HPH.out; have q' : ph = pr := q; omega)]
        exact d1
      clear K5
      go_upto_region 6 with fail
      generalize (((w4.setCell ⟨pr, 1, none⟩ (.int .i64 hs)).setCell ⟨pr, 2, none⟩ (.int .i64 hrt)).setCell ⟨pr, 3, none⟩ (.int .i64 ht)).setCell ⟨pr, 4, none⟩ (.int .i64 hsg) = w5 at HS5 HD5 ⊢
      clear d0 d1 d2 d3 g1 g2 g3 g4 f1 f2 f3 f4
      have m1 := HD5.out
      have g2 : w5.cell? ⟨pr, 2, none⟩ = some (.int .i64 hrt) := HS5.out.row.cell (i := 2) (by omega)
      have f2 := HS5.out.row.frozen 2
      obtain ⟨M7, hM7⟩ : ∃ M7, how % 7 = M7 := ⟨_, rfl⟩
      by_cases h3 : M7 = 3
      · have e3 : (M7 == 3) = true := by rw [h3]; rfl
        obtain ⟨b0, b9⟩ := HRB.out
        clear h3
        go_wp2_with fail
        go_meet
        case rel => exact ⟨_, _, _, HS5.out.upd ((Kept.refl (fun k => k = pr) w5).setCell (.inl rfl) _) (row_two7 HS5.out.row _)⟩
      · have e3 : (M7 == 3) = false := by rw [beq_eq_false_iff_ne]; exact h3
        clear h3
        go_wp2_with fail
        go_meet
        case rel => exact ⟨_, _, _, HS5.out⟩
    by_cases c2 : ww = 2
    · -- entries
      have e1 : (ww == 1) = false := by rw [beq_eq_false_iff_ne]; exact c1
      have e2 : (ww == 2) = true := by rw [c2]; rfl
      clear c1 c2
      go_wp2_with fail
      go_loopw [12] (fun i wr => ∃ (k : Int) (r : Reply) (v5 : Value), i = .int .i64 k ∧ Hid (RS w wr pw pe pr ⟨ww, wf, wt⟩ r v5 (.slice none 0 0)) ∧ Hid (r.proof = []) ∧ Hid (wf ≤ k ∧ (r.ents.length : Int) = k - wf ∧ (k ≤ (n : Int) ∨ k = wf))) (fun i _ => n - (intOf i).toNat)
      case atStart => exact ⟨wf, _, _, rfl, HS.out, rfl, (⟨Int.le_refl _, by simp, .inr rfl⟩ : wf ≤ wf ∧ (([] : List Entry).length : Int) = wf - wf ∧ (wf ≤ (n : Int) ∨ wf = wf))⟩
      case round =>
        obtain ⟨k, r, v5, rfl, HSk, HPk, HKk⟩ := hrel
        have x1 : wr.cell? ⟨pw, 1, none⟩ = some (.int .i64 wf) := HSk.out.wnt.cell (i := 1) (by omega)
        have x2 : wr.cell? ⟨pw, 2, none⟩ = some (.int .i64 wt) := HSk.out.wnt.cell (i := 2) (by omega)
        by_cases hgo : 0 ≤ wf ∧ k < wt ∧ k < (n : Int)
        · obtain ⟨g0, g1, g2⟩ := hgo
          obtain ⟨q1, q2, _⟩ := HKk.out
          obtain ⟨K, rfl⟩ := Int.eq_ofNat_of_zero_le (show 0 ≤ k by omega)
          have hKn : K < n := by omega
          have hKl : K < l.length := by omega
          obtain ⟨b1, off1, rfl, _⟩ := HRW.out.2.2 (by omega)
          obtain ⟨p0, p1⟩ := EntRows.at_two (HR.out.below HSk.out.bel) K hKl
          have hdk : (l[K]).2.size ≤ 140737488351232 := HD.out _ (List.getElem_mem _)
          generalize l[K] = y at p0 p1 hdk
          obtain ⟨t, d⟩ := y
          simp only at p0 p1 hdk
          have hlt : r.ents.length < 200 := by omega
          obtain ⟨a5, c5, rfl, _⟩ := owns_wide HSk.out.o5
          have x5 : wr.drew.cell? ⟨pr, 5, none⟩ = some (.slice a5 r.ents.length c5) := HSk.out.row.cell (i := 5) (by omega)
          have y0 : wr.drew.cell? ⟨b1, off1 + K * 2, none⟩ = some (.int .i64 t) := p0
          have y1 : wr.drew.cell? ⟨b1, off1 + K * 2 + 1, none⟩ = some (.string d) := p1
          have o5 : (wr.drew.alloc (.cells #[.int .i64 t, .string d] 79)).ownsRow w.heap.size 79 2 (.slice a5 r.ents.length c5) r.ents.length (cells r.ents) := HSk.out.o5.drew.alloc _
          have wnew : Wide 2 (wr.drew.alloc (.cells #[.int .i64 t, .string d] 79)) (some ⟨wr.heap.size, 0, none⟩) 1 1 (cells [(t, d)]) := by
            refine ⟨rfl, Nat.le_refl _, fun _ => ⟨wr.heap.size, 0, rfl, fun j u hj => ?_⟩⟩
            have := WalkUnpackRef.cell_two_new wr.drew (.int .i64 t) (.string d) 79 j u hj
            rw [add_at] at this
            exact this
          obtain ⟨vn, wn, rn, on, kn, fn⟩ := WalkMirRef.run_some (wr.drew.alloc (.cells #[.int .i64 t, .string d] 79)) w.heap.size (.slice a5 r.ents.length c5) r.ents o5 ⟨wr.heap.size, 0, none⟩ 1 1 [(t, d)] wnew (by omega) (by omega) (by have := HSk.out.bel.size; simp; omega)
          have hsz : (wr.drew.alloc (.cells #[.int .i64 t, .string d] 79)).heap.size = wr.heap.size + 1 := by simp
          have rown : wn.rowIs pr 65 7 (cell7 r.what r.head.size r.head.root r.head.time r.head.sign (.slice a5 r.ents.length c5) (.slice none 0 0)) := (HSk.out.row.drew.alloc (.cells #[.int .i64 t, .string d] 79)).of_block (kn.block pr (by have := HSk.out.row.lt; omega) (fun q => (HSk.out.a5 pr q).1 rfl))
          have K8 : Kept (fun k => k = pr ∨ (Value.slice a5 r.ents.length c5).ownBlock = some k) wr (wn.setCell ⟨pr, 5, none⟩ vn) := ((((Kept.refl _ wr).drew).alloc _).trans kn fun i q => .inl (.inr q)).setCell (.inl (.inl rfl)) _
          have on8 : (wn.setCell ⟨pr, 5, none⟩ vn).ownsRow w.heap.size 79 2 vn (r.ents ++ [(t, d)]).length (cells (r.ents ++ [(t, d)])) := owns_kept on ((Kept.refl (fun k => k = pr) wn).setCell (.inl rfl) _) fun i hi q => by
            rcases fn i hi with q2 | q2
            · exact (HSk.out.a5 i q2).1 q
            · have := HSk.out.row.lt
              rw [hsz] at q2
              omega
          have HS8 : Hid (RS w (wn.setCell ⟨pr, 5, none⟩ vn) pw pe pr ⟨ww, wf, wt⟩ ⟨r.what, r.head, r.ents ++ [(t, d)], r.proof⟩ vn (.slice none 0 0)) := HSk.out.updE K8 (row_five rown vn) on8 (fun i hi => (fn i hi).imp id (fun q2 => by rw [hsz] at q2; omega)) (by rw [List.length_append]; simp; omega) (fun e he => by rcases List.mem_append.1 he with he | he; exact HSk.out.data e he; rw [List.mem_singleton.1 he]; show d.size ≤ maxLen; unfold maxLen; omega)
          have HK8 : Hid (wf ≤ (K : Int) + 1 ∧ ((r.ents ++ [(t, d)]).length : Int) = (K : Int) + 1 - wf ∧ ((K : Int) + 1 ≤ (n : Int) ∨ (K : Int) + 1 = wf)) := ⟨by omega, by rw [List.length_append]; simp; omega, .inl (by omega)⟩
          have z5 : wn.cell? ⟨pr, 5, none⟩ = some (.slice a5 r.ents.length c5) := rown.cell (i := 5) (by omega)
          have zf := rown.frozen 5
          obtain ⟨N5, hN5⟩ : ∃ N5, N5 = (r.ents ++ [(t, d)]).length := ⟨_, rfl⟩
          rw [← hN5] at on
          clear hN5
          obtain ⟨an, cn, rfl, _⟩ := owns_wide on
          have hgi : (K : Int) < (n : Int) := by omega
          have xA : (wr.alloc (.cells #[.int .i64 t, .string d] 79)).cell? ⟨pr, 5, none⟩ = some (.slice a5 r.ents.length c5) := (World.cell?_alloc_lt _ _ ⟨pr, 5, none⟩ HSk.out.row.lt).trans (HSk.out.row.cell (i := 5) (by omega))
          clear p0 p1 hdk o5 wnew on kn fn hsz rown K8 on8 q1 q2
          go_upto_region 12 with fail
          go_region_law (refine WalkMirHear.step_append_run rfl (.tmp 62) (.tmp 67) 51 51 rfl (.slice a5 r.ents.length c5) (.slice (some ⟨wr.heap.size, 0, none⟩) 1 1) (by simp [Act.eval]) (by simp [Act.eval]) _ _ rn ?_)
          all_goals
            go_wp2_with fail
            go_roundw
            case rel => exact ⟨(K : Int) + 1, ⟨r.what, r.head, r.ents ++ [(t, d)], r.proof⟩, _, rfl, HS8, HPk, HK8⟩
            case measure => simp [intOf]; omega
        · obtain ⟨what, hd, ents, prf⟩ := r
          have hr2 : RS w wr pw pe pr ⟨ww, wf, wt⟩ ⟨what, hd, ents, prf⟩ v5 (.slice none 0 0) := HSk.out
          obtain ⟨a5, c5, rfl, _⟩ := owns_wide hr2.o5
          simp only at *
          have x5 : wr.cell? ⟨pr, 5, none⟩ = some (.slice a5 ents.length c5) := hr2.row.cell (i := 5) (by omega)
          have f5 := hr2.row.frozen 5
          have hcase : wf < 0 ∨ (0 ≤ wf ∧ wt ≤ k) ∨ (0 ≤ wf ∧ k < wt ∧ (n : Int) ≤ k) := by omega
          obtain ⟨M7, hM7⟩ : ∃ M7, how % 7 = M7 := ⟨_, rfl⟩
          have HSX : Hid (RS w wr pw pe pr ⟨ww, wf, wt⟩ ⟨what, hd, ents, prf⟩ (.slice a5 ents.length c5) (.slice none 0 0)) := hr2
          have hel : ents.length ≤ 200 := hr2.few.1
          clear hr2 HSk HPk HKk hgo
          by_cases hA : M7 = 3 ∧ 0 < ents.length
          · -- another time
            obtain ⟨hA1, hA2⟩ := hA
            have e3 : (M7 == 3) = true := by rw [hA1]; rfl
            have e4 : (M7 == 4) = false := by rw [hA1]; rfl
            obtain ⟨y, rest, rfl⟩ : ∃ y rest, ents = y :: rest := by
              cases ents with
              | nil => simp at hA2
              | cons y rest => exact ⟨y, rest, rfl⟩
            obtain ⟨t, d⟩ := y
            obtain ⟨g, rfl⟩ : ∃ g, a5 = some ⟨g, 0, none⟩ := by
              rcases HSX.out.o5.2 with ⟨q, _⟩ | ⟨g, cap', cur, q, _⟩
              · simp at q
              · obtain ⟨q1, _⟩ : a5 = some ⟨g, 0, none⟩ ∧ c5 = cap' := by simpa using q
                exact ⟨g, q1⟩
            have o5 := HSX.out.o5
            have z0 : wr.cell? ⟨g, 0, none⟩ = some (.int .i64 t) := by rw [World.ownsRow.cellAt o5 0 (by simp)]; rfl
            have zf := World.ownsRow.frozenAt o5 0
            have o6 := (World.ownsRow.stored o5 0 (.int .i64 5)).1
            have gne := HSX.out.a5 g rfl
            have HS9 : Hid (RS w (wr.setCell ⟨g, 0, none⟩ (.int .i64 5)) pw pe pr ⟨ww, wf, wt⟩ ⟨what, hd, (5, d) :: rest, prf⟩ (.slice (some ⟨g, 0, none⟩) ((t, d) :: rest).length c5) (.slice none 0 0)) :=
              HSX.out.updE (l := (5, d) :: rest) ((Kept.refl _ wr).setCell (.inl (.inr rfl)) _) (HSX.out.row.setOther (fun q => gne.1 q.symm) _) o6 (fun i hi => .inl hi) hel (fun e he => by rcases List.mem_cons.1 he with rfl | he; exact HSX.out.data (t, d) (List.mem_cons_self ..); exact HSX.out.data e (List.mem_cons_of_mem _ he))
            have hpos : (0 : Int) < (((t, d) :: rest).length : Int) := by simp only [List.length_cons]; omega
            clear o5 o6 gne hA1 hA2
            generalize ((t, d) :: rest).length = N at *
            rcases hcase with q | ⟨q, q'⟩ | ⟨q, q', q''⟩
            all_goals
              go_wp2_with fail
              go_meet
              case rel => exact ⟨_, _, _, HS9.out⟩
          · by_cases hB : M7 = 4 ∧ 1 < ents.length
            · -- the first one alone
              obtain ⟨hB1, hB2⟩ := hB
              have e3 : (M7 == 3) = false := by rw [hB1]; rfl
              have e4 : (M7 == 4) = true := by rw [hB1]; rfl
              obtain ⟨y, rest, rfl⟩ : ∃ y rest, ents = y :: rest := by
                cases ents with
                | nil => simp at hB2
                | cons y rest => exact ⟨y, rest, rfl⟩
              obtain ⟨g, rfl⟩ : ∃ g, a5 = some ⟨g, 0, none⟩ := by
                rcases HSX.out.o5.2 with ⟨q, _⟩ | ⟨g, cap', cur, q, _⟩
                · simp at q
                · obtain ⟨q1, _⟩ : a5 = some ⟨g, 0, none⟩ ∧ c5 = cap' := by simpa using q
                  exact ⟨g, q1⟩
              have o5 := HSX.out.o5
              have hcn : (y :: rest).length ≤ c5 := (Wide.of_owns o5).2.2.1
              have gne := HSX.out.a5 g rfl
              have K9 : Kept (fun k => k = pr ∨ (Value.slice (some ⟨g, 0, none⟩) (y :: rest).length c5).ownBlock = some k) wr (wr.setCell ⟨pr, 5, none⟩ (.slice (some ⟨g, 0, none⟩) 1 c5)) := (Kept.refl _ wr).setCell (.inl (.inl rfl)) _
              have o9 : (wr.setCell ⟨pr, 5, none⟩ (.slice (some ⟨g, 0, none⟩) 1 c5)).ownsRow w.heap.size 79 2 (.slice (some ⟨g, 0, none⟩) 1 c5) 1 (cells [y]) := owns_kept (owns_first o5) ((Kept.refl (fun k => k = pr) wr).setCell (.inl rfl) _) fun i hi q => by
                have hi' : some g = some i := hi
                simp only [Option.some.injEq] at hi'
                exact gne.1 (hi'.trans q)
              have HS9 : Hid (RS w (wr.setCell ⟨pr, 5, none⟩ (.slice (some ⟨g, 0, none⟩) 1 c5)) pw pe pr ⟨ww, wf, wt⟩ ⟨what, hd, [y], prf⟩ (.slice (some ⟨g, 0, none⟩) 1 c5) (.slice none 0 0)) :=
                HSX.out.updE (l := [y]) K9 (row_five HSX.out.row _) o9 (fun i hi => .inl hi) (by simp) (fun e he => by rw [List.mem_singleton.1 he]; exact HSX.out.data y (List.mem_cons_self ..))
              have hpos : (1 : Int) < ((y :: rest).length : Int) := by omega
              have hc1 : (1 : Int) ≤ (c5 : Int) := by omega
              have hc63 : c5 ≤ 9223372036854775807 := by
                rcases o5.2 with ⟨q, _⟩ | ⟨g', cap', cur, q, _, _, _, hm, _⟩
                · simp at q
                · obtain ⟨_, q1⟩ : g = g' ∧ c5 = cap' := by simpa using q
                  rw [q1]
                  unfold maxLen at hm
                  exact hm
              clear o5 o9 K9 gne hB1 hB2 hA
              generalize (y :: rest).length = N at *
              rcases hcase with q | ⟨q, q'⟩ | ⟨q, q', q''⟩
              all_goals
                go_wp2_with fail
                go_meet
                case rel => exact ⟨_, _, _, HS9.out⟩
            · have hcase2 : (M7 = 3 ∧ ents.length = 0) ∨ (M7 = 4 ∧ ents.length ≤ 1) ∨ (M7 ≠ 3 ∧ M7 ≠ 4) := by omega
              generalize ents.length = N at *
              rcases hcase2 with ⟨u1, u2⟩ | ⟨u1, u2⟩ | ⟨u1, u2⟩
              · have e3 : (M7 == 3) = true := by rw [u1]; rfl
                have e4 : (M7 == 4) = false := by rw [u1]; rfl
                subst u2
                clear hA hB u1
                rcases hcase with q | ⟨q, q'⟩ | ⟨q, q', q''⟩
                all_goals
                  go_wp2_with fail
                  go_meet
                  case rel => exact ⟨_, _, _, HSX.out⟩
              · have e3 : (M7 == 3) = false := by rw [u1]; rfl
                have e4 : (M7 == 4) = true := by rw [u1]; rfl
                have u3 : ¬ (1 : Int) < (N : Int) := by omega
                clear hA hB u1 u2
                rcases hcase with q | ⟨q, q'⟩ | ⟨q, q', q''⟩
                all_goals
                  go_wp2_with fail
                  go_meet
                  case rel => exact ⟨_, _, _, HSX.out⟩
              · have e3 : (M7 == 3) = false := by rw [beq_eq_false_iff_ne]; exact u1
                have e4 : (M7 == 4) = false := by rw [beq_eq_false_iff_ne]; exact u2
                clear hA hB u1 u2
                rcases hcase with q | ⟨q, q'⟩ | ⟨q, q', q''⟩
                all_goals
                  go_wp2_with fail
                  go_meet
                  case rel => exact ⟨_, _, _, HSX.out⟩
    by_cases c3 : ww = 3
    · -- a proof
      have e1 : (ww == 1) = false := by rw [beq_eq_false_iff_ne]; exact c1
      have e2 : (ww == 2) = false := by rw [beq_eq_false_iff_ne]; exact c2
      have e3 : (ww == 3) = true := by rw [c3]; rfl
      clear c1 c2 c3
      obtain ⟨M7, hM7⟩ : ∃ M7, how % 7 = M7 := ⟨_, rfl⟩
      have g6 : w2.cell? ⟨pr, 6, none⟩ = some (.slice none 0 0) := HS.out.row.cell (i := 6) (by omega)
      by_cases hgo : 1 ≤ wf ∧ wf ≤ wt ∧ wt ≤ (n : Int)
      rotate_left
      · -- there is none
        have hcase : wf < 1 ∨ (1 ≤ wf ∧ wt < wf) ∨ (1 ≤ wf ∧ wf ≤ wt ∧ (n : Int) < wt) := by omega
        clear hgo
        rcases hcase with q | ⟨q, q'⟩ | ⟨q, q', q''⟩
        all_goals
          by_cases h3 : M7 = 3
          · have u3 : (M7 == 3) = true := by rw [h3]; rfl
            clear h3
            go_wp2_with fail
            go_meet
            case rel => exact ⟨_, _, _, HS.out⟩
          · have u3 : (M7 == 3) = false := by rw [beq_eq_false_iff_ne]; exact h3
            clear h3
            go_wp2_with fail
            go_meet
            case rel => exact ⟨_, _, _, HS.out⟩
      · obtain ⟨g1, g2, g3⟩ := hgo
        obtain ⟨T, rfl⟩ := Int.eq_ofNat_of_zero_le (show 0 ≤ wt by omega)
        obtain ⟨O, rfl⟩ := Int.eq_ofNat_of_zero_le (show 0 ≤ wf by omega)
        have hT : T ≤ n := by omega
        have hOT : O ≤ T := by omega
        have hO1 : 1 ≤ O := by omega
        have HWT : Hid (∀ w', Below w2.heap.size w2 w' → Wide 2 w' a T cap (cells (l.take T))) := fun w' b' => wide_take (HRW.out.below b') T hT
        have HCL : Hid (∀ w', Below w2.heap.size w2 w' → Calls Tryz.prog 62 #[.slice a T cap] w' fun e w'' => ∃ v, e = .returned v ∧ ∃ zs : List Int, zs.length = T ∧ (∀ z ∈ zs, Nums.valid z = true) ∧ w''.ownsRow w'.heap.size 3 1 v zs.length (ints zs) ∧ Below w'.heap.size w' w'') := fun w' b' => WalkAnyLeaf.leafs_some (l.take T) a T cap w' (HWT.out w' b') (by omega) (fun e he => HD.out e (List.mem_of_mem_take he))
        have HCG : Hid (∀ (zs : List Int) (v : Value) (D : Nat) (w' : World), zs.length = T → (∀ z ∈ zs, Nums.valid z = true) → w'.ownsRow D 3 1 v zs.length (ints zs) → Calls Tryz.prog 61 #[v, .int .i64 (O : Int), .bool true] w' fun e w'' => ∃ u, e = .returned u ∧ ∃ q : List Int, q.length ≤ 201 ∧ w''.ownsRow w'.heap.size 3 1 u q.length (ints q) ∧ Below w'.heap.size w' w'') := by
          intro zs v D w' hz hv o
          obtain ⟨aa, cc, rfl, hrow, _⟩ := owns_row o
          refine (WalkGrowRef.grow_any (zs.length + 1) zs O (O : Int) true aa zs.length cc w' rfl (by omega) hO1 (by omega) (by omega) hrow hv).mono ?_
          rintro e w'' ⟨u, rfl, o2, b2⟩
          refine ⟨u, rfl, Grows.grow zs O true, ?_, o2, b2⟩
          rw [Grows.grow_length _ zs O true (Nat.le_refl _) hO1 (by omega)]
          have := Grows.gturns_le zs.length O zs.length (Nat.le_refl _)
          unfold Grows.gsteps
          split <;> omega
        have HW : Hid (∀ w', Below w2.heap.size w2 w' → w'.cell? ⟨pw, 1, none⟩ = some (.int .i64 (O : Int)) ∧ w'.cell? ⟨pw, 2, none⟩ = some (.int .i64 (T : Int))) := fun w' b' => ⟨Lists.cell_below b' hw1, Lists.cell_below b' hw2⟩
        have hTc : T ≤ cap := Nat.le_trans hT HRW.out.2.1
        have i1 : (T : Int) ≤ (cap : Int) := by omega
        go_upto_region 19 with fail
        obtain ⟨t1, t2⟩ := HW.out _ (Below.refl _ w2).drew
        clear hw0 hw1 hw2 g6
        go_region_held (fun w' => w'.cell? ⟨pw, 1, none⟩ = some (.int .i64 (O : Int)) ∧ w'.cell? ⟨pw, 2, none⟩ = some (.int .i64 (T : Int))) (first | exact ⟨t1, t2⟩ | go_keep)
          (first | (go_at_call 62; refine (HCL.out _ (Below.refl _ w2).drew).mono ?_; rintro e w5 ⟨vl, rfl, zs, z1, z2, o5, b5⟩; have HB5 : Hid (Below w2.heap.size w2 w5) := bt (Below.refl _ w2).drew b5; have HO5 : Hid (zs.length = T ∧ (∀ z ∈ zs, Nums.valid z = true) ∧ w5.ownsRow w2.drew.heap.size 3 1 vl zs.length (ints zs)) := ⟨z1, z2, o5⟩; obtain ⟨t1, t2⟩ := HW.out _ HB5.out; clear b5 z1 z2 o5) | (go_at_call 61; refine (HCG.out zs _ _ _ HO5.out.1 HO5.out.2.1 HO5.out.2.2).mono ?_; rintro e w6 ⟨ug, rfl, qs, y1, y2, b6⟩; have HB6 : Hid (Below w2.heap.size w2 w6) := bt HB5.out b6; have HO6 : Hid (qs.length ≤ 201 ∧ w6.ownsRow w5.heap.size 3 1 ug qs.length (ints qs)) := ⟨y1, y2⟩; obtain ⟨t1, t2⟩ := HW.out _ HB6.out; clear b6 y1 y2))
        have RS6 := HS.out.below HB6.out
        obtain ⟨y1, y2⟩ := HO6.out
        obtain ⟨vn, wn, rn, on, bn, fn⟩ := run_ints w6 w.heap.size _ ug qs y2 (by omega) RS6.bel.size
        have RSn := RS6.below bn
        have K8 : Kept (fun k => k = pr ∨ (Value.slice none 0 0).ownBlock = some k) w6 (wn.setCell ⟨pr, 6, none⟩ vn) := (Kept.of_below _ bn).setCell (.inl (.inl rfl)) _
        have on8 : (wn.setCell ⟨pr, 6, none⟩ vn).ownsRow w.heap.size 3 1 vn qs.length (ints qs) := owns_kept on ((Kept.refl (fun k => k = pr) wn).setCell (.inl rfl) _) fun i hi q => by have h1 := fn i hi; have h2 := RS6.row.lt; omega
        have HS8 : Hid (RS w (wn.setCell ⟨pr, 6, none⟩ vn) pw pe pr ⟨ww, (O : Int), (T : Int)⟩ ⟨ww, ⟨0, 0, 0, 0⟩, [], qs⟩ (.slice none 0 0) vn) := RS6.updP K8 (row_six RSn.row vn) on8 (fun i hi => .inr (fn i hi)) (by omega)
        have z6 : wn.cell? ⟨pr, 6, none⟩ = some (.slice none 0 0) := RSn.row.cell (i := 6) (by omega)
        have zf := RSn.row.frozen 6
        have y6 : w6.cell? ⟨pr, 6, none⟩ = some (.slice none 0 0) := RS6.row.cell (i := 6) (by omega)
        have hql : qs.length ≤ 201 := y1
        have rn' := rn 23
        obtain ⟨au, cu, rfl, _, _⟩ := owns_row y2
        obtain ⟨av, cv, rfl, _, _⟩ := owns_row on
        clear RS6 RSn K8 on8 on bn fn y1 y2 rn t1 t2 HCL HCG HWT HW HO5 HO6 HB5
        go_upto_region 21 with (at_builtin; go_must (refine Lib.wpList_append_run _ rfl (.tmp 124) (.tmp 125) 23 23 rfl _ _ rfl rfl _ _ rn' ?_))
        generalize wn.setCell ⟨pr, 6, none⟩ (.slice av qs.length cv) = w8 at HS8 ⊢
        have s6 : w8.cell? ⟨pr, 6, none⟩ = some (.slice av qs.length cv) := HS8.out.row.cell (i := 6) (by omega)
        clear z6 zf y6 rn'
        by_cases hA : M7 = 3 ∧ 0 < qs.length
        · obtain ⟨hA1, hA2⟩ := hA
          have u3 : (M7 == 3) = true := by rw [hA1]; rfl
          obtain ⟨y, rest, rfl⟩ : ∃ y rest, qs = y :: rest := by
            cases qs with
            | nil => simp at hA2
            | cons y rest => exact ⟨y, rest, rfl⟩
          obtain ⟨g, rfl⟩ : ∃ g, av = some ⟨g, 0, none⟩ := by
            rcases HS8.out.o6.2 with ⟨q, _⟩ | ⟨g, cap', cur, q, _⟩
            · simp at q
            · obtain ⟨q1, _⟩ : av = some ⟨g, 0, none⟩ ∧ cv = cap' := by simpa using q
              exact ⟨g, q1⟩
          have o6 := HS8.out.o6
          have z0 : w8.cell? ⟨g, 0, none⟩ = some (.int .i64 y) := by rw [World.ownsRow.cellAt o6 0 (by simp)]; rfl
          have zf := World.ownsRow.frozenAt o6 0
          have o7 := (World.ownsRow.stored o6 0 (.int .i64 1)).1
          have gne := HS8.out.a6 g rfl
          have HS9 : Hid (RS w (w8.setCell ⟨g, 0, none⟩ (.int .i64 1)) pw pe pr ⟨ww, (O : Int), (T : Int)⟩ ⟨ww, ⟨0, 0, 0, 0⟩, [], 1 :: rest⟩ (.slice none 0 0) (.slice (some ⟨g, 0, none⟩) (y :: rest).length cv)) :=
            HS8.out.updP (l := 1 :: rest) ((Kept.refl _ w8).setCell (.inl (.inr rfl)) _) (HS8.out.row.setOther (fun q => gne.1 q.symm) _) o7 (fun i hi => .inl hi) (by simp only [List.length_cons] at hql ⊢; omega)
          have hpos : (0 : Int) < ((y :: rest).length : Int) := by omega
          clear o6 o7 gne hA1 hA2
          generalize (y :: rest).length = N at *
          go_wp2_with fail
          go_meet
          case rel => exact ⟨_, _, _, HS9.out⟩
        · have hcase2 : (M7 = 3 ∧ qs.length = 0) ∨ M7 ≠ 3 := by omega
          generalize qs.length = N at *
          rcases hcase2 with ⟨u1, u2⟩ | u1
          · have u3 : (M7 == 3) = true := by rw [u1]; rfl
            subst u2
            clear hA u1
            go_wp2_with fail
            go_meet
            case rel => exact ⟨_, _, _, HS8.out⟩
          · have u3 : (M7 == 3) = false := by rw [beq_eq_false_iff_ne]; exact u1
            clear hA u1
            go_wp2_with fail
            go_meet
            case rel => exact ⟨_, _, _, HS8.out⟩
    · have e1 : (ww == 1) = false := by rw [beq_eq_false_iff_ne]; exact c1
      have e2 : (ww == 2) = false := by rw [beq_eq_false_iff_ne]; exact c2
      have e3 : (ww == 3) = false := by rw [beq_eq_false_iff_ne]; exact c3
      go_wp2_with fail
      go_meet
      case rel => exact ⟨_, _, _, HS.out⟩
  clear HS
  obtain ⟨r, v5, v6, hS⟩ := hcut
  obtain ⟨a5, c5, rfl, _⟩ := owns_wide hS.o5
  obtain ⟨a6, c6, rfl, _, _⟩ := owns_row hS.o6
  -- the end, whatever What is
  have HEND : Hid (∀ (q : Int) (wd : World), RS w wd pw pe pr ⟨ww, wf, wt⟩ ⟨q, r.head, r.ents, r.proof⟩ (.slice a5 r.ents.length c5) (.slice a6 r.proof.length c6) → Rep w (.returned (rv ⟨q, r.head, r.ents, r.proof⟩ a5 c5 a6 c6)) (put7 wd pe q r.head.size r.head.root r.head.time r.head.sign (.slice a5 r.ents.length c5) (.slice a6 r.proof.length c6))) := fun q wd h => h.rep (r := ⟨q, r.head, r.ents, r.proof⟩)
  obtain ⟨M, hM⟩ : ∃ M, how % 11 = M := ⟨_, rfl⟩
  have k0 := hS.row.cell (i := 0) (by omega)
  have k0' : wc.cell? ⟨pr, 0, none⟩ = some (.int .i64 r.what) := k0
  have kf := hS.row.frozen 0
  clear k0
  by_cases h5 : M = 5
  · have e5 : (M == 5) = true := by rw [h5]; rfl
    have e6 : (M == 6) = false := by rw [h5]; rfl
    have hD := hS.setWhat 0
    clear hS h5
    go_upto_region 25 with fail
    generalize wc.setCell ⟨pr, 0, none⟩ (.int .i64 0) = wd at hD ⊢
    have HD1 : Hid (RS w wd pw pe pr ⟨ww, wf, wt⟩ ⟨0, r.head, r.ents, r.proof⟩ (.slice a5 r.ents.length c5) (.slice a6 r.proof.length c6)) := hD
    obtain ⟨⟨p0, p1, p2, p3, p4, p5, p6⟩, ⟨q0, q1, q2, q3, q4, q5, q6⟩, ⟨f0, f1, f2, f3, f4, f5, f6⟩⟩ := hD.ends
    simp only at p0 p1 p2 p3 p4 p5 p6
    have HFI := HEND.out _ _ hD
    have HFIN : Hid (Rep w (.returned (rv ⟨0, r.head, r.ents, r.proof⟩ a5 c5 a6 c6)) (put7 wd pe 0 r.head.size r.head.root r.head.time r.head.sign (.slice a5 r.ents.length c5) (.slice a6 r.proof.length c6))) := HFI
    clear hD HFI HEND
    go_wp2_with fail
    refine bodyPost_ret (ret_reply _ rfl (put_seven HD1.out.res _ _ _ _ _ _ _)) rfl ?_
    exact HFIN.out
  have e5 : (M == 5) = false := by rw [beq_eq_false_iff_ne]; exact h5
  by_cases h6 : M = 6
  · have e6 : (M == 6) = true := by rw [h6]; rfl
    have hD := hS.setWhat (how % 4)
    clear hS h5 h6
    go_upto_region 27 with fail
    obtain ⟨Q4, HQ4⟩ : ∃ Q4, Hid (how % 4 = Q4) := ⟨_, rfl⟩
    rw [HQ4.out] at hD
    rw [show how % 4 = Q4 from HQ4.out]
    generalize wc.setCell ⟨pr, 0, none⟩ (.int .i64 Q4) = wd at hD ⊢
    have HD1 : Hid (RS w wd pw pe pr ⟨ww, wf, wt⟩ ⟨Q4, r.head, r.ents, r.proof⟩ (.slice a5 r.ents.length c5) (.slice a6 r.proof.length c6)) := hD
    obtain ⟨⟨p0, p1, p2, p3, p4, p5, p6⟩, ⟨q0, q1, q2, q3, q4, q5, q6⟩, ⟨f0, f1, f2, f3, f4, f5, f6⟩⟩ := hD.ends
    simp only at p0 p1 p2 p3 p4 p5 p6
    have HFI := HEND.out _ _ hD
    have HFIN : Hid (Rep w (.returned (rv ⟨Q4, r.head, r.ents, r.proof⟩ a5 c5 a6 c6)) (put7 wd pe Q4 r.head.size r.head.root r.head.time r.head.sign (.slice a5 r.ents.length c5) (.slice a6 r.proof.length c6))) := HFI
    clear hD HFI HEND
    go_wp2_with fail
    refine bodyPost_ret (ret_reply _ rfl (put_seven HD1.out.res _ _ _ _ _ _ _)) rfl ?_
    exact HFIN.out
  · have e6 : (M == 6) = false := by rw [beq_eq_false_iff_ne]; exact h6
    have hD : RS w wc pw pe pr ⟨ww, wf, wt⟩ ⟨r.what, r.head, r.ents, r.proof⟩ (.slice a5 r.ents.length c5) (.slice a6 r.proof.length c6) := hS
    clear hS h5 h6 k0' kf
    go_upto_region 27 with fail
    have HD1 : Hid (RS w wc pw pe pr ⟨ww, wf, wt⟩ ⟨r.what, r.head, r.ents, r.proof⟩ (.slice a5 r.ents.length c5) (.slice a6 r.proof.length c6)) := hD
    obtain ⟨⟨p0, p1, p2, p3, p4, p5, p6⟩, ⟨q0, q1, q2, q3, q4, q5, q6⟩, ⟨f0, f1, f2, f3, f4, f5, f6⟩⟩ := hD.ends
    simp only at p0 p1 p2 p3 p4 p5 p6
    have HFI := HEND.out _ _ hD
    have HFIN : Hid (Rep w (.returned (rv ⟨r.what, r.head, r.ents, r.proof⟩ a5 c5 a6 c6)) (put7 wc pe r.what r.head.size r.head.root r.head.time r.head.sign (.slice a5 r.ents.length c5) (.slice a6 r.proof.length c6))) := HFI
    clear hD HFI HEND
    go_wp2_with fail
    refine bodyPost_ret (ret_reply _ rfl (put_seven HD1.out.res _ _ _ _ _ _ _)) rfl ?_
    exact HFIN.out
end Go.Proofs.YtjacioplocmciagGreatDoor.WalkReplies
