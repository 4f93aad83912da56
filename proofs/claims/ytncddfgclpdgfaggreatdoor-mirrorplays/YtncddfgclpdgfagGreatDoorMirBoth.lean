/-
  Two mirrors of the call's own, the program's and the document's, apart from each other, and a reply that both hear.
-/
import Derived.Test.YtncddfgclpdgfagGreatDoorWalkMi
import Derived.Test.YtncddfgclpdgfagGreatDoorWalkMirHear
import Derived.Test.YtncddfgclpdgfagGreatDoorHeadRows
import Derived.Laws.StructEq
namespace Go.Proofs.YtncddfgclpdgfagGreatDoor.MirBoth
open Go.RowKit
open Lists (Row bt ints)
open Keeps (Kept owns_kept)
open Wides (Wide owns_wide)
open Entries (Entry entE entsE)
open EntRows (cells)
open Errs (errv)
open Mirrors (Mir Reply Want Ok hearE hearM rootE)
open ReplyRows (RFine RAt)
open MirDoc (Dm Lay)
open MirVals (rv cell7)
open MirVals (wv)
open WalkMi (Mi Asks)

theorem wide_kept {S : Nat → Prop} {s : Nat} {w w' : World} {a : Option Addr} {n cap : Nat} {xs : List Value} (h : Wide s w a n cap xs) (k : Kept S w w') (hS : ∀ p, 0 < n → a = some p → ¬ S p.block) : Wide s w' a n cap xs := by
  refine ⟨h.1, h.2.1, fun h0 => ?_⟩
  obtain ⟨b, off, rfl, hc⟩ := h.2.2 h0
  refine ⟨b, off, rfl, fun j u hj => ?_⟩
  have h1 := hc j u hj
  rw [k.cell (Lists.block_lt h1) (hS ⟨b, off, none⟩ h0 rfl)]
  exact h1
theorem row_kept {S : Nat → Prop} {w w' : World} {a : Option Addr} {n cap : Nat} {xs : List Value} (h : Row w a n cap xs) (k : Kept S w w') (hS : ∀ p, 0 < n → a = some p → ¬ S p.block) : Row w' a n cap xs := by
  refine ⟨h.1, h.2.1, fun h0 => ?_⟩
  obtain ⟨b, off, rfl, hc⟩ := h.2.2 h0
  refine ⟨b, off, rfl, fun j u hj => ?_⟩
  have h1 := hc j u hj
  rw [k.cell (Lists.block_lt h1) (hS ⟨b, off, none⟩ h0 rfl)]
  exact h1
theorem wide_lt {s : Nat} {w : World} {a : Option Addr} {n cap : Nat} {xs : List Value} (hs : 0 < s) (h : Wide s w a n cap xs) : ∀ p, 0 < n → a = some p → p.block < w.heap.size := by
  intro p h0 hp
  obtain ⟨b, off, ha, hc⟩ := h.2.2 h0
  rw [hp] at ha
  obtain rfl : p = ⟨b, off, none⟩ := by simpa using ha
  have hl : 0 < xs.length := by rw [h.1]; exact Nat.mul_pos h0 hs
  exact Lists.block_lt (hc 0 _ (List.getElem?_eq_getElem hl))
theorem row_lt {w : World} {a : Option Addr} {n cap : Nat} {xs : List Value} (h : Row w a n cap xs) : ∀ p, 0 < n → a = some p → p.block < w.heap.size := by
  intro p h0 hp
  obtain ⟨b, off, ha, hc⟩ := h.2.2 h0
  rw [hp] at ha
  obtain rfl : p = ⟨b, off, none⟩ := by simpa using ha
  have hl : 0 < xs.length := by rw [h.1]; exact h0
  exact Lists.block_lt (hc 0 _ (List.getElem?_eq_getElem hl))

/-- the program's in block bx, the document's in block bm; all of their blocks are among G -/
structure Both (w0 w : World) (bx bm : Nat) (G : Nat → Prop) (key : Int) (mx md : Mir) : Prop where
  lies : ∃ F D, Mi w w0.heap.size bx F key mx ∧ Dm w w0.heap.size bm D key md ∧ (∀ k, F k → ¬ D k) ∧ ∀ k, F k ∨ D k → G k
  foot : ∀ k, G k → w0.heap.size ≤ k ∧ k < w.heap.size
  bel : Below w0.heap.size w0 w
theorem Both.kept {S G : Nat → Prop} {w0 w w' : World} {bx bm : Nat} {key : Int} {mx md : Mir} (h : Both w0 w bx bm G key mx md) (k : Kept S w w') (hS : ∀ i, S i → ¬ G i ∧ w0.heap.size ≤ i) : Both w0 w' bx bm G key mx md := by
  obtain ⟨F, D, h1, h2, h3, h4⟩ := h.lies
  exact ⟨⟨F, D, h1.kept k fun i q s => (hS i s).1 (h4 i (.inl q)), h2.kept k fun i q s => (hS i s).1 (h4 i (.inr q)), h3, h4⟩, fun i q => ⟨(h.foot i q).1, Nat.lt_of_lt_of_le (h.foot i q).2 k.size⟩, h.bel.trans (k.below (fun i q => (hS i q).2) h.bel.size)⟩
theorem Both.below {G : Nat → Prop} {w0 w w' : World} {bx bm : Nat} {key : Int} {mx md : Mir} (h : Both w0 w bx bm G key mx md) (k : Below w.heap.size w w') : Both w0 w' bx bm G key mx md := h.kept (Kept.of_below (fun _ => False) k) fun _ q => q.elim

/-- a reply in block pr, its lists, all apart from the blocks G -/
structure RO (w : World) (pr : Nat) (r : Reply) (a5 : Option Addr) (c5 : Nat) (a6 : Option Addr) (c6 : Nat) (G : Nat → Prop) : Prop where
  row : w.rowIs pr 65 7 (cell7 r.what r.head.size r.head.root r.head.time r.head.sign (.slice a5 r.ents.length c5) (.slice a6 r.proof.length c6))
  ents : Wide 2 w a5 r.ents.length c5 (cells r.ents)
  proof : Row w a6 r.proof.length c6 (ints r.proof)
  off : ¬ G pr
  off5 : ∀ p, 0 < r.ents.length → a5 = some p → ¬ G p.block
  off6 : ∀ p, 0 < r.proof.length → a6 = some p → ¬ G p.block
  fine : RFine r
theorem RO.next {w w' : World} {pr : Nat} {r : Reply} {a5 : Option Addr} {c5 : Nat} {a6 : Option Addr} {c6 : Nat} {G G' : Nat → Prop} (h : RO w pr r a5 c5 a6 c6 G) (k : Kept G w w') (hG : ∀ i, G' i → G i ∨ w.heap.size ≤ i) : RO w' pr r a5 c5 a6 c6 G' := by
  refine ⟨h.row.of_block (k.block pr h.row.lt h.off), wide_kept h.ents k h.off5, row_kept h.proof k h.off6, fun q => ?_, fun p h0 hp q => ?_, fun p h0 hp q => ?_, h.fine⟩
  · rcases hG _ q with q | q
    · exact h.off q
    · have := h.row.lt
      omega
  · rcases hG _ q with q | q
    · exact h.off5 p h0 hp q
    · have := wide_lt (by omega) h.ents p h0 hp
      omega
  · rcases hG _ q with q | q
    · exact h.off6 p h0 hp q
    · have := row_lt h.proof p h0 hp
      omega
theorem RO.below {w w' : World} {pr : Nat} {r : Reply} {a5 : Option Addr} {c5 : Nat} {a6 : Option Addr} {c6 : Nat} {G : Nat → Prop} (h : RO w pr r a5 c5 a6 c6 G) (k : Below w.heap.size w w') : RO w' pr r a5 c5 a6 c6 G := h.next (Kept.of_below G k) fun _ q => .inl q

/-! what is asked of both -/
theorem hear_doc {G : Nat → Prop} {w0 w : World} {bx bm pr : Nat} {key : Int} {mx md : Mir} (h : Both w0 w bx bm G key mx md) (ho : Ok key md) {r : Reply} {a5 : Option Addr} {c5 : Nat} {a6 : Option Addr} {c6 : Nat} (hr : RO w pr r a5 c5 a6 c6 G) :
    Calls Tryz.prog 25 #[.pointer (some ⟨bm, 0, none⟩), rv r a5 c5 a6 c6] w fun e w' => e = .returned (.int .i64 (hearE key md r : Nat)) ∧ ∃ G', Both w0 w' bx bm G' key mx (hearM key md r) ∧ RO w' pr r a5 c5 a6 c6 G' := by
  obtain ⟨F, D, h1, ⟨v1, v2, hl, hD⟩, h3, h4⟩ := h.lies
  refine (WalkMirHear.hear_any hl ho r hr.fine a5 c5 a6 c6 hr.ents hr.proof).mono ?_
  rintro e w' ⟨rfl, v1', v2', hl', kk, hn⟩
  have kG : Kept G w w' := kk.mono fun i q => h4 i (.inr ((hD i).2 q))
  refine ⟨rfl, fun k => G k ∨ (w.heap.size ≤ k ∧ k < w'.heap.size), ⟨⟨F, MirDoc.foot bm v1' v2', h1.kept kk fun i q s => h3 i q ((hD i).2 s), ⟨v1', v2', hl', fun _ => Iff.rfl⟩, fun k q s => ?_, fun k q => ?_⟩, fun k q => ?_, h.bel.trans (kG.below (fun i q => (h.foot i q).1) h.bel.size)⟩, hr.next kG fun i q => q.imp id fun q => q.1⟩
  · rcases hn k s with s | s
    · exact h3 k q ((hD k).2 s)
    · have := (h1.foot k q).2
      omega
  · rcases q with q | q
    · exact .inl (h4 k (.inl q))
    · rcases hn k q with s | s
      · exact .inl (h4 k (.inr ((hD k).2 s)))
      · exact .inr ⟨s, (hl'.foot_lt k q).2⟩
  · rcases q with q | q
    · exact ⟨(h.foot k q).1, Nat.lt_of_lt_of_le (h.foot k q).2 kk.size⟩
    · exact ⟨Nat.le_trans h.bel.size q.1, q.2⟩
theorem hear_prog {G : Nat → Prop} {w0 w : World} {bx bm pr : Nat} {key : Int} {mx md : Mir} (h : Both w0 w bx bm G key mx md) (hA : Asks w) (ho : Ok key mx) {r : Reply} {a5 : Option Addr} {c5 : Nat} {a6 : Option Addr} {c6 : Nat} (hr : RO w pr r a5 c5 a6 c6 G) :
    Calls Tryz.prog 26 #[.pointer (some ⟨bx, 0, none⟩), rv r a5 c5 a6 c6] w fun e w' => e = .returned (errv (hearE key mx r)) ∧ ∃ G', Both w0 w' bx bm G' key (hearM key mx r) md ∧ RO w' pr r a5 c5 a6 c6 G' := by
  obtain ⟨F, D, h1, h2, h3, h4⟩ := h.lies
  refine (WalkMi.hear_any h1 hA ho r hr.fine a5 c5 a6 c6 hr.ents hr.proof (fun p h0 hp q => hr.off5 p h0 hp (h4 _ (.inl q))) (fun p h0 hp q => hr.off6 p h0 hp (h4 _ (.inl q)))).mono ?_
  rintro e w' ⟨rfl, ⟨F', h1', hn⟩, kk⟩
  have kG : Kept G w w' := kk.mono fun i q => h4 i (.inl q)
  refine ⟨rfl, fun k => G k ∨ (w.heap.size ≤ k ∧ k < w'.heap.size), ⟨⟨F', D, h1', h2.kept kk fun i q s => h3 i s q, fun k q s => ?_, fun k q => ?_⟩, fun k q => ?_, h.bel.trans (kG.below (fun i q => (h.foot i q).1) h.bel.size)⟩, hr.next kG fun i q => q.imp id fun q => q.1⟩
  · rcases hn k q with q | q
    · exact h3 k q s
    · have := (h2.foot k s).2
      omega
  · rcases q with q | q
    · rcases hn k q with s | s
      · exact .inl (h4 k (.inl s))
      · exact .inr ⟨s, (h1'.foot k q).2⟩
    · exact .inl (h4 k (.inr q))
  · rcases q with q | q
    · exact ⟨(h.foot k q).1, Nat.lt_of_lt_of_le (h.foot k q).2 kk.size⟩
    · exact ⟨Nat.le_trans h.bel.size q.1, q.2⟩
theorem waits_few {key : Int} {m : Mir} (ho : Ok key m) : m.waits.length ≤ 200 := by
  by_cases h : m.next.size = 0
  · rw [(ho.none h).2]
    exact Nat.zero_le _
  · obtain ⟨h1, _, h3, _⟩ := ho.some h
    have h4 := (Mirrors.size_ok h1).2
    have h5 : (m.has : Int) = ((m.own.length + m.waits.length : Nat) : Int) := rfl
    omega
theorem own_fine {key : Int} {m : Mir} (ho : Ok key m) : entsE m.own = 0 := Entries.ents_of ho.few fun e he => ho.own e he
theorem want_doc {G : Nat → Prop} {w0 w : World} {bx bm : Nat} {key : Int} {mx md : Mir} (h : Both w0 w bx bm G key mx md) (ho : Ok key md) :
    Calls Tryz.prog 24 #[.pointer (some ⟨bm, 0, none⟩)] w fun e w' => e = .returned (wv md.want) ∧ Below w.heap.size w w' := by
  obtain ⟨F, D, h1, ⟨v1, v2, hl, hD⟩, h3, h4⟩ := h.lies
  exact WalkMirRef.want_any hl ho.few (waits_few ho)
theorem root_doc {G : Nat → Prop} {w0 w : World} {bx bm : Nat} {key : Int} {mx md : Mir} (h : Both w0 w bx bm G key mx md) (ho : Ok key md) :
    Calls Tryz.prog 32 #[.pointer (some ⟨bm, 0, none⟩)] w fun e w' => e = .returned (.int .i64 (rootE md.own)) ∧ Below w.heap.size w w' := by
  obtain ⟨F, D, h1, ⟨v1, v2, hl, hD⟩, h3, h4⟩ := h.lies
  exact WalkMirRef.root_any hl (own_fine ho)
/-- the document's own entries and its head, as they lie -/
theorem doc_cells {G : Nat → Prop} {w0 w : World} {bx bm : Nat} {key : Int} {mx md : Mir} (h : Both w0 w bx bm G key mx md) :
    ∃ a1 c1, (w.cell? ⟨bm, 1, none⟩ = some (.slice a1 md.own.length c1) ∧ w.cell? ⟨bm, 2, none⟩ = some (.int .i64 md.head.size) ∧ w.cell? ⟨bm, 3, none⟩ = some (.int .i64 md.head.root) ∧ w.cell? ⟨bm, 4, none⟩ = some (.int .i64 md.head.time) ∧ w.cell? ⟨bm, 5, none⟩ = some (.int .i64 md.head.sign)) ∧ Wide 2 w a1 md.own.length c1 (cells md.own) := by
  obtain ⟨F, D, h1, ⟨v1, v2, hl, hD⟩, h3, h4⟩ := h.lies
  obtain ⟨a1, c1, rfl, hw⟩ := owns_wide hl.own
  exact ⟨a1, c1, ⟨hl.row.cell (i := 1) (by omega), hl.row.cell (i := 2) (by omega), hl.row.cell (i := 3) (by omega), hl.row.cell (i := 4) (by omega), hl.row.cell (i := 5) (by omega)⟩, hw⟩
theorem want_prog {G : Nat → Prop} {w0 w : World} {bx bm : Nat} {key : Int} {mx md : Mir} (h : Both w0 w bx bm G key mx md) (ho : Ok key mx) :
    Calls Tryz.prog 29 #[.pointer (some ⟨bx, 0, none⟩)] w fun e w' => e = .returned (wv mx.want) ∧ Below w.heap.size w w' := by
  obtain ⟨F, D, h1, _⟩ := h.lies
  exact WalkMi.want_any h1 ho
theorem size_prog {G : Nat → Prop} {w0 w : World} {bx bm : Nat} {key : Int} {mx md : Mir} (h : Both w0 w bx bm G key mx md) :
    Calls Tryz.prog 30 #[.pointer (some ⟨bx, 0, none⟩)] w fun e w' => e = .returned (.int .i64 (mx.own.length : Nat)) ∧ Below w.heap.size w w' := by
  obtain ⟨F, D, h1, _⟩ := h.lies
  exact WalkMi.size_any h1
theorem root_prog {G : Nat → Prop} {w0 w : World} {bx bm : Nat} {key : Int} {mx md : Mir} (h : Both w0 w bx bm G key mx md) (ho : Ok key mx) :
    Calls Tryz.prog 31 #[.pointer (some ⟨bx, 0, none⟩)] w fun e w' => e = .returned (.int .i64 (rootE mx.own)) ∧ Below w.heap.size w w' := by
  obtain ⟨F, D, h1, _⟩ := h.lies
  exact WalkMi.root_any h1 ho
theorem head_prog {G : Nat → Prop} {w0 w : World} {bx bm : Nat} {key : Int} {mx md : Mir} (h : Both w0 w bx bm G key mx md) :
    Calls Tryz.prog 33 #[.pointer (some ⟨bx, 0, none⟩)] w fun e w' => e = .returned (HeadVals.hv mx.head) ∧ Below w.heap.size w w' := by
  obtain ⟨F, D, h1, _⟩ := h.lies
  exact WalkMi.head_any h1
theorem entries_prog {G : Nat → Prop} {w0 w : World} {bx bm : Nat} {key : Int} {mx md : Mir} (h : Both w0 w bx bm G key mx md) (ho : Ok key mx) :
    Calls Tryz.prog 28 #[.pointer (some ⟨bx, 0, none⟩)] w fun e w' => ∃ v, e = .returned v ∧ w'.ownsRow w.heap.size 108 2 v mx.own.length (cells mx.own) ∧ Below w.heap.size w w' := by
  obtain ⟨F, D, h1, _⟩ := h.lies
  exact WalkMi.entries_any h1 ho

/-! structs of ints held against themselves -/
theorem want_neq (a b c : Int) (w : World) : (binOp .neq 68 (.agg #[.int .i64 a, .int .i64 b, .int .i64 c]) (.agg #[.int .i64 a, .int .i64 b, .int .i64 c])).run Tryz.prog w = .ok (.bool false) w := by
  have hf : Tryz.prog.underlying 68 = some (.struct (Tryz.prog.fieldsOf 68)) := by kernel_rfl
  have hp : Tryz.prog.stoodInHeld 68 = false := by kernel_rfl
  rw [run_neq_struct, run_equalIn_agg w 9999 _ _ _ hf hp]
  simp only [Program.fieldsOf, Tryz.underlying68]
  rw [show (9999 : Nat) = 9998 + 1 from rfl]
  generalize (9998 : Nat) = d
  have h1 : ∀ x : Int, (Op.equalIn (d + 1) 3 (.int .i64 x) (.int .i64 x)).run Tryz.prog w = .ok true w := fun x => by rw [run_equalIn_int w d _ .i64 .i64 x x Tryz.underlying3, beq_self_eq_true]
  have p1 : (part 3 #[.int .i64 a, .int .i64 b, .int .i64 c] 0).run Tryz.prog w = .ok (.int .i64 a) w := by simp [part]
  have p2 : (part 3 #[.int .i64 a, .int .i64 b, .int .i64 c] 1).run Tryz.prog w = .ok (.int .i64 b) w := by simp [part]
  have p3 : (part 3 #[.int .i64 a, .int .i64 b, .int .i64 c] 2).run Tryz.prog w = .ok (.int .i64 c) w := by simp [part]
  simp [Op.eqFields, p1, p2, p3, h1]
theorem head_neq (a b c e : Int) (w : World) : (binOp .neq 60 (.agg #[.int .i64 a, .int .i64 b, .int .i64 c, .int .i64 e]) (.agg #[.int .i64 a, .int .i64 b, .int .i64 c, .int .i64 e])).run Tryz.prog w = .ok (.bool false) w := by
  have hf : Tryz.prog.underlying 60 = some (.struct (Tryz.prog.fieldsOf 60)) := by kernel_rfl
  have hp : Tryz.prog.stoodInHeld 60 = false := by kernel_rfl
  rw [run_neq_struct, run_equalIn_agg w 9999 _ _ _ hf hp]
  simp only [Program.fieldsOf, Tryz.underlying60]
  rw [show (9999 : Nat) = 9998 + 1 from rfl]
  generalize (9998 : Nat) = d
  have h1 : ∀ x : Int, (Op.equalIn (d + 1) 3 (.int .i64 x) (.int .i64 x)).run Tryz.prog w = .ok true w := fun x => by rw [run_equalIn_int w d _ .i64 .i64 x x Tryz.underlying3, beq_self_eq_true]
  have p1 : (part 3 #[.int .i64 a, .int .i64 b, .int .i64 c, .int .i64 e] 0).run Tryz.prog w = .ok (.int .i64 a) w := by simp [part]
  have p2 : (part 3 #[.int .i64 a, .int .i64 b, .int .i64 c, .int .i64 e] 1).run Tryz.prog w = .ok (.int .i64 b) w := by simp [part]
  have p3 : (part 3 #[.int .i64 a, .int .i64 b, .int .i64 c, .int .i64 e] 2).run Tryz.prog w = .ok (.int .i64 c) w := by simp [part]
  have p4 : (part 3 #[.int .i64 a, .int .i64 b, .int .i64 c, .int .i64 e] 3).run Tryz.prog w = .ok (.int .i64 e) w := by simp [part]
  simp [Op.eqFields, p1, p2, p3, p4, h1]

end Go.Proofs.YtncddfgclpdgfagGreatDoor.MirBoth
