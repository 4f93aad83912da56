/-
  The document's own lsm (package witref2), as an object in memory: its limit, its young pairs, its levels; and what of it stays.
-/
import Derived.Test.YtofaegcljcpceagGreatDoorLsmRows
import Derived.Deep.OwnRows
namespace Go.Proofs.YtofaegcljcpceagGreatDoor.LsmDoc
open Go.RowKit
open Lists (Row bt)
open Keeps (Kept)
open Wides (Wide)
open Stores (Pair)
open PairRows (cells)
open LsmRows (PRow LRows)
open Lsms (Lsm)

/-- the slice lies in D, and not at g -/
def In (D : Nat → Prop) (g : Nat) (v : Value) : Prop := ∀ ad n c, v = .slice (some ad) n c → D ad.block ∧ ad.block ≠ g
theorem In.nil (D : Nat → Prop) (g : Nat) : In D g (.slice none 0 0) := fun _ _ _ h => by cases h
theorem In.mono {D E : Nat → Prop} {g : Nat} {v : Value} (h : In D g v) (k : ∀ i, D i → E i) : In E g v := fun ad n c q => ⟨k _ (h ad n c q).1, (h ad n c q).2⟩
theorem wide_kept {S : Nat → Prop} {s : Nat} {w w' : World} {a : Option Addr} {n cap : Nat} {xs : List Value} (h : Wide s w a n cap xs) (k : Kept S w w') (hS : ∀ ad, a = some ad → ¬ S ad.block) : Wide s w' a n cap xs := by
  refine ⟨h.1, h.2.1, fun h0 => ?_⟩
  obtain ⟨b, off, rfl, hc⟩ := h.2.2 h0
  refine ⟨b, off, rfl, fun j u hj => ?_⟩
  have h1 := hc j u hj
  rw [k.cell (Lists.block_lt h1) (hS ⟨b, off, none⟩ rfl)]
  exact h1
theorem row_kept {S : Nat → Prop} {w w' : World} {a : Option Addr} {n cap : Nat} {xs : List Value} (h : Row w a n cap xs) (k : Kept S w w') (hS : ∀ ad, a = some ad → ¬ S ad.block) : Row w' a n cap xs := by
  refine ⟨h.1, h.2.1, fun h0 => ?_⟩
  obtain ⟨b, off, rfl, hc⟩ := h.2.2 h0
  refine ⟨b, off, rfl, fun j u hj => ?_⟩
  have h1 := hc j u hj
  rw [k.cell (Lists.block_lt h1) (hS ⟨b, off, none⟩ rfl)]
  exact h1
theorem prow_kept {S D : Nat → Prop} {g : Nat} {w w' : World} {v : Value} {l : List Pair} (h : PRow w v l) (hi : In D g v) (k : Kept S w w') (hS : ∀ i, D i → i ≠ g → ¬ S i) : PRow w' v l := by
  obtain ⟨a, cap, rfl, h2⟩ := h
  exact ⟨a, cap, rfl, wide_kept h2 k fun ad e => hS _ (hi ad _ _ (by rw [e])).1 (hi ad _ _ (by rw [e])).2⟩

/-- the cells of one -/
def parts (limit : Nat) (y l : Value) (j : Nat) : Value := if j = 0 then .int .i64 (limit : Int) else if j = 1 then y else l
/-- the document's lsm x in block g; D: its blocks -/
structure Dl (w : World) (B g : Nat) (D : Nat → Prop) (x : Lsm) (yv lv : Value) (vs : List Value) : Prop where
  foot : ∀ k, D k → B ≤ k ∧ k < w.heap.size
  own : D g
  lies : w.rowIs g 41 3 (parts x.limit yv lv)
  young : PRow w yv x.young
  yin : In D g yv
  levels : ∃ a cap, lv = .slice a x.levels.length cap ∧ Row w a x.levels.length cap vs ∧ (x.levels = [] → a = none ∧ cap = 0)
  lin : In D g lv
  rows : LRows w vs x.levels
  rin : ∀ v ∈ vs, In D g v
theorem Dl.kept {S D : Nat → Prop} {w w' : World} {B g : Nat} {x : Lsm} {yv lv : Value} {vs : List Value} (h : Dl w B g D x yv lv vs) (k : Kept S w w') (hS : ∀ i, D i → ¬ S i) : Dl w' B g D x yv lv vs := by
  obtain ⟨a, cap, h1, h2, h3⟩ := h.levels
  refine ⟨fun i hi => ⟨(h.foot i hi).1, Nat.lt_of_lt_of_le (h.foot i hi).2 k.size⟩, h.own, h.lies.of_block (k.block _ h.lies.lt (hS _ h.own)), prow_kept h.young h.yin k (fun i q _ => hS i q), h.yin, ?_, h.lin, ?_, h.rin⟩
  · refine ⟨a, cap, h1, row_kept h2 k fun ad e => hS _ (h.lin ad _ _ (by rw [h1, e])).1, h3⟩
  · refine ⟨h.rows.1, fun i hi hr => prow_kept (h.rows.2 i hi hr) (h.rin _ (List.getElem_mem hi)) k fun i q _ => hS i q⟩
theorem Dl.below {D : Nat → Prop} {w w' : World} {B g : Nat} {x : Lsm} {yv lv : Value} {vs : List Value} (h : Dl w B g D x yv lv vs) (b : Below w.heap.size w w') : Dl w' B g D x yv lv vs := h.kept (Kept.of_below (fun _ => False) b) fun _ _ q => q
/-- a field is written: the young ones -/
theorem Dl.setYoung {D E : Nat → Prop} {w : World} {B g : Nat} {x : Lsm} {yv lv nv : Value} {vs : List Value} {l : List Pair} (h : Dl w B g D x yv lv vs) (hD : ∀ i, D i → E i) (hE : ∀ i, E i → B ≤ i ∧ i < w.heap.size) (hp : PRow w nv l) (hi : In E g nv) :
    Dl (w.setCell ⟨g, 1, none⟩ nv) B g E { x with young := l } nv lv vs ∧ Kept (fun k => k = g) w (w.setCell ⟨g, 1, none⟩ nv) := by
  have k : Kept (fun k => k = g) w (w.setCell ⟨g, 1, none⟩ nv) := (Kept.refl (fun k => k = g) w).setCell (p := ⟨g, 1, none⟩) (.inl rfl) nv
  obtain ⟨a, cap, h1, h2, h3⟩ := h.levels
  refine ⟨⟨fun i hi' => by simpa [World.setCell] using hE i hi', hD _ h.own, (h.lies.set 1 nv).congr (fun j hj => by match j, hj with | 0, _ | 1, _ | 2, _ => rfl | j + 3, q => omega), prow_kept hp hi k (fun i _ q r => q r), hi, ?_, h.lin.mono hD, ?_, fun v hv => (h.rin v hv).mono hD⟩, k⟩
  · exact ⟨a, cap, h1, row_kept h2 k fun ad e q => (h.lin ad _ _ (by rw [h1, e])).2 q, h3⟩
  · exact ⟨h.rows.1, fun i hi' hr => prow_kept (h.rows.2 i hi' hr) (h.rin _ (List.getElem_mem hi')) k fun i _ q r => q r⟩
/-- a field is written: the levels -/
theorem Dl.setLevels {D E : Nat → Prop} {w : World} {B g : Nat} {x : Lsm} {yv lv : Value} {vs ws : List Value} {r : List (List Pair)} {a : Option Addr} {cap : Nat} (h : Dl w B g D x yv lv vs) (hD : ∀ i, D i → E i) (hE : ∀ i, E i → B ≤ i ∧ i < w.heap.size)
    (hr : Row w a r.length cap ws) (hn : r = [] → a = none ∧ cap = 0) (hi : In E g (.slice a r.length cap)) (hl : LRows w ws r) (hw : ∀ v ∈ ws, In E g v) :
    Dl (w.setCell ⟨g, 2, none⟩ (.slice a r.length cap)) B g E { x with levels := r } yv (.slice a r.length cap) ws ∧ Kept (fun k => k = g) w (w.setCell ⟨g, 2, none⟩ (.slice a r.length cap)) := by
  have k : Kept (fun k => k = g) w (w.setCell ⟨g, 2, none⟩ (.slice a r.length cap)) := (Kept.refl (fun k => k = g) w).setCell (p := ⟨g, 2, none⟩) (.inl rfl) _
  refine ⟨⟨fun i hi' => by simpa [World.setCell] using hE i hi', hD _ h.own, (h.lies.set 2 _).congr (fun j hj => by match j, hj with | 0, _ | 1, _ | 2, _ => rfl | j + 3, q => omega), prow_kept h.young h.yin k (fun i _ q r => q r), h.yin.mono hD, ?_, hi, ?_, hw⟩, k⟩
  · exact ⟨a, cap, rfl, row_kept hr k fun ad e q => (hi ad _ _ (by rw [e])).2 q, hn⟩
  · exact ⟨hl.1, fun i hi' hr => prow_kept (hl.2 i hi' hr) (hw _ (List.getElem_mem hi')) k fun i _ q r => q r⟩

end Go.Proofs.YtofaegcljcpceagGreatDoor.LsmDoc
