/-
  What a call has that plays a log of batches against the document's own lsms: the log, the lsms, a list of pointers to them, a list of ints.
-/
import Derived.Test.YtofaegcljcpceagGreatDoorWalkWalOff
import Derived.Test.YtofaegcljcpceagGreatDoorLsmRef
namespace Go.Proofs.YtofaegcljcpceagGreatDoor.WalkWalHas
open Go.RowKit
open Lists (Row bt ints)
open Keeps (Kept owns_kept)
open Lsms (Lsm)
open LsmDoc (Dl)
open WalkMergeRef (DL)
open WalkWalOff (Off)
open Wals (Wal)

theorem dl_kept {S D : Nat → Prop} {w w' : World} {B g : Nat} {x : Lsm} (h : DL w B g D x) (k : Kept S w w') (hS : ∀ i, D i → ¬ S i) : DL w' B g D x := by
  obtain ⟨yv, lv, vs, hd⟩ := h
  exact ⟨yv, lv, vs, hd.kept k hS⟩
theorem dl_foot {D : Nat → Prop} {w : World} {B g : Nat} {x : Lsm} (h : DL w B g D x) : ∀ k, D k → B ≤ k ∧ k < w.heap.size := by
  obtain ⟨yv, lv, vs, hd⟩ := h
  exact hd.foot
def ptrs (gs : List Nat) : List Value := gs.map fun g => .pointer (some ⟨g, 0, none⟩)
theorem ptrs_get {gs : List Nat} {i : Nat} (h : i < gs.length) : (ptrs gs)[i]? = some (.pointer (some ⟨gs[i], 0, none⟩)) := by simp [ptrs, h]
/-- U: the blocks of the lsms; qs: which they are; dv: the pointers gs; mv: the ints ms -/
structure Has (w0 w : World) (b : Nat) (x : Wal) (U : Nat → Prop) (qs : List (Nat × Lsm)) (gs : List Nat) (ms : List Int) (dv mv : Value) : Prop where
  off : Off (fun k => U k ∨ dv.ownBlock = some k ∨ mv.ownBlock = some k) w0 b x w
  docs : ∀ q ∈ qs, ∃ D, DL w w0.heap.size q.1 D q.2 ∧ ∀ k, D k → U k
  done : w.ownsRow w0.heap.size 39 1 dv gs.length (ptrs gs)
  marks : w.ownsRow w0.heap.size 3 1 mv ms.length (ints ms)
  dU : ∀ k, dv.ownBlock = some k → ¬ U k
  mU : ∀ k, mv.ownBlock = some k → ¬ U k
  apart : ∀ k, dv.ownBlock = some k → mv.ownBlock ≠ some k
/-- the log has turned, nothing else -/
theorem Has.log {w0 w w' : World} {b : Nat} {x y : Wal} {U : Nat → Prop} {qs : List (Nat × Lsm)} {gs : List Nat} {ms : List Int} {dv mv : Value} (h : Has w0 w b x U qs gs ms dv mv)
    (o : Off (fun k => U k ∨ dv.ownBlock = some k ∨ mv.ownBlock = some k) w0 b y w') (k : Kept (fun k => ¬ (U k ∨ dv.ownBlock = some k ∨ mv.ownBlock = some k)) w w') : Has w0 w' b y U qs gs ms dv mv :=
  ⟨o, fun q hq => by
    obtain ⟨D, h1, h2⟩ := h.docs q hq
    exact ⟨D, dl_kept h1 k fun i hi n => n (.inl (h2 i hi)), h2⟩, owns_kept h.done k fun i hi n => n (.inr (.inl hi)), owns_kept h.marks k fun i hi n => n (.inr (.inr hi)), h.dU, h.mU, h.apart⟩
theorem Has.below {w0 w w' : World} {b : Nat} {x : Wal} {U : Nat → Prop} {qs : List (Nat × Lsm)} {gs : List Nat} {ms : List Int} {dv mv : Value} (h : Has w0 w b x U qs gs ms dv mv) (k : Below w.heap.size w w') : Has w0 w' b x U qs gs ms dv mv :=
  h.log (h.off.stays k) (Kept.of_below _ k)
/-- one more lsm, made of one that is there and of new blocks -/
theorem Has.learn {w0 w w' : World} {b g : Nat} {x : Wal} {y : Lsm} {U D : Nat → Prop} {qs : List (Nat × Lsm)} {gs : List Nat} {ms : List Int} {dv mv : Value} (h : Has w0 w b x U qs gs ms dv mv) (k : Below w.heap.size w w')
    (hd : DL w' w0.heap.size g D y) (hD : ∀ k, D k → U k ∨ w.heap.size ≤ k) : Has w0 w' b x (fun k => U k ∨ (w.heap.size ≤ k ∧ k < w'.heap.size)) (qs ++ [(g, y)]) gs ms dv mv := by
  have h1 := h.below k
  have hdl := h.done.lt
  have hml := h.marks.lt
  refine ⟨h.off.step (Kept.of_below (fun _ => False) k) (fun _ q => q.elim) fun i q => ?_, fun q hq => ?_, h1.done, h1.marks, fun i hi q => ?_, fun i hi q => ?_, h.apart⟩
  · rcases q with (q | q) | q
    · exact .inl (.inl q)
    · exact .inr q
    · exact .inl (.inr q)
  · rw [List.mem_append, List.mem_singleton] at hq
    rcases hq with hq | rfl
    · obtain ⟨D1, h2, h3⟩ := h1.docs q hq
      exact ⟨D1, h2, fun i hi => .inl (h3 i hi)⟩
    · exact ⟨D, hd, fun i hi => (hD i hi).imp id fun q => ⟨q, (dl_foot hd i hi).2⟩⟩
  · rcases q with q | q
    · exact h.dU i hi q
    · have := hdl i hi
      omega
  · rcases q with q | q
    · exact h.mU i hi q
    · have := hml i hi
      omega
/-- the list of pointers lies elsewhere, or is longer -/
theorem Has.setDone {w0 w w' : World} {b : Nat} {x : Wal} {U : Nat → Prop} {qs : List (Nat × Lsm)} {gs gs' : List Nat} {ms : List Int} {dv mv dv' : Value} (h : Has w0 w b x U qs gs ms dv mv)
    (k : Kept (fun k => dv.ownBlock = some k) w w') (ho : w'.ownsRow w0.heap.size 39 1 dv' gs'.length (ptrs gs')) (ha : ∀ k, dv'.ownBlock = some k → dv.ownBlock = some k ∨ w.heap.size ≤ k) : Has w0 w' b x U qs gs' ms dv' mv := by
  have hol := ho.lt
  have hml := h.marks.lt
  have hUl : ∀ k, U k → k < w.heap.size := fun i q => (h.off.foot i (.inl q)).2
  refine ⟨h.off.step k (fun i q => .inl (.inr (.inl q))) fun i q => ?_, fun q hq => ?_, ho, owns_kept h.marks k fun i hi q => h.apart i q hi, fun i hi q => ?_, h.mU, fun i hi q => ?_⟩
  · rcases q with q | q | q
    · exact .inl (.inl q)
    · rcases ha i q with q2 | q2
      · exact .inl (.inr (.inl q2))
      · exact .inr ⟨q2, (hol i q).2⟩
    · exact .inl (.inr (.inr q))
  · obtain ⟨D1, h2, h3⟩ := h.docs q hq
    exact ⟨D1, dl_kept h2 k fun i hi q2 => h.dU i q2 (h3 i hi), h3⟩
  · rcases ha i hi with q2 | q2
    · exact h.dU i q2 q
    · have := hUl i q
      omega
  · rcases ha i hi with q2 | q2
    · exact h.apart i q2 q
    · have := hml i q
      omega
theorem Has.setMarks {w0 w w' : World} {b : Nat} {x : Wal} {U : Nat → Prop} {qs : List (Nat × Lsm)} {gs : List Nat} {ms ms' : List Int} {dv mv mv' : Value} (h : Has w0 w b x U qs gs ms dv mv)
    (k : Kept (fun k => mv.ownBlock = some k) w w') (ho : w'.ownsRow w0.heap.size 3 1 mv' ms'.length (ints ms')) (ha : ∀ k, mv'.ownBlock = some k → mv.ownBlock = some k ∨ w.heap.size ≤ k) : Has w0 w' b x U qs gs ms' dv mv' := by
  have hol := ho.lt
  have hdl := h.done.lt
  have hUl : ∀ k, U k → k < w.heap.size := fun i q => (h.off.foot i (.inl q)).2
  refine ⟨h.off.step k (fun i q => .inl (.inr (.inr q))) fun i q => ?_, fun q hq => ?_, owns_kept h.done k fun i hi q => h.apart i hi q, ho, h.dU, fun i hi q => ?_, fun i hi q => ?_⟩
  · rcases q with q | q | q
    · exact .inl (.inl q)
    · exact .inl (.inr (.inl q))
    · rcases ha i q with q2 | q2
      · exact .inl (.inr (.inr q2))
      · exact .inr ⟨q2, (hol i q).2⟩
  · obtain ⟨D1, h2, h3⟩ := h.docs q hq
    exact ⟨D1, dl_kept h2 k fun i hi q2 => h.mU i q2 (h3 i hi), h3⟩
  · rcases ha i hi with q2 | q2
    · exact h.mU i q2 q
    · have := hUl i q
      omega
  · rcases ha i q with q2 | q2
    · exact h.apart i hi q2
    · have := hdl i hi
      omega
/-- both lists are cut -/
theorem Has.cut {w0 w : World} {b : Nat} {x : Wal} {U : Nat → Prop} {qs : List (Nat × Lsm)} {gs : List Nat} {ms : List Int} {g1 c1 g2 c2 : Nat} (h : Has w0 w b x U qs gs ms (.slice (some ⟨g1, 0, none⟩) gs.length c1) (.slice (some ⟨g2, 0, none⟩) ms.length c2)) (m : Nat) (h1 : m ≤ gs.length) (h2 : m ≤ ms.length) :
    Has w0 w b x U qs (gs.take m) (ms.take m) (.slice (some ⟨g1, 0, none⟩) m c1) (.slice (some ⟨g2, 0, none⟩) m c2) := by
  have d := Keeps.owns_take h.done m h1
  have e := Keeps.owns_take h.marks m h2
  refine ⟨h.off, h.docs, ?_, ?_, h.dU, h.mU, h.apart⟩
  · rw [List.length_take, Nat.min_eq_left h1]
    simpa [ptrs, List.map_take] using d
  · rw [List.length_take, Nat.min_eq_left h2]
    simpa [ints, List.map_take] using e

/-- one value in a new row -/
theorem lit_one (w : World) (v : Value) (t : TypeId) : (w.alloc (.cells #[v] t)).ownsRow w.heap.size t 1 (.slice (some ⟨w.heap.size, 0, none⟩) 1 1) 1 [v] :=
  ⟨rfl, .inr ⟨w.heap.size, 1, #[v], rfl, Nat.le_refl _, heap_alloc_new w _, Nat.le_refl _, by decide, rfl, rfl⟩⟩
theorem doc_new (w : World) (B m : Nat) (hB : B ≤ w.heap.size) : DL (w.alloc (.cells #[.int .i64 (m : Int), .slice none 0 0, .slice none 0 0] 41)) B w.heap.size (fun k => k = w.heap.size) ⟨m, [], []⟩ :=
  ⟨.slice none 0 0, .slice none 0 0, [], fun k q => by rw [q]; simp; omega, rfl, World.rowIs_alloc _ _ _ _ (fun j hj => by match j, hj with | 0, _ | 1, _ | 2, _ => rfl | j + 3, h => simp at h; omega), LsmRows.PRow.nil _, LsmDoc.In.nil _ _, ⟨none, 0, rfl, Row.nil _ _ _, fun _ => ⟨rfl, rfl⟩⟩, LsmDoc.In.nil _ _, LsmRows.LRows.nil _, fun v hv => by cases hv⟩
/-- a new log, one lsm of the document, a list of one pointer to it, a list of one int -/
theorem Has.start {w0 w : World} {b m : Nat} {F : Nat → Prop} {x : Wal} {t : Int} (wa : WalkWa.Wa w w0.heap.size b F x) (hb : Below w0.heap.size w0 w) :
    Has w0 (((w.alloc (.cells #[.int .i64 (m : Int), .slice none 0 0, .slice none 0 0] 41)).alloc (.cells #[.pointer (some ⟨w.heap.size, 0, none⟩)] 39)).alloc (.cells #[.int .i64 t] 3)) b x (fun k => k = w.heap.size) [(w.heap.size, ⟨m, [], []⟩)] [w.heap.size] [t] (.slice (some ⟨w.heap.size + 1, 0, none⟩) 1 1) (.slice (some ⟨w.heap.size + 2, 0, none⟩) 1 1) := by
  have d1 := doc_new w w0.heap.size m hb.size
  have k1 : Below w.heap.size w (w.alloc (.cells #[.int .i64 (m : Int), .slice none 0 0, .slice none 0 0] 41)) := (Below.refl _ _).alloc (Nat.le_refl _) _
  have s1 : (w.alloc (.cells #[.int .i64 (m : Int), .slice none 0 0, .slice none 0 0] 41)).heap.size = w.heap.size + 1 := by simp
  generalize w.alloc (.cells #[.int .i64 (m : Int), .slice none 0 0, .slice none 0 0] 41) = w1 at d1 k1 s1 ⊢
  have k2 : Below w1.heap.size w1 (w1.alloc (.cells #[.pointer (some ⟨w.heap.size, 0, none⟩)] 39)) := (Below.refl _ _).alloc (Nat.le_refl _) _
  have o2 := lit_one w1 (.pointer (some ⟨w.heap.size, 0, none⟩)) 39
  have s2 : (w1.alloc (.cells #[.pointer (some ⟨w.heap.size, 0, none⟩)] 39)).heap.size = w.heap.size + 2 := by simp [s1]
  rw [s1] at o2
  generalize w1.alloc (.cells #[.pointer (some ⟨w.heap.size, 0, none⟩)] 39) = w2 at k2 o2 s2 ⊢
  have k3 : Below w2.heap.size w2 (w2.alloc (.cells #[.int .i64 t] 3)) := (Below.refl _ _).alloc (Nat.le_refl _) _
  have o3 := lit_one w2 (.int .i64 t) 3
  have s3 : (w2.alloc (.cells #[.int .i64 t] 3)).heap.size = w.heap.size + 3 := by simp [s2]
  rw [s2] at o3
  generalize w2.alloc (.cells #[.int .i64 t] 3) = w3 at k3 o3 s3 ⊢
  have hbs := hb.size
  have k13 : Below w.heap.size w w3 := bt (bt k1 k2) k3
  have wf := wa.foot
  refine ⟨⟨⟨F, wa.kept (Kept.of_below (fun _ => False) k13) fun _ _ q => q, fun k q hf => ?_⟩, fun k q => ?_, bt hb k13⟩, fun q hq => ?_, ?_, ?_, fun k q => ?_, fun k q => ?_, fun k q q2 => ?_⟩
  · have := wf k hf
    simp [Value.ownBlock] at q
    omega
  · simp [Value.ownBlock] at q
    omega
  · rw [List.mem_singleton.1 hq]
    refine ⟨_, ?_, fun k q => q⟩
    exact dl_kept d1 (Kept.of_below (fun _ => False) (bt k2 k3)) fun _ _ q => q
  · exact Keeps.owns_base (owns_kept o2 (Kept.of_below (fun _ => False) k3) fun _ _ q => q) (by omega)
  · exact Keeps.owns_base o3 (by omega)
  · simp [Value.ownBlock] at q
    omega
  · simp [Value.ownBlock] at q
    omega
  · simp [Value.ownBlock] at q q2
    omega

end Go.Proofs.YtofaegcljcpceagGreatDoor.WalkWalHas
