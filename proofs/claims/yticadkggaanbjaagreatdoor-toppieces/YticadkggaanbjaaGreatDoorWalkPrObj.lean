/-
  A tree of the call's own of which the root is known: its block, its map of known leafs, and the proofs that it keeps.
-/
import Derived.Test.YticadkggaanbjaaGreatDoorPrunes
import Derived.Test.YticadkggaanbjaaGreatDoorListRows
import Derived.Test.YticadkggaanbjaaGreatDoorRows
import Derived.Maps.OwnSet
import Derived.Deep.OwnRows
set_option maxRecDepth 100000
namespace Go.Proofs.YticadkggaanbjaaGreatDoor.WalkPrObj
open Go.RowKit
open Lists (Row ints bt)
open Keeps (Kept)
open Prunes

/-- an element of the map, read as it stands -/
def asIs (v : Value) : Option (DataW Value × List MemPlace) := some (.held v, [])
abbrev owns (w : World) (b n : Nat) (D : DataW Value) : Prop := w.ownsMap Tryz.prog 3 asIs b n D
/-- a leaf as a value -/
def lv (s : Int) (a : Option Addr) (n c : Nat) : Value := .agg #[.int .i64 s, .slice a n c]
def zd : DataW Value := .held (lv 0 none 0 0)
def key (i : Nat) : Lit := .int .i64 (i : Int)

theorem keyed : Maps.Keyed Tryz.prog 3 := Maps.int_keyed Tryz.underlying3
theorem key_of {i : Nat} (h : i < 1000) : keyOf Tryz.prog 3 (.int .i64 (i : Int)) = some (key i) := Maps.keyOf_int_mk Tryz.underlying3 (by
  show (decide (IntKind.i64.min ≤ (i : Int)) && decide ((i : Int) ≤ IntKind.i64.max)) = true
  rw [show IntKind.i64.min = -9223372036854775808 from rfl, show IntKind.i64.max = 9223372036854775807 from rfl, decide_eq_true (by omega), decide_eq_true (by omega)]
  rfl)
theorem key_lit (i : Nat) : WideAt.IsKeyLit (key i) := by unfold key; trivial
theorem key_ne {i j : Nat} (h : i ≠ j) : key i ≠ key j := fun e => by
  unfold key at e
  simp only [Lit.int.injEq, true_and] at e
  omega
theorem owns_exact {w : World} {b n : Nat} {D : DataW Value} (h : owns w b n D) : owns w b (Maps.size D) D := by
  obtain ⟨es, clock, hb, F, _, rfl⟩ := h
  exact ⟨es, clock, hb, F, by simp [Maps.size, length_sorted], rfl⟩
theorem owns_block {w w' : World} {b n : Nat} {D : DataW Value} (h : owns w b n D) (e : w'.heap[b]? = w.heap[b]?) : owns w' b n D := by
  obtain ⟨es, clock, hb, r⟩ := h
  exact ⟨es, clock, by rw [e]; exact hb, r⟩

/-- what the map keeps of a leaf lies in blocks of F -/
structure Kp (w : World) (F : Nat → Prop) (s : Int) (p : List Int) (d : DataW Value) : Prop where
  core : ∃ a c, d = .held (lv s a p.length c) ∧ Row w a p.length c (ints p) ∧ (0 < p.length → ∀ g off, a = some ⟨g, off, none⟩ → F g)
theorem row_kept {S : Nat → Prop} {w w' : World} {a : Option Addr} {n c : Nat} {xs : List Value} (h : Row w a n c xs) (k : Kept S w w') (hS : 0 < n → ∀ g off, a = some ⟨g, off, none⟩ → ¬ S g) : Row w' a n c xs := by
  refine ⟨h.1, h.2.1, fun h0 => ?_⟩
  obtain ⟨b, off, ha, hc⟩ := h.2.2 h0
  refine ⟨b, off, ha, fun j u hj => ?_⟩
  have := hc j u hj
  rw [← this]
  exact k.cell (Lists.block_lt this) (hS h0 b off ha)
theorem Kp.kept {S F : Nat → Prop} {w w' : World} {s : Int} {p : List Int} {d : DataW Value} (h : Kp w F s p d) (k : Kept S w w') (hS : ∀ i, F i → ¬ S i) : Kp w' F s p d := by
  obtain ⟨a, c, h1, h2, h3⟩ := h.core
  exact ⟨a, c, h1, row_kept h2 k fun h0 g off e => hS g (h3 h0 g off e), h3⟩
theorem Kp.mono {F G : Nat → Prop} {w : World} {s : Int} {p : List Int} {d : DataW Value} (h : Kp w F s p d) (hG : ∀ i, F i → G i) : Kp w G s p d := by
  obtain ⟨a, c, h1, h2, h3⟩ := h.core
  exact ⟨a, c, h1, h2, fun h0 g off e => hG g (h3 h0 g off e)⟩

/-- the map in block m holds what is known; the proofs lie in blocks of F -/
structure Holds (w : World) (m : Nat) (F : Nat → Prop) (k : Known) : Prop where
  core : ∃ D, owns w m (many k) D ∧ Maps.size D = many k ∧ ∀ i, i < k.length → Maps.has D (key i) = has k i ∧ ∀ s p, k.getD i none = some (s, p) → Kp w F s p (D.atKey (key i) zd)
theorem Holds.kept {S F : Nat → Prop} {w w' : World} {m : Nat} {k : Known} (h : Holds w m F k) (q : Kept S w w') (hm : ¬ S m) (hS : ∀ i, F i → ¬ S i) : Holds w' m F k := by
  obtain ⟨D, h1, h2, h3⟩ := h.core
  exact ⟨D, owns_block h1 (q.block m h1.lt hm), h2, fun i hi => ⟨(h3 i hi).1, fun s p e => ((h3 i hi).2 s p e).kept q hS⟩⟩
theorem Holds.lt {F : Nat → Prop} {w : World} {m : Nat} {k : Known} (h : Holds w m F k) : m < w.heap.size := by
  obtain ⟨D, h1, _⟩ := h.core
  exact h1.lt
theorem Holds.mono {F G : Nat → Prop} {w : World} {m : Nat} {k : Known} (h : Holds w m F k) (hG : ∀ i, F i → G i) : Holds w m G k := by
  obtain ⟨D, h1, h2, h3⟩ := h.core
  exact ⟨D, h1, h2, fun i hi => ⟨(h3 i hi).1, fun s p e => ((h3 i hi).2 s p e).mono hG⟩⟩
theorem holds_new (w : World) (F : Nat → Prop) (n : Nat) : Holds (w.alloc (.map #[] 0)) w.heap.size F (fresh n) :=
  ⟨.map [], by rw [fresh_many]; exact World.ownsMap_made _ _ _ _, by rw [fresh_many]; rfl, fun i _ => ⟨by rw [fresh_has]; rfl, fun s p e => by rw [fresh_at] at e; cases e⟩⟩

/-- block b holds the tree, block m its map; F are its blocks -/
structure Pt (w : World) (B b : Nat) (F : Nat → Prop) (root : Int) (k : Known) : Prop where
  core : ∃ m G, w.rowIs b 145 3 (fun i => if i = 0 then .int .i64 (k.length : Int) else if i = 1 then .int .i64 root else .map (some m)) ∧ Holds w m G k ∧ F b ∧ F m ∧ (∀ i, G i → F i ∧ i ≠ m ∧ i ≠ b ∧ i < w.heap.size)
  above : ∀ i, F i → B ≤ i ∧ i < w.heap.size
  size : 1 ≤ k.length ∧ k.length ≤ 200

theorem Pt.foot {w : World} {B b : Nat} {F : Nat → Prop} {root : Int} {k : Known} (h : Pt w B b F root k) : ∀ i, F i → B ≤ i ∧ i < w.heap.size := h.above
theorem Pt.kept {S : Nat → Prop} {w w' : World} {B b : Nat} {F : Nat → Prop} {root : Int} {k : Known} (h : Pt w B b F root k) (q : Kept S w w') (hS : ∀ i, F i → ¬ S i) : Pt w' B b F root k := by
  obtain ⟨m, G, h1, h2, h3, h4, h5⟩ := h.core
  exact ⟨⟨m, G, h1.of_block (q.block b h1.lt (hS b h3)), h2.kept q (hS m h4) fun i hi => hS i (h5 i hi).1, h3, h4, fun i hi => ⟨(h5 i hi).1, (h5 i hi).2.1, (h5 i hi).2.2.1, Nat.lt_of_lt_of_le (h5 i hi).2.2.2 q.size⟩⟩, fun i hi => ⟨(h.above i hi).1, Nat.lt_of_lt_of_le (h.above i hi).2 q.size⟩, h.size⟩
theorem Pt.below {w w' : World} {B b : Nat} {F : Nat → Prop} {root : Int} {k : Known} (h : Pt w B b F root k) (q : Below w.heap.size w w') : Pt w' B b F root k := h.kept (Kept.of_below (fun _ => False) q) fun _ _ z => z

theorem zeroL (w : World) : (zeroValue 149).run Tryz.prog w = .ok (lv 0 none 0 0) w := by kernel_rfl

/-- a place that is asked for, in every world that has the map as it is -/
theorem holds_look {w : World} {m : Nat} {F : Nat → Prop} {k : Known} (h : Holds w m F k) {i : Nat} (hi : i < k.length) (hk : k.length ≤ 200) :
    ∃ v, (∀ w', w'.heap[m]? = w.heap[m]? → (Instr.lookup 143 (.map (some m)) (.int .i64 (i : Int)) true).run Tryz.prog w' = .ok (.tuple #[v, .bool (has k i)]) w') ∧ (has k i = false → ∃ s a n c, v = lv s a n c) ∧ (∀ s p, k.getD i none = some (s, p) → Kp w F s p (.held v)) := by
  obtain ⟨D, h1, h2, h3⟩ := h.core
  obtain ⟨q1, q2⟩ := h3 i hi
  have hat : ∀ v ps, asIs v = some (D.atKey (key i) zd, ps) → D.atKey (key i) zd = .held v := fun v ps hv => by
    unfold asIs at hv
    simp only [Option.some.injEq, Prod.mk.injEq] at hv
    exact hv.1.symm
  obtain ⟨v, ps, _, hv⟩ := h1.look_ok keyed Tryz.underlying143 (zeroL w) (zd := zd) (zp := []) rfl (key_of (i := i) (by omega))
  have hv' := hat v ps hv
  refine ⟨v, fun w' e => ?_, fun hf => ?_, fun s p e => by rw [← hv']; exact q2 s p e⟩
  · obtain ⟨u, us, hr, hu⟩ := (owns_block h1 e).look_ok keyed Tryz.underlying143 (zeroL w') (zd := zd) (zp := []) rfl (key_of (i := i) (by omega))
    have hu' := hat u us hu
    rw [hv'] at hu'
    injection hu' with hu'
    rw [q1, ← hu'] at hr
    exact hr
  · rw [Maps.atKey_of_not_has (by rw [q1]; exact hf)] at hv'
    unfold zd at hv'
    injection hv' with hv'
    exact ⟨0, none, 0, 0, hv'.symm⟩

/-- kept behind a turn of the map alone -/
theorem turned_kept {w w' : World} {m : Nat} (h : w.mapTurned w' m) : Kept (fun i => i = m) w w' := (Kept.refl _ w).grown h.grown fun _ hk => .inl (Option.some.inj hk).symm

/-- a leaf that is laid at a place -/
theorem holds_put {w : World} {m : Nat} {F : Nat → Prop} {k : Known} (h : Holds w m F k) (hm : ∀ g, F g → g ≠ m) {i : Nat} (hi : i < k.length) (hk : k.length ≤ 200) (s : Int) {p : List Int} {a : Option Addr} {c : Nat} (r : Row w a p.length c (ints p)) (hF : 0 < p.length → ∀ g off, a = some ⟨g, off, none⟩ → F g) :
    ∃ w', (Instr.mapUpdate 143 (.map (some m)) (.int .i64 (i : Int)) (lv s a p.length c)).run Tryz.prog w = .ok () w' ∧ Holds w' m F (k.set i (some (s, p))) ∧ w.mapTurned w' m := by
  obtain ⟨D, h1, h2, h3⟩ := h.core
  have hle := many_le k
  obtain ⟨w', hr, o, t⟩ := h1.store keyed Tryz.underlying143 (by unfold maxLen; omega) (key_of (i := i) (by omega)) (val := lv s a p.length c) (d := .held (lv s a p.length c)) (ps := []) rfl
  have q := turned_kept t
  have hsz : Maps.size (D.put (key i) (.held (lv s a p.length c))) = many (k.set i (some (s, p))) := by
    rw [Maps.size_put (h1.tidy keyed), (h3 i hi).1, h2, many_set k hi]
  refine ⟨w', hr, ⟨_, by rw [← hsz]; exact owns_exact o, hsz, fun j hj => ?_⟩, t⟩
  rw [List.length_set] at hj
  by_cases hij : i = j
  · subst hij
    rw [Maps.has_put_same h1.isMap (key_lit i), Maps.atKey_put_same h1.isMap (key_lit i)]
    refine ⟨by unfold Prunes.has; rw [set_at k hi]; rfl, fun s' p' e => ?_⟩
    rw [set_at k hi] at e
    injection e with e
    injection e with e1 e2
    subst e1 e2
    exact ⟨a, c, rfl, row_kept r q fun h0 g off e => hm g (hF h0 g off e), hF⟩
  · rw [Maps.has_put_other (key_ne (Ne.symm hij)), Maps.atKey_put_other (key_ne (Ne.symm hij))]
    refine ⟨by unfold Prunes.has; rw [set_other k hij]; exact (h3 j hj).1, fun s' p' e => ?_⟩
    rw [set_other k hij] at e
    exact ((h3 j hj).2 s' p' e).kept q fun g hg => hm g hg

/-- a place that is forgotten -/
theorem holds_drop {w : World} {m : Nat} {F : Nat → Prop} {k : Known} (h : Holds w m F k) (hm : ∀ g, F g → g ≠ m) {i : Nat} (hi : i < k.length) (hk : k.length ≤ 200) (ty : TypeId) :
    ∃ w', (Builtin.delete_ #[143, 3] ty #[.map (some m), .int .i64 (i : Int)]).run Tryz.prog w = .ok (.tuple #[]) w' ∧ Holds w' m F (k.set i none) ∧ w.mapTurned w' m := by
  obtain ⟨D, h1, h2, h3⟩ := h.core
  obtain ⟨w', hr, o, t⟩ := h1.drop keyed Tryz.underlying143 (key_of (i := i) (by omega)) ty
  have q := turned_kept t
  have hsz : Maps.size (D.del (key i)) = many (k.set i none) := by
    have e1 := Maps.size_del (k := key i) (h1.tidy keyed)
    have e2 := many_unset k hi
    rw [(h3 i hi).1, h2] at e1
    omega
  refine ⟨w', hr, ⟨_, by rw [← hsz]; exact owns_exact o, hsz, fun j hj => ?_⟩, t⟩
  rw [List.length_set] at hj
  by_cases hij : i = j
  · subst hij
    rw [Maps.has_del_same, Maps.atKey_del_same]
    refine ⟨by unfold Prunes.has; rw [set_at k hi]; rfl, fun s' p' e => ?_⟩
    rw [set_at k hi] at e
    cases e
  · rw [Maps.has_del_other (key_ne (Ne.symm hij)), Maps.atKey_del_other (key_ne (Ne.symm hij))]
    refine ⟨by unfold Prunes.has; rw [set_other k hij]; exact (h3 j hj).1, fun s' p' e => ?_⟩
    rw [set_other k hij] at e
    exact ((h3 j hj).2 s' p' e).kept q fun g hg => hm g hg

/-- how many there are -/
theorem holds_len {w : World} {m : Nat} {F : Nat → Prop} {k : Known} (h : Holds w m F k) (ty : TypeId) : (Builtin.len_ #[143] ty #[.map (some m)]).run Tryz.prog w = .ok (.int .i64 (many k : Nat)) w := by
  obtain ⟨D, h1, h2, _⟩ := h.core
  rw [← h2]
  exact h1.len Tryz.underlying143 ty

/-- what lies in the tree's block -/
def tc (n root : Int) (m : Nat) : Nat → Value := fun i => if i = 0 then .int .i64 n else if i = 1 then .int .i64 root else .map (some m)
theorem block_ne {w : World} {b m : Nat} {F : Nat → Prop} {n : Nat} {t : TypeId} {f : Nat → Value} {k : Known} (hb : w.rowIs b t n f) (hm : Holds w m F k) : b ≠ m := fun e => by
  subst e
  obtain ⟨cs, h1, _⟩ := hb
  obtain ⟨D, ⟨es, clock, h2, _⟩, _⟩ := hm.core
  rw [h1] at h2
  cases h2
/-- another map in its place -/
theorem pt_of {w w' : World} {B b m : Nat} {F F' G' : Nat → Prop} {root : Int} {k k' : Known} (h : Pt w B b F root k) (hb : w.rowIs b 145 3 (tc k.length root m)) (hbm : b ≠ m) (f1 : F b) (f2 : F m) (q : Kept (fun i => i = m) w w') (hm : Holds w' m G' k') (hl : k'.length = k.length) (hF : ∀ i, F i → F' i) (hG : ∀ i, G' i → F' i ∧ i ≠ m ∧ i ≠ b ∧ i < w.heap.size) (hF' : ∀ i, F' i → B ≤ i ∧ i < w.heap.size) : Pt w' B b F' root k' := by
  refine ⟨⟨m, G', ?_, hm, hF b f1, hF m f2, fun i hi => ⟨(hG i hi).1, (hG i hi).2.1, (hG i hi).2.2.1, Nat.lt_of_lt_of_le (hG i hi).2.2.2 q.size⟩⟩, fun i hi => ⟨(hF' i hi).1, Nat.lt_of_lt_of_le (hF' i hi).2 q.size⟩, by rw [hl]; exact h.size⟩
  rw [hl]
  exact hb.of_block (q.block b hb.lt hbm)

/-- the leaf that is laid with a list of its own -/
theorem put_next {w2 w3 : World} {B b m : Nat} {F G : Nat → Prop} {root : Int} {k : Known} (h : Pt w2 B b F root k) (hb : w2.rowIs b 145 3 (tc k.length root m)) (hm : Holds w2 m G k) (f1 : F b) (f2 : F m) (f3 : ∀ i, G i → F i ∧ i ≠ m ∧ i ≠ b ∧ i < w2.heap.size) (b3 : Below w2.heap.size w2 w3) {Z : Nat} (hZ : Z < k.length) (sum : Int) {p : List Int} {v : Value} (o3 : w3.ownsRow w2.heap.size 3 1 v p.length (ints p)) :
    ∃ x y, v = .slice x p.length y ∧ ∃ w4, (Instr.mapUpdate 143 (.map (some m)) (.int .i64 (Z : Int)) (.agg #[.int .i64 sum, .slice x p.length y])).run Tryz.prog w3 = .ok () w4 ∧ w4.cell? ⟨b, 2, none⟩ = some (.map (some m)) ∧ ∃ F', Pt w4 B b F' root (k.set Z (some (sum, p))) ∧ Kept F w2 w4 ∧ ∀ j, F' j → F j ∨ w2.heap.size ≤ j := by
  obtain ⟨x, y, rfl, r3, z3⟩ := Keeps.owns_row o3
  have hlt := o3.lt
  have hmb := hm.lt
  have hbb := hb.lt
  have hoff : ∀ g off, x = some ⟨g, off, none⟩ → (Value.slice x p.length y).ownBlock = some g := fun g off e => by rw [e]; rfl
  obtain ⟨w4, hr, hm4, ht⟩ := holds_put (w := w3) (m := m) (F := fun j => G j ∨ (Value.slice x p.length y).ownBlock = some j) ((hm.kept (Kept.of_below (fun _ => False) b3) (fun z => z) (fun _ _ z => z)).mono fun i hi => .inl hi)
    (fun g hg => by
      rcases hg with hg | hg
      · exact (f3 g hg).2.1
      · have := hlt g hg; omega) hZ h.size.2 sum r3 (fun _ g off e => .inr (hoff g off e))
  have hb3 := hb.of_block (b3.block b hbb)
  refine ⟨x, y, rfl, w4, hr, (hb3.of_block ((turned_kept ht).block b hb3.lt (block_ne hb hm))).cell (i := 2) (by omega), fun j => F j ∨ (Value.slice x p.length y).ownBlock = some j, ?_, (Kept.of_below F b3).trans (turned_kept ht) fun i e => .inl (e ▸ f2), fun j hj => hj.imp (fun z => z) fun e => (hlt j e).1⟩
  refine pt_of (h.below b3) (hb.of_block (b3.block b hbb)) (block_ne hb hm) f1 f2 (turned_kept ht) hm4 (List.length_set ..) (fun i hi => .inl hi) (fun i hi => ?_) (fun i hi => ?_)
  · rcases hi with hi | hi
    · exact ⟨.inl (f3 i hi).1, (f3 i hi).2.1, (f3 i hi).2.2.1, Nat.lt_of_lt_of_le (f3 i hi).2.2.2 b3.size⟩
    · have := hlt i hi
      exact ⟨.inr hi, by omega, by omega, this.2⟩
  · rcases hi with hi | hi
    · exact ⟨(h.above i hi).1, Nat.lt_of_lt_of_le (h.above i hi).2 b3.size⟩
    · have := hlt i hi
      have hB := (h.above b f1).1
      omega

end Go.Proofs.YticadkggaanbjaaGreatDoor.WalkPrObj
