/-
  Plain mathematics of an audit: whether a head is that of entries, the sums of all of their tiles, and which tiles are not as they are told. Nothing of the program is named here.
-/
import Derived.Test.YticadkggaanbjaaGreatDoorMirrors
import Derived.Test.YticadkggaanbjaaGreatDoorSePlain
import Derived.Test.YticadkggaanbjaaGreatDoorReplyAll
import Derived.Test.YticadkggaanbjaaGreatDoorListRows
import Derived.Test.YticadkggaanbjaaGreatDoorRows
import Derived.WalkKit
namespace Go.Proofs.YticadkggaanbjaaGreatDoor.Audits
open Entries (Entry entsE leafsOf)
open Heads (Head verifyE)
open Mirrors (rootE)
open Tiles (Tile tiles sumsOf)

/-- is a head that of entries? -/
def wholeE (l : List Entry) (h : Head) (key : Int) : Nat :=
  if verifyE h key ≠ 0 then verifyE h key else if entsE l ≠ 0 then entsE l else if (l.length : Int) ≠ h.size then 3 else if rootE l ≠ h.root then 8 else 0
/-- the sums of the tiles of entries -/
def want (l : List Entry) : List (List Int) := (tiles l.length).map (sumsOf (leafsOf l))
def tilesL (l : List Entry) : List (List Int) := if entsE l = 0 then want l else []
theorem want_length (l : List Entry) : (want l).length = (tiles l.length).length := by simp [want]
theorem want_at (l : List Entry) (k : Nat) : (want l)[k]? = (tiles l.length)[k]?.map (sumsOf (leafsOf l)) := by simp [want]
/-- those of the first k that are told otherwise -/
def badF (ts : List Tile) (w g : List (List Int)) : Nat → List Tile
  | 0 => []
  | k + 1 => badF ts w g k ++ (if g[k]? = w[k]? then [] else (ts[k]?).toList)
def badE (l : List Entry) (g : List (List Int)) : Nat := if entsE l ≠ 0 then entsE l else if g.length ≠ (tiles l.length).length then 3 else 0
def badT (l : List Entry) (g : List (List Int)) : List Tile := if badE l g = 0 then badF (tiles l.length) (want l) g (tiles l.length).length else []
theorem badF_same {ts : List Tile} {w g : List (List Int)} {k : Nat} (h : g[k]? = w[k]?) : badF ts w g (k + 1) = badF ts w g k := by
  rw [badF, if_pos h, List.append_nil]
theorem badF_other {ts : List Tile} {w g : List (List Int)} {k : Nat} {t : Tile} (h : g[k]? ≠ w[k]?) (ht : ts[k]? = some t) : badF ts w g (k + 1) = badF ts w g k ++ [t] := by
  rw [badF, if_neg h, ht]
  rfl
theorem badF_length (ts : List Tile) (w g : List (List Int)) : ∀ k, (badF ts w g k).length ≤ k
  | 0 => Nat.le_refl _
  | k + 1 => by
    have := badF_length ts w g k
    rw [badF, List.length_append]
    split
    · simp; omega
    · cases ts[k]? <;> simp <;> omega
/-- of all tiles none is bad -/
theorem none_bad {l : List Entry} (h : entsE l = 0) : badE l (want l) = 0 ∧ badT l (want l) = [] := by
  have hE : badE l (want l) = 0 := by
    unfold badE
    rw [if_neg (by omega), if_neg (by rw [want_length]; simp)]
  refine ⟨hE, ?_⟩
  unfold badT
  rw [if_pos hE]
  have key : ∀ k, badF (tiles l.length) (want l) (want l) k = [] := by
    intro k
    induction k with
    | zero => rfl
    | succ k ih => rw [badF_same rfl, ih]
  exact key _
/-- with one changed just that one is -/
theorem one_bad {l : List Entry} (h : entsE l = 0) {k : Nat} {t : Tile} (hk : (tiles l.length)[k]? = some t) {x : List Int} (hx : x ≠ sumsOf (leafsOf l) t) : badE l ((want l).set k x) = 0 ∧ badT l ((want l).set k x) = [t] := by
  have hlt : k < (tiles l.length).length := (List.getElem?_eq_some_iff.1 hk).1
  have hE : badE l ((want l).set k x) = 0 := by
    unfold badE
    rw [if_neg (by omega), if_neg (by rw [List.length_set, want_length]; simp)]
  refine ⟨hE, ?_⟩
  unfold badT
  rw [if_pos hE]
  have lo : ∀ j, j ≤ k → badF (tiles l.length) (want l) ((want l).set k x) j = [] := by
    intro j
    induction j with
    | zero => intro _; rfl
    | succ j ih => intro hj; rw [badF_same (by rw [List.getElem?_set_ne (by omega)]), ih (by omega)]
  have at_ : badF (tiles l.length) (want l) ((want l).set k x) (k + 1) = [t] := by
    rw [badF_other (t := t) _ hk, lo k (Nat.le_refl _)]
    · rfl
    · rw [List.getElem?_set_self (by rw [want_length]; exact hlt), want_at, hk]
      simp only [Option.map_some, ne_eq, Option.some.injEq]
      exact hx
  have hi : ∀ j, badF (tiles l.length) (want l) ((want l).set k x) (k + 1 + j) = [t] := by
    intro j
    induction j with
    | zero => exact at_
    | succ j ih => rw [show k + 1 + (j + 1) = (k + 1 + j) + 1 by omega, badF_same (by rw [List.getElem?_set_ne (by omega)]), ih]
  have := hi ((tiles l.length).length - (k + 1))
  rwa [show k + 1 + ((tiles l.length).length - (k + 1)) = (tiles l.length).length by omega] at this
/-- a head of entries is whole -/
theorem whole_of {l : List Entry} {h : Head} {key : Int} (hv : verifyE h key = 0) (hl : entsE l = 0) (hs : h.size = (l.length : Int)) (hr : h.root = rootE l) : wholeE l h key = 0 := by
  unfold wholeE
  rw [if_neg (by omega), if_neg (by omega), if_neg (by rw [hs]; simp), if_neg (by rw [hr]; simp)]

end Go.Proofs.YticadkggaanbjaaGreatDoor.Audits

/-
  A list of lists of ints that the call owns, each of them a row of the call's own.
-/
namespace Go.Proofs.YticadkggaanbjaaGreatDoor.SumRows
open Go.RowKit
open Lists (Row ints)
open Keeps (Kept owns_kept owns_row)
open IntRows (Rowss)

theorem own_apart {w : World} {B1 B2 : Nat} {e1 e2 : TypeId} {s1 s2 n1 n2 : Nat} {v1 v2 : Value} {xs1 xs2 : List Value} (h1 : w.ownsRow B1 e1 s1 v1 n1 xs1) (h2 : w.ownsRow B2 e2 s2 v2 n2 xs2) (he : e1 ≠ e2) : ∀ k, v1.ownBlock = some k → v2.ownBlock ≠ some k := by
  intro k k1 k2
  rcases h1.2 with ⟨rfl, _⟩ | ⟨g1, c1, cur1, rfl, _, hh1, _⟩
  · cases k1
  · rcases h2.2 with ⟨rfl, _⟩ | ⟨g2, c2, cur2, rfl, _, hh2, _⟩
    · cases k2
    · simp only [Value.ownBlock, Option.some.injEq] at k1 k2
      subst k1
      subst k2
      rw [hh1] at hh2
      simp only [Option.some.injEq, Obj.cells.injEq] at hh2
      exact he hh2.2.1
theorem infoR : (Tryz.prog.info? 45).map (fun i => (i.zero, i.size, i.bytes)) = some (some (.slice none 0 0), 1, 24) := by kernel_rfl

/-- v holds the slices vs, the rows of ls, all made behind block B -/
structure Rs (B : Nat) (w : World) (v : Value) (vs : List Value) (ls : List (List Int)) : Prop where
  own : w.ownsRow B 45 1 v ls.length vs
  each : ∀ (i : Nat) (l : List Int), ls[i]? = some l → ∃ a c, vs[i]? = some (Value.slice a l.length c) ∧ w.ownsRow B 3 1 (Value.slice a l.length c) l.length (ints l)
theorem Rs.nil (B : Nat) (w : World) : Rs B w (.slice none 0 0) [] [] := ⟨World.ownsRow_nil _ _ _ _, fun i l h => by simp at h⟩
theorem Rs.kept {S : Nat → Prop} {B : Nat} {w w' : World} {v : Value} {vs : List Value} {ls : List (List Int)} (h : Rs B w v vs ls) (k : Kept S w w') (hS : ∀ i, B ≤ i → i < w.heap.size → ¬ S i) : Rs B w' v vs ls := by
  refine ⟨owns_kept h.own k fun i hi => hS i (h.own.lt i hi).1 (h.own.lt i hi).2, fun i l hl => ?_⟩
  obtain ⟨a, c, h1, h2⟩ := h.each i l hl
  exact ⟨a, c, h1, owns_kept h2 k fun i hi => hS i (h2.lt i hi).1 (h2.lt i hi).2⟩
theorem Rs.below {B : Nat} {w w' : World} {v : Value} {vs : List Value} {ls : List (List Int)} (h : Rs B w v vs ls) (b : Below w.heap.size w w') : Rs B w' v vs ls := h.kept (Kept.of_below (fun _ => False) b) fun _ _ _ h => h
theorem Rs.base {B B' : Nat} {w : World} {v : Value} {vs : List Value} {ls : List (List Int)} (h : Rs B w v vs ls) (hB : B' ≤ B) : Rs B' w v vs ls := ⟨Keeps.owns_base h.own hB, fun i l hl => by
  obtain ⟨a, c, h1, h2⟩ := h.each i l hl
  exact ⟨a, c, h1, Keeps.owns_base h2 hB⟩⟩
theorem Rs.length {B : Nat} {w : World} {v : Value} {vs : List Value} {ls : List (List Int)} (h : Rs B w v vs ls) : vs.length = ls.length := by
  have := h.own.1
  omega
/-- one more behind them -/
theorem Rs.next {B : Nat} {w wn : World} {v v1 : Value} {vs : List Value} {ls : List (List Int)} {a : Option Addr} {c : Nat} {q : List Int} (h : Rs B w v vs ls) (hq : w.ownsRow B 3 1 (.slice a q.length c) q.length (ints q))
    (o1 : wn.ownsRow B 45 1 v1 (ls.length + 1) (vs ++ [.slice a q.length c])) (g1 : w.grownBy wn v.ownBlock) : Rs B wn v1 (vs ++ [.slice a q.length c]) (ls ++ [q]) := by
  have k := (Kept.refl (fun k => v.ownBlock = some k) w).grown g1 fun k hk => .inl hk
  have keep : ∀ {x : Value} {n : Nat} {xs : List Value}, w.ownsRow B 3 1 x n xs → wn.ownsRow B 3 1 x n xs := fun hx => owns_kept hx k fun i hi q => own_apart hx h.own (by decide) i hi q
  refine ⟨by rw [List.length_append]; exact o1, fun i l hl => ?_⟩
  have hl2 := h.length
  by_cases hi : i < ls.length
  · rw [List.getElem?_append_left hi] at hl
    obtain ⟨a', c', h1, h2⟩ := h.each i l hl
    exact ⟨a', c', by rw [List.getElem?_append_left (by omega)]; exact h1, keep h2⟩
  · rw [List.getElem?_append_right (by omega)] at hl
    have h0 : i - ls.length = 0 := by
      rcases Nat.eq_zero_or_pos (i - ls.length) with h | h
      · exact h
      · rw [List.getElem?_eq_none (by simp; omega)] at hl
        cases hl
    rw [h0] at hl
    simp only [List.getElem?_cons_zero, Option.some.injEq] at hl
    subst hl
    refine ⟨a, c, ?_, keep hq⟩
    rw [List.getElem?_append_right (by omega), show i - vs.length = 0 by omega]
    rfl
/-- as a list that is handed on -/
theorem Rs.rows {B : Nat} {w : World} {v : Value} {vs : List Value} {ls : List (List Int)} (h : Rs B w v vs ls) : ∃ a c, v = .slice a ls.length c ∧ Rowss w a ls.length c ls := by
  obtain ⟨a, c, rfl, hr, _⟩ := owns_row h.own
  refine ⟨a, c, rfl, rfl, hr.2.1, fun h0 => ?_⟩
  obtain ⟨b, off, rfl, hc⟩ := hr.2.2 h0
  refine ⟨b, off, rfl, fun i l hl => ?_⟩
  obtain ⟨ai, ci, h1, h2⟩ := h.each i l hl
  exact ⟨ai, ci, hc i _ h1, (Row.of_owns h2).2⟩

end Go.Proofs.YticadkggaanbjaaGreatDoor.SumRows

