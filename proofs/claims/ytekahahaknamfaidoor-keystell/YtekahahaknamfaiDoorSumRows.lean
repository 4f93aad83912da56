/-
  A list of lists of ints that the call owns, each of them a row of the call's own.
-/
import Derived.Test.YtekahahaknamfaiDoorIntRows
import Derived.Test.YtekahahaknamfaiDoorKeeps
import Derived.Test.YtekahahaknamfaiDoorRows
import Derived.WalkKit
namespace Go.Proofs.YtekahahaknamfaiDoor.SumRows
open Go.RowKit
open Lists (Row ints)
open Keeps (Kept owns_kept owns_row)
open IntRows (Rowss)

theorem own_apart {w : World} {B1 B2 : Nat} {e1 e2 : TypeId} {s1 s2 n1 n2 : Nat} {v1 v2 : Value} {xs1 xs2 : List Value} (h1 : w.ownsRow B1 e1 s1 v1 n1 xs1) (h2 : w.ownsRow B2 e2 s2 v2 n2 xs2) (he : e1 ≠ e2) : ∀ k, v1.ownBlock = some k → v2.ownBlock ≠ some k := by
  intro k k1 k2
  rcases h1.2 with ⟨rfl, _⟩ | ⟨g1, c1, cur1, rfl, _, hh1, _⟩
  · cases k1
  · rcases h2.2 with ⟨rfl, _⟩ | ⟨g2, c2, cur2, rfl, _, hh2, _⟩
    · cases k2
    · simp only [Value.ownBlock, Option.some.injEq] at k1 k2
      subst k1
      subst k2
      rw [hh1] at hh2
      simp only [Option.some.injEq, Obj.cells.injEq] at hh2
      exact he hh2.2.1
theorem infoR : (Tryd.prog.info? 30).map (fun i => (i.zero, i.size, i.bytes)) = some (some (.slice none 0 0), 1, 24) := by kernel_rfl

/-- v holds the slices vs, the rows of ls, all made behind block B -/
structure Rs (B : Nat) (w : World) (v : Value) (vs : List Value) (ls : List (List Int)) : Prop where
  own : w.ownsRow B 30 1 v ls.length vs
  each : ∀ (i : Nat) (l : List Int), ls[i]? = some l → ∃ a c, vs[i]? = some (Value.slice a l.length c) ∧ w.ownsRow B 3 1 (Value.slice a l.length c) l.length (ints l)
theorem Rs.nil (B : Nat) (w : World) : Rs B w (.slice none 0 0) [] [] := ⟨World.ownsRow_nil _ _ _ _, fun i l h => by simp at h⟩
theorem Rs.kept {S : Nat → Prop} {B : Nat} {w w' : World} {v : Value} {vs : List Value} {ls : List (List Int)} (h : Rs B w v vs ls) (k : Kept S w w') (hS : ∀ i, B ≤ i → i < w.heap.size → ¬ S i) : Rs B w' v vs ls := by
  refine ⟨owns_kept h.own k fun i hi => hS i (h.own.lt i hi).1 (h.own.lt i hi).2, fun i l hl => ?_⟩
  obtain ⟨a, c, h1, h2⟩ := h.each i l hl
  exact ⟨a, c, h1, owns_kept h2 k fun i hi => hS i (h2.lt i hi).1 (h2.lt i hi).2⟩
theorem Rs.below {B : Nat} {w w' : World} {v : Value} {vs : List Value} {ls : List (List Int)} (h : Rs B w v vs ls) (b : Below w.heap.size w w') : Rs B w' v vs ls := h.kept (Kept.of_below (fun _ => False) b) fun _ _ _ h => h
theorem Rs.base {B B' : Nat} {w : World} {v : Value} {vs : List Value} {ls : List (List Int)} (h : Rs B w v vs ls) (hB : B' ≤ B) : Rs B' w v vs ls := ⟨Keeps.owns_base h.own hB, fun i l hl => by
  obtain ⟨a, c, h1, h2⟩ := h.each i l hl
  exact ⟨a, c, h1, Keeps.owns_base h2 hB⟩⟩
theorem Rs.length {B : Nat} {w : World} {v : Value} {vs : List Value} {ls : List (List Int)} (h : Rs B w v vs ls) : vs.length = ls.length := by
  have := h.own.1
  omega
/-- one more behind them -/
theorem Rs.next {B : Nat} {w wn : World} {v v1 : Value} {vs : List Value} {ls : List (List Int)} {a : Option Addr} {c : Nat} {q : List Int} (h : Rs B w v vs ls) (hq : w.ownsRow B 3 1 (.slice a q.length c) q.length (ints q))
    (o1 : wn.ownsRow B 30 1 v1 (ls.length + 1) (vs ++ [.slice a q.length c])) (g1 : w.grownBy wn v.ownBlock) : Rs B wn v1 (vs ++ [.slice a q.length c]) (ls ++ [q]) := by
  have k := (Kept.refl (fun k => v.ownBlock = some k) w).grown g1 fun k hk => .inl hk
  have keep : ∀ {x : Value} {n : Nat} {xs : List Value}, w.ownsRow B 3 1 x n xs → wn.ownsRow B 3 1 x n xs := fun hx => owns_kept hx k fun i hi q => own_apart hx h.own (by decide) i hi q
  refine ⟨by rw [List.length_append]; exact o1, fun i l hl => ?_⟩
  have hl2 := h.length
  by_cases hi : i < ls.length
  · rw [List.getElem?_append_left hi] at hl
    obtain ⟨a', c', h1, h2⟩ := h.each i l hl
    exact ⟨a', c', by rw [List.getElem?_append_left (by omega)]; exact h1, keep h2⟩
  · rw [List.getElem?_append_right (by omega)] at hl
    have h0 : i - ls.length = 0 := by
      rcases Nat.eq_zero_or_pos (i - ls.length) with h | h
      · exact h
      · rw [List.getElem?_eq_none (by simp; omega)] at hl
        cases hl
    rw [h0] at hl
    simp only [List.getElem?_cons_zero, Option.some.injEq] at hl
    subst hl
    refine ⟨a, c, ?_, keep hq⟩
    rw [List.getElem?_append_right (by omega), show i - vs.length = 0 by omega]
    rfl
/-- as a list that is handed on -/
theorem Rs.rows {B : Nat} {w : World} {v : Value} {vs : List Value} {ls : List (List Int)} (h : Rs B w v vs ls) : ∃ a c, v = .slice a ls.length c ∧ Rowss w a ls.length c ls := by
  obtain ⟨a, c, rfl, hr, _⟩ := owns_row h.own
  refine ⟨a, c, rfl, rfl, hr.2.1, fun h0 => ?_⟩
  obtain ⟨b, off, rfl, hc⟩ := hr.2.2 h0
  refine ⟨b, off, rfl, fun i l hl => ?_⟩
  obtain ⟨ai, ci, h1, h2⟩ := h.each i l hl
  exact ⟨ai, ci, hc i _ h1, (Row.of_owns h2).2⟩

end Go.Proofs.YtekahahaknamfaiDoor.SumRows
