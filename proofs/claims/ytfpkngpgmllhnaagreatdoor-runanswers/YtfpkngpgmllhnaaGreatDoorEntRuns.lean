/-
  Entries put behind those of a row of the call's own, and append in a region that draws; the leafs of entries are sums.
-/
import Derived.Test.YtfpkngpgmllhnaaGreatDoorRefTree
import Derived.Test.YtfpkngpgmllhnaaGreatDoorReplyAll
import Derived.Test.YtfpkngpgmllhnaaGreatDoorObjRows
import Derived.BigRegion
import Derived.BigQuiet
import Derived.Deep.QuietTactic
import Derived.Deep.RegionHeld
import Derived.Deep.CutBlock
import Derived.Deep.DeepMust
import Derived.Deep.RegionLaw
import Derived.Laws.AppendOwnNone
import Derived.Lib.AppendZeros
import Derived.Maps.AppendAt
namespace Go.Proofs.YtfpkngpgmllhnaaGreatDoor.WalkMirRef
open Go.RowKit
open Keeps (Kept)
open Wides (Wide owns_wide)
open Entries (Entry leafsOf)
open EntRows (cells cells_append)

theorem leafs_valid {l : List Entry} : ∀ x ∈ leafsOf l, Nums.valid x = true := WalkRootOf.leafs_valid
theorem infoE : (Tryz.prog.info? 65).map (fun i => (i.zero, i.size, i.bytes)) = some (some (.agg #[.int .i64 0, .string ⟨#[]⟩]), 2, 24) := by kernel_rfl
theorem ones (l : List Entry) : ∀ v ∈ cells l, v.oneCell' = true := by
  induction l with
  | nil => intro v hv; cases hv
  | cons p l ih =>
    intro v hv
    simp only [cells, List.mem_cons] at hv
    rcases hv with rfl | rfl | hv
    · rfl
    · rfl
    · exact ih v hv
/-- entries of a list put behind those of a row of the call's own -/
theorem run_some (w : World) (B : Nat) (v : Value) (l : List Entry) (hown : w.ownsRow B 65 2 v l.length (cells l)) (a : Addr) (n c : Nat) (q : List Entry) (hw : Wide 2 w (some a) n c (cells q)) (hn : 0 < n) (hl : l.length + n ≤ 100000) (hB : B ≤ w.heap.size) :
    ∃ v' w', (∀ ty, (Builtin.append_ #[27, 27] ty #[v, .slice (some a) n c]).run Tryz.prog w = .ok v' w') ∧ w'.ownsRow B 65 2 v' (l ++ q).length (cells (l ++ q)) ∧ Kept (fun k => v.ownBlock = some k) w w' ∧ ∀ k, v'.ownBlock = some k → v.ownBlock = some k ∨ k = w.heap.size := by
  obtain ⟨i0, hi, hz0, hz1, hz2⟩ := info_parts infoE
  obtain ⟨b, off, hab, hc⟩ := hw.2.2 hn
  obtain rfl : a = ⟨b, off, none⟩ := by simpa using hab
  have hql := EntRows.len_of hw
  obtain ⟨v', w', hr, o', g', _, at'⟩ := run_append_own_at (P := Tryz.prog) w B 27 27 65 i0 (.agg #[.int .i64 0, .string ⟨#[]⟩]) 2 24 Tryz.underlying27 hi hz0 hz1 hz2 rfl (by decide) v l.length (cells l) hown ⟨b, off, none⟩ n c (cells q) hw.1
    (fun j u hj => by rw [show (⟨b, off, none⟩ : Addr).add j = ⟨b, off + j, none⟩ by (unfold Addr.add; split <;> simp_all)]; exact hc j u hj) (ones q) (by unfold maxLen; omega) (by omega) hB
  refine ⟨v', w', fun ty => hr, ?_, (Kept.refl _ w).grown g' fun k hk => .inl hk, fun k hk => ?_⟩
  · rw [cells_append, List.length_append, hql]
    exact o'
  · rcases at' with e | e
    · exact .inl (by rw [← e]; exact hk)
    · rw [e] at hk
      simp only [Option.some.injEq] at hk
      exact .inr hk.symm
/-- .. or of another row of the call's own -/
theorem run_own (w : World) (B : Nat) (v : Value) (l : List Entry) (hown : w.ownsRow B 65 2 v l.length (cells l)) (u : Value) (q : List Entry) (hu : w.ownsRow B 65 2 u q.length (cells q)) (hl : l.length + q.length ≤ 100000) (hB : B ≤ w.heap.size) :
    ∃ v' w', (∀ ty, (Builtin.append_ #[27, 27] ty #[v, u]).run Tryz.prog w = .ok v' w') ∧ w'.ownsRow B 65 2 v' (l ++ q).length (cells (l ++ q)) ∧ Kept (fun k => v.ownBlock = some k) w w' ∧ ∀ k, v'.ownBlock = some k → v.ownBlock = some k ∨ k = w.heap.size := by
  rcases Nat.eq_zero_or_pos q.length with h0 | h0
  · have hq : q = [] := List.eq_nil_of_length_eq_zero h0
    subst hq
    obtain ⟨i0, hi, hz0, hz1, hz2⟩ := info_parts infoE
    rcases hu.2 with ⟨rfl, _⟩ | ⟨g, cap, cur, rfl, _⟩
    · refine ⟨v, w, fun ty => run_append_owned_none (P := Tryz.prog) (w := w) B 27 ty 65 i0 2 Tryz.underlying27 hi v l.length (cells l) hown, by simpa using hown, Kept.refl _ _, fun k hk => .inl hk⟩
    · obtain ⟨v', w', hr, o', g', _, at'⟩ := run_append_own_at (P := Tryz.prog) w B 27 27 65 i0 (.agg #[.int .i64 0, .string ⟨#[]⟩]) 2 24 Tryz.underlying27 hi hz0 hz1 hz2 rfl (by decide) v l.length (cells l) hown ⟨g, 0, none⟩ 0 cap [] rfl (fun j u hj => by cases hj) (fun u hu => by cases hu) (by unfold maxLen; omega) (by omega) hB
      refine ⟨v', w', fun ty => hr, by simpa using o', (Kept.refl _ w).grown g' fun k hk => .inl hk, fun k hk => ?_⟩
      rcases at' with e | e
      · exact .inl (by rw [← e]; exact hk)
      · rw [e] at hk
        simp only [Option.some.injEq] at hk
        exact .inr hk.symm
  · obtain ⟨a, c, rfl, hw⟩ := owns_wide hu
    obtain ⟨b, off, rfl, _⟩ := hw.2.2 h0
    exact run_some w B v l hown ⟨b, off, none⟩ q.length c q hw h0 (by omega) hB

end Go.Proofs.YtfpkngpgmllhnaaGreatDoor.WalkMirRef
namespace Go.Proofs.YtfpkngpgmllhnaaGreatDoor.WalkMirHear
open Go.RowKit

/-- append, where its run is known, in a region that draws -/
theorem step_append_run {P : Program} {w : World} {ops : Array Oper} {o : Oper} {a : Act} {K : Act → World → Prop} {Q : Exit → Act → World → Prop} {E : Prop} (hg : o.guard = none) (s x : Operand) (t t' : TypeId)
    (ho : o.op = .call { callee := .builtin .append, args := #[s, x], argTypes := #[t, t'] }) (vs vx : Value) (hs : a.eval s = vs) (hx : a.eval x = vx) (v' : Value) (w' : World)
    (hr : ∀ ty, (Builtin.append_ #[t, t'] ty #[vs, vx]).run P w = .ok v' w') (hK : K (a.put o.dst v') w') :
    if Region.wanted o (yielded ops a.tmps) = true then Oper.wp P o a w K Q else E := by
  rw [if_pos (by simp [Region.wanted, hg])]
  exact Lib.wp_append_run w s x t t' ho vs vx hs hx v' w' (hr _) hK

end Go.Proofs.YtfpkngpgmllhnaaGreatDoor.WalkMirHear
