/-
  Replies of the log, as the walks have them: without their times; what is in a page; seven cells of a reply.
-/
import Derived.Test.YtfpkngpgmllhnaaGreatDoorRuPlain
import Derived.Test.YtfpkngpgmllhnaaGreatDoorListRows
import Derived.Test.YtfpkngpgmllhnaaGreatDoorReplyAll
import Derived.Deep.OwnRows
namespace Go.Proofs.YtfpkngpgmllhnaaGreatDoor.RunMix
open Go.RowKit
open EntRows (cells)
open Entries (Entry entsE)
open Runs (Desk replyOf Fine)
open ReplyRows (RFine)

/-- the first k without their times -/
def mix : Nat → List Entry → List Entry
  | 0, l => l
  | _ + 1, [] => []
  | k + 1, e :: l => (0, e.2) :: mix k l
theorem mix_len : ∀ (k : Nat) (l : List Entry), (mix k l).length = l.length
  | 0, _ => rfl
  | _ + 1, [] => rfl
  | k + 1, e :: l => by rw [mix, List.length_cons, mix_len k l, List.length_cons]
theorem mix_full : ∀ (k : Nat) (l : List Entry), l.length ≤ k → mix k l = l.map fun e => (0, e.2)
  | 0, [], _ => rfl
  | 0, _ :: _, h => by simp at h
  | _ + 1, [], _ => rfl
  | k + 1, e :: l, h => by rw [mix, mix_full k l (by simpa using h)]; rfl
theorem mix_next : ∀ (k : Nat) (l : List Entry), k < l.length → (cells (mix k l)).set (k * 2) (.int .i64 0) = cells (mix (k + 1) l)
  | _, [], h => by simp at h
  | 0, e :: l, _ => rfl
  | k + 1, e :: l, h => by
    have := mix_next k l (by simpa using h)
    rw [mix, mix, cells, cells, show (k + 1) * 2 = k * 2 + 1 + 1 by omega, List.set_cons_succ, List.set_cons_succ, this]
theorem mix_at : ∀ (k : Nat) (l : List Entry), k < l.length → ∃ t, (cells (mix k l))[k * 2]? = some (.int .i64 t)
  | _, [], h => by simp at h
  | 0, e :: l, _ => ⟨_, rfl⟩
  | k + 1, e :: l, h => by
    obtain ⟨t, ht⟩ := mix_at k l (by simpa using h)
    refine ⟨t, ?_⟩
    rw [mix, cells, show (k + 1) * 2 = k * 2 + 1 + 1 by omega]
    exact ht

/-- each text in the log is short -/
theorem sized {l : List Entry} (h : entsE l = 0) : ∀ e ∈ l, e.2.size ≤ maxLen := fun e he => by
  have := (Entries.ent_ok ((Entries.ents_ok h).2 e he)).2.2
  unfold maxLen
  omega
/-- what is wanted is small -/
theorem want_bd {key : Int} {m : Mirrors.Mir} (h : Mirrors.Ok key m) : (0 ≤ m.want.what ∧ m.want.what ≤ 3) ∧ (0 ≤ m.want.fr ∧ m.want.fr ≤ 200) ∧ (0 ≤ m.want.to_ ∧ m.want.to_ ≤ 200) ∧ m.want.fr ≤ m.want.to_ := by
  unfold Mirrors.Mir.want
  by_cases h0 : m.next.size = 0
  · rw [if_pos h0]
    simp
  · rw [if_neg h0]
    obtain ⟨h1, h2, h3, _⟩ := h.some h0
    obtain ⟨h4, h5⟩ := Mirrors.size_ok h1
    by_cases h6 : (m.has : Int) = m.next.size
    · rw [if_pos h6]
      have : (m.own.length : Int) ≤ m.has := by show (m.own.length : Int) ≤ ((m.own.length + m.waits.length : Nat) : Int); omega
      simp only
      omega
    · rw [if_neg h6]
      simp only
      split <;> omega

theorem page_len {d : Desk} (hf : Fine d) (h2 : d.mir.want.what = 2) : ∃ fr to_ : Nat, d.mir.want.fr = (fr : Int) ∧ d.mir.want.to_ = (to_ : Int) ∧ fr < to_ ∧ to_ ≤ d.log.length := by
  obtain ⟨_, ⟨q0, _⟩, ⟨r0, _⟩, h⟩ := want_bd hf.mir
  obtain ⟨h6, h7, h8, h5⟩ := Mirrors.want_two h2
  have := hf.next
  have h9 := (hf.mir.some h6).2.2.1
  refine ⟨d.mir.want.fr.toNat, d.mir.want.to_.toNat, by omega, by omega, ?_, ?_⟩
  · have : d.mir.want.fr < d.mir.want.to_ := by rw [h5, h8]; split <;> omega
    omega
  have : d.mir.want.to_ ≤ d.mir.next.size := by rw [h5]; split <;> omega
  omega
theorem row_seven {w : World} {g : Nat} {t : TypeId} {f : Nat → Value} (h : w.rowIs g t 7 f) : w.heap[g]? = some (.cells #[f 0, f 1, f 2, f 3, f 4, f 5, f 6] t (0, 0)) := by
  obtain ⟨c, hb, hn, hc⟩ := h
  have : c = #[f 0, f 1, f 2, f 3, f 4, f 5, f 6] := by
    apply Array.ext_getElem?
    intro i
    match i with
    | 0 => rw [hc 0 (by omega)]; rfl
    | 1 => rw [hc 1 (by omega)]; rfl
    | 2 => rw [hc 2 (by omega)]; rfl
    | 3 => rw [hc 3 (by omega)]; rfl
    | 4 => rw [hc 4 (by omega)]; rfl
    | 5 => rw [hc 5 (by omega)]; rfl
    | 6 => rw [hc 6 (by omega)]; rfl
    | i + 7 => rw [Array.getElem?_eq_none (by omega), Array.getElem?_eq_none (by simp)]
  rw [hb, this]
theorem spoil_len : ∀ p : List Int, (Runs.spoilP p).length ≤ p.length + 1
  | [] => by decide
  | _ :: p => by show (0 :: p).length ≤ _; rw [List.length_cons, List.length_cons]; omega
/-- a reply of the log is one that can be heard -/
theorem reply_fine {d : Desk} (hf : Fine d) (bad : Bool) : RFine (replyOf d bad) := by
  have hl := Runs.few hf
  have hz := sized hf.log
  have hp : ∀ e ∈ Runs.pageOf d, e.2.size ≤ maxLen := fun e he => hz e (List.mem_of_mem_take (List.mem_of_mem_drop he))
  have hpl : (Runs.pageOf d).length ≤ 200 := by unfold Runs.pageOf; rw [List.length_drop, List.length_take]; omega
  unfold Runs.replyOf
  split
  · exact ⟨Nat.zero_le _, Nat.zero_le _, fun e he => by cases he⟩
  · rename_i h1
    split
    · refine ⟨?_, Nat.zero_le _, ?_⟩
      · cases bad with
        | true => show ((Runs.pageOf d).map _).length ≤ _; rw [List.length_map]; omega
        | false => show (Runs.pageOf d).length ≤ _; omega
      · cases bad with
        | true =>
          intro e he
          obtain ⟨x, hx, rfl⟩ := List.mem_map.1 (show e ∈ (Runs.pageOf d).map _ from he)
          exact hp x hx
        | false => exact hp
    · rename_i h2
      have := RunLess.proof_le hf h1 h2
      refine ⟨Nat.zero_le _, ?_, fun e he => by cases he⟩
      cases bad with
      | true => show (Runs.spoilP (Runs.proofOf d)).length ≤ _; have := spoil_len (Runs.proofOf d); omega
      | false => show (Runs.proofOf d).length ≤ _; omega

end Go.Proofs.YtfpkngpgmllhnaaGreatDoor.RunMix
