/-
  Plain mathematics of heads of one log: they go together. Nothing of the program is named here.
-/
import Derived.Test.YthaibjidfgmdmahDoorForks
import Derived.Test.YthaibjidfgmdmahDoorSePlain
namespace Go.Proofs.YthaibjidfgmdmahDoor.ForkOnes
open Heads (Head verifyE)
open Entries (Entry entsE leafsOf)
open Mirrors (rootE)
open Answers (logE logH)
open Forks (lies bothE provesV checkE checkV)

/-- the proof that a log of n entries has grown to l -/
def proofOf (l : List Entry) (n : Nat) : List Int := if 1 ≤ n ∧ n < l.length then GrowsE.gmakeL (leafsOf l) n l.length else []
theorem made_ok {l : List Entry} (h : entsE l = 0) {n : Nat} (h1 : 1 ≤ n) (h2 : n ≤ l.length) : GrowsE.gmakeE (leafsOf l) n l.length = 0 ∧ GrowsE.gmakeL (leafsOf l) n l.length = Grows.grow (leafsOf l) n true := by
  have h5 := (Entries.ents_ok h).1
  obtain ⟨e1, _, _⟩ := GrowRight.right (Serves.leafs_len l) h5 (GrowRight.leafs_valid l) h1 h2
  refine ⟨e1, ?_⟩
  unfold GrowsE.gmakeL
  rw [if_pos e1, Int.toNat_natCast, Int.toNat_natCast, Serves.leafs_all]
/-- two heads of one log, the first of no more entries -/
theorem together {l : List Entry} {key s t : Int} {n : Nat} (hn : n ≤ l.length) (ha : logE (l.take n) key s = 0) (hb : logE l key t = 0) :
    bothE (logH (l.take n) key s) (logH l key t) key = 0 ∧ checkE (logH (l.take n) key s) (logH l key t) key (proofOf l n) = 0 ∧ checkV (logH (l.take n) key s) (logH l key t) key (proofOf l n) = true ∧ provesV (logH (l.take n) key s) (logH l key t) key = false := by
  have hB : bothE (logH (l.take n) key s) (logH l key t) key = 0 := by
    unfold Forks.bothE
    rw [if_pos (Serves.log_verify ha)]
    exact Serves.log_verify hb
  have hf := (Answers.log_ok hb).1
  have hla : (l.take n).length = n := by rw [List.length_take]; omega
  have eA : (logH (l.take n) key s).size = (n : Int) ∧ (logH (l.take n) key s).root = rootE (l.take n) := by
    rw [Serves.log_is ha]
    exact ⟨by rw [hla], rfl⟩
  have eB : (logH l key t).size = (l.length : Int) ∧ (logH l key t).root = rootE l := by
    rw [Serves.log_is hb]
    exact ⟨rfl, rfl⟩
  refine ⟨hB, ?_, ?_, ?_⟩
  · unfold Forks.checkE
    rw [hB, if_neg (by decide), eA.1, eB.1, eA.2, eB.2, if_neg (by omega)]
    by_cases h0 : (n : Int) = 0 ∧ 0 < (l.length : Int)
    · rw [if_pos h0]
    · rw [if_neg h0]
      by_cases h1 : (n : Int) = (l.length : Int)
      · rw [if_pos h1, if_pos (show proofOf l n = [] from if_neg (by omega))]
      · have e : proofOf l n = Grows.grow (leafsOf l) n true := (if_pos ⟨by omega, by omega⟩).trans (made_ok hf (by omega) hn).2
        rw [if_neg h1, e, Serves.grew hf (by omega) hn]
        rfl
  · unfold Forks.checkV
    rw [hB, if_neg (by decide), eA.1, eB.1, eA.2, eB.2, if_neg (by omega)]
    by_cases h0 : (n : Int) = 0 ∧ 0 < (l.length : Int)
    · rw [if_pos h0]
    · rw [if_neg h0]
      by_cases h1 : (n : Int) = (l.length : Int)
      · rw [if_pos h1, if_pos (show proofOf l n = [] from if_neg (by omega)), List.take_of_length_le (by omega)]
        exact decide_eq_true rfl
      · have e : proofOf l n = Grows.grow (leafsOf l) n true := (if_pos ⟨by omega, by omega⟩).trans (made_ok hf (by omega) hn).2
        rw [if_neg h1, e, Serves.grew hf (by omega) hn]
        rfl
  · unfold Forks.provesV
    rw [if_pos hB]
    unfold Forks.lies
    rw [eA.1, eB.1, eA.2, eB.2]
    refine decide_eq_false fun q => q.2 ?_
    rw [List.take_of_length_le (by omega)]
theorem together_of {l k : List Entry} {key s t : Int} {n : Nat} (hk : l.take n = k) (hn : n ≤ l.length) (ha : logE k key s = 0) (hb : logE l key t = 0) :
    bothE (logH k key s) (logH l key t) key = 0 ∧ checkE (logH k key s) (logH l key t) key (proofOf l n) = 0 ∧ checkV (logH k key s) (logH l key t) key (proofOf l n) = true ∧ provesV (logH k key s) (logH l key t) key = false := by
  subst hk
  exact together hn ha hb

/-! heads of one log -/
/-- no two of a list prove it -/
theorem pair_none {l : List Head} (h : ∀ x ∈ l, ∀ y ∈ l, lies x y = false) : Forks.pair l = none := by
  have key : ∀ k, k ≤ l.length → Forks.pairF l k = none := by
    intro k
    induction k with
    | zero => intro _; rfl
    | succ k ih =>
      intro hk
      exact Forks.pair_next (ih (by omega)) (Forks.clash_no (by omega) fun j hj => h _ (List.getElem_mem _) _ (List.getElem_mem _))
  exact key _ (Nat.le_refl _)
/-- of heads of one log none proves it: signed ones, twenty at most, those of one size of one root -/
theorem find_none {l : List Head} {key : Int} (hl : l.length ≤ 20) (hv : ∀ x ∈ l, verifyE x key = 0) (h : ∀ x ∈ l, ∀ y ∈ l, x.size = y.size → x.root = y.root) : Forks.findE l key = 5 ∧ Forks.findP l key = (0, 0) := by
  have hp : Forks.pair l = none := pair_none fun x hx y hy => decide_eq_false fun q => q.2 (h x hx y hy q.1)
  have ha : Forks.allE l key = 0 := Forks.allE_zero.2 hv
  have hE : Forks.findE l key = 5 := by
    unfold Forks.findE
    rw [if_neg (by omega), if_neg (by rw [ha]; decide), if_pos hp]
  refine ⟨hE, ?_⟩
  unfold Forks.findP
  rw [if_neg (by rw [hE]; decide)]
/-- two signed heads of one size and other roots prove it -/
theorem proves_yes {a b : Head} {key : Int} (ha : verifyE a key = 0) (hb : verifyE b key = 0) (hs : a.size = b.size) (hr : a.root ≠ b.root) : bothE a b key = 0 ∧ provesV a b key = true := by
  have hB : bothE a b key = 0 := by
    unfold Forks.bothE
    rw [if_pos ha]
    exact hb
  refine ⟨hB, ?_⟩
  unfold Forks.provesV
  rw [if_pos hB]
  exact decide_eq_true ⟨hs, hr⟩

end Go.Proofs.YthaibjidfgmdmahDoor.ForkOnes
