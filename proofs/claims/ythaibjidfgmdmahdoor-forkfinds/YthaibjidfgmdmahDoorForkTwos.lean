/-
  Plain mathematics of ForkFinds: heads of one log, signed by their sizes, go together, and heads of two logs, of one size and other roots, are found. Nothing of the program is named here.
-/
import Derived.Test.YthaibjidfgmdmahDoorForkOnes
namespace Go.Proofs.YthaibjidfgmdmahDoor.ForkTwos
open Heads (Head verifyE signE signV signOf isKey)
open Entries (Entry entsE leafsOf)
open Mirrors (rootE)
open Answers (logE logH)
open Forks (bothE provesV checkE checkV findE findP)
open ForkOnes (proofOf)

theorem sign_ok {h : Head} {key : Int} (h0 : signE h key = 0) : verifyE (signV h key) key = 0 ∧ signV h key = ⟨h.size, h.root, h.time, signOf h key⟩ := by
  have hv : signV h key = ⟨h.size, h.root, h.time, signOf h key⟩ := if_pos h0
  refine ⟨?_, hv⟩
  unfold Heads.signE at h0
  split at h0
  · rename_i h1
    obtain ⟨k1, k2⟩ := Heads.ok_iff.1 h1.2
    unfold Heads.verifyE
    rw [hv, if_pos ⟨h1.1, Heads.ok_iff.2 ⟨k1, k2.1, Heads.signOf_valid h key⟩⟩]
    exact if_pos rfl
  · cases h0
/-- two heads that are signed, of one size and other roots -/
theorem two_signed {a b : Head} {key : Int} (ha : signE a key = 0) (hb : signE b key = 0) (hs : a.size = b.size) (hr : a.root ≠ b.root) : bothE (signV a key) (signV b key) key = 0 ∧ provesV (signV a key) (signV b key) key = true := by
  obtain ⟨v1, e1⟩ := sign_ok ha
  obtain ⟨v2, e2⟩ := sign_ok hb
  exact ForkOnes.proves_yes v1 v2 (by rw [e1, e2]; exact hs) (by rw [e1, e2]; exact hr)
theorem first_two : signE ⟨1, 5, 0, 0⟩ 7 = 0 ∧ signE ⟨1, 6, 0, 0⟩ 7 = 0 ∧ bothE (signV ⟨1, 5, 0, 0⟩ 7) (signV ⟨1, 6, 0, 0⟩ 7) 7 = 0 ∧ provesV (signV ⟨1, 5, 0, 0⟩ 7) (signV ⟨1, 6, 0, 0⟩ 7) 7 = true := by
  have h1 : signE ⟨1, 5, 0, 0⟩ 7 = 0 := by decide
  have h2 : signE ⟨1, 6, 0, 0⟩ 7 = 0 := by decide
  exact ⟨h1, h2, two_signed h1 h2 rfl (by decide)⟩
/-- the head of the first n -/
def hd (l : List Entry) (key : Int) (n : Nat) : Head := logH (l.take n) key 0
theorem take_ok {l : List Entry} (hf : entsE l = 0) (n : Nat) : entsE (l.take n) = 0 := by
  obtain ⟨h1, h2⟩ := Entries.ents_ok hf
  exact Entries.ents_of (by rw [List.length_take]; omega) fun e he => h2 e (List.mem_of_mem_take he)
theorem log_take {l : List Entry} {key : Int} (hf : entsE l = 0) (hk : isKey key = true) (n : Nat) : logE (l.take n) key 0 = 0 := Serves.log_zero (take_ok hf n) hk (by decide) (by decide)
theorem sign_take {l : List Entry} {key : Int} (hf : entsE l = 0) (hk : isKey key = true) {n : Nat} (hn : n ≤ l.length) : signE ⟨n, rootE (l.take n), 0, 0⟩ key = 0 ∧ signV ⟨n, rootE (l.take n), 0, 0⟩ key = hd l key n := by
  have h0 := log_take hf hk n
  have hl : (l.take n).length = n := by rw [List.length_take]; omega
  have hb : (⟨n, rootE (l.take n), 0, 0⟩ : Head) = Answers.bare (l.take n) 0 := by unfold Answers.bare; rw [hl]
  have hE : signE ⟨n, rootE (l.take n), 0, 0⟩ key = 0 := by
    rw [hb]
    unfold Heads.signE
    exact if_pos ⟨(Answers.log_ok h0).2.1, (Answers.log_ok h0).2.2⟩
  refine ⟨hE, ?_⟩
  rw [(sign_ok hE).2]
  unfold hd
  rw [Serves.log_is h0, hl, ← hb]
theorem hd_is {l : List Entry} {key : Int} (hf : entsE l = 0) (hk : isKey key = true) {n : Nat} (hn : n ≤ l.length) : verifyE (hd l key n) key = 0 ∧ (hd l key n).size = (n : Int) ∧ (hd l key n).root = rootE (l.take n) := by
  have h0 := log_take hf hk n
  have hl : (l.take n).length = n := by rw [List.length_take]; omega
  refine ⟨Serves.log_verify h0, ?_, ?_⟩
  · unfold hd
    rw [Serves.log_is h0, hl]
  · unfold hd
    rw [Serves.log_is h0]
/-- the proof of a log of m entries that it has grown from n -/
theorem made {l : List Entry} (hf : entsE l = 0) {n m : Nat} (h1 : 1 ≤ n) (h2 : n < m) (h3 : m ≤ l.length) : GrowsE.gmakeE (leafsOf l) n m = 0 ∧ GrowsE.gmakeL (leafsOf l) n m = proofOf (l.take m) n := by
  have hlm : (l.take m).length = m := by rw [List.length_take]; omega
  obtain ⟨e1, e2⟩ := ForkOnes.made_ok (take_ok hf m) h1 (by omega : n ≤ (l.take m).length)
  rw [hlm] at e1 e2
  have hL : Trees.leafsE (leafsOf l) = 0 := by
    have h5 := (Entries.ents_ok hf).1
    unfold Trees.leafsE
    rw [if_neg (by rw [Serves.leafs_len]; omega)]
    exact if_pos (List.all_eq_true.2 (GrowRight.leafs_valid l))
  obtain ⟨_, k2⟩ := GrowsE.gmake_of e1
  have e3 : GrowsE.gmakeE (leafsOf l) n m = 0 := by
    unfold GrowsE.gmakeE
    rw [if_pos hL, if_pos]
    rw [Serves.leafs_len, hlm] at k2
    rw [Serves.leafs_len]
    unfold GrowsE.inGrow at k2 ⊢
    simp only [decide_eq_true_eq] at k2 ⊢
    omega
  refine ⟨e3, ?_⟩
  unfold ForkOnes.proofOf
  rw [if_pos ⟨h1, by omega⟩, hlm, e2]
  unfold GrowsE.gmakeL
  rw [if_pos e3, Int.toNat_natCast, Int.toNat_natCast]
  congr 1
  unfold Entries.leafsOf
  rw [List.map_take]
/-- two heads of one log go together -/
theorem goes {l : List Entry} {key : Int} (hf : entsE l = 0) (hk : isKey key = true) {n m : Nat} (h1 : n ≤ m) (h2 : m ≤ l.length) : checkE (hd l key n) (hd l key m) key (proofOf (l.take m) n) = 0 ∧ checkV (hd l key n) (hd l key m) key (proofOf (l.take m) n) = true := by
  have e : (l.take m).take n = l.take n := by rw [List.take_take, Nat.min_eq_left h1]
  obtain ⟨_, q1, q2, _⟩ := ForkOnes.together_of e (by rw [List.length_take]; omega) (log_take hf hk n) (log_take hf hk m)
  exact ⟨q1, q2⟩
theorem proof_none {l : List Entry} {n m : Nat} (h : ¬ (1 ≤ n ∧ n < m)) (h2 : m ≤ l.length) : proofOf (l.take m) n = [] := if_neg (by rw [List.length_take, Nat.min_eq_left h2]; exact h)
theorem proof_len (l : List Entry) (n : Nat) : (proofOf l n).length ≤ 201 := by
  unfold ForkOnes.proofOf
  split
  · exact GrowsE.gmakeL_len _ _ _
  · simp
/-- of heads of one log none are found -/
theorem none_found {l : List Entry} {key : Int} (hf : entsE l = 0) (hk : isKey key = true) {s : List Nat} (hs : s.length ≤ 8) (hl : ∀ n ∈ s, n ≤ l.length) : findE (s.map (hd l key)) key = 5 := by
  refine (ForkOnes.find_none (by rw [List.length_map]; omega) (fun x hx => ?_) (fun x hx y hy hxy => ?_)).1
  · obtain ⟨n, hn, rfl⟩ := List.mem_map.1 hx
    exact (hd_is hf hk (hl n hn)).1
  · obtain ⟨n, hn, rfl⟩ := List.mem_map.1 hx
    obtain ⟨m, hm, rfl⟩ := List.mem_map.1 hy
    obtain ⟨_, a2, a3⟩ := hd_is hf hk (hl n hn)
    obtain ⟨_, b2, b3⟩ := hd_is hf hk (hl m hm)
    rw [a2, b2] at hxy
    have : n = m := by omega
    subst this
    rfl
/-- two that lie are found -/
theorem two_found {p q : Head} {key : Int} (hp : verifyE p key = 0) (hq : verifyE q key = 0) (hs : p.size = q.size) (hr : p.root ≠ q.root) : findE [p, q] key = 0 ∧ findP [p, q] key = (0, 1) := by
  have hy : Forks.lies p q = true := decide_eq_true ⟨hs, hr⟩
  have h0 : Forks.pairF [p, q] 1 = none := Forks.pair_next rfl (Forks.clash_no (by simp) fun j hj => absurd hj (by omega))
  have hc : Forks.clashAt [p, q] 1 = some 0 := Forks.clash_yes (by simp) (by decide) (fun j hj => absurd hj (by omega)) hy
  have hpair : Forks.pair [p, q] = some (0, 1) := Forks.pair_at (by simp) h0 hc
  have ha : Forks.allE [p, q] key = 0 := Forks.allE_zero.2 fun h hm => by
    simp only [List.mem_cons, List.not_mem_nil, or_false] at hm
    rcases hm with rfl | rfl
    · exact hp
    · exact hq
  have hE : findE [p, q] key = 0 := by
    unfold Forks.findE
    rw [if_neg (by simp), if_neg (by rw [ha]; decide), if_neg (by rw [hpair]; simp)]
  refine ⟨hE, ?_⟩
  unfold Forks.findP
  rw [if_pos hE, hpair]
  rfl

end Go.Proofs.YthaibjidfgmdmahDoor.ForkTwos
