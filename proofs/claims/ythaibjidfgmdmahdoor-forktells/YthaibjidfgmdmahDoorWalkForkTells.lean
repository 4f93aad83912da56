/-
  The walk of ForkTells: what two heads prove, whether they go together, and the two of a list that prove it, are the document's.
-/
import Derived.Test.YthaibjidfgmdmahDoorWalkFo
import Derived.Test.YthaibjidfgmdmahDoorHeadRef
import Derived.Test.YthaibjidfgmdmahDoorGrowRef
import Derived.Test.YthaibjidfgmdmahDoorWalkTold
import Derived.Deep.CutBlock
import Derived.BigRegion
namespace Go.Proofs.YthaibjidfgmdmahDoor.WalkForkTells
open Go.RowKit
open Lists (Row ints bt)
open WalkTold (Laid)
open Errs (errv)
open Wides (Wide)
open Heads (Head verifyE)
open HeadVals (hv aggH sizeH At)
open HeadList (cells)
open GrowsE (growE)
open Forks (lies bothE provesV checkE checkV allE pairF pair findE findP clashAt)

theorem error_same (e : Nat) (w : World) (hg : Laid w) : Calls Tryd.prog 15 #[errv e, .int .i64 (e : Int)] w fun r w' => r = .returned (.bool true) ∧ Below w.heap.size w w' := by
  have h := WalkTold.error_is e (e : Int) w hg
  rw [beq_self_eq_true] at h
  exact h
/-- two heads beside each other -/
structure Two (w : World) (g : Nat) (a b : Head) : Prop where
  one : At w g a
  two : At w (g + 1) b
theorem Two.below {w w' : World} {g : Nat} {a b : Head} (h : Two w g a b) (k : Below w.heap.size w w') : Two w' g a b := ⟨h.one.below k, h.two.below k⟩

/-- the first k heads looked at -/
def St (l : List Head) (key : Int) (n k F : Nat) : Prop := (20 < n ∧ F = 4) ∨ (n ≤ 20 ∧ F = 0 ∧ ∀ h ∈ l.take k, verifyE h key = 0) ∨ (n ≤ 20 ∧ F ≠ 0 ∧ F = allE l key)
theorem St.zero {l : List Head} {key : Int} {n k : Nat} (h : St l key n k 0) : n ≤ 20 ∧ ∀ h ∈ l.take k, verifyE h key = 0 := by
  rcases h with ⟨_, h⟩ | ⟨h1, _, h2⟩ | ⟨_, h, _⟩
  · cases h
  · exact ⟨h1, h2⟩
  · exact absurd rfl h
theorem St.next {l : List Head} {key : Int} {n k : Nat} (h : St l key n k 0) (hk : k < l.length) : St l key n (k + 1) (verifyE l[k] key) := by
  obtain ⟨h1, h2⟩ := h.zero
  by_cases h3 : verifyE l[k] key = 0
  · refine .inr (.inl ⟨h1, h3, fun x hx => ?_⟩)
    rw [List.take_succ_eq_append_getElem hk] at hx
    rcases List.mem_append.1 hx with h4 | h4
    · exact h2 x h4
    · rw [List.mem_singleton.1 h4]
      exact h3
  · exact .inr (.inr ⟨h1, h3, (Forks.allE_first hk h2 h3).symm⟩)
theorem St.done {l : List Head} {key : Int} {n k : Nat} (h : St l key n k 0) (hk : l.length ≤ k) : 0 = if 20 < n then 4 else allE l key := by
  obtain ⟨h1, h2⟩ := h.zero
  rw [if_neg (by omega), List.take_of_length_le hk] at *
  exact (Forks.allE_zero.2 h2).symm
theorem St.bad {l : List Head} {key : Int} {n k F : Nat} (h : St l key n k F) (hF : F ≠ 0) : F = if 20 < n then 4 else allE l key := by
  rcases h with ⟨h1, h2⟩ | ⟨_, h1, _⟩ | ⟨h1, _, h2⟩
  · rw [if_pos h1, h2]
  · exact absurd h1 hF
  · rw [if_neg (by omega)]
    exact h2

theorem verify_five (h : Head) (key : Int) : verifyE h key ≠ 5 := by
  unfold Heads.verifyE
  split
  · split <;> decide
  · decide
theorem all_five (key : Int) : ∀ l : List Head, allE l key ≠ 5
  | [] => by simp [Forks.allE]
  | h :: l => by
    unfold Forks.allE
    split
    · exact all_five key l
    · exact verify_five h key
/-- those ahead of the k-th looked at -/
def Out (l : List Head) (F2 k f X Y : Nat) : Prop := (F2 ≠ 5 ∧ f = F2 ∧ X = 0 ∧ Y = 0) ∨ (F2 = 5 ∧ f = 5 ∧ X = 0 ∧ Y = 0 ∧ pairF l k = none) ∨ (F2 = 5 ∧ f = 0 ∧ pair l = some (X, Y))
theorem Out.five {l : List Head} {F2 k X Y : Nat} (h : Out l F2 k 5 X Y) : F2 = 5 ∧ X = 0 ∧ Y = 0 ∧ pairF l k = none := by
  rcases h with ⟨h1, h2, _⟩ | ⟨h1, _, h2, h3, h4⟩ | ⟨_, h, _⟩
  · exact absurd h2.symm h1
  · exact ⟨h1, h2, h3, h4⟩
  · cases h
theorem five_le {l : List Head} {key : Int} {n F F2 : Nat} (h2 : (if F = 0 then 5 else F) = F2) (hF : F = if 20 < n then 4 else allE l key) (h5 : F2 = 5) : n ≤ 20 := by
  rcases Nat.lt_or_ge 20 n with h | h
  · rw [if_pos h] at hF
    subst hF
    rw [if_neg (by decide)] at h2
    omega
  · exact h
theorem Out.fin {l : List Head} {key : Int} {n F F2 k f X Y : Nat} (h : Out l F2 k f X Y) (h2 : (if F = 0 then 5 else F) = F2) (hF : F = if 20 < n then 4 else allE l key) (hl : l.length = n) (hd : f ≠ 5 ∨ l.length ≤ k) : f = findE l key ∧ (X, Y) = findP l key := by
  have key5 : F2 = 5 → ¬ 20 < l.length ∧ allE l key = 0 := fun h5 => by
    have h20 := five_le h2 hF h5
    rw [if_neg (by omega)] at hF
    refine ⟨by omega, ?_⟩
    by_cases h0 : F = 0
    · rw [← hF]; exact h0
    · rw [if_neg h0] at h2
      exact absurd (by rw [← hF, h2]; exact h5) (all_five key l)
  rcases h with ⟨h1, h3, h4, h5⟩ | ⟨h1, h3, h4, h5, h6⟩ | ⟨h1, h3, h4⟩
  · subst h4 h5
    have h0 : F ≠ 0 := fun h0 => by rw [if_pos h0] at h2; exact h1 h2.symm
    rw [if_neg h0] at h2
    have hE : findE l key = F := by
      unfold Forks.findE
      rw [hl]
      by_cases h : 20 < n
      · rw [if_pos h] at hF ⊢
        exact hF.symm
      · rw [if_neg h] at hF ⊢
        rw [if_pos (by rw [← hF]; exact h0)]
        exact hF.symm
    refine ⟨by rw [hE]; omega, ?_⟩
    unfold Forks.findP
    rw [if_neg (by rw [hE]; exact h0)]
  · subst h4 h5
    obtain ⟨k1, k2⟩ := key5 h1
    have hk : l.length ≤ k := by
      rcases hd with h | h
      · exact absurd h3 h
      · exact h
    have hp : pair l = none := by
      cases hc : pair l with
      | none => rfl
      | some q => rw [Forks.pairF_mono hk hc] at h6; cases h6
    have hE : findE l key = 5 := by
      unfold Forks.findE
      rw [if_neg k1, if_neg (by rw [k2]; decide), if_pos hp]
    refine ⟨by rw [hE]; exact h3, ?_⟩
    unfold Forks.findP
    rw [if_neg (by rw [hE]; decide)]
  · obtain ⟨k1, k2⟩ := key5 h1
    have hE : findE l key = 0 := by
      unfold Forks.findE
      rw [if_neg k1, if_neg (by rw [k2]; decide), if_neg (by rw [h4]; simp)]
    refine ⟨by rw [hE]; exact h3, ?_⟩
    unfold Forks.findP
    rw [if_pos hE, h4]
    rfl

/-- the first i of them held against the k-th -/
def Inn (l : List Head) (k i f X Y : Nat) : Prop := (f = 5 ∧ X = 0 ∧ Y = 0 ∧ ∀ j, j < i → lies (l.getD j Heads.zero) (l.getD k Heads.zero) = false) ∨ (f = 0 ∧ pair l = some (X, Y))
theorem Inn.five {l : List Head} {k i X Y : Nat} (h : Inn l k i 5 X Y) : X = 0 ∧ Y = 0 ∧ ∀ j, j < i → lies (l.getD j Heads.zero) (l.getD k Heads.zero) = false := by
  rcases h with ⟨_, h⟩ | ⟨h, _⟩
  · exact h
  · cases h
theorem Inn.found {l : List Head} {k i f X Y : Nat} (h : Inn l k i f X Y) (hf : f ≠ 5) : Out l 5 (k + 1) f X Y := by
  rcases h with ⟨h, _⟩ | ⟨h1, h2⟩
  · exact absurd h hf
  · exact .inr (.inr ⟨rfl, h1, h2⟩)
theorem getD_is {l : List Head} {j : Nat} (h : j < l.length) : l.getD j Heads.zero = l[j] := by
  rw [List.getD_eq_getElem?_getD, List.getElem?_eq_getElem h]
  rfl
theorem Inn.none {l : List Head} {k i : Nat} (hk : k < l.length) (hp : pairF l k = Option.none) (hi : k ≤ i) (h : ∀ j, j < i → lies (l.getD j Heads.zero) (l.getD k Heads.zero) = false) : Out l 5 (k + 1) 5 0 0 := by
  refine .inr (.inl ⟨rfl, rfl, rfl, rfl, Forks.pair_next hp (Forks.clash_no hk fun j hj => ?_)⟩)
  have := h j (by omega)
  rw [getD_is hk, getD_is (by omega)] at this
  exact this
theorem Inn.next {l : List Head} {k i : Nat} (h : ∀ j, j < i → lies (l.getD j Heads.zero) (l.getD k Heads.zero) = false) (hx : lies (l.getD i Heads.zero) (l.getD k Heads.zero) = false) : Inn l k (i + 1) 5 0 0 := by
  refine .inl ⟨rfl, rfl, rfl, fun j hj => ?_⟩
  rcases Nat.lt_or_ge j i with h1 | h1
  · exact h j h1
  · obtain rfl : j = i := by omega
    exact hx
theorem Inn.yes {l : List Head} {k i : Nat} (hk : k < l.length) (hp : pairF l k = Option.none) (hi : i < k) (h : ∀ j, j < i → lies (l.getD j Heads.zero) (l.getD k Heads.zero) = false) (hx : lies (l.getD i Heads.zero) (l.getD k Heads.zero) = true) : Inn l k (i + 1) 0 i k := by
  refine .inr ⟨rfl, Forks.pair_at hk hp (Forks.clash_yes hk hi (fun j hj => ?_) ?_)⟩
  · have := h j hj
    rw [getD_is hk, getD_is (by omega)] at this
    exact this
  · rw [getD_is hk, getD_is (by omega)] at hx
    exact hx
theorem sizes {w : World} {b off n cap : Nat} {l : List Head} (h : Wide 4 w (some ⟨b, off, none⟩) n cap (cells l)) {j : Nat} (hj : j < l.length) :
    w.cell? ⟨b, off + j * 4, none⟩ = some (.int .i64 (l.getD j Heads.zero).size) ∧ w.cell? ⟨b, off + j * 4 + 1, none⟩ = some (.int .i64 (l.getD j Heads.zero).root) := by
  obtain ⟨h0, h1, _⟩ := HeadList.at_four h j hj
  rw [getD_is hj]
  exact ⟨h0, h1⟩

set_option maxHeartbeats 8000000 in
set_option maxRecDepth 100000 in
theorem walk (a0 : Int) (_ : (Lit.int .i64 a0).wf = true) (a1 : Int) (_ : (Lit.int .i64 a1).wf = true) (a2 : Int) (_ : (Lit.int .i64 a2).wf = true) (a3 : Int) (_ : (Lit.int .i64 a3).wf = true)
    (b0 : Int) (_ : (Lit.int .i64 b0).wf = true) (b1 : Int) (_ : (Lit.int .i64 b1).wf = true) (b2 : Int) (_ : (Lit.int .i64 b2).wf = true) (b3 : Int) (_ : (Lit.int .i64 b3).wf = true)
    (key : Int) (_ : (Lit.int .i64 key).wf = true) (ap : Option Addr) (np cp : Nat) (p : List Int) (hzp : p.length * 8 ≤ 140737488351232) (_ : ∀ x ∈ p, (Lit.int .i64 x).wf = true)
    (al : Option Addr) (n cap : Nat) (l : List Head) (_ : l.length * 32 ≤ 140737488351232) (_ : ∀ x ∈ l, HeadList.Fine x) (w : World) (hp : Row w ap np cp (ints p)) (hr : Wide 4 w al n cap (cells l)) (hL : Laid w) (hK : WalkFo.Asks w) :
    Calls Tryd.prog 4 #[.agg #[.int .i64 a0, .int .i64 a1, .int .i64 a2, .int .i64 a3], .agg #[.int .i64 b0, .int .i64 b1, .int .i64 b2, .int .i64 b3], .int .i64 key, .slice ap np cp, .slice al n cap] w fun e w' => e = .returned (.bool true) ∧ Below w.heap.size w w' := by
  have hpn : p.length = np := by rw [← hp.1, Lists.ints_length]
  have hln := HeadList.len_of hr
  have HR : Hid (∀ w', Below w.heap.size w w' → Wide 4 w' al n cap (cells l)) := fun w' b => hr.below b
  have HLn : Hid (l.length = n) := hln
  have HErr : Hid (∀ (e : Nat) (w' : World), Below w.heap.size w w' → Calls Tryd.prog 15 #[errv e, .int .i64 (e : Int)] w' fun r w'' => r = .returned (.bool true) ∧ Below w'.heap.size w' w'') := fun e w' b => error_same e w' (hL.below b)
  have HVa : Hid (∀ w', Calls Tryd.prog 13 #[.agg #[.int .i64 a0, .int .i64 a1, .int .i64 a2, .int .i64 a3], .int .i64 key] w' fun e w'' => e = .returned (.int .i64 (verifyE ⟨a0, a1, a2, a3⟩ key : Nat)) ∧ Below w'.heap.size w' w'') := fun w' => WalkVerifyRef.verify_any ⟨a0, a1, a2, a3⟩ key w'
  have HVb : Hid (∀ w', Calls Tryd.prog 13 #[.agg #[.int .i64 b0, .int .i64 b1, .int .i64 b2, .int .i64 b3], .int .i64 key] w' fun e w'' => e = .returned (.int .i64 (verifyE ⟨b0, b1, b2, b3⟩ key : Nat)) ∧ Below w'.heap.size w' w'') := fun w' => WalkVerifyRef.verify_any ⟨b0, b1, b2, b3⟩ key w'
  have HVl : Hid (∀ (x : Head) w', Calls Tryd.prog 13 #[.agg #[.int .i64 x.size, .int .i64 x.root, .int .i64 x.time, .int .i64 x.sign], .int .i64 key] w' fun e w'' => e = .returned (.int .i64 (verifyE x key : Nat)) ∧ Below w'.heap.size w' w'') := fun x w' => WalkVerifyRef.verify_any x key w'
  have HPr : Hid (∀ w', Below w.heap.size w w' → Calls Tryd.prog 14 #[.agg #[.int .i64 a0, .int .i64 a1, .int .i64 a2, .int .i64 a3], .agg #[.int .i64 b0, .int .i64 b1, .int .i64 b2, .int .i64 b3], .int .i64 key] w' fun e w'' => e = .returned (.tuple #[.bool (provesV ⟨a0, a1, a2, a3⟩ ⟨b0, b1, b2, b3⟩ key), errv (bothE ⟨a0, a1, a2, a3⟩ ⟨b0, b1, b2, b3⟩ key)]) ∧ Below w'.heap.size w' w'') := fun w' b => WalkFo.proves_any ⟨a0, a1, a2, a3⟩ ⟨b0, b1, b2, b3⟩ key w' (hK.below b)
  have HCh : Hid (∀ w', Below w.heap.size w w' → Calls Tryd.prog 17 #[.agg #[.int .i64 a0, .int .i64 a1, .int .i64 a2, .int .i64 a3], .agg #[.int .i64 b0, .int .i64 b1, .int .i64 b2, .int .i64 b3], .int .i64 key, .slice ap np cp] w' fun e w'' => e = .returned (.tuple #[.bool (checkV ⟨a0, a1, a2, a3⟩ ⟨b0, b1, b2, b3⟩ key p), errv (checkE ⟨a0, a1, a2, a3⟩ ⟨b0, b1, b2, b3⟩ key p)]) ∧ Below w'.heap.size w' w'') := fun w' b => WalkFo.check_any ⟨a0, a1, a2, a3⟩ ⟨b0, b1, b2, b3⟩ key p ap np cp w' (hp.below b) (by omega) (hL.below b) (hK.below b)
  have HFi : Hid (∀ w', Below w.heap.size w w' → Calls Tryd.prog 18 #[.slice al n cap, .int .i64 key] w' fun e w'' => e = .returned (.tuple #[.int .i64 ((findP l key).1 : Nat), .int .i64 ((findP l key).2 : Nat), errv (findE l key)]) ∧ Below w'.heap.size w' w'') := fun w' b => WalkFo.find_any l al n cap key w' (hr.below b) (hK.below b)
  have HGr : Hid (∀ w', Below w.heap.size w w' → Calls Tryd.prog 16 #[.int .i64 a1, .int .i64 a0, .int .i64 b1, .int .i64 b0, .slice ap np cp] w' fun e w'' => e = .returned (.int .i64 (growE a1 a0 b1 b0 p : Nat)) ∧ Below w'.heap.size w' w'') := fun w' b => WalkGrowRef.growCheck_any a1 a0 b1 b0 p ap np cp w' (hp.below b) (by omega)
  have HPn : Hid (p = [] ↔ np = 0) := by rw [← hpn]; exact List.length_eq_zero_iff.symm
  have aH := aggH
  have zH := sizeH
  have b0' : Below w.heap.size w ((w.alloc (.cells #[.int .i64 a0, .int .i64 a1, .int .i64 a2, .int .i64 a3] 30)).alloc (.cells #[.int .i64 b0, .int .i64 b1, .int .i64 b2, .int .i64 b3] 30)) := ((Below.refl _ _).alloc (Nat.le_refl _) _).alloc (by simp) _
  have hAB : Two ((w.alloc (.cells #[.int .i64 a0, .int .i64 a1, .int .i64 a2, .int .i64 a3] 30)).alloc (.cells #[.int .i64 b0, .int .i64 b1, .int .i64 b2, .int .i64 b3] 30)) w.heap.size ⟨a0, a1, a2, a3⟩ ⟨b0, b1, b2, b3⟩ :=
    ⟨(At.new w a0 a1 a2 a3).alloc _, by have h := At.new (w.alloc (.cells #[.int .i64 a0, .int .i64 a1, .int .i64 a2, .int .i64 a3] 30)) b0 b1 b2 b3; simpa using h⟩
  clear hp hr hL hK hzp
  go_enter Tryd.func4, Tryd.ntmps4
  go_upto_region 1 with fail
  have HB0 : Hid (Below w.heap.size w ((w.alloc (.cells #[.int .i64 a0, .int .i64 a1, .int .i64 a2, .int .i64 a3] 30)).alloc (.cells #[.int .i64 b0, .int .i64 b1, .int .i64 b2, .int .i64 b3] 30))) := b0'
  clear b0'
  generalize (w.alloc (.cells #[.int .i64 a0, .int .i64 a1, .int .i64 a2, .int .i64 a3] 30)).alloc (.cells #[.int .i64 b0, .int .i64 b1, .int .i64 b2, .int .i64 b3] 30) = w0 at HB0 hAB ⊢
  have HAB : Hid (Two w0 w.heap.size ⟨a0, a1, a2, a3⟩ ⟨b0, b1, b2, b3⟩) := hAB
  obtain ⟨⟨p0, p1, p2, p3⟩, ⟨q0, q1, q2, q3⟩⟩ := hAB
  simp only at p0 p1 p2 p3 q0 q1 q2 q3
  go_wp2_with fail
  refine (HVa.out _).mono ?_
  rintro e w1 ⟨rfl, b1'⟩
  have HB1 : Hid (Below w.heap.size w w1) := bt HB0.out b1'
  have HAB1 : Hid (Two w1 w.heap.size ⟨a0, a1, a2, a3⟩ ⟨b0, b1, b2, b3⟩) := HAB.out.below b1'
  clear p0 p1 p2 p3 q0 q1 q2 q3 HAB HB0 b1'
  obtain ⟨A, HA⟩ : ∃ A, Hid (verifyE ⟨a0, a1, a2, a3⟩ key = A) := ⟨_, rfl⟩
  obtain ⟨E, HE⟩ : ∃ E, Hid (bothE ⟨a0, a1, a2, a3⟩ ⟨b0, b1, b2, b3⟩ key = E) := ⟨_, rfl⟩
  rw [HA.out]
  go_upto_if 32 with fail
  go_cut [11] from 31 to 35 (fun v wc => v = .int .i64 (E : Int) ∧ Hid (Below w.heap.size w wc) ∧ Hid (Two wc w.heap.size ⟨a0, a1, a2, a3⟩ ⟨b0, b1, b2, b3⟩))
  case first => as_aux_lemma =>
    by_cases h : A = 0
    · subst h
      have HV : Hid (verifyE ⟨b0, b1, b2, b3⟩ key = E) := by
        show _ = _
        rw [← HE.out]
        unfold Forks.bothE
        rw [HA.out, if_pos rfl]
      obtain ⟨-, ⟨q0, q1, q2, q3⟩⟩ := HAB1.out
      simp only at q0 q1 q2 q3
      go_wp2_with fail
      refine (HVb.out _).mono ?_
      rintro e w2 ⟨rfl, b2'⟩
      have HB2 : Hid (Below w.heap.size w w2) := bt HB1.out b2'
      have HAB2 : Hid (Two w2 w.heap.size ⟨a0, a1, a2, a3⟩ ⟨b0, b1, b2, b3⟩) := HAB1.out.below b2'
      rw [HV.out]
      clear b2' q0 q1 q2 q3
      go_wp2_with fail
      go_meet
      case rel => exact ⟨rfl, HB2, HAB2⟩
    · have HV : Hid (A = E) := by
        show _ = _
        rw [← HE.out]
        unfold Forks.bothE
        rw [HA.out, if_neg h]
      have i1 : ((A : Int) == 0) = false := by rw [beq_eq_false_iff_ne]; omega
      have i2 : ¬ (A : Int) = 0 := by omega
      go_wp2_with fail
      go_meet
      case rel => exact ⟨by rw [HV.out], HB1, HAB1⟩
  obtain ⟨rfl, HB2, HAB2⟩ := hcut
  clear HB1 HAB1 HVa HVb HA
  obtain ⟨V, HV⟩ : ∃ V, Hid (provesV ⟨a0, a1, a2, a3⟩ ⟨b0, b1, b2, b3⟩ key = V) := ⟨_, rfl⟩
  go_upto_region 5 with fail
  go_cut [13] from 37 to 52 (fun v w5 => v = .bool V ∧ w5 = wc)
  case first => as_aux_lemma =>
    obtain ⟨⟨p0, p1, p2, p3⟩, ⟨q0, q1, q2, q3⟩⟩ := HAB2.out
    simp only at p0 p1 p2 p3 q0 q1 q2 q3
    by_cases h : E = 0
    · subst h
      have HX : Hid (V = decide (a0 = b0 ∧ a1 ≠ b1)) := by
        show _ = _
        rw [← HV.out]
        unfold Forks.provesV
        rw [if_pos HE.out]
        rfl
      by_cases h1 : a0 = b0
      · subst h1
        by_cases h2 : a1 = b1
        · subst h2
          go_wp2_with fail
          go_meet
          case rel => exact ⟨by rw [HX.out]; simp, rfl⟩
        · have i2 : (a1 != b1) = true := by rw [bne_iff_ne]; exact h2
          go_wp2_with fail
          go_meet
          case rel => exact ⟨by rw [HX.out]; simp [h2], rfl⟩
      · have i1 : (a0 == b0) = false := by rw [beq_eq_false_iff_ne]; exact h1
        go_wp2_with fail
        go_meet
        case rel => exact ⟨by rw [HX.out]; simp [h1], rfl⟩
    · have HX : Hid (V = false) := by
        show _ = _
        rw [← HV.out]
        unfold Forks.provesV
        rw [if_neg (by rw [HE.out]; exact h)]
      have i1 : ((E : Int) == 0) = false := by rw [beq_eq_false_iff_ne]; omega
      have i2 : ¬ (E : Int) = 0 := by omega
      go_wp2_with fail
      go_meet
      case rel => exact ⟨by rw [HX.out], rfl⟩
  obtain ⟨rfl, rfl⟩ := hcut
  obtain ⟨⟨p0, p1, p2, p3⟩, ⟨q0, q1, q2, q3⟩⟩ := HAB2.out
  simp only at p0 p1 p2 p3 q0 q1 q2 q3
  have cP := HPr.out _ HB2.out
  rw [HV.out, HE.out] at cP
  go_wp2_with fail
  refine cP.mono ?_
  rintro e w3 ⟨rfl, b3'⟩
  have HB3 : Hid (Below w.heap.size w w3) := bt HB2.out b3'
  have HAB3 : Hid (Two w3 w.heap.size ⟨a0, a1, a2, a3⟩ ⟨b0, b1, b2, b3⟩) := HAB2.out.below b3'
  clear b3' cP HB2 HAB2 p0 p1 p2 p3 q0 q1 q2 q3 HPr HV
  generalize hEv : errv E = EV
  have cE := HErr.out E w3 HB3.out
  rw [hEv] at cE
  clear hEv
  go_wp2_with fail
  refine cE.mono ?_
  rintro e w4 ⟨rfl, b4'⟩
  have HB4 : Hid (Below w.heap.size w w4) := bt HB3.out b4'
  have HAB4 : Hid (Two w4 w.heap.size ⟨a0, a1, a2, a3⟩ ⟨b0, b1, b2, b3⟩) := HAB3.out.below b4'
  clear b4' cE HB3 HAB3
  obtain ⟨C, HC⟩ : ∃ C, Hid (checkE ⟨a0, a1, a2, a3⟩ ⟨b0, b1, b2, b3⟩ key p = C) := ⟨_, rfl⟩
  obtain ⟨W, HW⟩ : ∃ W, Hid (checkV ⟨a0, a1, a2, a3⟩ ⟨b0, b1, b2, b3⟩ key p = W) := ⟨_, rfl⟩
  obtain ⟨G, HG⟩ : ∃ G, Hid (growE a1 a0 b1 b0 p = G) := ⟨_, rfl⟩
  have HCx : Hid (C = if E ≠ 0 then E else if b0 < a0 then 3 else if a0 = 0 ∧ 0 < b0 then 0 else if a0 = b0 then (if np = 0 then 0 else 3) else if G = 8 then 0 else G) := by
    show _ = _
    rw [← HC.out, ← HG.out]
    unfold Forks.checkE
    rw [HE.out]
    simp only [HPn.out]
  have HWx : Hid (W = if E ≠ 0 then false else if b0 < a0 then false else if a0 = 0 ∧ 0 < b0 then true else if a0 = b0 then (if np = 0 then decide (a1 = b1) else false) else decide (G = 0)) := by
    show _ = _
    rw [← HW.out, ← HG.out]
    unfold Forks.checkV
    rw [HE.out]
    simp only [HPn.out]
  go_upto_region 9 with fail
  go_cut [71] from 63 to 70 (fun v we => v = .bool (decide (E = 0 ∧ b0 < a0)) ∧ we = w4)
  case first => as_aux_lemma =>
    obtain ⟨⟨p0, p1, p2, p3⟩, ⟨q0, q1, q2, q3⟩⟩ := HAB4.out
    simp only at p0 p1 p2 p3 q0 q1 q2 q3
    by_cases h : E = 0
    · subst h
      go_wp2_with fail
      go_meet
      case rel => exact ⟨by simp, rfl⟩
    · have i1 : ((E : Int) == 0) = false := by rw [beq_eq_false_iff_ne]; omega
      have i2 : ¬ (E : Int) = 0 := by omega
      go_wp2_with fail
      go_meet
      case rel => exact ⟨by simp [h], rfl⟩
  obtain ⟨rfl, rfl⟩ := hcut
  go_upto_if 71 with fail
  go_cut [11, 17] from 63 to 116 (fun v11 v17 wd => v11 = .int .i64 (C : Int) ∧ v17 = .bool W ∧ Hid (Below w.heap.size w wd) ∧ Hid (Two wd w.heap.size ⟨a0, a1, a2, a3⟩ ⟨b0, b1, b2, b3⟩))
  case first => as_aux_lemma =>
    obtain ⟨⟨p0, p1, p2, p3⟩, ⟨q0, q1, q2, q3⟩⟩ := HAB4.out
    simp only at p0 p1 p2 p3 q0 q1 q2 q3
    by_cases h : E = 0
    rotate_left
    · have i1 : ((E : Int) == 0) = false := by rw [beq_eq_false_iff_ne]; omega
      have i2 : ¬ (E : Int) = 0 := by omega
      have HX : Hid (C = E ∧ W = false) := ⟨by rw [HCx.out, if_pos h], by rw [HWx.out, if_pos h]⟩
      rw [decide_eq_false (fun q : E = 0 ∧ b0 < a0 => h q.1)]
      go_wp2_with fail
      go_meet
      case rel => exact ⟨by rw [HX.out.1], by rw [HX.out.2], HB4, HAB4⟩
    subst h
    rw [if_neg (by decide)] at HCx HWx
    by_cases h1 : b0 < a0
    · have HX : Hid (C = 3 ∧ W = false) := ⟨by rw [HCx.out, if_pos h1], by rw [HWx.out, if_pos h1]⟩
      rw [decide_eq_true (show (0 : Nat) = 0 ∧ b0 < a0 from ⟨rfl, h1⟩)]
      go_wp2_with fail
      go_meet
      case rel => exact ⟨by rw [HX.out.1]; rfl, by rw [HX.out.2], HB4, HAB4⟩
    rw [if_neg h1] at HCx HWx
    rw [decide_eq_false (fun q : (0 : Nat) = 0 ∧ b0 < a0 => h1 q.2)]
    by_cases h2 : a0 = 0 ∧ 0 < b0
    · obtain ⟨h2a, h2b⟩ := h2
      subst h2a
      have i2 : b0 > 0 := h2b
      have HX : Hid (C = 0 ∧ W = true) := ⟨by rw [HCx.out, if_pos ⟨rfl, h2b⟩], by rw [HWx.out, if_pos ⟨rfl, h2b⟩]⟩
      go_wp2_with fail
      go_meet
      case rel => exact ⟨by rw [HX.out.1]; rfl, by rw [HX.out.2], HB4, HAB4⟩
    rw [if_neg h2] at HCx HWx
    go_upto_region 11 with fail
    go_cut [83] from 72 to 82 (fun v we => v = .bool false ∧ we = wc)
    case first => as_aux_lemma =>
      by_cases h4 : a0 = 0
      · subst h4
        have i3 : ¬ b0 > 0 := fun h5 => h2 ⟨rfl, h5⟩
        go_wp2_with fail
        go_meet
        case rel => exact ⟨rfl, rfl⟩
      · have i3 : (a0 == 0) = false := by rw [beq_eq_false_iff_ne]; exact h4
        go_wp2_with fail
        go_meet
        case rel => exact ⟨rfl, rfl⟩
    obtain ⟨rfl, rfl⟩ := hcut
    by_cases h3 : a0 = b0
    · subst h3
      rw [if_pos rfl] at HCx HWx
      by_cases h4 : np = 0
      · have HX : Hid (C = 0 ∧ W = decide (a1 = b1)) := ⟨by rw [HCx.out, if_pos h4], by rw [HWx.out, if_pos h4]⟩
        have i4 : ¬ (np : Int) > 0 := by omega
        have i5 : ¬ 0 < np := by omega
        subst h4
        go_wp2_with fail
        go_meet
        case rel => exact ⟨by rw [HX.out.1]; rfl, by rw [HX.out.2]; rfl, HB4, HAB4⟩
      · have HX : Hid (C = 3 ∧ W = false) := ⟨by rw [HCx.out, if_neg h4], by rw [HWx.out, if_neg h4]⟩
        have i4 : (np : Int) > 0 := by omega
        have i5 : 0 < np := by omega
        go_wp2_with fail
        go_meet
        case rel => exact ⟨by rw [HX.out.1]; rfl, by rw [HX.out.2], HB4, HAB4⟩
    rw [if_neg h3] at HCx HWx
    have i3 : (a0 == b0) = false := by rw [beq_eq_false_iff_ne]; exact h3
    have cG := HGr.out _ HB4.out
    rw [HG.out] at cG
    go_wp2_with fail
    refine cG.mono ?_
    rintro e w6 ⟨rfl, b6'⟩
    have HB6 : Hid (Below w.heap.size w w6) := bt HB4.out b6'
    have HAB6 : Hid (Two w6 w.heap.size ⟨a0, a1, a2, a3⟩ ⟨b0, b1, b2, b3⟩) := HAB4.out.below b6'
    clear b6' cG p0 p1 p2 p3 q0 q1 q2 q3
    by_cases h5 : G = 8
    · have HX : Hid (C = 0 ∧ W = false) := ⟨by rw [HCx.out, if_pos h5], by rw [HWx.out, decide_eq_false (by omega)]⟩
      subst h5
      go_wp2_with fail
      go_meet
      case rel => exact ⟨by rw [HX.out.1]; rfl, by rw [HX.out.2], HB6, HAB6⟩
    · have HX : Hid (C = G) := by show _ = _; rw [HCx.out, if_neg h5]
      have i6 : ((G : Int) == 8) = false := by rw [beq_eq_false_iff_ne]; omega
      by_cases h6 : G = 0
      · subst h6
        have HY : Hid (W = true) := by show _ = _; rw [HWx.out]; rfl
        go_wp2_with fail
        go_meet
        case rel => exact ⟨by rw [HX.out]; rfl, by rw [HY.out], HB6, HAB6⟩
      · have HY : Hid (W = false) := by show _ = _; rw [HWx.out, decide_eq_false h6]
        have i7 : ((G : Int) == 0) = false := by rw [beq_eq_false_iff_ne]; omega
        go_wp2_with fail
        go_meet
        case rel => exact ⟨by rw [HX.out], by rw [HY.out], HB6, HAB6⟩
  obtain ⟨rfl, rfl, HB5, HAB5⟩ := hcut
  clear HB4 HAB4 HCx HWx HGr HG
  obtain ⟨⟨p0, p1, p2, p3⟩, ⟨q0, q1, q2, q3⟩⟩ := HAB5.out
  simp only at p0 p1 p2 p3 q0 q1 q2 q3
  have cC := HCh.out _ HB5.out
  rw [HC.out, HW.out] at cC
  generalize hCv : errv C = CV at cC
  have HCv : Hid (errv C = CV) := hCv
  clear hCv
  go_wp2_with fail
  refine cC.mono ?_
  rintro e w7 ⟨rfl, b7'⟩
  have HB7 : Hid (Below w.heap.size w w7) := bt HB5.out b7'
  clear b7' cC HB5 HAB5 p0 p1 p2 p3 q0 q1 q2 q3 HCh
  have cE2 := HErr.out C w7 HB7.out
  rw [HCv.out] at cE2
  go_wp2_with fail
  refine cE2.mono ?_
  rintro e w8 ⟨rfl, b8'⟩
  have HB8 : Hid (Below w.heap.size w w8) := bt HB7.out b8'
  clear b8' cE2 HB7 HCv HC HW HE hpn HPn
  -- the list
  go_upto_if 130 with fail
  go_cut [12] from 128 to 130 (fun v we => v = .int .i64 ((if 20 < n then 4 else 0 : Nat) : Int) ∧ we = w8)
  case first => as_aux_lemma =>
    by_cases h : 20 < n
    · have i1 : (n : Int) > 20 := by omega
      have i2 : (20 : Int) < (n : Int) := by omega
      go_wp2_with fail
      go_meet
      case rel => exact ⟨by rw [if_pos h]; rfl, rfl⟩
    · have i1 : ¬ (n : Int) > 20 := by omega
      have i2 : ¬ (20 : Int) < (n : Int) := by omega
      go_wp2_with fail
      go_meet
      case rel => exact ⟨by rw [if_neg h]; rfl, rfl⟩
  obtain ⟨rfl, rfl⟩ := hcut
  obtain ⟨F0, HF0⟩ : ∃ F0 : Nat, Hid ((if 20 < n then 4 else 0) = F0) := ⟨_, rfl⟩
  rw [HF0.out]
  go_upto_block 0 with fail
  go_cut [12, 20] from 131 to 146 (fun f _ we => ∃ F : Nat, f = .int .i64 (F : Int) ∧ Hid (F = if 20 < n then 4 else allE l key) ∧ Hid (Below w.heap.size w we))
  case first => as_aux_lemma =>
    go_wp2_with fail
    go_loopw [12, 20] (fun f i wr => ∃ k F : Nat, k ≤ n ∧ i = .int .i64 (k : Int) ∧ f = .int .i64 (F : Int) ∧ Hid (St l key n k F) ∧ Hid (Below w.heap.size w wr)) (fun _ i _ => n - (intOf i).toNat)
    case atStart =>
      refine ⟨0, F0, Nat.zero_le _, rfl, rfl, ?_, HB8⟩
      show St l key n 0 F0
      rw [← HF0.out]
      by_cases h : 20 < n
      · exact .inl ⟨h, if_pos h⟩
      · exact .inr (.inl ⟨by omega, if_neg h, fun x hx => by cases hx⟩)
    case round =>
      obtain ⟨k, F, hk, rfl, rfl, HS, HB⟩ := hrel
      by_cases hF : F = 0
      · subst hF
        have HS0 := HS.out.zero
        by_cases hlt : k < n
        · have i1 : (k : Int) < (n : Int) := by omega
          have hkl : k < l.length := by have := HLn.out; omega
          obtain ⟨gb, go, rfl, _⟩ := (HR.out _ HB.out).2.2 (by omega)
          obtain ⟨c0, c1, c2, c3⟩ := HeadList.at_four (HR.out _ HB.out) k hkl
          have cV := HVl.out l[k] wr
          have HN : Hid (St l key n (k + 1) (verifyE l[k] key)) := HS.out.next hkl
          generalize l[k] = X at c0 c1 c2 c3 cV HN
          obtain ⟨x0, x1, x2, x3⟩ := X
          simp only at c0 c1 c2 c3 cV
          generalize verifyE ⟨x0, x1, x2, x3⟩ key = R at cV HN
          have n20 : n ≤ 20 := HS0.1
          clear hkl HS HS0
          go_wp2_with fail
          refine cV.mono ?_
          rintro e w9 ⟨rfl, b9⟩
          have HB9 : Hid (Below w.heap.size w w9) := bt HB.out b9
          clear b9 cV c0 c1 c2 c3
          go_wp2_with fail
          go_roundw
          case rel => exact ⟨k + 1, R, by omega, by go_num, rfl, HN, HB9⟩
          case measure => simp [intOf]; omega
        · have i1 : ¬ (k : Int) < (n : Int) := by omega
          have HX : Hid (0 = if 20 < n then 4 else allE l key) := HS.out.done (by have := HLn.out; omega)
          go_wp2_with fail
          go_meet
          case rel => exact ⟨0, rfl, HX, HB⟩
      · have i3 : ((F : Int) == 0) = false := by rw [beq_eq_false_iff_ne]; omega
        have HX : Hid (F = if 20 < n then 4 else allE l key) := HS.out.bad hF
        by_cases hlt : k < n
        · have i1 : (k : Int) < (n : Int) := by omega
          go_wp2_with fail
          go_meet
          case rel => exact ⟨F, rfl, HX, HB⟩
        · have i1 : ¬ (k : Int) < (n : Int) := by omega
          go_wp2_with fail
          go_meet
          case rel => exact ⟨F, rfl, HX, HB⟩
  obtain ⟨F, rfl, HF, HB9⟩ := hcut
  clear HB8 HF0
  obtain ⟨F2, HF2⟩ : ∃ F2 : Nat, Hid ((if F = 0 then 5 else F) = F2) := ⟨_, rfl⟩
  go_upto_if 148 with fail
  go_cut [12] from 147 to 148 (fun v we => v = .int .i64 (F2 : Int) ∧ we = wc)
  case first => as_aux_lemma =>
    by_cases h : F = 0
    · have HX : Hid (F2 = 5) := by show _ = _; rw [← HF2.out, if_pos h]
      subst h
      go_wp2_with fail
      go_meet
      case rel => exact ⟨by rw [HX.out]; rfl, rfl⟩
    · have HX : Hid (F2 = F) := by show _ = _; rw [← HF2.out, if_neg h]
      have i1 : ((F : Int) == 0) = false := by rw [beq_eq_false_iff_ne]; omega
      go_wp2_with fail
      go_meet
      case rel => exact ⟨by rw [HX.out], rfl⟩
  obtain ⟨rfl, rfl⟩ := hcut
  have HO0 : Hid (Out l F2 0 F2 0 0) := by
    show Out l F2 0 F2 0 0
    by_cases h : F2 = 5
    · exact .inr (.inl ⟨h, h, rfl, rfl, rfl⟩)
    · exact .inl ⟨h, rfl, rfl, rfl⟩
  have HFin : Hid (∀ k f X Y, Out l F2 k f X Y → (f ≠ 5 ∨ l.length ≤ k) → f = findE l key ∧ (X, Y) = findP l key) := fun k f X Y ho hd => ho.fin HF2.out HF.out HLn.out hd
  have HN20 : Hid (F2 = 5 → n ≤ 20) := fun h => five_le HF2.out HF.out h
  go_upto_block 2 with fail
  go_cut [12, 21, 22, 23, 24] from 149 to 193 (fun f x y _ _ we => f = .int .i64 (findE l key : Int) ∧ x = .int .i64 ((findP l key).1 : Int) ∧ y = .int .i64 ((findP l key).2 : Int) ∧ Hid (Below w.heap.size w we))
  case first => as_aux_lemma =>
    go_wp2_with fail
    go_loopw [12, 21, 22, 23, 24] (fun f x y kv _ wr => ∃ k f' X Y : Nat, k ≤ n ∧ f = .int .i64 (f' : Int) ∧ x = .int .i64 (X : Int) ∧ y = .int .i64 (Y : Int) ∧ kv = .int .i64 (k : Int) ∧ Hid (Out l F2 k f' X Y) ∧ Hid (Below w.heap.size w wr)) (fun _ _ _ kv _ _ => n - (intOf kv).toNat)
    case atStart => exact ⟨0, F2, 0, 0, Nat.zero_le _, rfl, rfl, rfl, rfl, HO0, HB9⟩
    case round =>
      obtain ⟨k, f', X, Y, hk, rfl, rfl, rfl, rfl, HO, HBk⟩ := hrel
      by_cases hf : f' = 5
      rotate_left
      · obtain ⟨e1, e2⟩ := HFin.out k f' X Y HO.out (.inl hf)
        have HX : Hid (f' = findE l key ∧ X = (findP l key).1 ∧ Y = (findP l key).2) := ⟨e1, by rw [← e2], by rw [← e2]⟩
        have i3 : ((f' : Int) == 5) = false := by rw [beq_eq_false_iff_ne]; omega
        clear e1 e2
        by_cases hlt : k < n
        · have i1 : (k : Int) < (n : Int) := by omega
          go_wp2_with fail
          go_meet
          case rel => exact ⟨by rw [HX.out.1], by rw [HX.out.2.1], by rw [HX.out.2.2], HBk⟩
        · have i1 : ¬ (k : Int) < (n : Int) := by omega
          go_wp2_with fail
          go_meet
          case rel => exact ⟨by rw [HX.out.1], by rw [HX.out.2.1], by rw [HX.out.2.2], HBk⟩
      subst hf
      by_cases hlt : k < n
      rotate_left
      · obtain ⟨e1, e2⟩ := HFin.out k 5 X Y HO.out (.inr (by have := HLn.out; omega))
        have HX : Hid (5 = findE l key ∧ X = (findP l key).1 ∧ Y = (findP l key).2) := ⟨e1, by rw [← e2], by rw [← e2]⟩
        have i1 : ¬ (k : Int) < (n : Int) := by omega
        clear e1 e2
        go_wp2_with fail
        go_meet
        case rel => exact ⟨by rw [← HX.out.1]; rfl, by rw [HX.out.2.1], by rw [HX.out.2.2], HBk⟩
      obtain ⟨h2, rfl, rfl, hpk⟩ := HO.out.five
      subst h2
      have n20 := HN20.out rfl
      have i1 : (k : Int) < (n : Int) := by omega
      have hkl : k < l.length := by have := HLn.out; omega
      obtain ⟨gb, go, rfl, _⟩ := (HR.out _ HBk.out).2.2 (by omega)
      have HCl : Hid (∀ wr j, Below w.heap.size w wr → j < n → wr.cell? ⟨gb, go + j * 4, none⟩ = some (.int .i64 (l.getD j Heads.zero).size) ∧ wr.cell? ⟨gb, go + j * 4 + 1, none⟩ = some (.int .i64 (l.getD j Heads.zero).root)) := fun wr j hb hj => sizes (HR.out _ hb) (j := j) (by have := HLn.out; omega)
      have HKl : Hid (k < l.length) := hkl
      have HPk : Hid (pairF l k = none) := hpk
      clear hkl hpk HFin
      go_wp2_with fail
      go_loopw [12, 21, 22, 24] (fun f x y iv wr => ∃ i f' X Y : Nat, i ≤ k ∧ f = .int .i64 (f' : Int) ∧ x = .int .i64 (X : Int) ∧ y = .int .i64 (Y : Int) ∧ iv = .int .i64 (i : Int) ∧ Hid (Inn l k i f' X Y) ∧ Hid (Below w.heap.size w wr)) (fun _ _ _ iv _ => k - (intOf iv).toNat)
      case atStart => exact ⟨0, 5, 0, 0, Nat.zero_le _, rfl, rfl, rfl, rfl, .inl ⟨rfl, rfl, rfl, fun j hj => by omega⟩, HBk⟩
      case round =>
        obtain ⟨i, f', X, Y, hi, rfl, rfl, rfl, rfl, HI, HBi⟩ := hrel
        by_cases hf : f' = 5
        rotate_left
        · have HX : Hid (Out l 5 (k + 1) f' X Y) := HI.out.found hf
          have i3 : ((f' : Int) == 5) = false := by rw [beq_eq_false_iff_ne]; omega
          by_cases hik : i < k
          · have i4 : (i : Int) < (k : Int) := by omega
            go_wp2_with fail
            go_roundw
            case rel => exact ⟨k + 1, f', X, Y, by omega, rfl, rfl, rfl, by go_num, HX, HBi⟩
            case measure => simp [intOf]; omega
          · have i4 : ¬ (i : Int) < (k : Int) := by omega
            go_wp2_with fail
            go_roundw
            case rel => exact ⟨k + 1, f', X, Y, by omega, rfl, rfl, rfl, by go_num, HX, HBi⟩
            case measure => simp [intOf]; omega
        subst hf
        obtain ⟨rfl, rfl, hno⟩ := HI.out.five
        by_cases hik : i < k
        rotate_left
        · have i4 : ¬ (i : Int) < (k : Int) := by omega
          have HX : Hid (Out l 5 (k + 1) 5 0 0) := Inn.none HKl.out HPk.out (by omega) hno
          go_wp2_with fail
          go_roundw
          case rel => exact ⟨k + 1, 5, 0, 0, by omega, rfl, rfl, rfl, by go_num, HX, HBi⟩
          case measure => simp [intOf]; omega
        have i4 : (i : Int) < (k : Int) := by omega
        have i5 : (i : Int) < (n : Int) := by omega
        obtain ⟨c0, c1⟩ := HCl.out wr i HBi.out (by omega)
        obtain ⟨d0, d1⟩ := HCl.out wr k HBi.out hlt
        have HXn : Hid (lies (l.getD i Heads.zero) (l.getD k Heads.zero) = false → Inn l k (i + 1) 5 0 0) := fun h => Inn.next hno h
        have HXy : Hid (lies (l.getD i Heads.zero) (l.getD k Heads.zero) = true → Inn l k (i + 1) 0 i k) := fun h => Inn.yes HKl.out HPk.out hik hno h
        generalize l.getD k Heads.zero = K at d0 d1 HXn HXy
        obtain ⟨k0, k1, k2, k3⟩ := K
        simp only at d0 d1
        generalize l.getD i Heads.zero = I at c0 c1 HXn HXy
        obtain ⟨e0, e1, e2, e3⟩ := I
        simp only at c0 c1
        clear hno HI
        by_cases h1 : e0 = k0
        · subst h1
          by_cases h2 : e1 = k1
          · subst h2
            have HY : Hid (Inn l k (i + 1) 5 0 0) := HXn.out (decide_eq_false fun q => q.2 rfl)
            clear HXn HXy
            go_upto_region 42 with fail
            go_region
            go_wp2_with fail
            go_roundw
            case rel => exact ⟨i + 1, 5, 0, 0, by omega, rfl, rfl, rfl, by go_num, HY, HBi.out.drew⟩
            case measure => simp [intOf]; omega
          · have HY : Hid (Inn l k (i + 1) 0 i k) := HXy.out (decide_eq_true ⟨rfl, h2⟩)
            have i6 : (e1 != k1) = true := by rw [bne_iff_ne]; exact h2
            clear HXn HXy
            go_upto_region 42 with fail
            go_region
            go_wp2_with fail
            go_roundw
            case rel => exact ⟨i + 1, 0, i, k, by omega, rfl, rfl, rfl, by go_num, HY, HBi.out.drew⟩
            case measure => simp [intOf]; omega
        · have HY : Hid (Inn l k (i + 1) 5 0 0) := HXn.out (decide_eq_false fun q => h1 q.1)
          have i6 : (e0 == k0) = false := by rw [beq_eq_false_iff_ne]; exact h1
          clear HXn HXy
          go_upto_region 42 with fail
          go_region
          go_wp2_with fail
          go_roundw
          case rel => exact ⟨i + 1, 5, 0, 0, by omega, rfl, rfl, rfl, by go_num, HY, HBi.out.drew⟩
          case measure => simp [intOf]; omega
  obtain ⟨rfl, rfl, rfl, HBa⟩ := hcut
  clear HB9 HO0 HFin HN20 HF HF2
  have cF := HFi.out _ HBa.out
  generalize hEv : errv (findE l key) = FV at cF
  have HEv : Hid (errv (findE l key) = FV) := hEv
  have cE3 := HErr.out (findE l key)
  rw [hEv] at cE3
  generalize findE l key = FE at cE3 ⊢
  generalize (findP l key).1 = FX at cF ⊢
  generalize (findP l key).2 = FY at cF ⊢
  clear hEv HEv
  go_wp2_with fail
  refine cF.mono ?_
  rintro e wb ⟨rfl, bb⟩
  have HBb : Hid (Below w.heap.size w wb) := bt HBa.out bb
  clear bb cF
  go_wp2_with fail
  refine (cE3 _ HBb.out).mono ?_
  rintro e wf ⟨rfl, bf⟩
  have HBf : Hid (Below w.heap.size w wf) := bt HBb.out bf
  clear bf cE3
  cases V <;> cases W
  all_goals
    go_wp2_with fail
    go_ret
    exact ⟨rfl, HBf.out⟩

end Go.Proofs.YthaibjidfgmdmahDoor.WalkForkTells
