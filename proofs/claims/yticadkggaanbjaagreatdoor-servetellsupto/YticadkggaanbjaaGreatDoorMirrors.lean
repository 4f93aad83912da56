/-
  Plain mathematics of who follows a log: what it has, what it wants, and what becomes of it when it hears a reply. Nothing of the program is named here.
-/
import Derived.Test.YticadkggaanbjaaGreatDoorMirPlain
import Derived.Test.YticadkggaanbjaaGreatDoorGrowPlain
namespace Go.Proofs.YticadkggaanbjaaGreatDoor.Mirrors
open Heads (Head verifyE ok zero more isKey)
open Entries (Entry entE entsE firstE leafsOf)

/-- the root of entries -/
def rootE (l : List Entry) : Int := Trees.root (leafsOf l)
/-- a reply of a log -/
structure Reply where
  what : Int
  head : Head
  ents : List Entry
  proof : List Int
/-- what it has: its own, the head by which it went last, the one it heard, the entries that wait -/
structure Mir where
  own : List Entry
  head : Head
  next : Head
  waits : List Entry
def start : Mir := ⟨[], zero, zero, []⟩
/-- how many it has, with those that wait -/
def Mir.has (m : Mir) : Nat := m.own.length + m.waits.length
structure Want where
  what : Int
  fr : Int
  to_ : Int
/-- what it wants -/
def Mir.want (m : Mir) : Want := if m.next.size = 0 then ⟨1, 0, 0⟩ else if (m.has : Int) = m.next.size then ⟨3, m.own.length, m.has⟩ else ⟨2, m.has, if m.next.size < m.has + 16 then m.next.size else m.has + 16⟩
def Mir.forget (m : Mir) : Mir := ⟨m.own, m.head, zero, []⟩
def Mir.all (m : Mir) : List Entry := m.own ++ m.waits
def Mir.settledE (m : Mir) : Nat := if rootE m.all = m.next.root then 0 else 8
def Mir.settled (m : Mir) : Mir := if rootE m.all = m.next.root then ⟨m.all, m.next, zero, []⟩ else m.forget
/-- a head is heard -/
def headE (key : Int) (m : Mir) (h : Head) : Nat := if verifyE h key = 0 then (if h.size < m.own.length ∨ (h.size = m.own.length ∧ h.root ≠ rootE m.own) then 3 else 0) else verifyE h key
def headM (key : Int) (m : Mir) (h : Head) : Mir := if headE key m h = 0 then (if (m.own.length : Int) < h.size then { m with next := h } else if more h m.head = true then { m with head := h } else m) else m
/-- entries are heard -/
def someE0 (m : Mir) (l : List Entry) : Nat := if l.length = 0 ∨ m.want.to_ - m.want.fr < l.length then 3 else entsE l
def Mir.with (m : Mir) (l : List Entry) : Mir := { m with waits := m.waits ++ l }
def ends (m : Mir) : Bool := decide (m.own.length = 0 ∧ (m.waits.length : Int) = m.next.size)
def someE (m : Mir) (l : List Entry) : Nat := if someE0 m l = 0 then (if ends (m.with l) = true then (m.with l).settledE else 0) else someE0 m l
def someM (m : Mir) (l : List Entry) : Mir := if someE0 m l = 0 then (if ends (m.with l) = true then (m.with l).settled else m.with l) else m.forget
/-- a proof is heard -/
def proofE0 (m : Mir) (p : List Int) : Nat := GrowsE.growE (rootE m.own) m.own.length m.next.root m.next.size p
def proofE (m : Mir) (p : List Int) : Nat := if proofE0 m p = 0 then m.settledE else proofE0 m p
def proofM (m : Mir) (p : List Int) : Mir := if proofE0 m p = 0 then m.settled else m.forget
/-- a reply is heard -/
def hearE (key : Int) (m : Mir) (r : Reply) : Nat := if r.what = 0 then 0 else if r.what ≠ m.want.what then 3 else if m.want.what = 1 then headE key m r.head else if m.want.what = 2 then someE m r.ents else proofE m r.proof
def hearM (key : Int) (m : Mir) (r : Reply) : Mir := if r.what = 0 then m else if r.what ≠ m.want.what then m else if m.want.what = 1 then headM key m r.head else if m.want.what = 2 then someM m r.ents else proofM m r.proof

/-! what holds of it, whatever it heard -/
structure Ok (key : Int) (m : Mir) : Prop where
  own : ∀ e ∈ m.own, entE e = 0
  waits : ∀ e ∈ m.waits, entE e = 0
  few : m.own.length ≤ 200
  none : m.next.size = 0 → m.next = zero ∧ m.waits = []
  some : m.next.size ≠ 0 → verifyE m.next key = 0 ∧ (m.own.length : Int) < m.next.size ∧ (m.has : Int) ≤ m.next.size ∧ ends m = false
  head : (m.head = zero ∧ m.own = []) ∨ (verifyE m.head key = 0 ∧ m.head.size = m.own.length ∧ m.head.root = rootE m.own)

theorem start_ok (key : Int) : Ok key start := ⟨fun e he => (by cases he), fun e he => (by cases he), Nat.zero_le _, fun _ => ⟨rfl, rfl⟩, fun h => absurd rfl h, .inl ⟨rfl, rfl⟩⟩
theorem verify_ok {h : Head} {key : Int} (hv : verifyE h key = 0) : isKey key = true ∧ ok h = true ∧ h.sign = Heads.signOf h key := by
  unfold verifyE at hv
  split at hv
  · rename_i h1
    split at hv
    · exact ⟨h1.1, h1.2, by assumption⟩
    · cases hv
  · cases hv
theorem size_ok {h : Head} {key : Int} (hv : verifyE h key = 0) : 0 ≤ h.size ∧ h.size ≤ 200 := by
  have := (Heads.ok_iff.1 (verify_ok hv).2.1).1
  exact ⟨this.1, this.2.1⟩
theorem forget_ok {key : Int} {m : Mir} (h : Ok key m) : Ok key m.forget := ⟨h.own, fun e he => (by cases he), h.few, fun _ => ⟨rfl, rfl⟩, fun h1 => absurd rfl h1, h.head⟩
/-- what it has, once all are there -/
theorem settled_ok {key : Int} {m : Mir} (hown : ∀ e ∈ m.own, entE e = 0) (hw : ∀ e ∈ m.waits, entE e = 0) (few : m.own.length ≤ 200) (hv : verifyE m.next key = 0) (hh : (m.has : Int) = m.next.size)
    (head : (m.head = zero ∧ m.own = []) ∨ (verifyE m.head key = 0 ∧ m.head.size = m.own.length ∧ m.head.root = rootE m.own)) : Ok key m.settled := by
  unfold Mir.settled
  split
  · rename_i hr
    have hl : (m.all.length : Int) = m.next.size := by rw [← hh]; unfold Mir.all Mir.has; simp
    have := (size_ok hv).2
    refine ⟨fun e he => ?_, fun e he => (by cases he), by show m.all.length ≤ 200; omega, fun _ => ⟨rfl, rfl⟩, fun h1 => absurd rfl h1, .inr ⟨hv, hl.symm, hr.symm⟩⟩
    rcases List.mem_append.1 he with he | he
    · exact hown e he
    · exact hw e he
  · exact ⟨hown, fun e he => (by cases he), few, fun _ => ⟨rfl, rfl⟩, fun h1 => absurd rfl h1, head⟩
theorem want_one {m : Mir} (h : m.want.what = 1) : m.next.size = 0 := by
  unfold Mir.want at h
  split at h
  · assumption
  · split at h
    · simp at h
    · simp at h
theorem want_two {m : Mir} (h : m.want.what = 2) : m.next.size ≠ 0 ∧ (m.has : Int) ≠ m.next.size ∧ m.want.fr = m.has ∧ m.want.to_ = if m.next.size < m.has + 16 then m.next.size else m.has + 16 := by
  unfold Mir.want at h ⊢
  split at h
  · simp at h
  · rename_i h1
    split at h
    · simp at h
    · rename_i h2
      rw [if_neg h1, if_neg h2]
      exact ⟨h1, h2, rfl, rfl⟩
theorem want_else {m : Mir} (h : m.want.what ≠ 1) (h2 : m.want.what ≠ 2) : m.want = ⟨3, m.own.length, m.has⟩ ∧ m.next.size ≠ 0 ∧ (m.has : Int) = m.next.size := by
  unfold Mir.want at h h2 ⊢
  split at h
  · simp at h
  · rename_i h1
    rw [if_neg h1] at h2 ⊢
    split at h
    · rename_i h3
      rw [if_pos h3]
      exact ⟨rfl, h1, h3⟩
    · rename_i h3
      rw [if_neg h3] at h2
      simp at h2
theorem head_ok {key : Int} {m : Mir} (h : Ok key m) (hn : m.next.size = 0) (x : Head) : Ok key (headM key m x) := by
  unfold headM
  split
  · rename_i he
    have hv : verifyE x key = 0 := by
      unfold headE at he
      split at he
      · assumption
      · exact he
    have hs := (size_ok hv)
    have hc : ¬ (x.size < m.own.length ∨ (x.size = m.own.length ∧ x.root ≠ rootE m.own)) := by
      unfold headE at he
      rw [if_pos hv] at he
      split at he
      · cases he
      · assumption
    obtain ⟨h1, h2⟩ := h.none hn
    split
    · rename_i hlt
      refine ⟨h.own, h.waits, h.few, fun h3 => absurd h3 (by show x.size ≠ 0; omega), fun _ => ⟨hv, hlt, ?_, ?_⟩, h.head⟩
      · show ((m.own.length + m.waits.length : Nat) : Int) ≤ x.size
        rw [h2]
        simp
        omega
      · show decide (m.own.length = 0 ∧ (m.waits.length : Int) = x.size) = false
        rw [h2]
        simp
        omega
    · rename_i hlt
      split
      · refine ⟨h.own, h.waits, h.few, h.none, h.some, .inr ⟨hv, by show x.size = (m.own.length : Int); omega, ?_⟩⟩
        show x.root = rootE m.own
        refine Decidable.byContradiction fun hne => hc (.inr ⟨by omega, hne⟩)
      · exact h
  · exact h
theorem some_ok {key : Int} {m : Mir} (h : Ok key m) (h2 : m.want.what = 2) (l : List Entry) : Ok key (someM m l) := by
  obtain ⟨w1, w2, w3, w4⟩ := want_two h2
  obtain ⟨s1, s2, s3, s4⟩ := h.some w1
  unfold someM
  split
  · rename_i he
    have hc : ¬ (l.length = 0 ∨ m.want.to_ - m.want.fr < l.length) := by
      unfold someE0 at he
      split at he
      · cases he
      · assumption
    have hen : entsE l = 0 := by
      unfold someE0 at he
      rw [if_neg hc] at he
      exact he
    have hle : m.want.to_ ≤ m.next.size := by rw [w4]; split <;> omega
    have hhas : (((m.with l).has : Nat) : Int) ≤ m.next.size := by
      show ((m.own.length + (m.waits ++ l).length : Nat) : Int) ≤ _
      have : (m.has : Int) = ((m.own.length + m.waits.length : Nat) : Int) := rfl
      rw [List.length_append]
      omega
    have hw : ∀ e ∈ (m.with l).waits, entE e = 0 := by
      intro e he
      rcases List.mem_append.1 he with he | he
      · exact h.waits e he
      · exact (Entries.ents_ok hen).2 e he
    split
    · rename_i hend
      have hend : (m.with l).own.length = 0 ∧ ((m.with l).waits.length : Int) = m.next.size := of_decide_eq_true hend
      refine settled_ok h.own hw h.few s1 ?_ h.head
      show (((m.with l).own.length + (m.with l).waits.length : Nat) : Int) = m.next.size
      omega
    · rename_i hend
      exact ⟨h.own, hw, h.few, fun h3 => absurd h3 w1, fun _ => ⟨s1, s2, hhas, by simpa using hend⟩, h.head⟩
  · exact forget_ok h
theorem proof_ok {key : Int} {m : Mir} (h : Ok key m) (hn : m.next.size ≠ 0) (hh : (m.has : Int) = m.next.size) (p : List Int) : Ok key (proofM m p) := by
  unfold proofM
  split
  · exact settled_ok h.own h.waits h.few (h.some hn).1 hh h.head
  · exact forget_ok h
theorem hear_ok {key : Int} {m : Mir} (h : Ok key m) (r : Reply) : Ok key (hearM key m r) := by
  unfold hearM
  split
  · exact h
  · split
    · exact h
    · split
      · exact head_ok h (want_one (by assumption)) _
      · split
        · exact some_ok h (by assumption) _
        · obtain ⟨_, h1, h2⟩ := want_else (m := m) (by assumption) (by assumption)
          exact proof_ok h h1 h2 _
/-- its own entries stay the first ones -/
theorem hear_first (key : Int) (m : Mir) (r : Reply) : m.own <+: (hearM key m r).own := by
  have hs : ∀ x : Mir, x.own = m.own → m.own <+: x.settled.own := by
    intro x hx
    unfold Mir.settled
    split
    · show m.own <+: x.own ++ x.waits
      rw [hx]
      exact List.prefix_append _ _
    · show m.own <+: x.own
      rw [hx]
      exact List.prefix_refl _
  unfold hearM
  split
  · exact List.prefix_refl _
  · split
    · exact List.prefix_refl _
    · split
      · unfold headM
        split
        · split
          · exact List.prefix_refl _
          · split <;> exact List.prefix_refl _
        · exact List.prefix_refl _
      · split
        · unfold someM
          split
          · split
            · exact hs _ rfl
            · exact List.prefix_refl _
          · exact List.prefix_refl _
        · unfold proofM
          split
          · exact hs _ rfl
          · exact List.prefix_refl _

end Go.Proofs.YticadkggaanbjaaGreatDoor.Mirrors
