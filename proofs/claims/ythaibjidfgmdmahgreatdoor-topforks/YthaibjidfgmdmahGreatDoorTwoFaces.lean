/-
  Plain mathematics of two mirrors that were told other entries, as many: their heads prove that the log lies, or two texts have one sum. Nothing of the program is named here.
-/
import Derived.Test.YthaibjidfgmdmahGreatDoorSePlain
import Derived.Test.YthaibjidfgmdmahGreatDoorForks
namespace Go.Proofs.YthaibjidfgmdmahGreatDoor.TwoFaces
open Entries (Entry entE entsE leafsOf)
open Heads (Head verifyE)
open Mirrors
open Follows (At)
open Forks (lies bothE provesV)

/-- an entry as a text -/
def enc (e : Entry) : ByteArray := Nums.str (Entries.bytes e)
theorem enc_data (e : Entry) : (enc e).data.toList = Entries.bytes e := Nums.str_data _
theorem enc_inj {a b : Entry} (ha : entE a = 0) (hb : entE b = 0) (h : enc a = enc b) : a = b := by
  have h1 : Entries.bytes a = Entries.bytes b := by rw [← enc_data, ← enc_data, h]
  have h2 := Entries.dec_bytes ha
  rw [h1, Entries.dec_bytes hb] at h2
  exact (Option.some.inj h2).symm
theorem encs_inj : ∀ {l o : List Entry}, (∀ e ∈ l, entE e = 0) → (∀ e ∈ o, entE e = 0) → l.map enc = o.map enc → l = o
  | [], [], _, _, _ => rfl
  | [], _ :: _, _, _, h => by simp at h
  | _ :: _, [], _, _, h => by simp at h
  | a :: l, b :: o, hl, ho, h => by
    simp only [List.map_cons, List.cons.injEq] at h
    rw [enc_inj (hl a (by simp)) (ho b (by simp)) h.1, encs_inj (fun e he => hl e (by simp [he])) (fun e he => ho e (by simp [he])) h.2]
theorem encs_leafs (l : List Entry) : Trees.leafs (l.map enc) = leafsOf l := by
  unfold Trees.leafs leafsOf
  rw [List.map_map]
  refine List.map_congr_left fun e _ => ?_
  rw [Function.comp_apply, Trees.leaf, enc_data]
theorem encs_root (l : List Entry) : Trees.root (Trees.leafs (l.map enc)) = rootE l := by rw [encs_leafs]; rfl
theorem data_ok {x : List ByteArray} (hn : x.length ≤ 200) (h : ∀ s ∈ x, s.size ≤ 200) : Trees.dataOk x = true := by
  unfold Trees.dataOk Trees.shortOk
  rw [decide_eq_true hn]
  simp only [Bool.true_and, List.all_eq_true, decide_eq_true_eq]
  exact h
/-- two lists of one root: two texts have one sum -/
theorem collides {l o : List Entry} (hl : entsE l = 0) (ho : entsE o = 0) (hn : l.length = o.length) (hne : l ≠ o) (hr : rootE l = rootE o) (h1 : ∀ s ∈ l.map enc, s.size ≤ 200) (h2 : ∀ s ∈ o.map enc, s.size ≤ 200) :
    Trees.collideE (l.map enc) (o.map enc) = 0 ∧ (Trees.collideV (l.map enc) (o.map enc)).1 ≠ (Trees.collideV (l.map enc) (o.map enc)).2 ∧ Sums.sum (Trees.collideV (l.map enc) (o.map enc)).1.data.toList = Sums.sum (Trees.collideV (l.map enc) (o.map enc)).2.data.toList ∧ (Trees.collideV (l.map enc) (o.map enc)).1.size ≤ 201 ∧ (Trees.collideV (l.map enc) (o.map enc)).2.size ≤ 201 := by
  obtain ⟨l1, l2⟩ := Entries.ents_ok hl
  obtain ⟨o1, o2⟩ := Entries.ents_ok ho
  have d1 := data_ok (x := l.map enc) (by rw [List.length_map]; exact l1) h1
  have d2 := data_ok (x := o.map enc) (by rw [List.length_map]; exact o1) h2
  have hlen : (l.map enc).length = (o.map enc).length := by rw [List.length_map, List.length_map, hn]
  have hx : l.map enc ≠ o.map enc := fun q => hne (encs_inj l2 o2 q)
  have hroot : Trees.root (Trees.leafs (l.map enc)) = Trees.root (Trees.leafs (o.map enc)) := by rw [encs_root, encs_root, hr]
  obtain ⟨e1, e2⟩ := Trees.collide_0 (by rw [d1, d2]; rfl) hlen hx hroot
  obtain ⟨q1, q2⟩ := Trees.clash_true _ _ _ (Nat.lt_succ_self _) hlen hx hroot
  obtain ⟨z1, z2⟩ := Trees.clash_size _ _ _ (Nat.lt_succ_self _) h1 h2
  rw [e2]
  exact ⟨e1, q1, q2, z1, z2⟩
/-- the heads of two mirrors that have all of two logs, as many -/
theorem faces {l o : List Entry} {key : Int} {n : Nat} (hl : l.length = n) (ho : o.length = n) (h1 : 1 ≤ n) {x y : Mir} (hx : At key l n x) (hy : At key o n y) (okx : Ok key x) (oky : Ok key y) :
    bothE x.head y.head key = 0 ∧ provesV x.head y.head key = decide (rootE l ≠ rootE o) := by
  have key_ : ∀ {l : List Entry} {m : Mir}, l.length = n → At key l n m → Ok key m → verifyE m.head key = 0 ∧ m.head.size = (n : Int) ∧ m.head.root = rootE l := fun {l m} hl hm ok => by
    have e : m.own = l := by rw [hm.own, List.take_of_length_le (by omega)]
    rcases ok.head with ⟨_, q⟩ | ⟨q1, q2, q3⟩
    · rw [e] at q
      rw [q] at hl
      simp at hl
      omega
    · rw [e] at q2 q3
      exact ⟨q1, by rw [q2, hl], q3⟩
  obtain ⟨a1, a2, a3⟩ := key_ hl hx okx
  obtain ⟨b1, b2, b3⟩ := key_ ho hy oky
  have hB : bothE x.head y.head key = 0 := by
    unfold Forks.bothE
    rw [if_pos a1]
    exact b1
  refine ⟨hB, ?_⟩
  unfold Forks.provesV
  rw [if_pos hB]
  unfold Forks.lies
  rw [a2, b2, a3, b3]
  apply decide_eq_decide.2
  exact ⟨fun q => q.2, fun q => ⟨rfl, q⟩⟩

end Go.Proofs.YthaibjidfgmdmahGreatDoor.TwoFaces
