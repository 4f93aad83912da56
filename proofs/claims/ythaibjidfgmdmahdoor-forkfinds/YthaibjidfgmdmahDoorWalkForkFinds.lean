/-
  The walk of ForkFinds: of heads of one log each two go together and none are found; of heads of two logs, of one size and other roots, two are found.
-/
import Derived.Test.YthaibjidfgmdmahDoorWalkFo
import Derived.Test.YthaibjidfgmdmahDoorForkTwos
import Derived.Test.YthaibjidfgmdmahDoorEntAll
import Derived.Test.YthaibjidfgmdmahDoorWalkCheck
import Derived.Test.YthaibjidfgmdmahDoorWalkGrowMake
import Derived.Test.YthaibjidfgmdmahDoorWalkTold
import Derived.Deep.MidRow
import Derived.Deep.CutBlock
namespace Go.Proofs.YthaibjidfgmdmahDoor.WalkForkFinds
open Go.RowKit
open Lists (Row ints bt)
open Keeps (owns_row)
open WalkTold (Laid)
open Errs (errv errv0 errv_pos)
open Wides (Wide)
open Heads (Head verifyE signE signV isKey)
open HeadVals (hv aggH sizeH At)
open Entries (Entry entsE leafsOf leafsV)
open Mirrors (rootE)
open ForkOnes (proofOf)
open ForkTwos (hd)

theorem error_five (w : World) (hg : Laid w) : Calls Tryd.prog 15 #[errv 5, .int .i64 5] w fun r w' => r = .returned (.bool true) ∧ Below w.heap.size w w' := by
  have h := WalkTold.error_is 5 5 w hg
  exact h
theorem infoH : (Tryd.prog.info? 30).map (fun i => (i.zero, i.size, i.bytes)) = some (some (.agg #[.int .i64 0, .int .i64 0, .int .i64 0, .int .i64 0]), 4, 32) := by kernel_rfl
theorem cell_four_new (w : World) (a b c d : Value) (t : TypeId) : ∀ j u, [a, b, c, d][j]? = some u → (w.alloc (.cells #[a, b, c, d] t)).cell? ((⟨w.heap.size, 0, none⟩ : Addr).add j) = some u := by
  intro j u hj
  match j, hj with
  | 0, hj | 1, hj | 2, hj | 3, hj => all_goals (simp at hj; subst hj; simp [Addr.add])
  | j + 4, hj => simp at hj
theorem leafs_take (l : List Entry) (k : Nat) : (ints (leafsOf l)).take k = ints (leafsOf (l.take k)) := by
  unfold Lists.ints Entries.leafsOf
  rw [← List.map_take, ← List.map_take]
theorem leafs_fine {l : List Entry} (hf : entsE l = 0) : Trees.leafsE (leafsOf l) = 0 := by
  unfold Trees.leafsE
  rw [if_neg (by have := (Entries.ents_ok hf).1; simp only [leafsOf, List.length_map]; omega)]
  exact if_pos (List.all_eq_true.2 (GrowRight.leafs_valid l))
/-- the root of the first k -/
theorem root_first {l : List Entry} (hf : entsE l = 0) (a : Option Addr) (n cap : Nat) (w : World) (hr : Row w a n cap (ints (leafsOf l))) (k : Nat) (hk : k ≤ n) :
    Calls Tryd.prog 21 #[.slice a k cap] w fun e w' => e = .returned (.tuple #[.int .i64 (rootE (l.take k)), .nilIface]) ∧ Below w.heap.size w w' := by
  have h := WalkCheck.root_any (leafsOf (l.take k)) a k cap w (by rw [← leafs_take]; exact hr.take k hk)
  have hE := leafs_fine (ForkTwos.take_ok hf k)
  rw [hE, WalkCheck.errv0, show Trees.rootV (leafsOf (l.take k)) = rootE (l.take k) from if_pos hE] at h
  exact h
theorem sign_first {l : List Entry} (hf : entsE l = 0) {key : Int} (hk : isKey key = true) (k : Nat) (hl : k ≤ l.length) (w : World) (hT : WalkHdLib.Tabs w) :
    Calls Tryd.prog 19 #[.agg #[.int .i64 (k : Int), .int .i64 (rootE (l.take k)), .int .i64 0, .int .i64 0], .int .i64 key] w fun e w' => e = .returned (.tuple #[hv (hd l key k), .nilIface]) ∧ Below w.heap.size w w' := by
  have h := WalkHdSign.sign_any ⟨(k : Int), rootE (l.take k), 0, 0⟩ key w hT
  obtain ⟨h1, h2⟩ := ForkTwos.sign_take hf hk hl
  rw [h1, h2, errv0] at h
  exact h

theorem hd_four {l : List Entry} (hf : entsE l = 0) {key : Int} (hk : isKey key = true) (k : Nat) (hl : k ≤ l.length) : ∃ h1 h2 h3, hd l key k = ⟨(k : Int), h1, h2, h3⟩ := by
  have e := (ForkTwos.hd_is hf hk hl).2.1
  generalize hd l key k = H at e ⊢
  obtain ⟨q0, q1, q2, q3⟩ := H
  simp only at e
  subst e
  exact ⟨q1, q2, q3, rfl⟩
theorem cells_snoc (m : List Head) (a b c d : Int) : HeadList.cells (m ++ [⟨a, b, c, d⟩]) = HeadList.cells m ++ [.int .i64 a, .int .i64 b, .int .i64 c, .int .i64 d] := by
  rw [HeadList.cells_append]
  rfl
theorem four_one (a b c d : Int) : (#[.int .i64 a, .int .i64 b, .int .i64 c, .int .i64 d] : Array Value).all (·.oneCell') = true :=
  all_oneCell_toArray (cs := [.int .i64 a, .int .i64 b, .int .i64 c, .int .i64 d]) fun v hv => by
    simp at hv
    rcases hv with rfl | rfl | rfl | rfl <;> rfl
theorem quad_there {w : World} {g : Nat} {f : Nat → Value} (h : w.rowIs g 30 4 f) : w.there g 0 4 := fun j hj => by
  rw [Nat.zero_add, h.cell hj]
  exact ⟨rfl, h.frozen j⟩
/-- four cells set in one block: another stays -/
theorem quad_other {w : World} {g k : Nat} {f : Nat → Value} (h : w.rowIs k 30 4 f) (hk : k ≠ g) (x0 x1 x2 x3 : Value) : ((((w.setCell ⟨g, 0, none⟩ x0).setCell ⟨g, 1, none⟩ x1).setCell ⟨g, 2, none⟩ x2).setCell ⟨g, 3, none⟩ x3).rowIs k 30 4 f := by
  have q := (((Keeps.Kept.refl (fun i => i = g) w).setCell (p := ⟨g, 0, none⟩) (.inl rfl) x0).setCell (p := ⟨g, 1, none⟩) (.inl rfl) x1).setCell (p := ⟨g, 2, none⟩) (.inl rfl) x2 |>.setCell (p := ⟨g, 3, none⟩) (.inl rfl) x3
  exact h.of_block (q.block k h.lt hk)

set_option maxHeartbeats 16000000 in
set_option maxRecDepth 100000 in
theorem walk (a : Option Addr) (n cap : Nat) (l : List Entry) (_ : l.length * 24 ≤ 140737488351232) (hw : ∀ x ∈ l, (Lit.int .i64 x.1).wf = true ∧ x.2.size ≤ maxLen)
    (a2 : Option Addr) (n2 cap2 : Nat) (o : List Entry) (_ : o.length * 24 ≤ 140737488351232) (hw2 : ∀ x ∈ o, (Lit.int .i64 x.1).wf = true ∧ x.2.size ≤ maxLen)
    (key : Int) (_ : (Lit.int .i64 key).wf = true) (a3 : Option Addr) (n3 cap3 : Nat) (s : List Int) (_ : s.length * 8 ≤ 140737488351232) (_ : ∀ x ∈ s, (Lit.int .i64 x).wf = true)
    (w : World) (r : Wide 2 w a n cap (EntRows.cells l)) (r2 : Wide 2 w a2 n2 cap2 (EntRows.cells o)) (r3 : Row w a3 n3 cap3 (ints s)) (hL : Laid w) (hK : WalkHdLib.Tabs w) :
    Calls Tryd.prog 5 #[.slice a n cap, .slice a2 n2 cap2, .int .i64 key, .slice a3 n3 cap3] w fun e w' => e = .returned (.bool true) ∧ Below w.heap.size w w' := by
  have hln := EntRows.len_of r
  have hon := EntRows.len_of r2
  have hsn : s.length = n3 := by rw [← r3.1, Lists.ints_length]
  have HT : Hid (∀ w', Below w.heap.size w w' → WalkHdLib.Tabs w') := fun w' b => hK.below b
  have HLd : Hid (∀ w', Below w.heap.size w w' → Laid w') := fun w' b => hL.below b
  have HR3 : Hid (∀ w', Below w.heap.size w w' → Row w' a3 n3 cap3 (ints s)) := fun w' b => r3.below b
  have HLl : Hid (∀ w', Below w.heap.size w w' → Calls Tryd.prog 20 #[.slice a n cap] w' fun e w'' => ∃ v, e = .returned (.tuple #[v, errv (entsE l)]) ∧ w''.ownsRow w'.heap.size 3 1 v (leafsV l).length (ints (leafsV l)) ∧ Below w'.heap.size w' w'') := fun w' b => WalkEnt.leafs_any l a n cap w' (r.below b) fun e he => (hw e he).2
  have HLo : Hid (∀ w', Below w.heap.size w w' → Calls Tryd.prog 20 #[.slice a2 n2 cap2] w' fun e w'' => ∃ v, e = .returned (.tuple #[v, errv (entsE o)]) ∧ w''.ownsRow w'.heap.size 3 1 v (leafsV o).length (ints (leafsV o)) ∧ Below w'.heap.size w' w'') := fun w' b => WalkEnt.leafs_any o a2 n2 cap2 w' (r2.below b) fun e he => (hw2 e he).2
  have HX : Hid (∀ w', Below w.heap.size w w' → Calls Tryd.prog 19 #[.agg #[.int .i64 1, .int .i64 5, .int .i64 0, .int .i64 0], .int .i64 7] w' fun e w'' => e = .returned (.tuple #[hv (signV ⟨1, 5, 0, 0⟩ 7), .nilIface]) ∧ Below w'.heap.size w' w'') := fun w' b => by
    have h := WalkHdSign.sign_any ⟨1, 5, 0, 0⟩ 7 w' (HT.out w' b)
    rw [ForkTwos.first_two.1, errv0] at h
    exact h
  have HY : Hid (∀ w', Below w.heap.size w w' → Calls Tryd.prog 19 #[.agg #[.int .i64 1, .int .i64 6, .int .i64 0, .int .i64 0], .int .i64 7] w' fun e w'' => e = .returned (.tuple #[hv (signV ⟨1, 6, 0, 0⟩ 7), .nilIface]) ∧ Below w'.heap.size w' w'') := fun w' b => by
    have h := WalkHdSign.sign_any ⟨1, 6, 0, 0⟩ 7 w' (HT.out w' b)
    rw [ForkTwos.first_two.2.1, errv0] at h
    exact h
  have HP : Hid (∀ w', Below w.heap.size w w' → Calls Tryd.prog 14 #[hv (signV ⟨1, 5, 0, 0⟩ 7), hv (signV ⟨1, 6, 0, 0⟩ 7), .int .i64 7] w' fun e w'' => e = .returned (.tuple #[.bool true, .nilIface]) ∧ Below w'.heap.size w' w'') := fun w' b => by
    have h := WalkFo.proves_any (signV ⟨1, 5, 0, 0⟩ 7) (signV ⟨1, 6, 0, 0⟩ 7) 7 w' (HT.out w' b)
    rw [ForkTwos.first_two.2.2.1, ForkTwos.first_two.2.2.2, errv0] at h
    exact h
  generalize signV ⟨1, 5, 0, 0⟩ 7 = X at HX HP
  generalize signV ⟨1, 6, 0, 0⟩ 7 = Y at HY HP
  obtain ⟨x0, x1, x2, x3⟩ := X
  obtain ⟨y0, y1, y2, y3⟩ := Y
  have aH := aggH
  have zH := sizeH
  unfold hv at HX HY HP
  simp only at HX HY HP
  clear hL hK r r2 r3 hw hw2
  go_enter Tryd.func5, Tryd.ntmps5
  go_wp2_with fail
  refine (HX.out w (Below.refl _ _)).mono ?_
  rintro e w1 ⟨rfl, b1⟩
  go_upto_region 2 with fail
  have HB1 : Hid (Below w.heap.size w (w1.alloc (.cells #[.int .i64 x0, .int .i64 x1, .int .i64 x2, .int .i64 x3] 30))) := b1.alloc b1.size _
  have HA1 : Hid (At (w1.alloc (.cells #[.int .i64 x0, .int .i64 x1, .int .i64 x2, .int .i64 x3] 30)) w1.heap.size ⟨x0, x1, x2, x3⟩) := At.new w1 x0 x1 x2 x3
  generalize w1.alloc (.cells #[.int .i64 x0, .int .i64 x1, .int .i64 x2, .int .i64 x3] 30) = w2 at HB1 HA1 ⊢
  generalize w1.heap.size = gx at HA1 ⊢
  clear b1
  go_wp2_with fail
  refine (HY.out w2 HB1.out).mono ?_
  rintro e w3 ⟨rfl, b3⟩
  go_upto_region 3 with fail
  have HB3 : Hid (Below w.heap.size w (w3.alloc (.cells #[.int .i64 y0, .int .i64 y1, .int .i64 y2, .int .i64 y3] 30))) := bt HB1.out (b3.alloc b3.size _)
  have HA3 : Hid (At (w3.alloc (.cells #[.int .i64 y0, .int .i64 y1, .int .i64 y2, .int .i64 y3] 30)) w3.heap.size ⟨y0, y1, y2, y3⟩) := At.new w3 y0 y1 y2 y3
  have HA4 : Hid (At (w3.alloc (.cells #[.int .i64 y0, .int .i64 y1, .int .i64 y2, .int .i64 y3] 30)) gx ⟨x0, x1, x2, x3⟩) := (HA1.out.below b3).alloc _
  generalize w3.alloc (.cells #[.int .i64 y0, .int .i64 y1, .int .i64 y2, .int .i64 y3] 30) = w4 at HB3 HA3 HA4 ⊢
  generalize w3.heap.size = gy at HA3 ⊢
  clear b3 HB1 HA1 HX HY
  obtain ⟨p0, p1, p2, p3⟩ := HA4.out
  obtain ⟨q0, q1, q2, q3⟩ := HA3.out
  simp only at p0 p1 p2 p3 q0 q1 q2 q3
  go_wp2_with fail
  refine (HP.out w4 HB3.out).mono ?_
  rintro e w5 ⟨rfl, b5⟩
  have HB5 : Hid (Below w.heap.size w w5) := bt HB3.out b5
  clear b5 p0 p1 p2 p3 q0 q1 q2 q3 HA3 HA4 HB3 HP
  go_wp2_with fail
  refine (HLl.out w5 HB5.out).mono ?_
  rintro e w6 ⟨v6, rfl, o6, b6⟩
  have HB6 : Hid (Below w.heap.size w w6) := bt HB5.out b6
  by_cases hl : entsE l = 0
  rotate_left
  · rw [errv_pos _ hl]
    obtain ⟨EO, HEO⟩ : ∃ EO, Hid (errv (entsE o) = EO) := ⟨_, rfl⟩
    have cO := HLo.out w6 HB6.out
    rw [HEO.out] at cO
    clear o6 b6 hl HLl HLo
    go_wp2_with fail
    refine cO.mono ?_
    rintro e w7 ⟨v7, rfl, _, b7⟩
    have HB7 : Hid (Below w.heap.size w w7) := bt HB6.out b7
    clear cO b7
    go_wp2_with fail
    go_ret
    exact ⟨rfl, HB7.out⟩
  have HEl : Hid (entsE l = 0) := hl
  rw [show leafsV l = leafsOf l from if_pos hl, Serves.leafs_len, hln] at o6
  rw [hl, errv0]
  obtain ⟨al, cl, rfl, rl, -⟩ := owns_row o6
  have HRl : Hid (∀ w', Below w6.heap.size w6 w' → Row w' al n cl (ints (leafsOf l))) := fun w' b => rl.below b
  have HCl0 : Hid (n ≤ cl) := rl.2.1
  clear o6 b6 hl HLl rl
  go_wp2_with fail
  refine (HLo.out w6 HB6.out).mono ?_
  rintro e w7 ⟨v7, rfl, o7, b7⟩
  have HB7 : Hid (Below w.heap.size w w7) := bt HB6.out b7
  have HC7 : Hid (Below w6.heap.size w6 w7) := b7
  by_cases ho : entsE o = 0
  rotate_left
  · rw [errv_pos _ ho]
    clear o7 b7 ho HLo
    go_wp2_with fail
    go_ret
    exact ⟨rfl, HB7.out⟩
  have HEo : Hid (entsE o = 0) := ho
  rw [show leafsV o = leafsOf o from if_pos ho, Serves.leafs_len, hon] at o7
  rw [ho, errv0]
  obtain ⟨ao, co, rfl, ro, -⟩ := owns_row o7
  have HRo : Hid (∀ w', Below w7.heap.size w7 w' → Row w' ao n2 co (ints (leafsOf o))) := fun w' b => ro.below b
  have HRm : Hid (∀ w', Below w7.heap.size w7 w' → Row w' al n cl (ints (leafsOf l))) := fun w' b => HRl.out w' (bt HC7.out b)
  have HCo : Hid (n2 ≤ co) := ro.2.1
  clear o7 b7 ho HLo ro HRl HC7
  by_cases hk1 : key < 1
  · go_wp2_with fail
    go_ret
    exact ⟨rfl, HB7.out⟩
  by_cases hk2 : 1000000 < key
  · go_wp2_with fail
    go_ret
    exact ⟨rfl, HB7.out⟩
  have HKy : Hid (isKey key = true) := decide_eq_true ⟨by omega, by omega⟩
  have hn200 : n ≤ 200 := by have := (Entries.ents_ok HEl.out).1; omega
  have hn2 : n2 ≤ 200 := by have := (Entries.ents_ok HEo.out).1; omega
  have HB : Hid (∀ w', Below w7.heap.size w7 w' → Below w.heap.size w w') := fun w' b => bt HB7.out b
  go_upto_region 12 with fail
  go_loopw [19, 20] (fun hvv iv wr => ∃ (i m : Nat) (hs : List Nat), i ≤ 8 ∧ i ≤ n3 ∧ iv = .int .i64 (i : Int) ∧ m ≤ i ∧ Hid (hs.length = m ∧ ∀ q ∈ hs, q ≤ n) ∧ Hid (wr.ownsRow w7.heap.size 30 4 hvv m (HeadList.cells (hs.map (hd l key)))) ∧ Hid (Below w7.heap.size w7 wr)) (fun _ iv _ => 8 - (intOf iv).toNat)
  case atStart => exact ⟨0, 0, [], by omega, Nat.zero_le _, rfl, Nat.le_refl _, ⟨rfl, fun q hq => by cases hq⟩, World.ownsRow_nil _ _ _ _, Below.refl _ _⟩
  case round =>
    obtain ⟨i, m, hs, hi8, hi3, rfl, hmi, HQ, HO, HBr⟩ := hrel
    obtain ⟨ah, ch, rfl, rh⟩ := Wides.owns_wide HO.out
    have HRh : Hid (∀ w', Below wr.heap.size wr w' → Wide 4 w' ah m ch (HeadList.cells (hs.map (hd l key)))) := fun w' b => rh.below b
    clear rh
    go_upto_region 12 with fail
    go_cut [104] from 97 to 103 (fun v we => v = .bool (decide (i < n3 ∧ i < 8)) ∧ we = wr)
    case first => as_aux_lemma =>
      by_cases h1 : i < n3
      · have i1 : (i : Int) < (n3 : Int) := by omega
        by_cases h2 : i < 8
        · have i2 : (i : Int) < 8 := by omega
          go_wp2_with fail
          go_meet
          case rel => exact ⟨by rw [decide_eq_true ⟨h1, h2⟩], rfl⟩
        · have i2 : ¬ (i : Int) < 8 := by omega
          go_wp2_with fail
          go_meet
          case rel => exact ⟨by rw [decide_eq_false fun q => h2 q.2], rfl⟩
      · have i1 : ¬ (i : Int) < (n3 : Int) := by omega
        go_wp2_with fail
        go_meet
        case rel => exact ⟨by rw [decide_eq_false fun q => h1 q.1], rfl⟩
    obtain ⟨rfl, rfl⟩ := hcut
    by_cases hgo : i < n3 ∧ i < 8
    rotate_left
    · rw [decide_eq_false hgo]
      clear hgo
      have HW : Hid (Below w.heap.size w wc) := HB.out _ HBr.out
      have cF := WalkFo.find_any (hs.map (hd l key)) ah m ch key wc (HRh.out _ (Below.refl _ _)) (HT.out _ HW.out)
      rw [ForkTwos.none_found HEl.out HKy.out (by rw [HQ.out.1]; omega) (fun q hq => by rw [hln]; exact HQ.out.2 q hq), show errv 5 = .iface 68 (.int .i64 5) from rfl] at cF
      generalize (((Forks.findP (hs.map (hd l key)) key).1 : Nat) : Int) = F1 at cF
      generalize (((Forks.findP (hs.map (hd l key)) key).2 : Nat) : Int) = F2 at cF
      obtain ⟨M, HM⟩ : ∃ M, Hid (M = min n2 n) := ⟨_, rfl⟩
      have HMn : Hid (M ≤ n ∧ M ≤ n2) := by show _ ∧ _; have := HM.out; omega
      have HSl : Hid (∀ w', Below w.heap.size w w' → Calls Tryd.prog 19 #[.agg #[.int .i64 (M : Int), .int .i64 (rootE (l.take M)), .int .i64 0, .int .i64 0], .int .i64 key] w' fun e w'' => e = .returned (.tuple #[hv (hd l key M), .nilIface]) ∧ Below w'.heap.size w' w'') := fun w' b => sign_first HEl.out HKy.out M (by rw [hln]; exact HMn.out.1) w' (HT.out w' b)
      have HSo : Hid (∀ w', Below w.heap.size w w' → Calls Tryd.prog 19 #[.agg #[.int .i64 (M : Int), .int .i64 (rootE (o.take M)), .int .i64 0, .int .i64 0], .int .i64 key] w' fun e w'' => e = .returned (.tuple #[hv (hd o key M), .nilIface]) ∧ Below w'.heap.size w' w'') := fun w' b => sign_first HEo.out HKy.out M (by rw [hon]; exact HMn.out.2) w' (HT.out w' b)
      have HF2 : Hid (rootE (l.take M) ≠ rootE (o.take M) → ∀ x w', Below w.heap.size w w' → Wide 4 w' x 2 2 (HeadList.cells [hd l key M, hd o key M]) → Calls Tryd.prog 18 #[.slice x 2 2, .int .i64 key] w' fun e w'' => e = .returned (.tuple #[.int .i64 0, .int .i64 1, .nilIface]) ∧ Below w'.heap.size w' w'') := fun hne x w' b r => by
        obtain ⟨u1, u2, u3⟩ := ForkTwos.hd_is HEl.out HKy.out (show M ≤ l.length by rw [hln]; exact HMn.out.1)
        obtain ⟨v1, v2, v3⟩ := ForkTwos.hd_is HEo.out HKy.out (show M ≤ o.length by rw [hon]; exact HMn.out.2)
        obtain ⟨f1, f2⟩ := ForkTwos.two_found u1 v1 (by rw [u2, v2]) (by rw [u3, v3]; exact hne)
        have h := WalkFo.find_any [hd l key M, hd o key M] x 2 2 key w' r (HT.out w' b)
        rw [f1, f2, errv0] at h
        exact h
      have cRl := fun w' (b : Below w7.heap.size w7 w') => root_first HEl.out al n cl w' (HRm.out w' b) M HMn.out.1
      have cRo := fun w' (b : Below w7.heap.size w7 w') => root_first HEo.out ao n2 co w' (HRo.out w' b) M HMn.out.2
      generalize rootE (l.take M) = RA at HSl HF2 cRl
      generalize rootE (o.take M) = RB at HSo HF2 cRo
      generalize hd l key M = PA at HSl HF2
      generalize hd o key M = PB at HSo HF2
      have HCl : Hid (∀ w', Below w7.heap.size w7 w' → Calls Tryd.prog 21 #[.slice al M cl] w' fun e w'' => e = .returned (.tuple #[.int .i64 RA, .nilIface]) ∧ Below w'.heap.size w' w'') := cRl
      have HCo2 : Hid (∀ w', Below w7.heap.size w7 w' → Calls Tryd.prog 21 #[.slice ao M co] w' fun e w'' => e = .returned (.tuple #[.int .i64 RB, .nilIface]) ∧ Below w'.heap.size w' w'') := cRo
      have hcl := HCl0.out
      have hco := HCo.out
      obtain ⟨pa0, pa1, pa2, pa3⟩ := PA
      obtain ⟨pb0, pb1, pb2, pb3⟩ := PB
      unfold hv at HSl HSo
      simp only at HSl HSo
      clear cRl cRo HQ HO HRh HEl HEo HRm HRo HR3
      go_wp2_with fail
      refine cF.mono ?_
      rintro e w8 ⟨rfl, b8⟩
      have HB8 : Hid (Below w7.heap.size w7 w8) := bt HBr.out b8
      have cE := error_five w8 (HLd.out w8 (HB.out w8 HB8.out))
      rw [show errv 5 = .iface 68 (.int .i64 5) from rfl] at cE
      clear cF b8 HBr HW
      go_wp2_with fail
      refine cE.mono ?_
      rintro e w9 ⟨rfl, b9⟩
      have HB9 : Hid (Below w7.heap.size w7 w9) := bt HB8.out b9
      clear cE b9 HB8
      go_upto_if 218 with fail
      go_cut [36] from 218 to 220 (fun v we => v = .int .i64 (M : Int) ∧ we = w9)
      case first => as_aux_lemma =>
        by_cases h : n < n2
        · have j : (n : Int) < (n2 : Int) := by omega
          go_wp2_with fail
          go_meet
          case rel => exact ⟨by rw [show M = n by have := HM.out; omega], rfl⟩
        · have j : ¬ (n : Int) < (n2 : Int) := by omega
          go_wp2_with fail
          go_meet
          case rel => exact ⟨by rw [show M = n2 by have := HM.out; omega], rfl⟩
      obtain ⟨rfl, rfl⟩ := hcut
      have j0 : (0 : Int) ≤ (M : Int) := by omega
      have j1 : (M : Int) ≤ (n : Int) := by have := HMn.out; omega
      have j2 : (M : Int) ≤ (n2 : Int) := by have := HMn.out; omega
      have j3 : (M : Int) ≤ (cl : Int) := by have := HMn.out; omega
      have j4 : (M : Int) ≤ (co : Int) := by have := HMn.out; omega
      go_wp2_with fail
      refine (HCl.out _ HB9.out).mono ?_
      rintro e w10 ⟨rfl, b10⟩
      have HB10 : Hid (Below w7.heap.size w7 w10) := bt HB9.out b10
      clear b10 HB9
      go_wp2_with fail
      refine (HCo2.out _ HB10.out).mono ?_
      rintro e w11 ⟨rfl, b11⟩
      have HB11 : Hid (Below w7.heap.size w7 w11) := bt HB10.out b11
      have HW11 : Hid (Below w.heap.size w w11) := HB.out _ HB11.out
      clear b11 HB10 HCl HCo2 hcl hco
      by_cases hR : RA = RB
      · have e1 : (RA == RB) = true := by simpa using hR
        clear hR HF2
        go_wp2_with fail
        go_ret
        exact ⟨rfl, HW11.out⟩
      have e1 : (RA == RB) = false := by simpa using hR
      have HF3 : Hid (∀ x w', Below w.heap.size w w' → Wide 4 w' x 2 2 (HeadList.cells [⟨pa0, pa1, pa2, pa3⟩, ⟨pb0, pb1, pb2, pb3⟩]) → Calls Tryd.prog 18 #[.slice x 2 2, .int .i64 key] w' fun e w'' => e = .returned (.tuple #[.int .i64 0, .int .i64 1, .nilIface]) ∧ Below w'.heap.size w' w'') := HF2.out hR
      clear hR HF2
      go_wp2_with fail
      refine (HSl.out w11 HW11.out).mono ?_
      rintro e w12 ⟨rfl, b12⟩
      go_upto_region 47 with fail
      have HB12 : Hid (Below w.heap.size w (w12.alloc (.cells #[.int .i64 pa0, .int .i64 pa1, .int .i64 pa2, .int .i64 pa3] 30))) := bt HW11.out (b12.alloc b12.size _)
      have HA12 : Hid (At (w12.alloc (.cells #[.int .i64 pa0, .int .i64 pa1, .int .i64 pa2, .int .i64 pa3] 30)) w12.heap.size ⟨pa0, pa1, pa2, pa3⟩) := At.new w12 pa0 pa1 pa2 pa3
      generalize w12.alloc (.cells #[.int .i64 pa0, .int .i64 pa1, .int .i64 pa2, .int .i64 pa3] 30) = w13 at HB12 HA12 ⊢
      generalize w12.heap.size = gp at HA12 ⊢
      clear b12
      go_wp2_with fail
      refine (HSo.out w13 HB12.out).mono ?_
      rintro e w14 ⟨rfl, b14⟩
      go_upto_region 48 with fail
      have HB14 : Hid (Below w.heap.size w (w14.alloc (.cells #[.int .i64 pb0, .int .i64 pb1, .int .i64 pb2, .int .i64 pb3] 30))) := bt HB12.out (b14.alloc b14.size _)
      have HA14 : Hid (At (w14.alloc (.cells #[.int .i64 pb0, .int .i64 pb1, .int .i64 pb2, .int .i64 pb3] 30)) gp ⟨pa0, pa1, pa2, pa3⟩) := (HA12.out.below b14).alloc _
      have HA15 : Hid (At (w14.alloc (.cells #[.int .i64 pb0, .int .i64 pb1, .int .i64 pb2, .int .i64 pb3] 30)) w14.heap.size ⟨pb0, pb1, pb2, pb3⟩) := At.new w14 pb0 pb1 pb2 pb3
      generalize w14.alloc (.cells #[.int .i64 pb0, .int .i64 pb1, .int .i64 pb2, .int .i64 pb3] 30) = w15 at HB14 HA14 HA15 ⊢
      generalize w14.heap.size = gq at HA15 ⊢
      clear b14 HB12 HA12
      obtain ⟨p0, p1, p2, p3⟩ := HA14.out
      obtain ⟨q0, q1, q2, q3⟩ := HA15.out
      simp only at p0 p1 p2 p3 q0 q1 q2 q3
      go_wp2_with fail
      refine (HF3.out _ _ (HB14.out.alloc HB14.out.size _) (WalkFo.two_wide w15 _ pa0 pa1 pa2 pa3 pb0 pb1 pb2 pb3)).mono ?_
      rintro e w16 ⟨rfl, b16⟩
      have HB16 : Hid (Below w.heap.size w w16) := bt (HB14.out.alloc HB14.out.size _) b16
      clear b16 p0 p1 p2 p3 q0 q1 q2 q3
      go_wp2_with fail
      go_ret
      exact ⟨rfl, HB16.out⟩
    rw [decide_eq_true hgo]
    obtain ⟨z, hz⟩ : ∃ z, s[i]? = some z := ⟨s[i]'(by omega), List.getElem?_eq_getElem _⟩
    obtain ⟨g3, off3, rfl, _⟩ := (HR3.out w (Below.refl _ _)).2.2 (by omega)
    have cz := (HR3.out _ (HB.out _ HBr.out)).at i _ (by rw [Lists.ints, List.getElem?_map, hz]; rfl)
    have HG : Hid (i + 1 ≤ 8 ∧ i + 1 ≤ n3 ∧ m + 1 ≤ i + 1) := by show _ ∧ _ ∧ _; omega
    clear hz
    by_cases hz1 : z < 0
    · go_wp2_with fail
      go_roundw
      case rel => exact ⟨i + 1, m, hs, HG.out.1, HG.out.2.1, by go_num, by omega, HQ, HO, HBr⟩
      case measure => have := HG.out; simp [intOf]; omega
    by_cases hz2 : (n : Int) < z
    · go_wp2_with fail
      go_roundw
      case rel => exact ⟨i + 1, m, hs, HG.out.1, HG.out.2.1, by go_num, by omega, HQ, HO, HBr⟩
      case measure => have := HG.out; simp [intOf]; omega
    obtain ⟨N, rfl⟩ := Int.eq_ofNat_of_zero_le (show 0 ≤ z by omega)
    have hN : N ≤ n := by omega
    obtain ⟨h1, h2, h3, hH⟩ := hd_four HEl.out HKy.out N (show N ≤ l.length by omega)
    have HHd : Hid (hd l key N = ⟨(N : Int), h1, h2, h3⟩) := hH
    have cR := root_first HEl.out al n cl _ (HRm.out _ HBr.out) N hN
    have HSg : Hid (∀ w', Below w.heap.size w w' → Calls Tryd.prog 19 #[.agg #[.int .i64 (N : Int), .int .i64 (rootE (l.take N)), .int .i64 0, .int .i64 0], .int .i64 key] w' fun e w'' => e = .returned (.tuple #[.agg #[.int .i64 (N : Int), .int .i64 h1, .int .i64 h2, .int .i64 h3], .nilIface]) ∧ Below w'.heap.size w' w'') := fun w' b => by
      have h := sign_first HEl.out HKy.out N (by rw [hln]; exact hN) w' (HT.out w' b)
      rw [HHd.out] at h
      exact h
    generalize rootE (l.take N) = RN at cR HSg
    have j0 : (0 : Int) ≤ (N : Int) := by omega
    have j1 : (N : Int) ≤ (n : Int) := by omega
    have j3 : (N : Int) ≤ (cl : Int) := by have := HCl0.out; omega
    clear hH
    go_wp2_with fail
    refine cR.mono ?_
    rintro e w8 ⟨rfl, b8⟩
    have HC8 : Hid (Below wc.heap.size wc w8) := b8
    clear cR b8 cz
    go_wp2_with fail
    refine (HSg.out w8 (HB.out _ (bt HBr.out HC8.out))).mono ?_
    rintro e w9 ⟨rfl, b9⟩
    go_upto_region 18 with fail
    have HC9 : Hid (Below wc.heap.size wc (w9.alloc (.cells #[.int .i64 (N : Int), .int .i64 h1, .int .i64 h2, .int .i64 h3] 30))) := bt HC8.out (b9.alloc b9.size _)
    have HA9 : Hid (At (w9.alloc (.cells #[.int .i64 (N : Int), .int .i64 h1, .int .i64 h2, .int .i64 h3] 30)) w9.heap.size ⟨(N : Int), h1, h2, h3⟩) := At.new w9 N h1 h2 h3
    generalize w9.alloc (.cells #[.int .i64 (N : Int), .int .i64 h1, .int .i64 h2, .int .i64 h3] 30) = w10 at HC9 HA9 ⊢
    generalize w9.heap.size = gh at HA9 ⊢
    clear b9 HC8 HSg
    have HAh : Hid (∀ w', Below w10.heap.size w10 w' → At w' gh ⟨(N : Int), h1, h2, h3⟩) := fun w' b => HA9.out.below b
    have HHh : Hid (∀ w', Below w10.heap.size w10 w' → Wide 4 w' ah m ch (HeadList.cells (hs.map (hd l key)))) := fun w' b => HRh.out w' (bt HC9.out b)
    have HW : Hid (∀ w', Below w10.heap.size w10 w' → Below w7.heap.size w7 w') := fun w' b => bt HBr.out (bt HC9.out b)
    have HOw : Hid (∀ w', Below w10.heap.size w10 w' → w'.ownsRow w7.heap.size 30 4 (.slice ah m ch) m (HeadList.cells (hs.map (hd l key)))) := fun w' b => Keeps.owns_kept HO.out (Keeps.Kept.of_below (fun _ => False) (bt HC9.out b)) (fun _ _ h => h)
    clear HRh HA9
    go_upto_region 21 with fail
    go_loopw [23, 26] (fun ev kv wi => ev = .nilIface ∧ ∃ k : Nat, k ≤ m ∧ kv = .int .i64 (k : Int) ∧ Hid (Below w10.heap.size w10 wi)) (fun _ kv _ => m - (intOf kv).toNat)
    case atStart => exact ⟨rfl, 0, Nat.zero_le _, rfl, Below.refl _ _⟩
    case round =>
      obtain ⟨rfl, k, hk, rfl, HBi⟩ := hrel
      by_cases hkm : k < m
      · have i1 : (k : Int) < (m : Int) := by omega
        obtain ⟨gl, ol, rfl, _⟩ := (HHh.out w10 (Below.refl _ _)).2.2 (by omega)
        have hlen : (hs.map (hd l key)).length = m := by rw [List.length_map]; exact HQ.out.1
        have HCk : Hid (∃ q : Nat, q ≤ n ∧ ∀ w', Below w10.heap.size w10 w' → w'.cell? ⟨gl, ol + k * 4, none⟩ = some (.int .i64 (hd l key q).size) ∧ w'.cell? ⟨gl, ol + k * 4 + 1, none⟩ = some (.int .i64 (hd l key q).root) ∧ w'.cell? ⟨gl, ol + k * 4 + 2, none⟩ = some (.int .i64 (hd l key q).time) ∧ w'.cell? ⟨gl, ol + k * 4 + 3, none⟩ = some (.int .i64 (hd l key q).sign)) := by
          refine ⟨hs[k]'(by rw [HQ.out.1]; exact hkm), HQ.out.2 _ (List.getElem_mem _), fun w' b => ?_⟩
          have h := HeadList.at_four (HHh.out w' b) k (by rw [hlen]; exact hkm)
          rw [List.getElem_map] at h
          exact h
        obtain ⟨q, hq, hcq⟩ := HCk.out
        obtain ⟨k1, k2, k3, hKd⟩ := hd_four HEl.out HKy.out q (show q ≤ l.length by omega)
        have HKd : Hid (hd l key q = ⟨(q : Int), k1, k2, k3⟩) := hKd
        have HCq : Hid (∀ w', Below w10.heap.size w10 w' → w'.cell? ⟨gl, ol + k * 4, none⟩ = some (.int .i64 (q : Int)) ∧ w'.cell? ⟨gl, ol + k * 4 + 1, none⟩ = some (.int .i64 k1) ∧ w'.cell? ⟨gl, ol + k * 4 + 2, none⟩ = some (.int .i64 k2) ∧ w'.cell? ⟨gl, ol + k * 4 + 3, none⟩ = some (.int .i64 k3)) := fun w' b => by
          have h := hcq w' b
          rw [hKd] at h
          exact h
        clear hcq HCk hKd hlen
        obtain ⟨p0, p1, p2, p3⟩ := HCq.out wr HBi.out
        obtain ⟨q0, q1, q2, q3⟩ := HAh.out wr HBi.out
        simp only at q0 q1 q2 q3
        go_upto_region 24 with fail
        have HD : Hid (Below w10.heap.size w10 (wr.alloc (.cells #[.int .i64 (q : Int), .int .i64 k1, .int .i64 k2, .int .i64 k3] 30))) := HBi.out.alloc HBi.out.size _
        have HRA : Hid ((wr.alloc (.cells #[.int .i64 (q : Int), .int .i64 k1, .int .i64 k2, .int .i64 k3] 30)).rowIs wr.heap.size 30 4 (WalkReadRef.quad (q : Int) k1 k2 k3)) := WalkReadRef.quad_new wr q k1 k2 k3
        have HlA : Hid (w10.heap.size ≤ wr.heap.size) := HBi.out.size
        generalize wr.alloc (.cells #[.int .i64 (q : Int), .int .i64 k1, .int .i64 k2, .int .i64 k3] 30) = w11 at HD HRA ⊢
        generalize wr.heap.size = ga at HRA HlA ⊢
        clear p0 p1 p2 p3 q0 q1 q2 q3 HBi
        obtain ⟨q0, q1, q2, q3⟩ := HAh.out w11 HD.out
        simp only at q0 q1 q2 q3
        go_upto_region 25 with fail
        have HD2 : Hid (Below w10.heap.size w10 (w11.alloc (.cells #[.int .i64 (N : Int), .int .i64 h1, .int .i64 h2, .int .i64 h3] 30))) := HD.out.alloc HD.out.size _
        have HRB : Hid ((w11.alloc (.cells #[.int .i64 (N : Int), .int .i64 h1, .int .i64 h2, .int .i64 h3] 30)).rowIs w11.heap.size 30 4 (WalkReadRef.quad (N : Int) h1 h2 h3)) := WalkReadRef.quad_new w11 N h1 h2 h3
        have HRA2 : Hid ((w11.alloc (.cells #[.int .i64 (N : Int), .int .i64 h1, .int .i64 h2, .int .i64 h3] 30)).rowIs ga 30 4 (WalkReadRef.quad (q : Int) k1 k2 k3)) := HRA.out.alloc _
        have HlB : Hid (w10.heap.size ≤ w11.heap.size ∧ ga ≠ w11.heap.size) := ⟨HD.out.size, by have := HRA.out.lt; omega⟩
        generalize w11.alloc (.cells #[.int .i64 (N : Int), .int .i64 h1, .int .i64 h2, .int .i64 h3] 30) = w12 at HD2 HRB HRA2 ⊢
        generalize w11.heap.size = gb at HRB HlB ⊢
        clear q0 q1 q2 q3 HD HRA
        obtain ⟨p0, p1, p2, p3⟩ := WalkHdSign.at_quad HRA2.out
        obtain ⟨q0, q1, q2, q3⟩ := WalkHdSign.at_quad HRB.out
        simp only at p0 p1 p2 p3 q0 q1 q2 q3
        go_upto_if 155 with fail
        go_cut [27, 28] from 151 to 160 (fun va vb we => va = .pointer (some ⟨ga, 0, none⟩) ∧ vb = .pointer (some ⟨gb, 0, none⟩) ∧ Hid (Below w10.heap.size w10 we) ∧ Hid (∃ x y : Nat, x ≤ y ∧ y ≤ n ∧ At we ga (hd l key x) ∧ At we gb (hd l key y)))
        case first => as_aux_lemma =>
          by_cases hgt : N < q
          · have jg : (N : Int) < (q : Int) := by omega
            have f0 := HRA2.out.frozen 0
            have f1 := HRA2.out.frozen 1
            have f2 := HRA2.out.frozen 2
            have f3 := HRA2.out.frozen 3
            obtain ⟨m0, m1, m2, m3⟩ := HAh.out w12 HD2.out
            simp only at m0 m1 m2 m3
            go_upto_region 27 with fail
            have HD3 : Hid (Below w10.heap.size w10 ((((w12.setCell ⟨ga, 0, none⟩ (.int .i64 (N : Int))).setCell ⟨ga, 1, none⟩ (.int .i64 h1)).setCell ⟨ga, 2, none⟩ (.int .i64 h2)).setCell ⟨ga, 3, none⟩ (.int .i64 h3))) := WalkReadRef.set_below HD2.out HlA.out _ _ _ _
            have HRA3 : Hid (((((w12.setCell ⟨ga, 0, none⟩ (.int .i64 (N : Int))).setCell ⟨ga, 1, none⟩ (.int .i64 h1)).setCell ⟨ga, 2, none⟩ (.int .i64 h2)).setCell ⟨ga, 3, none⟩ (.int .i64 h3)).rowIs ga 30 4 (WalkReadRef.quad (N : Int) h1 h2 h3)) := WalkReadRef.quad_set HRA2.out _ _ _ _
            have HRB3 : Hid (((((w12.setCell ⟨ga, 0, none⟩ (.int .i64 (N : Int))).setCell ⟨ga, 1, none⟩ (.int .i64 h1)).setCell ⟨ga, 2, none⟩ (.int .i64 h2)).setCell ⟨ga, 3, none⟩ (.int .i64 h3)).rowIs gb 30 4 (WalkReadRef.quad (N : Int) h1 h2 h3)) := quad_other HRB.out (fun e => HlB.out.2 e.symm) _ _ _ _
            generalize ((((w12.setCell ⟨ga, 0, none⟩ (.int .i64 (N : Int))).setCell ⟨ga, 1, none⟩ (.int .i64 h1)).setCell ⟨ga, 2, none⟩ (.int .i64 h2)).setCell ⟨ga, 3, none⟩ (.int .i64 h3)) = w13 at HD3 HRA3 HRB3 ⊢
            clear f0 f1 f2 f3 m0 m1 m2 m3 p0 p1 p2 p3 q0 q1 q2 q3
            have HD5 : Hid (Below w10.heap.size w10 ((((w13.setCell ⟨gb, 0, none⟩ (.int .i64 (q : Int))).setCell ⟨gb, 1, none⟩ (.int .i64 k1)).setCell ⟨gb, 2, none⟩ (.int .i64 k2)).setCell ⟨gb, 3, none⟩ (.int .i64 k3))) := WalkReadRef.set_below HD3.out HlB.out.1 _ _ _ _
            have HA5 : Hid (At ((((w13.setCell ⟨gb, 0, none⟩ (.int .i64 (q : Int))).setCell ⟨gb, 1, none⟩ (.int .i64 k1)).setCell ⟨gb, 2, none⟩ (.int .i64 k2)).setCell ⟨gb, 3, none⟩ (.int .i64 k3)) ga ⟨(N : Int), h1, h2, h3⟩) := WalkHdSign.at_quad (quad_other HRA3.out HlB.out.2 _ _ _ _)
            have HB5 : Hid (At ((((w13.setCell ⟨gb, 0, none⟩ (.int .i64 (q : Int))).setCell ⟨gb, 1, none⟩ (.int .i64 k1)).setCell ⟨gb, 2, none⟩ (.int .i64 k2)).setCell ⟨gb, 3, none⟩ (.int .i64 k3)) gb ⟨(q : Int), k1, k2, k3⟩) := WalkHdSign.at_quad (WalkReadRef.quad_set HRB3.out _ _ _ _)
            have HTb : Hid (w13.there gb 0 4) := quad_there HRB3.out
            obtain ⟨m0, m1, m2, m3⟩ := HCq.out w13 HD3.out
            go_wp2_with (refine wpList_store_mid rfl 30 (.tmp 28) (.tmp 160) rfl gb 0 #[.int .i64 (q : Int), .int .i64 k1, .int .i64 k2, .int .i64 k3] rfl rfl HTb.out (by kernel_rfl) (four_one _ _ _ _) ?_)
            clear m0 m1 m2 m3
            go_meet
            case rel => exact ⟨rfl, rfl, HD5, N, q, by omega, hq, by rw [HHd.out]; exact HA5.out, by rw [HKd.out]; exact HB5.out⟩
          · have jg : ¬ (N : Int) < (q : Int) := by omega
            go_wp2_with fail
            go_meet
            case rel => exact ⟨rfl, rfl, HD2, q, N, by omega, hN, by rw [HKd.out]; exact WalkHdSign.at_quad HRA2.out, by rw [HHd.out]; exact WalkHdSign.at_quad HRB.out⟩
        obtain ⟨rfl, rfl, HD4, HXY⟩ := hcut
        clear p0 p1 p2 p3 q0 q1 q2 q3 HD2 HRA2 HRB HKd HCq
        obtain ⟨x, y, hxy, hy, hAx, hAy⟩ := HXY.out
        obtain ⟨s1, s2, s3, hX⟩ := hd_four HEl.out HKy.out x (show x ≤ l.length by omega)
        obtain ⟨t1, t2, t3, hY⟩ := hd_four HEl.out HKy.out y (show y ≤ l.length by omega)
        obtain ⟨PP, HPP⟩ : ∃ PP, Hid (proofOf (l.take y) x = PP) := ⟨_, rfl⟩
        have HPl : Hid (PP.length ≤ 201) := by show PP.length ≤ 201; rw [← HPP.out]; exact ForkTwos.proof_len _ _
        have HCh : Hid (∀ px pc w', Below w.heap.size w w' → Row w' px PP.length pc (ints PP) → Calls Tryd.prog 17 #[.agg #[.int .i64 (x : Int), .int .i64 s1, .int .i64 s2, .int .i64 s3], .agg #[.int .i64 (y : Int), .int .i64 t1, .int .i64 t2, .int .i64 t3], .int .i64 key, .slice px PP.length pc] w' fun e w'' => e = .returned (.tuple #[.bool true, .nilIface]) ∧ Below w'.heap.size w' w'') := fun px pc w' b r => by
          have h := WalkFo.check_any (hd l key x) (hd l key y) key PP px _ pc w' r (by have := HPl.out; omega) (HLd.out w' b) (HT.out w' b)
          obtain ⟨g1, g2⟩ := ForkTwos.goes HEl.out HKy.out hxy (show y ≤ l.length by omega)
          rw [HPP.out] at g1 g2
          rw [g1, g2, errv0, hX, hY] at h
          exact h
        have HMk : Hid (1 ≤ x → x < y → ∀ w', Below w7.heap.size w7 w' → Calls Tryd.prog 22 #[.slice al n cl, .int .i64 (x : Int), .int .i64 (y : Int)] w' fun e w'' => ∃ v, e = .returned (.tuple #[v, .nilIface]) ∧ w''.ownsRow w'.heap.size 3 1 v PP.length (ints PP) ∧ Below w'.heap.size w' w'') := fun g1 g2 w' b => by
          have h := WalkGrowMake.make_any (leafsOf l) al n cl x y w' (HRm.out w' b)
          obtain ⟨e1, e2⟩ := ForkTwos.made HEl.out g1 g2 (show y ≤ l.length by omega)
          rw [e1, e2, HPP.out] at h
          exact h
        have HPn : Hid (¬ (1 ≤ x ∧ x < y) → PP = []) := fun h => by rw [← HPP.out]; exact ForkTwos.proof_none h (by omega)
        rw [hX] at hAx
        rw [hY] at hAy
        have HAx : Hid (At wc ga ⟨(x : Int), s1, s2, s3⟩) := hAx
        have HAy : Hid (At wc gb ⟨(y : Int), t1, t2, t3⟩) := hAy
        clear hAx hAy hX hY HXY HPP HHd
        obtain ⟨p0, p1, p2, p3⟩ := HAx.out
        obtain ⟨q0, q1, q2, q3⟩ := HAy.out
        simp only at p0 p1 p2 p3 q0 q1 q2 q3
        go_upto_region 29 with fail
        go_cut [170] from 161 to 169 (fun v we => v = .bool (decide (1 ≤ x ∧ x < y)) ∧ we = wc)
        case first => as_aux_lemma =>
          by_cases g1 : 1 ≤ x
          · have j1 : (x : Int) ≥ 1 := by omega
            by_cases g2 : x < y
            · have j2 : (x : Int) < (y : Int) := by omega
              go_wp2_with fail
              go_meet
              case rel => exact ⟨by rw [decide_eq_true ⟨g1, g2⟩], rfl⟩
            · have j2 : ¬ (x : Int) < (y : Int) := by omega
              go_wp2_with fail
              go_meet
              case rel => exact ⟨by rw [decide_eq_false fun q => g2 q.2], rfl⟩
          · have j1 : ¬ (x : Int) ≥ 1 := by omega
            go_wp2_with fail
            go_meet
            case rel => exact ⟨by rw [decide_eq_false fun q => g1 q.1], rfl⟩
        obtain ⟨rfl, rfl⟩ := hcut
        go_upto_if 170 with fail
        go_cut [23, 29] from 170 to 179 (fun v23 v29 we => v23 = .nilIface ∧ ∃ px pc, v29 = .slice px PP.length pc ∧ Hid (Row we px PP.length pc (ints PP)) ∧ Hid (Below w10.heap.size w10 we) ∧ Hid (At we ga ⟨(x : Int), s1, s2, s3⟩) ∧ Hid (At we gb ⟨(y : Int), t1, t2, t3⟩))
        case first => as_aux_lemma =>
          by_cases g : 1 ≤ x ∧ x < y
          · rw [decide_eq_true g]
            have cM := HMk.out g.1 g.2 _ (HW.out _ HD4.out)
            go_wp2_with fail
            refine cM.mono ?_
            rintro e w13 ⟨v13, rfl, o13, b13⟩
            obtain ⟨a13, c13, rfl, r13, -⟩ := owns_row o13
            have HR13 : Hid (Row w13 a13 PP.length c13 (ints PP)) := r13
            have HB13 : Hid (Below w10.heap.size w10 w13) := bt HD4.out b13
            have HA13 : Hid (At w13 ga ⟨(x : Int), s1, s2, s3⟩) := HAx.out.below b13
            have HE13 : Hid (At w13 gb ⟨(y : Int), t1, t2, t3⟩) := HAy.out.below b13
            clear cM o13 b13 r13
            go_wp2_with fail
            go_meet
            case rel => exact ⟨rfl, a13, c13, rfl, HR13, HB13, HA13, HE13⟩
          · rw [decide_eq_false g]
            have HE : Hid (PP = []) := HPn.out g
            go_wp2_with fail
            go_meet
            case rel => exact ⟨rfl, none, 0, by rw [HE.out]; rfl, by rw [HE.out]; exact Lists.Row.nil _ _ _, HD4, HAx, HAy⟩
        obtain ⟨rfl, px, pc, rfl, HRp, HBx, HAx2, HAy2⟩ := hcut
        clear p0 p1 p2 p3 q0 q1 q2 q3 HAx HAy HD4 HMk HPn
        obtain ⟨p0, p1, p2, p3⟩ := HAx2.out
        obtain ⟨q0, q1, q2, q3⟩ := HAy2.out
        simp only at p0 p1 p2 p3 q0 q1 q2 q3
        have cC := HCh.out px pc _ (HB.out _ (HW.out _ HBx.out)) HRp.out
        go_wp2_with fail
        refine cC.mono ?_
        rintro e w14 ⟨rfl, b14⟩
        have HB14 : Hid (Below w10.heap.size w10 w14) := bt HBx.out b14
        clear cC b14 p0 p1 p2 p3 q0 q1 q2 q3 HRp HBx HAx2 HAy2 HCh
        go_wp2_with fail
        go_roundw
        case rel => exact ⟨rfl, k + 1, by omega, by go_num, HB14⟩
        case measure => simp [intOf]; omega
      · have i1 : ¬ (k : Int) < (m : Int) := by omega
        obtain ⟨i0, hi, hz0, hz1, hz2⟩ := info_parts infoH
        have HN : Hid (HeadList.cells ((hs ++ [N]).map (hd l key)) = HeadList.cells (hs.map (hd l key)) ++ [.int .i64 (N : Int), .int .i64 h1, .int .i64 h2, .int .i64 h3]) := by
          show _ = _
          rw [List.map_append, List.map_singleton, HHd.out, cells_snoc]
        have HQ2 : Hid ((hs ++ [N]).length = m + 1 ∧ ∀ q ∈ hs ++ [N], q ≤ n) := ⟨by rw [List.length_append, HQ.out.1]; rfl, fun q hq => by
          rcases List.mem_append.1 hq with hq | hq
          · exact HQ.out.2 q hq
          · rw [List.mem_singleton.1 hq]; exact hN⟩
        have HOi : Hid (wr.ownsRow w7.heap.size 30 4 (.slice ah m ch) m (HeadList.cells (hs.map (hd l key)))) := HOw.out wr HBi.out
        have HWi : Hid (Below w7.heap.size w7 wr) := HW.out wr HBi.out
        have HBs : Hid (w7.heap.size ≤ wr.heap.size) := HWi.out.size
        have HFF : Hid (∀ wn, (wr.alloc (.cells #[.int .i64 (N : Int), .int .i64 h1, .int .i64 h2, .int .i64 h3] 30)).grownBy wn (Value.slice ah m ch).ownBlock → Below w7.heap.size w7 wn) := fun wn gr => (HWi.out.alloc HBs.out _).grown gr (by have := HBs.out; simp; omega) (fun j hj => (HOi.out.lt j hj).1)
        obtain ⟨q0, q1, q2, q3⟩ := HAh.out wr HBi.out
        simp only at q0 q1 q2 q3
        go_wp2_with (at_builtin; go_must (refine wpList_append_own _ rfl (.tmp 198) (.tmp 200) 42 rfl w7.heap.size 30 i0 (.agg #[.int .i64 0, .int .i64 0, .int .i64 0, .int .i64 0]) 4 32 Tryd.underlying42 hi hz0 hz1 hz2 rfl (by decide) _ _ _ rfl (HOi.out.alloc _) ⟨_, 0, none⟩ 1 1 [.int .i64 (N : Int), .int .i64 h1, .int .i64 h2, .int .i64 h3] rfl rfl (cell_four_new _ _ _ _ _ _) (fun u hu => by simp at hu; rcases hu with rfl | rfl | rfl | rfl <;> rfl) (by unfold maxLen; omega) (by omega) (by have := HBs.out; simp; omega) ?_); intro v1 wn o1 g1 z1; clear z1; have HO6 : Hid (wn.ownsRow w7.heap.size 30 4 v1 (m + 1) (HeadList.cells ((hs ++ [N]).map (hd l key))) ∧ Below w7.heap.size w7 wn) := ⟨(by rw [HN.out]; exact o1), HFF.out wn g1⟩; clear o1 g1)
        go_roundw
        case rel => exact ⟨i + 1, m + 1, hs ++ [N], HG.out.1, HG.out.2.1, by go_num, by omega, HQ2, HO6.out.1, HO6.out.2⟩
        case measure => have := HG.out; simp [intOf]; omega

end Go.Proofs.YthaibjidfgmdmahDoor.WalkForkFinds
