/-
  The walk of ServeTells: what a log answers to any text, and its head, are the document's.
-/
import Derived.Test.YticadkggaanbjaaGreatDoorSeAll
import Derived.Test.YticadkggaanbjaaGreatDoorAnsRef
import Derived.Test.YticadkggaanbjaaGreatDoorWalkTold
namespace Go.Proofs.YticadkggaanbjaaGreatDoor.WalkServeTells
open Go.RowKit
open Lists (bt)
open WalkTold (Laid)
open Errs (errv)
open Wides (Wide)
open EntRows (cells)
open Entries (Entry)
open HeadVals (hv aggH sizeH At)
open Nums (str)
open Answers (answer logE logH)

theorem error_same (e : Nat) (w : World) (hg : Laid w) : Calls Tryz.prog 9 #[errv e, .int .i64 (e : Int)] w fun r w' => r = .returned (.bool true) ∧ Below w.heap.size w w' := by
  have h := WalkTold.error_is e (e : Int) w hg
  rw [beq_self_eq_true] at h
  exact h

set_option maxHeartbeats 4000000 in
set_option maxRecDepth 100000 in
theorem walk (a : Option Addr) (n cap : Nat) (l : List Entry) (_ : l.length * 24 ≤ 140737488351232) (hw : ∀ e ∈ l, (Lit.int .i64 e.1).wf = true ∧ e.2.size ≤ maxLen) (key : Int) (_ : (Lit.int .i64 key).wf = true) (now : Int) (_ : (Lit.int .i64 now).wf = true)
    (ask : ByteArray) (hs : ask.size ≤ 1048576) (w : World) (hr : Wide 2 w a n cap (cells l)) (hL : Laid w) (hK : WalkSe.Asks w) (hY : WalkSeNum.Syn w) :
    Calls Tryz.prog 3 #[.slice a n cap, .int .i64 key, .int .i64 now, .string ask] w fun e w' => e = .returned (.bool true) ∧ Below w.heap.size w w' := by
  have HZ : Hid (∀ e ∈ l, e.2.size ≤ maxLen) := fun e he => (hw e he).2
  have cA := fun w1 (b : Below w.heap.size w w1) => WalkAnswerRef.answer_any l a n cap key now ask w1 (hr.below b) HZ.out hs
  have cB := fun w1 (b : Below w.heap.size w w1) => WalkSeAns.answer_any l a n cap key now ask w1 (hr.below b) HZ.out (Nat.le_trans hs (by decide)) (hK.below b) (hY.below b)
  have cI := fun w1 (b : Below w.heap.size w w1) => WalkSe.head_any l a n cap key now w1 (hr.below b) HZ.out (hK.below b)
  have cH : ∀ w1, Below w.heap.size w w1 → Calls Tryz.prog 10 #[.slice a n cap, .int .i64 key, .int .i64 now] w1 fun e w' => e = .returned (.tuple #[hv (logH l key now), .int .i64 (logE l key now : Nat)]) ∧ Below w1.heap.size w1 w' := fun w1 b => WalkLogRef.log_any l a n cap key now w1 (hr.below b) HZ.out
  have cErr := fun (e : Nat) (w1 : World) (b : Below w.heap.size w w1) => error_same e w1 (hL.below b)
  generalize answer l key now ask.data.toList = ANS at cA cB
  obtain ⟨T, E⟩ := ANS
  generalize logE l key now = F at cH cI
  generalize logH l key now = H at cH cI
  obtain ⟨h0, h1, h2, h3⟩ := H
  unfold hv at cH cI
  simp only at cA cB cH cI
  generalize str T = S at cA cB
  have t1 : (S.toList == S.toList) = true := beq_self_eq_true _
  have a52 := aggH
  have z52 := sizeH
  clear hw hs hr hL hK hY
  go_enter Tryz.func3, Tryz.ntmps3
  go_wp2_with fail
  refine (cA _ (Below.refl _ _)).mono ?_
  rintro e w1 ⟨rfl, b1⟩
  clear cA
  go_wp2_with fail
  refine (cB _ b1).mono ?_
  rintro e w2 ⟨rfl, b2⟩
  replace b1 := bt b1 b2
  clear cB b2
  go_wp2_with fail
  refine (cErr _ _ b1).mono ?_
  rintro e w3 ⟨rfl, b3⟩
  replace b1 := bt b1 b3
  clear b3
  go_wp2_with fail
  refine (cH _ b1).mono ?_
  rintro e w4 ⟨rfl, b4⟩
  replace b1 := bt b1 b4
  clear cH b4
  have hx := At.new w4 h0 h1 h2 h3
  replace b1 := b1.alloc b1.size (.cells #[.int .i64 h0, .int .i64 h1, .int .i64 h2, .int .i64 h3] 31)
  go_wp2_with fail
  refine (cI _ b1).mono ?_
  rintro e w5 ⟨rfl, b5⟩
  replace b1 := bt b1 b5
  replace hx := (hx.below b5).alloc (.cells #[.int .i64 h0, .int .i64 h1, .int .i64 h2, .int .i64 h3] 31)
  have hy := At.new w5 h0 h1 h2 h3
  replace b1 := b1.alloc b1.size (.cells #[.int .i64 h0, .int .i64 h1, .int .i64 h2, .int .i64 h3] 31)
  clear cI b5
  go_wp2_with fail
  refine (cErr _ _ b1).mono ?_
  rintro e w6 ⟨rfl, b6⟩
  have HB : Hid (Below w.heap.size w w6) := bt b1 b6
  obtain ⟨p0, p1, p2, p3⟩ := hx.below b6
  obtain ⟨q0, q1, q2, q3⟩ := hy.below b6
  simp only at p0 p1 p2 p3 q0 q1 q2 q3
  clear b1 b6 hx hy cErr
  go_wp2_with fail
  go_ret
  exact ⟨rfl, HB.out⟩

end Go.Proofs.YticadkggaanbjaaGreatDoor.WalkServeTells
