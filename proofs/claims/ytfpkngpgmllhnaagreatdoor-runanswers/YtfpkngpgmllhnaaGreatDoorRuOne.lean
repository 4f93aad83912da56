/-
  Package run's session as an object of the call's own: a log and the mirror that follows it. And what its small functions return.
-/
import Derived.Test.YtfpkngpgmllhnaaGreatDoorRuPlain
import Derived.Test.YtfpkngpgmllhnaaGreatDoorMiRun
import Derived.Test.YtfpkngpgmllhnaaGreatDoorAsAll
import Derived.Deep.OwnRows
import Derived.Test.YtfpkngpgmllhnaaGreatDoorHdRun
import Derived.BigQuiet
import Derived.Lib.QuietBelow
import Derived.Test.YtfpkngpgmllhnaaGreatDoorWalkSe
import Derived.Test.YtfpkngpgmllhnaaGreatDoorEntAll
import Derived.Test.YtfpkngpgmllhnaaGreatDoorGrowMk
import Derived.Test.YtfpkngpgmllhnaaGreatDoorWalkMiLists
import Derived.Test.YtfpkngpgmllhnaaGreatDoorEntCuts
import Derived.Deep.CutBlock
namespace Go.Proofs.YtfpkngpgmllhnaaGreatDoor.RunObj
open Go.RowKit
open Keeps (Kept owns_kept)
open EntRows (cells)
open WalkMi (Mi)
open Runs (Desk)
open Errs (errv errv0 errv_pos)
open WalkRuAs (Out bad)
open WalkHdLib (Tabs)
open Nums (str)
open Lists (bt)

def two (x y : Value) : Nat → Value := fun i => if i = 0 then x else y
/-- block b holds the session: v its log; the mirror lies at bm, with its blocks G; F are all of their blocks -/
structure Se (w : World) (B b : Nat) (F : Nat → Prop) (d : Desk) : Prop where
  core : ∃ bm v G, w.rowIs b 74 2 (two v (.pointer (some ⟨bm, 0, none⟩))) ∧ w.ownsRow B 65 2 v d.log.length (cells d.log) ∧ Mi w B bm G 7 d.mir ∧ v.ownBlock ≠ some b ∧ (∀ k, G k → k ≠ b ∧ v.ownBlock ≠ some k) ∧ ∀ k, F k ↔ k = b ∨ v.ownBlock = some k ∨ G k
  above : B ≤ b

theorem Se.foot {w : World} {B b : Nat} {F : Nat → Prop} {d : Desk} (h : Se w B b F d) : ∀ k, F k → B ≤ k ∧ k < w.heap.size := by
  obtain ⟨bm, v, G, h1, h2, h3, _, _, h6⟩ := h.core
  intro k hk
  rcases (h6 k).1 hk with rfl | hk | hk
  · exact ⟨h.above, h1.lt⟩
  · exact h2.lt k hk
  · exact h3.foot k hk
theorem Se.kept {S : Nat → Prop} {w w' : World} {B b : Nat} {F : Nat → Prop} {d : Desk} (h : Se w B b F d) (q : Kept S w w') (hS : ∀ i, F i → ¬ S i) : Se w' B b F d := by
  obtain ⟨bm, v, G, h1, h2, h3, h4, h5, h6⟩ := h.core
  exact ⟨⟨bm, v, G, h1.of_block (q.block b h1.lt (hS b ((h6 b).2 (.inl rfl)))), owns_kept h2 q fun i hi => hS i ((h6 i).2 (.inr (.inl hi))), h3.kept q fun i hi => hS i ((h6 i).2 (.inr (.inr hi))), h4, h5, h6⟩, h.above⟩
theorem Se.below {w w' : World} {B b : Nat} {F : Nat → Prop} {d : Desk} (h : Se w B b F d) (q : Below w.heap.size w w') : Se w' B b F d := h.kept (Kept.of_below (fun _ => False) q) fun _ _ z => z
theorem Se.lt {w : World} {B b : Nat} {F : Nat → Prop} {d : Desk} (h : Se w B b F d) : b < w.heap.size := by
  obtain ⟨bm, v, G, h1, _⟩ := h.core
  exact h1.lt

/-- the mirror is another one behind what it heard -/
theorem se_mir {w w' : World} {B b bm : Nat} {d : Desk} {v : Value} {G G' : Nat → Prop} {m' : Mirrors.Mir} (h1 : w.rowIs b 74 2 (two v (.pointer (some ⟨bm, 0, none⟩)))) (h2 : w.ownsRow B 65 2 v d.log.length (cells d.log)) (h4 : v.ownBlock ≠ some b) (h5 : ∀ k, G k → k ≠ b ∧ v.ownBlock ≠ some k) (hb : B ≤ b) (q : Kept G w w') (h3 : Mi w' B bm G' 7 m') (hn : ∀ k, G' k → G k ∨ w.heap.size ≤ k) :
    ∃ F', Se w' B b F' ⟨d.log, m'⟩ ∧ ∀ k, F' k → (k = b ∨ v.ownBlock = some k ∨ G k) ∨ w.heap.size ≤ k := by
  refine ⟨fun k => k = b ∨ v.ownBlock = some k ∨ G' k, ⟨⟨bm, v, G', h1.of_block (q.block b h1.lt fun z => (h5 b z).1 rfl), owns_kept h2 q fun i hi z => (h5 i z).2 hi, h3, h4, fun k hk => ?_, fun k => Iff.rfl⟩, hb⟩, fun k hk => ?_⟩
  · rcases hn k hk with z | z
    · exact h5 k z
    · refine ⟨fun e => ?_, fun e => ?_⟩
      · have := h1.lt; omega
      · have := (h2.lt k e).2; omega
  · rcases hk with hk | hk | hk
    · exact .inl (.inl hk)
    · exact .inl (.inr (.inl hk))
    · rcases hn k hk with z | z
      · exact .inl (.inr (.inr z))
      · exact .inr z

/-! the small functions -/
theorem another_any (n : Int) (w : World) (h0 : 0 ≤ n) (h1 : n < 2 ^ 62) : Calls Tryz.prog 99 #[.int .i64 n] w fun e w' => e = .returned (.int .i64 (if n - 1 < 0 then 1 else n - 1)) ∧ w' = w := by
  by_cases h : n = 0
  · subst h
    go_enter Tryz.func99, Tryz.ntmps99
    go_wp2_with fail
    go_ret
    exact ⟨rfl, rfl⟩
  · have e0 : (n == 0) = false := by rw [beq_eq_false_iff_ne]; exact h
    have e1 : IntKind.i64.wrap (n - 1) = n - 1 := by rw [IntKind.wrap_i64]; omega
    rw [if_neg (by omega)]
    clear h
    go_enter Tryz.func99, Tryz.ntmps99
    go_wp2_with fail
    go_ret
    exact ⟨rfl, rfl⟩
theorem refuse_any (w : World) : Calls Tryz.prog 37 #[] w fun e w' => e = .returned (.tuple #[.string ⟨#[]⟩, bad]) ∧ w' = w := by
  go_enter Tryz.func37, Tryz.ntmps37
  go_wp2_with fail
  go_ret2
  exact ⟨rfl, rfl⟩
def okS (e : Nat) : ByteArray := if e = 0 then ⟨#[111, 107]⟩ else ⟨#[]⟩
theorem taken_any (e : Nat) (w : World) : Calls Tryz.prog 57 #[errv e] w fun r w' => r = .returned (.tuple #[.string (okS e), errv e]) ∧ w' = w := by
  by_cases h : e = 0
  · subst h
    rw [errv0]
    go_enter Tryz.func57, Tryz.ntmps57
    go_wp2_with fail
    go_ret2
    exact ⟨rfl, rfl⟩
  · unfold okS
    rw [errv_pos e h, if_neg h]
    clear h
    generalize (e : Int) = n
    go_enter Tryz.func57, Tryz.ntmps57
    go_wp2_with fail
    go_ret2
    exact ⟨rfl, rfl⟩
theorem out_ok (e : Nat) (he : e ≤ 9) : Out (okS e) (errv e) (Runs.tellE e) := by
  by_cases h : e = 0
  · subst h
    exact .inl ⟨rfl, rfl⟩
  · unfold okS Runs.tellE
    rw [if_neg h, if_neg h, errv_pos e h]
    exact .inr (.inl ⟨e, h, he, rfl, rfl⟩)

theorem begin_any (w : World) (B : Nat) (hB : B ≤ w.heap.size) (hA : Tabs w) : Calls Tryz.prog 10 #[] w fun e w' => ∃ b F, e = .returned (.pointer (some ⟨b, 0, none⟩)) ∧ Se w' B b F Runs.fresh ∧ (∀ k, F k → w.heap.size ≤ k) ∧ Below w.heap.size w w' := by
  have cN := WalkMi.new_any 7 w B hB hA
  clear hA
  go_enter Tryz.func10, Tryz.ntmps10
  go_wp2_with fail
  refine cN.mono ?_
  rintro e w1 ⟨v, rfl, hv, b1⟩
  clear cN
  rw [show errv (if Heads.isKey 7 = true then 0 else 1) = .nilIface from rfl]
  obtain ⟨bm, G, rfl, hm, hG⟩ := hv rfl
  have HM : Hid (Mi w1 B bm G 7 Mirrors.start ∧ (∀ k, G k → w.heap.size ≤ k) ∧ Below w.heap.size w w1) := ⟨hm, hG, b1⟩
  clear hm hG b1 hv
  go_wp2_with fail
  go_ret
  obtain ⟨hm, hG, b1⟩ := HM.out
  have b2 : Below w1.heap.size w1 (w1.alloc (.cells #[.slice none 0 0, .pointer (some ⟨bm, 0, none⟩)] 74)) := (Below.refl _ _).alloc (Nat.le_refl _) _
  refine ⟨w1.heap.size, fun k => k = w1.heap.size ∨ (Value.slice none 0 0).ownBlock = some k ∨ G k, rfl, ⟨⟨bm, .slice none 0 0, G, World.rowIs_alloc w1 #[.slice none 0 0, .pointer (some ⟨bm, 0, none⟩)] _ _ (by intro i hi; match i, hi with | 0, _ => rfl | 1, _ => rfl), World.ownsRow_nil _ _ _ _, hm.kept (Kept.of_below (fun _ => False) b2) fun _ _ z => z, by simp [Value.ownBlock], fun k hk => ⟨?_, by simp [Value.ownBlock]⟩, fun _ => Iff.rfl⟩, by have := b1.size; omega⟩, ?_, bt b1 b2⟩
  · have := (hm.foot k hk).2
    omega
  · rintro k (rfl | hk | hk)
    · exact b1.size
    · simp [Value.ownBlock] at hk
    · exact hG k hk

end Go.Proofs.YtfpkngpgmllhnaaGreatDoor.RunObj

/-
  What package run tells of the mirror: what it wants, and how far it is.
-/
set_option maxRecDepth 100000
namespace Go.Proofs.YtfpkngpgmllhnaaGreatDoor.WalkRuWant
open Go.RowKit
open Keeps (Kept owns_kept)
open EntRows (cells)
open WalkMi (Mi)
open Runs (Desk wantA stateA)
open RunObj (Se two)
open MirVals (wv aggW sizeW)
open Mirrors (Mir Want rootE)
open WalkHdLib (Tabs)
open Decimals (dec)
open Nums (str text)
open Lists (bt)

/-- what is wanted is small -/
theorem want_bd {key : Int} {m : Mir} (h : Mirrors.Ok key m) : (0 ≤ m.want.what ∧ m.want.what ≤ 3) ∧ (0 ≤ m.want.fr ∧ m.want.fr ≤ 200) ∧ (0 ≤ m.want.to_ ∧ m.want.to_ ≤ 200) ∧ m.want.fr ≤ m.want.to_ := by
  unfold Mir.want
  by_cases h0 : m.next.size = 0
  · rw [if_pos h0]
    simp
  · rw [if_neg h0]
    obtain ⟨h1, h2, h3, _⟩ := h.some h0
    obtain ⟨h4, h5⟩ := Mirrors.size_ok h1
    by_cases h6 : (m.has : Int) = m.next.size
    · rw [if_pos h6]
      have : (m.own.length : Int) ≤ m.has := by show (m.own.length : Int) ≤ ((m.own.length + m.waits.length : Nat) : Int); omega
      simp only
      omega
    · rw [if_neg h6]
      simp only
      split <;> omega

theorem str_want (a b c : List UInt8) : str a ++ ⟨#[32]⟩ ++ str b ++ ⟨#[32]⟩ ++ str c = str (a ++ 32 :: (b ++ 32 :: c)) := by
  unfold Nums.str
  apply ByteArray.ext
  apply Array.ext'
  simp [ByteArray.data_append]
theorem str_state (a b : List UInt8) : str a ++ ⟨#[32]⟩ ++ str b = str (a ++ 32 :: b) := by
  unfold Nums.str
  apply ByteArray.ext
  apply Array.ext'
  simp [ByteArray.data_append]
theorem size_blank : (ByteArray.mk #[32]).size = 1 := rfl

theorem root_valid (l : List Entries.Entry) : Nums.valid (rootE l) = true := Serves.root_valid l

set_option maxHeartbeats 4000000 in
theorem want_any {w : World} {B b : Nat} {F : Nat → Prop} {d : Desk} (h : Se w B b F d) (ho : Mirrors.Ok 7 d.mir) (hA : Tabs w) :
    Calls Tryz.prog 56 #[.pointer (some ⟨b, 0, none⟩)] w fun e w' => e = .returned (.string (str (wantA d))) ∧ Below w.heap.size w w' := by
  obtain ⟨bm, v, G, h1, _, h3, _, _, _⟩ := h.core
  have aW := aggW
  have zW := sizeW
  have c1 : w.cell? ⟨b, 1, none⟩ = some (.pointer (some ⟨bm, 0, none⟩)) := h1.cell (i := 1) (by omega)
  have cW := WalkMi.want_any h3 ho
  obtain ⟨⟨p0, p1⟩, ⟨q0, q1⟩, ⟨r0, r1⟩, _⟩ := want_bd ho
  have HA : Hid (wantA d = dec d.mir.want.what.toNat ++ 32 :: (dec d.mir.want.fr.toNat ++ 32 :: dec d.mir.want.to_.toNat)) := rfl
  unfold wv at cW
  generalize d.mir.want.what = X at *
  generalize d.mir.want.fr = Y at *
  generalize d.mir.want.to_ = Z at *
  have dX := Decimals.dec_length 8 X.toNat (by omega)
  have dY := Decimals.dec_length 8 Y.toNat (by omega)
  have dZ := Decimals.dec_length 8 Z.toNat (by omega)
  have HX : Hid (∀ w1, Tabs w1 → Calls Tryz.prog 94 #[.int .i64 X] w1 fun e w' => e = .returned (.string (str (dec X.toNat))) ∧ Below w1.heap.size w1 w') := fun w1 h1 => WalkHdLib.itoa_any X p0 (by omega) w1 h1
  have HY : Hid (∀ w1, Tabs w1 → Calls Tryz.prog 94 #[.int .i64 Y] w1 fun e w' => e = .returned (.string (str (dec Y.toNat))) ∧ Below w1.heap.size w1 w') := fun w1 h1 => WalkHdLib.itoa_any Y q0 (by omega) w1 h1
  have HZ : Hid (∀ w1, Tabs w1 → Calls Tryz.prog 94 #[.int .i64 Z] w1 fun e w' => e = .returned (.string (str (dec Z.toNat))) ∧ Below w1.heap.size w1 w') := fun w1 h1 => WalkHdLib.itoa_any Z r0 (by omega) w1 h1
  have HS : Hid (str (dec X.toNat) ++ ⟨#[32]⟩ ++ str (dec Y.toNat) ++ ⟨#[32]⟩ ++ str (dec Z.toNat) = str (wantA d)) := by
    show _ = _
    rw [HA.out]
    exact str_want _ _ _
  have HT : Hid (∀ w', Below w.heap.size w w' → Tabs w') := fun w' b => hA.below b
  rw [← HS.out]
  have lX : (str (dec X.toNat)).size ≤ 9 := by rw [Nums.str_size]; omega
  have lY : (str (dec Y.toNat)).size ≤ 9 := by rw [Nums.str_size]; omega
  have lZ : (str (dec Z.toNat)).size ≤ 9 := by rw [Nums.str_size]; omega
  generalize str (dec X.toNat) = DX at HX lX ⊢
  generalize str (dec Y.toNat) = DY at HY lY ⊢
  generalize str (dec Z.toNat) = DZ at HZ lZ ⊢
  have ea := fun w' : World => run_string_add_sum (P := Tryz.prog) (w := w') DX ⟨#[32]⟩ (by rw [size_blank]; omega)
  have eb := fun w' : World => run_string_add_sum (P := Tryz.prog) (w := w') (DX ++ ⟨#[32]⟩) DY (by rw [ByteArray.size_append, size_blank]; omega)
  have ec := fun w' : World => run_string_add_sum (P := Tryz.prog) (w := w') (DX ++ ⟨#[32]⟩ ++ DY) ⟨#[32]⟩ (by rw [ByteArray.size_append, ByteArray.size_append, size_blank]; omega)
  have ed := fun w' : World => run_string_add_sum (P := Tryz.prog) (w := w') (DX ++ ⟨#[32]⟩ ++ DY ++ ⟨#[32]⟩) DZ (by rw [ByteArray.size_append, ByteArray.size_append, ByteArray.size_append, size_blank]; omega)
  have hbl := h1.lt
  clear h h1 h3 ho hA HA HS dX dY dZ p0 p1 q0 q1 r0 r1
  go_enter Tryz.func56, Tryz.ntmps56
  go_wp2_with fail
  refine cW.mono ?_
  rintro e w1 ⟨rfl, b1⟩
  clear cW
  have HB1 : Hid (Below w.heap.size w w1) := b1
  clear b1
  go_upto_region 2 with fail
  have hs : w1.heap.size < (w1.alloc (.cells #[.int .i64 X, .int .i64 Y, .int .i64 Z] 58)).heap.size := by simp
  have b2 : Below w.heap.size w (w1.alloc (.cells #[.int .i64 X, .int .i64 Y, .int .i64 Z] 58)) := HB1.out.alloc HB1.out.size _
  have k0 : (w1.alloc (.cells #[.int .i64 X, .int .i64 Y, .int .i64 Z] 58)).cell? ⟨w1.heap.size, 0, none⟩ = some (.int .i64 X) := by simp
  have k1 : (w1.alloc (.cells #[.int .i64 X, .int .i64 Y, .int .i64 Z] 58)).cell? ⟨w1.heap.size, 1, none⟩ = some (.int .i64 Y) := by simp
  have k2 : (w1.alloc (.cells #[.int .i64 X, .int .i64 Y, .int .i64 Z] 58)).cell? ⟨w1.heap.size, 2, none⟩ = some (.int .i64 Z) := by simp
  generalize w1.alloc (.cells #[.int .i64 X, .int .i64 Y, .int .i64 Z] 58) = w2 at hs b2 k0 k1 k2 ⊢
  generalize w1.heap.size = g at hs k0 k1 k2 ⊢
  have cX : ∀ q os, Calls Tryz.prog 94 #[.int .i64 X] (Go.Sort.grow (redrawn w2 q) os) fun e w'' => e = .returned (.string DX) ∧ ∃ p : Regrown, w'' = Go.Sort.grow (redrawn w2 p.d) p.os := fun q os => Calls.regrown_of (HX.out _ (HT.out _ (bt b2 (below_regrown w2 q os))))
  have cY : ∀ q os, Calls Tryz.prog 94 #[.int .i64 Y] (Go.Sort.grow (redrawn w2 q) os) fun e w'' => e = .returned (.string DY) ∧ ∃ p : Regrown, w'' = Go.Sort.grow (redrawn w2 p.d) p.os := fun q os => Calls.regrown_of (HY.out _ (HT.out _ (bt b2 (below_regrown w2 q os))))
  have cZ : ∀ q os, Calls Tryz.prog 94 #[.int .i64 Z] (Go.Sort.grow (redrawn w2 q) os) fun e w'' => e = .returned (.string DZ) ∧ ∃ p : Regrown, w'' = Go.Sort.grow (redrawn w2 p.d) p.os := fun q os => Calls.regrown_of (HZ.out _ (HT.out _ (bt b2 (below_regrown w2 q os))))
  have l0 := cell_regrown k0
  have l1 := cell_regrown k1
  have l2 := cell_regrown k2
  clear k0 k1 k2 hs HX HY HZ HT HB1 c1
  refine wp_region_quiet_below (by kernel_rfl) (by kernel_rfl) ?_
  repeat (quiet_step (fail))
  quiet_step (exact cX _ _)
  repeat (quiet_step (fail))
  quiet_step (exact cY _ _)
  repeat (quiet_step (fail))
  quiet_step (exact cZ _ _)
  repeat (quiet_step (fail))
  refine wpQuiet_nil ?_
  intro _ hw'
  obtain ⟨⟨dq, osq⟩, hw''⟩ := hw'
  subst hw''
  have HB : Hid (Below w.heap.size w (Go.Sort.grow (redrawn w2 dq) osq)) := bt b2 (below_regrown w2 dq osq)
  go_wp2_with fail
  go_ret
  exact ⟨rfl, HB.out⟩

set_option maxHeartbeats 4000000 in
theorem state_any {w : World} {B b : Nat} {F : Nat → Prop} {d : Desk} (h : Se w B b F d) (ho : Mirrors.Ok 7 d.mir) (hA : Tabs w) :
    Calls Tryz.prog 61 #[.pointer (some ⟨b, 0, none⟩)] w fun e w' => e = .returned (.string (str (stateA d))) ∧ Below w.heap.size w w' := by
  obtain ⟨bm, v, G, h1, _, h3, _, _, _⟩ := h.core
  have c1 : w.cell? ⟨b, 1, none⟩ = some (.pointer (some ⟨bm, 0, none⟩)) := h1.cell (i := 1) (by omega)
  have cR := WalkMi.root_any h3 ho
  have HS : Hid (∀ w', Below w.heap.size w w' → Calls Tryz.prog 102 #[.pointer (some ⟨bm, 0, none⟩)] w' fun e w'' => e = .returned (.int .i64 (d.mir.own.length : Int)) ∧ Below w'.heap.size w' w'') := fun w' b => WalkMi.size_any (h3.kept (Kept.of_below (fun _ => False) b) fun _ _ z => z)
  have hv : Nums.valid (rootE d.mir.own) = true := root_valid _
  have cP := fun w' => WalkHex.print_yes (rootE d.mir.own) w' hv
  have hn := ho.few
  have HA : Hid (stateA d = dec d.mir.own.length ++ 32 :: text (rootE d.mir.own)) := rfl
  have HC : Hid (∀ w', Below w.heap.size w w' → w'.cell? ⟨b, 1, none⟩ = some (.pointer (some ⟨bm, 0, none⟩))) := fun w' q => Lists.cell_below q c1
  generalize d.mir.own.length = N at *
  generalize rootE d.mir.own = R at *
  have dN := Decimals.dec_length 8 N (by omega)
  have HI : Hid (∀ w1, Tabs w1 → Calls Tryz.prog 94 #[.int .i64 (N : Int)] w1 fun e w' => e = .returned (.string (str (dec N))) ∧ Below w1.heap.size w1 w') := fun w1 h1 => by
    have := WalkHdLib.itoa_any (N : Int) (by omega) (by omega) w1 h1
    rw [Int.toNat_natCast] at this
    exact this
  have HE : Hid (str (dec N) ++ ⟨#[32]⟩ ++ str (text R) = str (stateA d)) := by
    show _ = _
    rw [HA.out]
    exact str_state _ _
  have HT : Hid (∀ w', Below w.heap.size w w' → Tabs w') := fun w' b => hA.below b
  rw [← HE.out]
  have lN : (str (dec N)).size ≤ 9 := by rw [Nums.str_size]; omega
  have lR : (str (text R)).size ≤ 8 := by rw [Nums.str_size, Nums.text_length]; omega
  generalize str (dec N) = DN at HI lN ⊢
  generalize str (text R) = DR at cP lR ⊢
  have ea := fun w' : World => run_string_add_sum (P := Tryz.prog) (w := w') DN ⟨#[32]⟩ (by rw [size_blank]; omega)
  have eb := fun w' : World => run_string_add_sum (P := Tryz.prog) (w := w') (DN ++ ⟨#[32]⟩) DR (by rw [ByteArray.size_append, size_blank]; omega)
  clear h h1 h3 ho hA HA HE dN hv hn
  go_enter Tryz.func61, Tryz.ntmps61
  go_wp2_with fail
  refine cR.mono ?_
  rintro e w1 ⟨rfl, b1⟩
  clear cR
  have HB1 : Hid (Below w.heap.size w w1) := b1
  clear b1
  go_wp2_with fail
  refine (cP _).mono ?_
  rintro e w2 ⟨rfl, b2⟩
  have HB2 : Hid (Below w.heap.size w w2) := bt HB1.out b2
  clear b2 cP c1
  have c2 := HC.out _ HB2.out
  go_wp2_with fail
  refine (HS.out _ HB2.out).mono ?_
  rintro e w3 ⟨rfl, b3⟩
  have HB3 : Hid (Below w.heap.size w w3) := bt HB2.out b3
  clear b3 HS
  go_wp2_with fail
  refine (HI.out _ (HT.out _ HB3.out)).mono ?_
  rintro e w4 ⟨rfl, b4⟩
  have HB4 : Hid (Below w.heap.size w w4) := bt HB3.out b4
  clear b4 HI
  go_wp2_with fail
  go_ret
  exact ⟨rfl, HB4.out⟩

end Go.Proofs.YtfpkngpgmllhnaaGreatDoor.WalkRuWant

/-
  What package run has of its log that the mirror wants: a head, a page, or a proof.
-/
set_option maxRecDepth 100000
namespace Go.Proofs.YtfpkngpgmllhnaaGreatDoor.WalkRuWanted
open Go.RowKit
open Keeps (Kept owns_kept owns_row)
open Wides (Wide owns_wide)
open Lists (Row ints bt)
open EntRows (cells)
open Entries (Entry entsE leafsOf)
open Heads (Head)
open WalkMi (Mi)
open Runs (Desk replyOf proofOf pageOf Fine)
open RunObj (Se two)
open MirVals (wv rv aggR sizeR aggW sizeW)
open HeadVals (hv aggH sizeH)
open Mirrors (Mir Want Reply)
open Answers (logE logH)
open WalkHdLib (Tabs)
open Errs (errv errv0 errv_pos)

/-- each text in the log is short -/
theorem sized {l : List Entry} (h : entsE l = 0) : ∀ e ∈ l, e.2.size ≤ maxLen := fun e he => by
  have := (Entries.ent_ok ((Entries.ents_ok h).2 e he)).2.2
  unfold maxLen
  omega
theorem log_any {w : World} {B b : Nat} {F : Nat → Prop} {d : Desk} (h : Se w B b F d) : ∃ a c, w.cell? ⟨b, 0, none⟩ = some (.slice a d.log.length c) ∧ Wide 2 w a d.log.length c (cells d.log) := by
  obtain ⟨bm, v, G, h1, h2, _⟩ := h.core
  obtain ⟨a, c, rfl, hw⟩ := owns_wide h2
  exact ⟨a, c, h1.cell (i := 0) (by omega), hw⟩
/-- a proof as it is made -/
def madeP (l : List Entry) (o n : Int) : List Int := GrowsE.gmakeL (leafsOf l) o n

set_option maxHeartbeats 4000000 in
theorem proof_any {w : World} {B b : Nat} {F : Nat → Prop} {d : Desk} (h : Se w B b F d) (hf : entsE d.log = 0) (o n : Int) :
    Calls Tryz.prog 98 #[.pointer (some ⟨b, 0, none⟩), .int .i64 o, .int .i64 n] w fun e w' => ∃ v, e = .returned v ∧ w'.ownsRow w.heap.size 3 1 v (madeP d.log o n).length (ints (madeP d.log o n)) ∧ Below w.heap.size w w' := by
  obtain ⟨a, c, c0, hw⟩ := log_any h
  have cL := WalkEnt.leafs_any d.log a d.log.length c w hw (sized hf)
  have hV : Entries.leafsV d.log = leafsOf d.log := if_pos hf
  rw [hV, hf] at cL
  have HG : Hid (∀ w' a n' cap, Row w' a n' cap (ints (leafsOf d.log)) → Calls Tryz.prog 71 #[.slice a n' cap, .int .i64 o, .int .i64 n] w' fun e w'' => ∃ v, e = .returned (.tuple #[v, WalkCheck.errv (GrowsE.gmakeE (leafsOf d.log) o n)]) ∧ w''.ownsRow w'.heap.size 3 1 v (madeP d.log o n).length (ints (madeP d.log o n)) ∧ Below w'.heap.size w' w'') := fun w' a n' cap hr => WalkGrow.make_any (leafsOf d.log) a n' cap o n w' hr
  generalize madeP d.log o n = P at HG ⊢
  generalize GrowsE.gmakeE (leafsOf d.log) o n = E at HG
  generalize leafsOf d.log = L at HG cL
  generalize d.log.length = N at *
  have hbl := h.lt
  rw [show errv 0 = .nilIface from rfl] at cL
  clear h hf hw hV
  go_enter Tryz.func98, Tryz.ntmps98
  go_wp2_with fail
  refine cL.mono ?_
  rintro e w1 ⟨v, rfl, o1, b1⟩
  clear cL
  obtain ⟨a1, c1, rfl, hr, _⟩ := owns_row o1
  have HB1 : Hid (Below w.heap.size w w1) := b1
  have HC := HG.out _ _ _ _ hr
  clear b1 o1 hr HG
  go_wp2_with fail
  refine HC.mono ?_
  rintro e w2 ⟨v, rfl, o2, b2⟩
  have HO : Hid (w2.ownsRow w.heap.size 3 1 v P.length (ints P) ∧ Below w.heap.size w w2) := ⟨Keeps.owns_base o2 HB1.out.size, bt HB1.out b2⟩
  clear HC o2 b2
  go_wp2_with fail
  go_ret
  exact ⟨v, rfl, HO.out.1, HO.out.2⟩

theorem size_reply : (Tryz.prog.info? 87).map (·.size) = some 7 := by kernel_rfl
theorem row_seven {w : World} {g : Nat} {t : TypeId} {f : Nat → Value} (h : w.rowIs g t 7 f) : w.heap[g]? = some (.cells #[f 0, f 1, f 2, f 3, f 4, f 5, f 6] t (0, 0)) := by
  obtain ⟨c, hb, hn, hc⟩ := h
  have : c = #[f 0, f 1, f 2, f 3, f 4, f 5, f 6] := by
    apply Array.ext_getElem?
    intro i
    match i with
    | 0 => rw [hc 0 (by omega)]; rfl
    | 1 => rw [hc 1 (by omega)]; rfl
    | 2 => rw [hc 2 (by omega)]; rfl
    | 3 => rw [hc 3 (by omega)]; rfl
    | 4 => rw [hc 4 (by omega)]; rfl
    | 5 => rw [hc 5 (by omega)]; rfl
    | 6 => rw [hc 6 (by omega)]; rfl
    | i + 7 => rw [Array.getElem?_eq_none (by omega), Array.getElem?_eq_none (by simp)]
  rw [hb, this]
/-- seven cells written -/
theorem put7_row {w : World} {g : Nat} {t : TypeId} {f : Nat → Value} (h : w.rowIs g t 7 f) (x0 x1 x2 x3 x4 x5 x6 : Value) : (((((((w.setCell ⟨g, 0, none⟩ x0).setCell ⟨g, 1, none⟩ x1).setCell ⟨g, 2, none⟩ x2).setCell ⟨g, 3, none⟩ x3).setCell ⟨g, 4, none⟩ x4).setCell ⟨g, 5, none⟩ x5).setCell ⟨g, 6, none⟩ x6).heap[g]? = some (.cells #[x0, x1, x2, x3, x4, x5, x6] t (0, 0)) := row_seven (((((((h.set 0 x0).set 1 x1).set 2 x2).set 3 x3).set 4 x4).set 5 x5).set 6 x6)
theorem put7_kept (w : World) (g : Nat) (x0 x1 x2 x3 x4 x5 x6 : Value) : Kept (fun k => k = g) w (((((((w.setCell ⟨g, 0, none⟩ x0).setCell ⟨g, 1, none⟩ x1).setCell ⟨g, 2, none⟩ x2).setCell ⟨g, 3, none⟩ x3).setCell ⟨g, 4, none⟩ x4).setCell ⟨g, 5, none⟩ x5).setCell ⟨g, 6, none⟩ x6) := (((((((Kept.refl (fun k => k = g) w).setCell (.inl rfl) _).setCell (.inl rfl) _).setCell (.inl rfl) _).setCell (.inl rfl) _).setCell (.inl rfl) _).setCell (.inl rfl) _).setCell (.inl rfl) _
theorem ret_wanted {w : World} {g : Nat} {x0 x1 x2 x3 x4 x5 x6 : Value} (tmps : Array Value) (hp : tmps.getD 2 undef = .pointer (some ⟨g, 0, none⟩)) (h : w.heap[g]? = some (.cells #[x0, x1, x2, x3, x4, x5, x6] 87 (0, 0))) :
    (results Tryz.f59 tmps).run Tryz.prog w = .ok (.agg #[x0, x1, x2, x3, x4, x5, x6]) w :=
  results_cell_row rfl tmps w g _ #[x0, x1, x2, x3, x4, x5, x6] (0, 0) _ hp h Tryz.underlying87 rfl size_reply

/-- a reply of the call's own -/
def Rep (base : Nat) (w : World) (v : Value) (r : Reply) : Prop := ∃ a5 c5 a6 c6, v = rv r a5 c5 a6 c6 ∧ w.ownsRow base 65 2 (.slice a5 r.ents.length c5) r.ents.length (cells r.ents) ∧ w.ownsRow base 3 1 (.slice a6 r.proof.length c6) r.proof.length (ints r.proof)

theorem page_len {d : Desk} (hf : Fine d) (h2 : d.mir.want.what = 2) : ∃ fr to_ : Nat, d.mir.want.fr = (fr : Int) ∧ d.mir.want.to_ = (to_ : Int) ∧ fr < to_ ∧ to_ ≤ d.log.length := by
  obtain ⟨_, ⟨q0, _⟩, ⟨r0, _⟩, h⟩ := WalkRuWant.want_bd hf.mir
  obtain ⟨h6, h7, h8, h5⟩ := Mirrors.want_two h2
  have := hf.next
  have h9 := (hf.mir.some h6).2.2.1
  refine ⟨d.mir.want.fr.toNat, d.mir.want.to_.toNat, by omega, by omega, ?_, ?_⟩
  · have : d.mir.want.fr < d.mir.want.to_ := by rw [h5, h8]; split <;> omega
    omega
  have : d.mir.want.to_ ≤ d.mir.next.size := by rw [h5]; split <;> omega
  omega
theorem proof_is {d : Desk} (hf : Fine d) (h1 : d.mir.want.what ≠ 1) (h2 : d.mir.want.what ≠ 2) : madeP d.log d.mir.want.fr d.mir.want.to_ = proofOf d := by
  obtain ⟨e, h3, h4⟩ := Mirrors.want_else h1 h2
  have := hf.next
  have hl := Runs.few hf
  unfold proofOf madeP GrowsE.gmakeL GrowsE.gmakeE
  rw [e]
  simp only
  have ho := hf.own
  have hh : d.mir.own.length ≤ d.mir.has := Nat.le_add_right _ _
  have hlf : (leafsOf d.log).length = d.log.length := List.length_map _
  rw [if_pos (WalkSe.leafs_fine hf.log)]
  by_cases h0 : (d.mir.own.length : Int) = 0
  · rw [if_pos h0, if_neg]
    rw [if_neg]
    · decide
    · unfold GrowsE.inGrow
      simp only [decide_eq_true_eq]
      omega
  · rw [if_neg h0, if_pos]
    · rw [Int.toNat_natCast, Int.toNat_natCast]
      unfold leafsOf
      rw [List.map_take]
    · rw [if_pos]
      unfold GrowsE.inGrow
      simp only [decide_eq_true_eq]
      omega

set_option maxHeartbeats 8000000 in
theorem wanted_any {w : World} {B b : Nat} {F : Nat → Prop} {d : Desk} (h : Se w B b F d) (hf : Fine d) (hA : Tabs w) :
    Calls Tryz.prog 59 #[.pointer (some ⟨b, 0, none⟩)] w fun e w' => ∃ v, e = .returned v ∧ Rep w.heap.size w' v (replyOf d false) ∧ Below w.heap.size w w' := by
  have aW := aggW
  have zW := sizeW
  have aR := aggR
  have zR := sizeR
  have aH := aggH
  have zH := sizeH
  have HSe : Hid (∀ w', Below w.heap.size w w' → Se w' B b F d) := fun w' q => h.below q
  have HT : Hid (∀ w', Below w.heap.size w w' → Tabs w') := fun w' b => hA.below b
  have hbl := h.lt
  have b0 : Below w.heap.size w (w.alloc (.cells #[.int .i64 0, .int .i64 0, .int .i64 0, .int .i64 0, .int .i64 0, .slice none 0 0, .slice none 0 0] 87)) := (Below.refl _ _).alloc (Nat.le_refl _) _
  have r0 : (w.alloc (.cells #[.int .i64 0, .int .i64 0, .int .i64 0, .int .i64 0, .int .i64 0, .slice none 0 0, .slice none 0 0] 87)).rowIs w.heap.size 87 7 (MirVals.cell7 0 0 0 0 0 (.slice none 0 0) (.slice none 0 0)) := World.rowIs_alloc w #[.int .i64 0, .int .i64 0, .int .i64 0, .int .i64 0, .int .i64 0, .slice none 0 0, .slice none 0 0] _ _ (by intro i hi; match i, hi with | 0, _ => rfl | 1, _ => rfl | 2, _ => rfl | 3, _ => rfl | 4, _ => rfl | 5, _ => rfl | 6, _ => rfl)
  obtain ⟨bm, v, G, h1, _, h3, _, _, _⟩ := (HSe.out _ b0).core
  have c1 := h1.cell (i := 1) (by omega)
  rw [show two v (.pointer (some ⟨bm, 0, none⟩)) 1 = .pointer (some ⟨bm, 0, none⟩) from rfl] at c1
  have cW := WalkMi.want_any h3 hf.mir
  unfold wv at cW
  have HF : Hid (Fine d) := hf
  obtain ⟨Wx, hWx⟩ : ∃ x, x = d.mir.want := ⟨_, rfl⟩
  rw [← hWx] at cW
  have HW : Hid (Wx = d.mir.want) := hWx
  obtain ⟨X, Y, Z⟩ := Wx
  simp only at cW
  have hbl0 := (HSe.out _ b0).lt
  clear h hA h1 h3 hf hWx
  go_enter Tryz.func59, Tryz.ntmps59
  go_upto_region 1 with fail
  obtain ⟨g, hg⟩ : ∃ g, w.heap.size = g := ⟨_, rfl⟩
  generalize w.alloc (.cells #[.int .i64 0, .int .i64 0, .int .i64 0, .int .i64 0, .int .i64 0, .slice none 0 0, .slice none 0 0] 87) = w0 at b0 r0 c1 cW hbl0 ⊢
  rw [hg] at r0 ⊢
  go_wp2_with fail
  refine cW.mono ?_
  rintro e w1 ⟨rfl, b1⟩
  clear cW
  have HB1 : Hid (Below w.heap.size w w1) := bt b0 b1
  have HR1 : Hid (w1.rowIs g 87 7 (MirVals.cell7 0 0 0 0 0 (.slice none 0 0) (.slice none 0 0)) ∧ g < w1.heap.size) := ⟨r0.of_block (b1.block g r0.lt), Nat.lt_of_lt_of_le r0.lt b1.size⟩
  clear b0 b1 r0 c1 hbl0
  go_upto_region 3 with fail
  have hs2 : (((w1.alloc (.cells #[.int .i64 X, .int .i64 Y, .int .i64 Z] 58)).alloc (.cells #[.int .i64 X, .int .i64 0, .int .i64 0, .int .i64 0, .int .i64 0, .slice none 0 0, .slice none 0 0] 87))).heap.size = w1.heap.size + 2 := by simp
  have k0 : ((w1.alloc (.cells #[.int .i64 X, .int .i64 Y, .int .i64 Z] 58)).alloc (.cells #[.int .i64 X, .int .i64 0, .int .i64 0, .int .i64 0, .int .i64 0, .slice none 0 0, .slice none 0 0] 87)).cell? ⟨w1.heap.size, 0, none⟩ = some (.int .i64 X) := by rw [World.cell?_alloc_lt _ _ ⟨w1.heap.size, 0, none⟩ (by simp)]; simp
  have k1 : ((w1.alloc (.cells #[.int .i64 X, .int .i64 Y, .int .i64 Z] 58)).alloc (.cells #[.int .i64 X, .int .i64 0, .int .i64 0, .int .i64 0, .int .i64 0, .slice none 0 0, .slice none 0 0] 87)).cell? ⟨w1.heap.size, 1, none⟩ = some (.int .i64 Y) := by rw [World.cell?_alloc_lt _ _ ⟨w1.heap.size, 1, none⟩ (by simp)]; simp
  have k2 : ((w1.alloc (.cells #[.int .i64 X, .int .i64 Y, .int .i64 Z] 58)).alloc (.cells #[.int .i64 X, .int .i64 0, .int .i64 0, .int .i64 0, .int .i64 0, .slice none 0 0, .slice none 0 0] 87)).cell? ⟨w1.heap.size, 2, none⟩ = some (.int .i64 Z) := by rw [World.cell?_alloc_lt _ _ ⟨w1.heap.size, 2, none⟩ (by simp)]; simp
  have r2 : ((w1.alloc (.cells #[.int .i64 X, .int .i64 Y, .int .i64 Z] 58)).alloc (.cells #[.int .i64 X, .int .i64 0, .int .i64 0, .int .i64 0, .int .i64 0, .slice none 0 0, .slice none 0 0] 87)).rowIs (w1.heap.size + 1) 87 7 (MirVals.cell7 X 0 0 0 0 (.slice none 0 0) (.slice none 0 0)) := by
    have := World.rowIs_alloc (w1.alloc (.cells #[.int .i64 X, .int .i64 Y, .int .i64 Z] 58)) #[.int .i64 X, .int .i64 0, .int .i64 0, .int .i64 0, .int .i64 0, .slice none 0 0, .slice none 0 0] 87 (MirVals.cell7 X 0 0 0 0 (.slice none 0 0) (.slice none 0 0)) (by intro i hi; match i, hi with | 0, _ => rfl | 1, _ => rfl | 2, _ => rfl | 3, _ => rfl | 4, _ => rfl | 5, _ => rfl | 6, _ => rfl)
    rw [World.size_alloc] at this
    exact this
  have b12 : Below w1.heap.size w1 ((w1.alloc (.cells #[.int .i64 X, .int .i64 Y, .int .i64 Z] 58)).alloc (.cells #[.int .i64 X, .int .i64 0, .int .i64 0, .int .i64 0, .int .i64 0, .slice none 0 0, .slice none 0 0] 87)) := ((Below.refl _ _).alloc (Nat.le_refl _) _).alloc (by simp) _
  have rg := HR1.out.1.of_block (b12.block g HR1.out.2)
  have hgl := HR1.out.2
  have HB2 : Hid (Below w.heap.size w ((w1.alloc (.cells #[.int .i64 X, .int .i64 Y, .int .i64 Z] 58)).alloc (.cells #[.int .i64 X, .int .i64 0, .int .i64 0, .int .i64 0, .int .i64 0, .slice none 0 0, .slice none 0 0] 87))) := bt HB1.out b12
  have hw1 : w.heap.size ≤ w1.heap.size := HB1.out.size
  generalize ((w1.alloc (.cells #[.int .i64 X, .int .i64 Y, .int .i64 Z] 58)).alloc (.cells #[.int .i64 X, .int .i64 0, .int .i64 0, .int .i64 0, .int .i64 0, .slice none 0 0, .slice none 0 0] 87)) = w2 at hs2 k0 k1 k2 r2 rg HB2 ⊢
  clear b12 HR1 HB1
  generalize w1.heap.size = q at hs2 k0 k1 k2 r2 hgl hw1 ⊢
  have HR : Hid (w2.rowIs (q + 1) 87 7 (MirVals.cell7 X 0 0 0 0 (.slice none 0 0) (.slice none 0 0)) ∧ w2.rowIs g 87 7 (MirVals.cell7 0 0 0 0 0 (.slice none 0 0) (.slice none 0 0)) ∧ g ≠ q + 1 ∧ w.heap.size ≤ g ∧ w.heap.size ≤ q + 1 ∧ q + 1 < w2.heap.size ∧ g < w2.heap.size) := ⟨r2, rg, by omega, by omega, by omega, by omega, by omega⟩
  obtain ⟨a, c, c0, hw⟩ := log_any (HSe.out _ HB2.out)
  have hbl2 := (HSe.out _ HB2.out).lt
  clear r2 rg hgl hw1 hs2
  by_cases hx1 : X = 1
  · subst hx1
    have HV : Hid (replyOf d false = ⟨1, logH d.log 7 0, [], []⟩) := by
      show _ = _
      unfold Runs.replyOf
      rw [← HW.out]
      rfl
    have cH := WalkSe.head_any d.log a d.log.length c 7 0 w2 hw (sized HF.out.log) (HT.out _ HB2.out)
    rw [Runs.log_fine HF.out, errv0] at cH
    generalize logH d.log 7 0 = H at cH HV
    obtain ⟨h0, h1, h2, h3⟩ := H
    unfold hv at cH
    simp only at cH
    generalize d.log.length = N at c0 cH
    clear hw HW HF HSe HT
    go_wp2_with fail
    refine cH.mono ?_
    rintro e w3 ⟨rfl, b3⟩
    obtain ⟨r2, rg, hne, hgw, hqw, hq2, hg2⟩ := HR.out
    have r3 := r2.of_block (b3.block _ hq2)
    have rg3 := rg.of_block (b3.block _ hg2)
    have HB3 : Hid (Below w.heap.size w w3) := bt HB2.out b3
    clear cH b3 k1 k2 c0
    have m0 := r3.cell (i := 0) (by omega)
    have m1 := r3.cell (i := 1) (by omega)
    have m2 := r3.cell (i := 2) (by omega)
    have m3 := r3.cell (i := 3) (by omega)
    have m4 := r3.cell (i := 4) (by omega)
    have f3 := r3.frozen
    have HR3 : Hid (w3.rowIs (q + 1) 87 7 (MirVals.cell7 1 0 0 0 0 (.slice none 0 0) (.slice none 0 0)) ∧ w3.rowIs g 87 7 (MirVals.cell7 0 0 0 0 0 (.slice none 0 0) (.slice none 0 0)) ∧ g ≠ q + 1 ∧ w.heap.size ≤ g ∧ w.heap.size ≤ q + 1) := ⟨r3, rg3, hne, hgw, hqw⟩
    clear r2 rg r3 rg3 hne hgw hqw hq2 hg2 HR
    go_upto_region 10 with fail
    have k4 : Kept (fun k => k = q + 1) w3 ((((w3.setCell ⟨q + 1, 1, none⟩ (.int .i64 h0)).setCell ⟨q + 1, 2, none⟩ (.int .i64 h1)).setCell ⟨q + 1, 3, none⟩ (.int .i64 h2)).setCell ⟨q + 1, 4, none⟩ (.int .i64 h3)) := ((((Kept.refl (fun k => k = q + 1) w3).setCell (.inl rfl) _).setCell (.inl rfl) _).setCell (.inl rfl) _).setCell (.inl rfl) _
    obtain ⟨r3, rg3, hne, hgw, hqw⟩ := HR3.out
    have r4 : ((((w3.setCell ⟨q + 1, 1, none⟩ (.int .i64 h0)).setCell ⟨q + 1, 2, none⟩ (.int .i64 h1)).setCell ⟨q + 1, 3, none⟩ (.int .i64 h2)).setCell ⟨q + 1, 4, none⟩ (.int .i64 h3)).rowIs (q + 1) 87 7 (MirVals.cell7 1 h0 h1 h2 h3 (.slice none 0 0) (.slice none 0 0)) := ((((r3.set 1 _).set 2 _).set 3 _).set 4 _).congr fun i hi => by match i, hi with | 0, _ => rfl | 1, _ => rfl | 2, _ => rfl | 3, _ => rfl | 4, _ => rfl | 5, _ => rfl | 6, _ => rfl
    have rg4 := rg3.of_block (k4.block g rg3.lt hne)
    have HB4 : Hid (Below w.heap.size w ((((w3.setCell ⟨q + 1, 1, none⟩ (.int .i64 h0)).setCell ⟨q + 1, 2, none⟩ (.int .i64 h1)).setCell ⟨q + 1, 3, none⟩ (.int .i64 h2)).setCell ⟨q + 1, 4, none⟩ (.int .i64 h3))) := (((HB3.out.setCell hqw _).setCell hqw _).setCell hqw _).setCell hqw _
    generalize ((((w3.setCell ⟨q + 1, 1, none⟩ (.int .i64 h0)).setCell ⟨q + 1, 2, none⟩ (.int .i64 h1)).setCell ⟨q + 1, 3, none⟩ (.int .i64 h2)).setCell ⟨q + 1, 4, none⟩ (.int .i64 h3)) = w4 at r4 rg4 HB4 ⊢
    have m0 := r4.cell (i := 0) (by omega)
    have m1 := r4.cell (i := 1) (by omega)
    have m2 := r4.cell (i := 2) (by omega)
    have m3 := r4.cell (i := 3) (by omega)
    have m4 := r4.cell (i := 4) (by omega)
    have m5 := r4.cell (i := 5) (by omega)
    have m6 := r4.cell (i := 6) (by omega)
    have n0 := rg4.cell (i := 0) (by omega)
    have n1 := rg4.cell (i := 1) (by omega)
    have n2 := rg4.cell (i := 2) (by omega)
    have n3 := rg4.cell (i := 3) (by omega)
    have n4 := rg4.cell (i := 4) (by omega)
    have n5 := rg4.cell (i := 5) (by omega)
    have n6 := rg4.cell (i := 6) (by omega)
    have fg := rg4.frozen
    simp only [MirVals.cell7] at m0 m1 m2 m3 m4 m5 m6 n0 n1 n2 n3 n4 n5 n6
    have HG : Hid (w4.rowIs g 87 7 (MirVals.cell7 0 0 0 0 0 (.slice none 0 0) (.slice none 0 0)) ∧ w.heap.size ≤ g) := ⟨rg4, hgw⟩
    clear r3 rg3 r4 rg4 hne hgw hqw k4 HR3 HB3
    go_wp2_with fail
    refine bodyPost_ret (ret_wanted _ rfl (put7_row HG.out.1 _ _ _ _ _ _ _)) rfl ?_
    refine ⟨_, rfl, by rw [HV.out]; exact ⟨none, 0, none, 0, rfl, World.ownsRow_nil _ _ _ _, World.ownsRow_nil _ _ _ _⟩, ?_⟩
    exact ((((((HB4.out.setCell HG.out.2 _).setCell HG.out.2 _).setCell HG.out.2 _).setCell HG.out.2 _).setCell HG.out.2 _).setCell HG.out.2 _).setCell HG.out.2 _
  by_cases hx2 : X = 2
  · subst hx2
    obtain ⟨fr, to_, e1, e2, h12, h2n⟩ := page_len HF.out (by rw [← HW.out])
    rw [← HW.out] at e1 e2
    simp only at e1 e2
    subst e1 e2
    have HV : Hid (replyOf d false = ⟨2, Heads.zero, (d.log.take to_).drop fr, []⟩) := by
      show _ = _
      unfold Runs.replyOf Runs.pageOf
      rw [← HW.out]
      simp only [Int.toNat_natCast]
      rfl
    have hll := Runs.few HF.out
    have HCl : Hid (∀ a' c', Wide 2 w2 a' (to_ - fr) c' (cells ((d.log.take to_).drop fr)) → Calls Tryz.prog 97 #[.slice a' (to_ - fr) c'] w2.drew fun e w' => ∃ v, e = .returned v ∧ w'.ownsRow w2.drew.heap.size 65 2 v (to_ - fr) (cells ((d.log.take to_).drop fr)) ∧ Below w2.drew.heap.size w2.drew w') := fun a' c' hw' => WalkMiLists.clone_any _ a' (to_ - fr) c' w2.drew (by omega) hw'
    have hlp : ((d.log.take to_).drop fr).length = to_ - fr := by rw [List.length_drop, List.length_take]; omega
    have HLp : Hid (((d.log.take to_).drop fr).length = to_ - fr) := hlp
    have hcap : d.log.length ≤ c := hw.2.1
    have HCut : Hid (∀ g off, a = some ⟨g, off, none⟩ → Wide 2 w2 (some ⟨g, off + fr * 2, none⟩) (to_ - fr) (c - fr) (cells ((d.log.take to_).drop fr))) := fun g off e => by subst e; exact EntCuts.cut hw fr to_ (by omega) h2n
    generalize hP : (d.log.take to_).drop fr = P at HV HCl HLp HCut
    obtain ⟨ga, oa, rfl, _⟩ := hw.2.2 (by omega)
    have HCt := HCut.out ga oa rfl
    have zE := WalkEntOne.sizeE
    generalize d.log.length = N at c0 h2n hll hcap
    clear hw HW HF HSe HT hlp hP
    clear HCut
    have j1 : (fr : Int) ≤ (to_ : Int) := by omega
    have j2 : (to_ : Int) ≤ (c : Int) := by omega
    have j3 : (fr : Int) ≤ (c : Int) := by omega
    go_upto_region 7 with fail
    refine wp_region_still_tail 9 (by kernel_rfl) (by kernel_rfl) ?_
    rw [show ({ w2 with drawn := w2.drawn + 1 } : World) = w2.drew from rfl]
    simp only [List.take_succ_cons, List.take_zero, List.drop_succ_cons, List.drop_zero]
    repeat still_step
    refine wpStill_nil ?_
    go_wp2_with fail
    refine (HCl.out _ _ HCt).mono ?_
    rintro e w3 ⟨v, rfl, o3, b3⟩
    obtain ⟨a5, c5, rfl, hw5⟩ := owns_wide o3
    clear hw5
    have HB3 : Hid (Below w2.heap.size w2 w3) := (Below.refl _ w2).drew.trans b3
    have HO3 : Hid (w3.ownsRow w2.heap.size 65 2 (.slice a5 (to_ - fr) c5) (to_ - fr) (cells P)) := o3
    have m5 := Lists.cell_below HB3.out (HR.out.1.cell (i := 5) (by omega))
    simp only [MirVals.cell7] at m5
    have f5 : w3.frozen? ⟨q + 1, 5, none⟩ = false := (HR.out.1.of_block (HB3.out.block _ HR.out.2.2.2.2.2.1)).frozen 5
    clear o3 b3
    go_upto_region 10 with fail
    clear m5
    obtain ⟨r2, rg, hne, hgw, hqw, hq2, hg2⟩ := HR.out
    have r3 := r2.of_block (HB3.out.block _ hq2)
    have rg3 := rg.of_block (HB3.out.block _ hg2)
    have k4 : Kept (fun k => k = q + 1) w3 (w3.setCell ⟨q + 1, 5, none⟩ (.slice a5 (to_ - fr) c5)) := (Kept.refl (fun k => k = q + 1) w3).setCell (.inl rfl) _
    have r4 : (w3.setCell ⟨q + 1, 5, none⟩ (.slice a5 (to_ - fr) c5)).rowIs (q + 1) 87 7 (MirVals.cell7 2 0 0 0 0 (.slice a5 (to_ - fr) c5) (.slice none 0 0)) := (r3.set 5 _).congr fun i hi => by match i, hi with | 0, _ => rfl | 1, _ => rfl | 2, _ => rfl | 3, _ => rfl | 4, _ => rfl | 5, _ => rfl | 6, _ => rfl
    have rg4 := rg3.of_block (k4.block g rg3.lt hne)
    have o4 := owns_kept HO3.out k4 fun i hi => by have := (HO3.out.lt i hi).1; omega
    have HB4 : Hid (Below w.heap.size w (w3.setCell ⟨q + 1, 5, none⟩ (.slice a5 (to_ - fr) c5))) := (bt HB2.out HB3.out).setCell hqw _
    generalize w3.setCell ⟨q + 1, 5, none⟩ (.slice a5 (to_ - fr) c5) = w4 at r4 rg4 o4 HB4 ⊢
    have m0 := r4.cell (i := 0) (by omega)
    have m1 := r4.cell (i := 1) (by omega)
    have m2 := r4.cell (i := 2) (by omega)
    have m3 := r4.cell (i := 3) (by omega)
    have m4 := r4.cell (i := 4) (by omega)
    have m5 := r4.cell (i := 5) (by omega)
    have m6 := r4.cell (i := 6) (by omega)
    have n0 := rg4.cell (i := 0) (by omega)
    have n1 := rg4.cell (i := 1) (by omega)
    have n2 := rg4.cell (i := 2) (by omega)
    have n3 := rg4.cell (i := 3) (by omega)
    have n4 := rg4.cell (i := 4) (by omega)
    have n5 := rg4.cell (i := 5) (by omega)
    have n6 := rg4.cell (i := 6) (by omega)
    have fg := rg4.frozen
    simp only [MirVals.cell7] at m0 m1 m2 m3 m4 m5 m6 n0 n1 n2 n3 n4 n5 n6
    have HG : Hid (w4.rowIs g 87 7 (MirVals.cell7 0 0 0 0 0 (.slice none 0 0) (.slice none 0 0)) ∧ w.heap.size ≤ g) := ⟨rg4, hgw⟩
    have HO4 : Hid (w4.ownsRow w2.heap.size 65 2 (.slice a5 (to_ - fr) c5) (to_ - fr) (cells P) ∧ g < w2.heap.size) := ⟨o4, hg2⟩
    clear r2 rg r3 rg3 r4 rg4 hne hgw hqw k4 hq2 hg2 o4 f5 HR HB3 HO3
    go_wp2_with fail
    refine bodyPost_ret (ret_wanted _ rfl (put7_row HG.out.1 _ _ _ _ _ _ _)) rfl ?_
    refine ⟨_, rfl, ?_, ?_⟩
    · rw [HV.out]
      refine ⟨a5, c5, none, 0, ?_, ?_, World.ownsRow_nil _ _ _ _⟩
      · unfold rv
        simp only
        rw [HLp.out]
        rfl
      · simp only
        rw [HLp.out]
        exact owns_kept (Keeps.owns_base HO4.out.1 HB2.out.size) (put7_kept _ _ _ _ _ _ _ _ _) fun i hi => by have := (HO4.out.1.lt i hi).1; have := HO4.out.2; omega
    · exact ((((((HB4.out.setCell HG.out.2 _).setCell HG.out.2 _).setCell HG.out.2 _).setCell HG.out.2 _).setCell HG.out.2 _).setCell HG.out.2 _).setCell HG.out.2 _
  · have hx3 : X = 3 := by
      have := (Mirrors.want_else (m := d.mir) (by rw [← HW.out]; exact hx1) (by rw [← HW.out]; exact hx2)).1
      rw [← HW.out] at this
      exact congrArg Want.what this
    subst hx3
    have HV : Hid (replyOf d false = ⟨3, Heads.zero, [], madeP d.log Y Z⟩) := by
      show _ = _
      have := proof_is HF.out (by rw [← HW.out]; exact hx1) (by rw [← HW.out]; exact hx2)
      unfold Runs.replyOf
      rw [← this, ← HW.out]
      rfl
    have HP : Hid (∀ w', Below w.heap.size w w' → Calls Tryz.prog 98 #[.pointer (some ⟨b, 0, none⟩), .int .i64 Y, .int .i64 Z] w' fun e w'' => ∃ v, e = .returned v ∧ w''.ownsRow w'.heap.size 3 1 v (madeP d.log Y Z).length (ints (madeP d.log Y Z)) ∧ Below w'.heap.size w' w'') := fun w' q => proof_any (HSe.out w' q) HF.out.log Y Z
    generalize madeP d.log Y Z = P at HV HP
    have HPn := HP.out _ HB2.out
    clear hw c0 HW HF HSe HT hx1 hx2 HP
    go_wp2_with fail
    refine HPn.mono ?_
    rintro e w3 ⟨v, rfl, o3, b3⟩
    obtain ⟨a5, c5, rfl, hw5, _⟩ := owns_row o3
    have HB3 : Hid (Below w2.heap.size w2 w3) := b3
    have HO3 : Hid (w3.ownsRow w2.heap.size 3 1 (.slice a5 P.length c5) P.length (ints P)) := o3
    obtain ⟨r2, rg, hne, hgw, hqw, hq2, hg2⟩ := HR.out
    have r3 := r2.of_block (b3.block _ hq2)
    have rg3 := rg.of_block (b3.block _ hg2)
    have m6 := r3.cell (i := 6) (by omega)
    simp only [MirVals.cell7] at m6
    have f6 : w3.frozen? ⟨q + 1, 6, none⟩ = false := r3.frozen 6
    clear HPn hw5 o3 b3
    go_upto_region 10 with fail
    clear m6
    have k4 : Kept (fun k => k = q + 1) w3 (w3.setCell ⟨q + 1, 6, none⟩ (.slice a5 P.length c5)) := (Kept.refl (fun k => k = q + 1) w3).setCell (.inl rfl) _
    have r4 : (w3.setCell ⟨q + 1, 6, none⟩ (.slice a5 P.length c5)).rowIs (q + 1) 87 7 (MirVals.cell7 3 0 0 0 0 (.slice none 0 0) (.slice a5 P.length c5)) := (r3.set 6 _).congr fun i hi => by match i, hi with | 0, _ => rfl | 1, _ => rfl | 2, _ => rfl | 3, _ => rfl | 4, _ => rfl | 5, _ => rfl | 6, _ => rfl
    have rg4 := rg3.of_block (k4.block g rg3.lt hne)
    have o4 := owns_kept HO3.out k4 fun i hi => by have := (HO3.out.lt i hi).1; omega
    have HB4 : Hid (Below w.heap.size w (w3.setCell ⟨q + 1, 6, none⟩ (.slice a5 P.length c5))) := (bt HB2.out HB3.out).setCell hqw _
    generalize w3.setCell ⟨q + 1, 6, none⟩ (.slice a5 P.length c5) = w4 at r4 rg4 o4 HB4 ⊢
    have m0 := r4.cell (i := 0) (by omega)
    have m1 := r4.cell (i := 1) (by omega)
    have m2 := r4.cell (i := 2) (by omega)
    have m3 := r4.cell (i := 3) (by omega)
    have m4 := r4.cell (i := 4) (by omega)
    have m5 := r4.cell (i := 5) (by omega)
    have m6 := r4.cell (i := 6) (by omega)
    have n0 := rg4.cell (i := 0) (by omega)
    have n1 := rg4.cell (i := 1) (by omega)
    have n2 := rg4.cell (i := 2) (by omega)
    have n3 := rg4.cell (i := 3) (by omega)
    have n4 := rg4.cell (i := 4) (by omega)
    have n5 := rg4.cell (i := 5) (by omega)
    have n6 := rg4.cell (i := 6) (by omega)
    have fg := rg4.frozen
    simp only [MirVals.cell7] at m0 m1 m2 m3 m4 m5 m6 n0 n1 n2 n3 n4 n5 n6
    have HG : Hid (w4.rowIs g 87 7 (MirVals.cell7 0 0 0 0 0 (.slice none 0 0) (.slice none 0 0)) ∧ w.heap.size ≤ g) := ⟨rg4, hgw⟩
    have HO4 : Hid (w4.ownsRow w2.heap.size 3 1 (.slice a5 P.length c5) P.length (ints P) ∧ g < w2.heap.size) := ⟨o4, hg2⟩
    clear r2 rg r3 rg3 r4 rg4 hne hgw hqw k4 hq2 hg2 o4 f6 HR HB3 HO3
    go_wp2_with fail
    refine bodyPost_ret (ret_wanted _ rfl (put7_row HG.out.1 _ _ _ _ _ _ _)) rfl ?_
    refine ⟨_, rfl, ?_, ?_⟩
    · rw [HV.out]
      exact ⟨none, 0, a5, c5, rfl, World.ownsRow_nil _ _ _ _, owns_kept (Keeps.owns_base HO4.out.1 HB2.out.size) (put7_kept _ _ _ _ _ _ _ _ _) fun i hi => by have := (HO4.out.1.lt i hi).1; have := HO4.out.2; omega⟩
    · exact ((((((HB4.out.setCell HG.out.2 _).setCell HG.out.2 _).setCell HG.out.2 _).setCell HG.out.2 _).setCell HG.out.2 _).setCell HG.out.2 _).setCell HG.out.2 _

end Go.Proofs.YtfpkngpgmllhnaaGreatDoor.WalkRuWanted

