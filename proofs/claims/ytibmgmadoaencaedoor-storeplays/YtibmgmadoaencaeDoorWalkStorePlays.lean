/-
  The walk of StorePlays: any keys that are put and dropped: what is refused, what is there, of any keys, between any two.
-/
import Derived.Test.YtibmgmadoaencaeDoorWalkSto
import Derived.Test.YtibmgmadoaencaeDoorWalkWithRef
import Derived.Test.YtibmgmadoaencaeDoorWalkPairsSame
import Derived.Test.YtibmgmadoaencaeDoorWalkTold
import Derived.Deep.CutBlock
import Derived.Laws.Cover1
namespace Go.Proofs.YtibmgmadoaencaeDoor.WalkStorePlays
open Go.RowKit
open Lists (bt)
open Keeps (Kept owns_kept)
open Wides (Wide)
open Stores (Pair lt find keyE putE putL getE getV range Rising)
open PairRows (cells cells_append)
open WalkStoreRef (aggP sizeP)
open WalkWithRef (PAt)
open WalkTold (Laid)
open WalkSto (St)
open Errs (errv errv0 errv_pos)

theorem error_same (e : Nat) (w : World) (hg : Laid w) : Calls Tryd.prog 8 #[errv e, .int .i64 (e : Int)] w fun r w' => r = .returned (.bool true) ∧ Below w.heap.size w w' := by
  have h := WalkTold.error_is e (e : Int) w hg
  rw [beq_self_eq_true] at h
  exact h
theorem beq_yes (x : ByteArray) : (x.toList == x.toList) = true := beq_self_eq_true _
theorem st_below {w w' : World} {B b : Nat} {F : Nat → Prop} {l : List Pair} (h : St w B b F l) (k : Below w.heap.size w w') : St w' B b F l := h.kept (Kept.of_below (fun _ => False) k) fun _ _ q => q
theorem wide_kept {s : Nat} {S : Nat → Prop} {w w' : World} {a : Option Addr} {n cap : Nat} {xs : List Value} (h : Wide s w a n cap xs) (k : Kept S w w') (hd : ∀ x, 0 < n → a = some x → ¬ S x.block ∧ x.block < w.heap.size) : Wide s w' a n cap xs := by
  refine ⟨h.1, h.2.1, fun h0 => ?_⟩
  obtain ⟨b, off, ha, hc⟩ := h.2.2 h0
  obtain ⟨h1, h2⟩ := hd _ h0 ha
  exact ⟨b, off, ha, fun j u hj => (k.cell (p := ⟨b, off + j, none⟩) h2 h1).trans (hc j u hj)⟩
theorem pat_kept {S : Nat → Prop} {w w' : World} {g : Nat} {p : Pair} (h : PAt w g p) (k : Kept S w w') (hg : ¬ S g) : PAt w' g p :=
  have hl := Lists.block_lt h.key
  ⟨(k.cell (p := ⟨g, 0, none⟩) hl hg).trans h.key, (k.cell (p := ⟨g, 1, none⟩) hl hg).trans h.val, (k.cell (p := ⟨g, 2, none⟩) hl hg).trans h.gone⟩

theorem range_next (m : List Pair) (j : Nat) (hj : j < m.length) (x y : ByteArray) : range (m.take (j + 1)) x y = range (m.take j) x y ++ (if (!lt (m[j]).key x && lt (m[j]).key y) = true then [m[j]] else []) := by
  unfold range
  rw [List.take_succ_eq_append_getElem hj, List.filter_append, List.filter_cons, List.filter_nil]

set_option maxHeartbeats 16000000 in
set_option maxRecDepth 100000 in
theorem walk (a0 : Option Addr) (n cap : Nat) (l : List Pair) (hz : l.length * 40 ≤ 140737488351232) (hw : ∀ e ∈ l, e.key.size ≤ maxLen ∧ e.val.size ≤ maxLen)
    (from_ : ByteArray) (hf : from_.size ≤ 140737488351232) (to_ : ByteArray) (ht : to_.size ≤ 140737488351232) (w : World) (hr : Wide 3 w a0 n cap (cells l)) (hL : Laid w) :
    Calls Tryd.prog 4 #[.slice a0 n cap, .string from_, .string to_] w fun e w' => e = .returned (.bool true) ∧ Below w.heap.size w w' := by
  have hln := PairRows.len_of hr
  have HR : Hid (Wide 3 w a0 n cap (cells l)) := hr
  have HL : Hid (Laid w) := hL
  have HZ : Hid (∀ e ∈ l, e.key.size ≤ maxLen ∧ e.val.size ≤ maxLen) := hw
  have hn : n * 40 ≤ 140737488351232 := by omega
  have cErr := fun (e : Nat) (w1 : World) (b : Below w.heap.size w w1) => error_same e w1 (HL.out.below b)
  have a26 := aggP
  have z26 := sizeP
  obtain ⟨i0, hi, hz0, hz1, hz2⟩ := info_parts WalkWithRef.infoP
  clear hr hL hw hz
  go_enter Tryd.func4, Tryd.ntmps4
  go_wp2_with fail
  refine (WalkSto.new_any w w.heap.size (Nat.le_refl _)).mono ?_
  rintro e w1 ⟨b, F0, rfl, hSt, hF0, hb1⟩
  go_wp2_with fail
  go_loopw [8, 9] (fun v i wr => ∃ (k : Nat) (F : Nat → Prop) (m : List Pair) (a : Option Addr) (c : Nat), k ≤ n ∧ i = .int .i64 (k : Int) ∧ v = .slice a m.length c ∧ Hid (St wr w.heap.size b F m) ∧ Hid (Wide 3 wr a m.length c (cells m)) ∧ Hid (∀ x, 0 < m.length → a = some x → ¬ F x.block ∧ w.heap.size ≤ x.block ∧ x.block < wr.heap.size) ∧ Hid (Below w.heap.size w wr)) (fun _ i _ => n - (intOf i).toNat)
  case atStart => exact ⟨0, F0, [], none, 0, Nat.zero_le _, rfl, rfl, hSt, Wide.nil _ _ _ _, fun x h => absurd h (by decide), hb1⟩
  case round =>
    obtain ⟨k, F, m, a, c, hk, rfl, rfl, HSt, HM, HAp, HB⟩ := hrel
    have HR60 : Hid (Rising m ∧ m.length ≤ 60) := HSt.out.rising
    by_cases hlt : k < n ∧ k < 80
    · have i1 : (k : Int) < (n : Int) := by omega
      have i2 : (k : Int) < 80 := by omega
      have hkl : k < l.length := by omega
      obtain ⟨b1, off1, rfl, _⟩ := (HR.out.below (HB.out)).2.2 (by omega)
      obtain ⟨p0, p1, p2⟩ := PairRows.at_three (HR.out.below HB.out) k hkl
      obtain ⟨hx0, hx1⟩ := HZ.out _ (List.getElem_mem hkl)
      generalize l[k] = x at p0 p1 p2 hx0 hx1
      obtain ⟨x0, x1, x2⟩ := x
      simp only at p0 p1 p2 hx0 hx1
      obtain ⟨q0, q1, q2⟩ := PAt.new wr x0 x1 x2
      have f1 : (wr.alloc (.cells #[.string x0, .string x1, .bool x2] 36)).frozen? ⟨wr.heap.size, 1, none⟩ = false := by simp
      simp only at q0 q1 q2
      clear hkl
      cases x2
      rotate_left
      · go_upto_region 7 with fail
        clear p0 p1 p2
        -- it is dropped
        go_upto_region 9 with fail
        have HQ2 : Hid (PAt (wr.alloc (.cells #[.string x0, .string ⟨#[]⟩, .bool true] 36)) wr.heap.size ⟨x0, ⟨#[]⟩, true⟩) := PAt.new wr x0 ⟨#[]⟩ true
        have bq : Below wr.heap.size wr (wr.alloc (.cells #[.string x0, .string ⟨#[]⟩, .bool true] 36)) := (Below.refl _ _).alloc (Nat.le_refl _) _
        have lq : wr.heap.size < (wr.alloc (.cells #[.string x0, .string ⟨#[]⟩, .bool true] 36)).heap.size := Lists.block_lt HQ2.out.key
        generalize wr.alloc (.cells #[.string x0, .string ⟨#[]⟩, .bool true] 36) = w2 at HQ2 bq lq ⊢
        have HN : Hid (∀ k, F k → k < wr.heap.size) := fun k hk => (HSt.out.foot k hk).2
        have hSt2 := st_below HSt.out bq
        have hm2 := HM.out.below bq
        have hB2 := HB.out.trans (bq.mono HB.out.size)
        obtain ⟨s0, s1, s2⟩ := HQ2.out
        simp only at s0 s1 s2
        have cP := WalkWithRef.put_any m ⟨x0, ⟨#[]⟩, true⟩ a m.length c w2 hm2 (by have := HR60.out.2; omega) HR60.out.1
        simp only at cP
        clear q0 q1 q2 f1 HSt HM HB
        go_wp2_with fail
        refine cP.mono ?_
        rintro e w3 ⟨a', c', rfl, hm3, hfr, b3⟩
        have hSt3 := st_below hSt2 b3
        have hQ3 := HQ2.out.below b3
        have hB3 := hB2.trans (b3.mono hB2.size)
        have HAp3 : Hid (∀ x, 0 < (putL m ⟨x0, ⟨#[]⟩, true⟩).length → a' = some x → ¬ F x.block ∧ w.heap.size ≤ x.block ∧ x.block < w3.heap.size) := by
          intro x hx hax
          obtain ⟨gb, go, hg, hc⟩ := hm3.2.2 hx
          have hlt : x.block < w3.heap.size := by
            obtain ⟨y, hy⟩ : ∃ y, (cells (putL m ⟨x0, ⟨#[]⟩, true⟩))[0]? = some y := ⟨_, List.getElem?_eq_getElem (by rw [PairRows.cells_length]; omega)⟩
            rw [hg] at hax
            have e1 : x = ⟨gb, go, none⟩ := (Option.some.inj hax).symm
            rw [e1]
            exact Lists.block_lt (hc 0 y hy)
          rcases hfr with ⟨rfl, hp⟩ | hfr
          · rw [hp] at hx
            obtain ⟨h1, h2, _⟩ := HAp.out x hx hax
            exact ⟨h1, h2, hlt⟩
          · have h1 := hfr x hax
            have h3 := bq.size
            exact ⟨fun hF => by have := HN.out _ hF; omega, Nat.le_trans hB2.size h1, hlt⟩
        have hQ3' := hQ3
        obtain ⟨s0, s1, s2⟩ := hQ3
        simp only at s0 s1 s2
        clear cP hm2 hSt2 HAp
        have cS := WalkSto.drop_any hSt3 x0 hx0
        go_wp2_with fail
        refine cS.mono ?_
        rintro e w4 ⟨rfl, F', hSt4, hK4, hF4⟩
        have hm4 := wide_kept hm3 hK4 fun x h1 h2 => ⟨(HAp3.out x h1 h2).1, (HAp3.out x h1 h2).2.2⟩
        have hQ4 := pat_kept hQ3' hK4 fun hF => Nat.lt_irrefl _ (HN.out _ hF)
        have hB4 := hB3.trans (hK4.below (fun k q => (hSt3.foot k q).1) hB3.size)
        have HAp4 : Hid (∀ x, 0 < (putL m ⟨x0, ⟨#[]⟩, true⟩).length → a' = some x → ¬ F' x.block ∧ w.heap.size ≤ x.block ∧ x.block < w4.heap.size) := by
          intro x h1 h2
          obtain ⟨g1, g2, g3⟩ := HAp3.out x h1 h2
          refine ⟨fun hF => ?_, g2, Nat.lt_of_lt_of_le g3 hK4.size⟩
          rcases hF4 _ hF with q | q
          · exact g1 q
          · omega
        have HE : Hid (putE m ⟨x0, ⟨#[]⟩, true⟩ = putE m ⟨x0, ⟨#[]⟩, true⟩) := rfl
        generalize putL m ⟨x0, ⟨#[]⟩, true⟩ = m' at hm4 hSt4 HAp4
        generalize putE m ⟨x0, ⟨#[]⟩, true⟩ = E
        clear cS s0 s1 s2 hm3 hQ3' hB3 hSt3 HAp3 hF4 hK4 hfr b3 hB2 HQ2 HE
        go_wp2_with fail
        refine (cErr _ _ hB4).mono ?_
        rintro e w5 ⟨rfl, b5⟩
        replace hm4 := hm4.below b5
        replace hSt4 := st_below hSt4 b5
        replace hQ4 := hQ4.below b5
        replace hB4 := hB4.trans (b5.mono hB4.size)
        replace HAp4 : Hid (∀ x, 0 < m'.length → a' = some x → ¬ F' x.block ∧ w.heap.size ≤ x.block ∧ x.block < w5.heap.size) := fun x h1 h2 => ⟨(HAp4.out x h1 h2).1, (HAp4.out x h1 h2).2.1, Nat.lt_of_lt_of_le (HAp4.out x h1 h2).2.2 b5.size⟩
        clear b5
        have h60 : m'.length ≤ 60 := hSt4.rising.2
        have cG := WalkStoreRef.get_any m' x0 a' m'.length c' w5 hm4 (by omega)
        obtain ⟨s0, s1, s2⟩ := hQ4
        have hQ5 : PAt w5 wr.heap.size ⟨x0, ⟨#[]⟩, true⟩ := ⟨s0, s1, s2⟩
        simp only at s0 s1 s2
        go_wp2_with fail
        refine cG.mono ?_
        rintro e w6 ⟨rfl, b6⟩
        replace hm4 := hm4.below b6
        replace hSt4 := st_below hSt4 b6
        replace hQ5 := hQ5.below b6
        replace hB4 := hB4.trans (b6.mono hB4.size)
        replace HAp4 : Hid (∀ x, 0 < m'.length → a' = some x → ¬ F' x.block ∧ w.heap.size ≤ x.block ∧ x.block < w6.heap.size) := fun x h1 h2 => ⟨(HAp4.out x h1 h2).1, (HAp4.out x h1 h2).2.1, Nat.lt_of_lt_of_le (HAp4.out x h1 h2).2.2 b6.size⟩
        clear b6 cG s0 s1 s2
        have cS := WalkSto.get_any hSt4 x0 hx0
        have HG : Hid (getE m' x0 = 0 ∨ getE m' x0 = 5) := by
          show _ ∨ _
          unfold getE
          split
          · split
            · exact .inr rfl
            · exact .inl rfl
          · exact .inr rfl
        generalize getV m' x0 = V at cS
        generalize getE m' x0 = G at cS HG
        go_upto_if 72 with fail
        go_cut [12] from 71 to 72 (fun v wn => v = .int .i64 (G : Int) ∧ w6 = wn)
        case first => as_aux_lemma =>
          rcases HG.out with rfl | rfl
          · have hd : decide (0 = 0) = true := rfl
            go_wp2_with fail
            go_meet
            case rel => exact ⟨rfl, rfl⟩
          · have hd : decide (5 = 0) = false := rfl
            go_wp2_with fail
            go_meet
            case rel => exact ⟨rfl, rfl⟩
        obtain ⟨rfl, rfl⟩ := hcut
        obtain ⟨s0, s1, s2⟩ := hQ5
        simp only at s0 s1 s2
        go_wp2_with fail
        refine cS.mono ?_
        rintro e w7 ⟨rfl, b7⟩
        go_wp2_with fail
        refine (cErr _ _ (hB4.trans (b7.mono hB4.size))).mono ?_
        rintro e w8 ⟨rfl, b8⟩
        have b78 := bt b7 b8
        replace hm4 := hm4.below b78
        replace hSt4 := st_below hSt4 b78
        replace hB4 := hB4.trans (b78.mono hB4.size)
        replace HAp4 : Hid (∀ x, 0 < m'.length → a' = some x → ¬ F' x.block ∧ w.heap.size ≤ x.block ∧ x.block < w8.heap.size) := fun x h1 h2 => ⟨(HAp4.out x h1 h2).1, (HAp4.out x h1 h2).2.1, Nat.lt_of_lt_of_le (HAp4.out x h1 h2).2.2 b78.size⟩
        clear b7 b8 b78 cS s0 s1 s2
        have e1 := beq_yes V
        have cN := WalkSto.len_any hSt4
        go_wp2_with fail
        refine cN.mono ?_
        rintro e w9 ⟨rfl, b9⟩
        have HM9 : Hid (Wide 3 w9 a' m'.length c' (cells m')) := hm4.below b9
        have HS9 : Hid (St w9 w.heap.size b F' m') := st_below hSt4 b9
        have HB9 : Hid (Below w.heap.size w w9) := hB4.trans (b9.mono hB4.size)
        have HA9 : Hid (∀ x, 0 < m'.length → a' = some x → ¬ F' x.block ∧ w.heap.size ≤ x.block ∧ x.block < w9.heap.size) := fun x h1 h2 => ⟨(HAp4.out x h1 h2).1, (HAp4.out x h1 h2).2.1, Nat.lt_of_lt_of_le (HAp4.out x h1 h2).2.2 b9.size⟩
        clear b9 cN hm4 hSt4 hB4 HAp4
        go_wp2_with fail
        go_roundw
        case rel => exact ⟨k + 1, F', m', a', c', by omega, by go_num, rfl, HS9, HM9, HA9, HB9⟩
        case measure => simp [intOf]; omega
      · go_upto_region 7 with fail
        clear p0 p1 p2
        -- it is put
        go_upto_region 9 with fail
        have HQ2 : Hid (PAt (wr.alloc (.cells #[.string x0, .string x1, .bool false] 36)) wr.heap.size ⟨x0, x1, false⟩) := ⟨q0, q1, q2⟩
        have bq : Below wr.heap.size wr (wr.alloc (.cells #[.string x0, .string x1, .bool false] 36)) := (Below.refl _ _).alloc (Nat.le_refl _) _
        have lq : wr.heap.size < (wr.alloc (.cells #[.string x0, .string x1, .bool false] 36)).heap.size := Lists.block_lt HQ2.out.key
        generalize wr.alloc (.cells #[.string x0, .string x1, .bool false] 36) = w2 at HQ2 bq lq ⊢
        have HN : Hid (∀ k, F k → k < wr.heap.size) := fun k hk => (HSt.out.foot k hk).2
        have hSt2 := st_below HSt.out bq
        have hm2 := HM.out.below bq
        have hB2 := HB.out.trans (bq.mono HB.out.size)
        obtain ⟨s0, s1, s2⟩ := HQ2.out
        simp only at s0 s1 s2
        have cP := WalkWithRef.put_any m ⟨x0, x1, false⟩ a m.length c w2 hm2 (by have := HR60.out.2; omega) HR60.out.1
        simp only at cP
        clear q0 q1 q2 f1 HSt HM HB
        go_wp2_with fail
        refine cP.mono ?_
        rintro e w3 ⟨a', c', rfl, hm3, hfr, b3⟩
        have hSt3 := st_below hSt2 b3
        have hQ3 := HQ2.out.below b3
        have hB3 := hB2.trans (b3.mono hB2.size)
        have HAp3 : Hid (∀ x, 0 < (putL m ⟨x0, x1, false⟩).length → a' = some x → ¬ F x.block ∧ w.heap.size ≤ x.block ∧ x.block < w3.heap.size) := by
          intro x hx hax
          obtain ⟨gb, go, hg, hc⟩ := hm3.2.2 hx
          have hlt : x.block < w3.heap.size := by
            obtain ⟨y, hy⟩ : ∃ y, (cells (putL m ⟨x0, x1, false⟩))[0]? = some y := ⟨_, List.getElem?_eq_getElem (by rw [PairRows.cells_length]; omega)⟩
            rw [hg] at hax
            have e1 : x = ⟨gb, go, none⟩ := (Option.some.inj hax).symm
            rw [e1]
            exact Lists.block_lt (hc 0 y hy)
          rcases hfr with ⟨rfl, hp⟩ | hfr
          · rw [hp] at hx
            obtain ⟨h1, h2, _⟩ := HAp.out x hx hax
            exact ⟨h1, h2, hlt⟩
          · have h1 := hfr x hax
            have h3 := bq.size
            exact ⟨fun hF => by have := HN.out _ hF; omega, Nat.le_trans hB2.size h1, hlt⟩
        have hQ3' := hQ3
        obtain ⟨s0, s1, s2⟩ := hQ3
        simp only at s0 s1 s2
        clear cP hm2 hSt2 HAp
        have cS := WalkSto.put_any hSt3 x0 x1 hx0 hx1
        go_wp2_with fail
        refine cS.mono ?_
        rintro e w4 ⟨rfl, F', hSt4, hK4, hF4⟩
        have hm4 := wide_kept hm3 hK4 fun x h1 h2 => ⟨(HAp3.out x h1 h2).1, (HAp3.out x h1 h2).2.2⟩
        have hQ4 := pat_kept hQ3' hK4 fun hF => Nat.lt_irrefl _ (HN.out _ hF)
        have hB4 := hB3.trans (hK4.below (fun k q => (hSt3.foot k q).1) hB3.size)
        have HAp4 : Hid (∀ x, 0 < (putL m ⟨x0, x1, false⟩).length → a' = some x → ¬ F' x.block ∧ w.heap.size ≤ x.block ∧ x.block < w4.heap.size) := by
          intro x h1 h2
          obtain ⟨g1, g2, g3⟩ := HAp3.out x h1 h2
          refine ⟨fun hF => ?_, g2, Nat.lt_of_lt_of_le g3 hK4.size⟩
          rcases hF4 _ hF with q | q
          · exact g1 q
          · omega
        have HE : Hid (putE m ⟨x0, x1, false⟩ = putE m ⟨x0, x1, false⟩) := rfl
        generalize putL m ⟨x0, x1, false⟩ = m' at hm4 hSt4 HAp4
        generalize putE m ⟨x0, x1, false⟩ = E
        clear cS s0 s1 s2 hm3 hQ3' hB3 hSt3 HAp3 hF4 hK4 hfr b3 hB2 HQ2 HE
        go_wp2_with fail
        refine (cErr _ _ hB4).mono ?_
        rintro e w5 ⟨rfl, b5⟩
        replace hm4 := hm4.below b5
        replace hSt4 := st_below hSt4 b5
        replace hQ4 := hQ4.below b5
        replace hB4 := hB4.trans (b5.mono hB4.size)
        replace HAp4 : Hid (∀ x, 0 < m'.length → a' = some x → ¬ F' x.block ∧ w.heap.size ≤ x.block ∧ x.block < w5.heap.size) := fun x h1 h2 => ⟨(HAp4.out x h1 h2).1, (HAp4.out x h1 h2).2.1, Nat.lt_of_lt_of_le (HAp4.out x h1 h2).2.2 b5.size⟩
        clear b5
        have h60 : m'.length ≤ 60 := hSt4.rising.2
        have cG := WalkStoreRef.get_any m' x0 a' m'.length c' w5 hm4 (by omega)
        obtain ⟨s0, s1, s2⟩ := hQ4
        have hQ5 : PAt w5 wr.heap.size ⟨x0, x1, false⟩ := ⟨s0, s1, s2⟩
        simp only at s0 s1 s2
        go_wp2_with fail
        refine cG.mono ?_
        rintro e w6 ⟨rfl, b6⟩
        replace hm4 := hm4.below b6
        replace hSt4 := st_below hSt4 b6
        replace hQ5 := hQ5.below b6
        replace hB4 := hB4.trans (b6.mono hB4.size)
        replace HAp4 : Hid (∀ x, 0 < m'.length → a' = some x → ¬ F' x.block ∧ w.heap.size ≤ x.block ∧ x.block < w6.heap.size) := fun x h1 h2 => ⟨(HAp4.out x h1 h2).1, (HAp4.out x h1 h2).2.1, Nat.lt_of_lt_of_le (HAp4.out x h1 h2).2.2 b6.size⟩
        clear b6 cG s0 s1 s2
        have cS := WalkSto.get_any hSt4 x0 hx0
        have HG : Hid (getE m' x0 = 0 ∨ getE m' x0 = 5) := by
          show _ ∨ _
          unfold getE
          split
          · split
            · exact .inr rfl
            · exact .inl rfl
          · exact .inr rfl
        generalize getV m' x0 = V at cS
        generalize getE m' x0 = G at cS HG
        go_upto_if 72 with fail
        go_cut [12] from 71 to 72 (fun v wn => v = .int .i64 (G : Int) ∧ w6 = wn)
        case first => as_aux_lemma =>
          rcases HG.out with rfl | rfl
          · have hd : decide (0 = 0) = true := rfl
            go_wp2_with fail
            go_meet
            case rel => exact ⟨rfl, rfl⟩
          · have hd : decide (5 = 0) = false := rfl
            go_wp2_with fail
            go_meet
            case rel => exact ⟨rfl, rfl⟩
        obtain ⟨rfl, rfl⟩ := hcut
        obtain ⟨s0, s1, s2⟩ := hQ5
        simp only at s0 s1 s2
        go_wp2_with fail
        refine cS.mono ?_
        rintro e w7 ⟨rfl, b7⟩
        go_wp2_with fail
        refine (cErr _ _ (hB4.trans (b7.mono hB4.size))).mono ?_
        rintro e w8 ⟨rfl, b8⟩
        have b78 := bt b7 b8
        replace hm4 := hm4.below b78
        replace hSt4 := st_below hSt4 b78
        replace hB4 := hB4.trans (b78.mono hB4.size)
        replace HAp4 : Hid (∀ x, 0 < m'.length → a' = some x → ¬ F' x.block ∧ w.heap.size ≤ x.block ∧ x.block < w8.heap.size) := fun x h1 h2 => ⟨(HAp4.out x h1 h2).1, (HAp4.out x h1 h2).2.1, Nat.lt_of_lt_of_le (HAp4.out x h1 h2).2.2 b78.size⟩
        clear b7 b8 b78 cS s0 s1 s2
        have e1 := beq_yes V
        have cN := WalkSto.len_any hSt4
        go_wp2_with fail
        refine cN.mono ?_
        rintro e w9 ⟨rfl, b9⟩
        have HM9 : Hid (Wide 3 w9 a' m'.length c' (cells m')) := hm4.below b9
        have HS9 : Hid (St w9 w.heap.size b F' m') := st_below hSt4 b9
        have HB9 : Hid (Below w.heap.size w w9) := hB4.trans (b9.mono hB4.size)
        have HA9 : Hid (∀ x, 0 < m'.length → a' = some x → ¬ F' x.block ∧ w.heap.size ≤ x.block ∧ x.block < w9.heap.size) := fun x h1 h2 => ⟨(HAp4.out x h1 h2).1, (HAp4.out x h1 h2).2.1, Nat.lt_of_lt_of_le (HAp4.out x h1 h2).2.2 b9.size⟩
        clear b9 cN hm4 hSt4 hB4 HAp4
        go_wp2_with fail
        go_roundw
        case rel => exact ⟨k + 1, F', m', a', c', by omega, by go_num, rfl, HS9, HM9, HA9, HB9⟩
        case measure => simp [intOf]; omega
    · by_cases hkn : k < n
      · have i1 : (k : Int) < (n : Int) := by omega
        have i2 : ¬ (k : Int) < 80 := by omega
        go_wp2_with fail
        refine (WalkSto.all_any HSt.out).mono ?_
        rintro e w2 ⟨v2, rfl, ho2, b2⟩
        obtain ⟨a2, c2, rfl, hw2⟩ := Wides.owns_wide ho2
        have hSt2 := st_below HSt.out b2
        have hm2 := HM.out.below b2
        have hB2 := HB.out.trans (b2.mono HB.out.size)
        clear HSt HM HB HAp ho2 b2
        go_wp2_with fail
        refine (WalkPairsSame.pairs_same m a2 a m.length c2 c w2 hw2 hm2 (by have := HR60.out.2; omega)).mono ?_
        rintro e w3 ⟨rfl, b3⟩
        have HS3 : Hid (St w3 w.heap.size b F m) := st_below hSt2 b3
        have HM3 : Hid (Wide 3 w3 a m.length c (cells m)) := hm2.below b3
        have HB3 : Hid (Below w.heap.size w w3) := hB2.trans (b3.mono hB2.size)
        clear hSt2 hm2 hB2 hw2 b3
        have h60 : m.length ≤ 60 := HR60.out.2
        obtain ⟨N, hN⟩ : ∃ N : Nat, m.length = N := ⟨_, rfl⟩
        have HNl : Hid (m.length = N) := hN
        rw [hN] at h60 HM3
        go_wp2_with fail
        clear hN
        go_loopw [20, 21] (fun v i wq => ∃ (j : Nat), j ≤ N ∧ i = .int .i64 (j : Int) ∧ Hid (wq.ownsRow w3.heap.size 36 3 v (range (m.take j) from_ to_).length (cells (range (m.take j) from_ to_))) ∧ Hid (Below w3.heap.size w3 wq)) (fun _ i _ => N - (intOf i).toNat)
        case atStart => exact ⟨0, Nat.zero_le _, rfl, World.ownsRow_nil _ _ _ _, Below.refl _ _⟩
        case round =>
          obtain ⟨j, hj, rfl, HO, HQ⟩ := hrel
          by_cases hjl : j < N
          · have j1 : (j : Int) < (N : Int) := by omega
            have hjm : j < m.length := by have := HNl.out; omega
            obtain ⟨b4, off4, rfl, _⟩ := (HM3.out.below HQ.out).2.2 (by omega)
            obtain ⟨p0, p1, p2⟩ := PairRows.at_three (HM3.out.below HQ.out) j hjm
            have HT := range_next m j hjm from_ to_
            have hlen : (range (m.take j) from_ to_).length ≤ j := Nat.le_trans (List.length_filter_le _ _) (by rw [List.length_take]; omega)
            generalize m[j] = x at p0 p1 p2 HT
            obtain ⟨x0, x1, x2⟩ := x
            simp only at p0 p1 p2 HT
            by_cases hA : lt x0 from_ = true
            · have e1 : Op.bytesLess x0.toList from_.toList = true := hA
              have HT2 : Hid (range (m.take (j + 1)) from_ to_ = range (m.take j) from_ to_) := by
                show _ = _
                rw [HT, hA]
                simp
              clear HT hA
              go_wp2_with fail
              go_roundw
              case rel => exact ⟨j + 1, by omega, by go_num, by rw [HT2.out]; exact HO, HQ⟩
              case measure => simp [intOf]; omega
            have hA : lt x0 from_ = false := by simpa using hA
            have e1 : Op.bytesLess x0.toList from_.toList = false := hA
            by_cases hC : lt x0 to_ = true
            rotate_left
            · have hC : lt x0 to_ = false := by simpa using hC
              have e2 : Op.bytesLess x0.toList to_.toList = false := hC
              have HT2 : Hid (range (m.take (j + 1)) from_ to_ = range (m.take j) from_ to_) := by
                show _ = _
                rw [HT, hA, hC]
                simp
              clear HT hA hC
              go_wp2_with fail
              go_roundw
              case rel => exact ⟨j + 1, by omega, by go_num, by rw [HT2.out]; exact HO, HQ⟩
              case measure => simp [intOf]; omega
            have e2 : Op.bytesLess x0.toList to_.toList = true := hC
            have HT2 : Hid (range (m.take (j + 1)) from_ to_ = range (m.take j) from_ to_ ++ [(⟨x0, x1, x2⟩ : Pair)]) := by
              show _ = _
              rw [HT, hA, hC]
              simp
            clear HT hA hC
            generalize range (m.take j) from_ to_ = r at HO HT2 hlen
            go_wp2_with (at_builtin; go_must (refine wpList_append_own _ rfl (.tmp 127) (.tmp 132) 34 rfl w3.heap.size 36 i0 (.agg #[.string ⟨#[]⟩, .string ⟨#[]⟩, .bool false]) 3 40 Tryd.underlying34 hi hz0 hz1 hz2 rfl (by decide) _ _ _ rfl (HO.out.alloc _) ⟨_, 0, none⟩ 1 1 [.string x0, .string x1, .bool x2] rfl rfl (WalkWithRef.cell_three_new _ _ _ _ _) (fun u hu => by simp at hu; rcases hu with rfl | rfl | rfl <;> rfl) (by unfold maxLen; omega) (by omega) (by have := HQ.out.size; simp; omega) ?_); intro v1 wn o1 g1 z1; clear z1)
            have HQN : Hid (Below w3.heap.size w3 wn) := (HQ.out.alloc HQ.out.size _).grown g1 (by have := HQ.out.size; simp; omega) (fun k hk => (HO.out.lt k hk).1)
            have HON : Hid (wn.ownsRow w3.heap.size 36 3 v1 (range (m.take (j + 1)) from_ to_).length (cells (range (m.take (j + 1)) from_ to_))) := by
              rw [HT2.out, cells_append, List.length_append]
              exact o1
            clear g1 o1 HO HQ
            go_roundw
            case rel => exact ⟨j + 1, by omega, by go_num, HON, HQN⟩
            case measure => simp [intOf]; omega
          · have j1 : ¬ (j : Int) < (N : Int) := by omega
            obtain rfl : j = N := by omega
            have ho := HO.out
            rw [List.take_of_length_le (by have := HNl.out; omega)] at ho
            have hS := st_below HS3.out HQ.out
            have hBq := HB3.out.trans (HQ.out.mono HB3.out.size)
            have hRl : (range m from_ to_).length ≤ 60 := Nat.le_trans (List.length_filter_le _ _) (by have := HNl.out; omega)
            obtain ⟨a5, c5, rfl, hw5⟩ := Wides.owns_wide ho
            clear HO HQ HS3 HB3 ho
            go_wp2_with fail
            refine (WalkSto.range_any hS from_ to_ (by unfold maxLen; omega) (by unfold maxLen; omega)).mono ?_
            rintro e w6 ⟨v6, rfl, ho6, b6⟩
            obtain ⟨a6, c6, rfl, hw6⟩ := Wides.owns_wide ho6
            have hw5' := hw5.below b6
            clear ho6 hw5
            go_wp2_with fail
            refine (WalkPairsSame.pairs_same (range m from_ to_) a6 a5 _ c6 c5 w6 hw6 hw5' (by omega)).mono ?_
            rintro e w7 ⟨rfl, b7⟩
            have HBE : Hid (Below w.heap.size w w7) := (hBq.trans (b6.mono hBq.size)).trans (b7.mono (Nat.le_trans hBq.size b6.size))
            clear hBq b6 b7 hw6 hw5' hS
            go_wp2_with fail
            go_ret
            exact ⟨rfl, HBE.out⟩
      · have i1 : ¬ (k : Int) < (n : Int) := by omega
        go_wp2_with fail
        refine (WalkSto.all_any HSt.out).mono ?_
        rintro e w2 ⟨v2, rfl, ho2, b2⟩
        obtain ⟨a2, c2, rfl, hw2⟩ := Wides.owns_wide ho2
        have hSt2 := st_below HSt.out b2
        have hm2 := HM.out.below b2
        have hB2 := HB.out.trans (b2.mono HB.out.size)
        clear HSt HM HB HAp ho2 b2
        go_wp2_with fail
        refine (WalkPairsSame.pairs_same m a2 a m.length c2 c w2 hw2 hm2 (by have := HR60.out.2; omega)).mono ?_
        rintro e w3 ⟨rfl, b3⟩
        have HS3 : Hid (St w3 w.heap.size b F m) := st_below hSt2 b3
        have HM3 : Hid (Wide 3 w3 a m.length c (cells m)) := hm2.below b3
        have HB3 : Hid (Below w.heap.size w w3) := hB2.trans (b3.mono hB2.size)
        clear hSt2 hm2 hB2 hw2 b3
        have h60 : m.length ≤ 60 := HR60.out.2
        obtain ⟨N, hN⟩ : ∃ N : Nat, m.length = N := ⟨_, rfl⟩
        have HNl : Hid (m.length = N) := hN
        rw [hN] at h60 HM3
        go_wp2_with fail
        clear hN
        go_loopw [20, 21] (fun v i wq => ∃ (j : Nat), j ≤ N ∧ i = .int .i64 (j : Int) ∧ Hid (wq.ownsRow w3.heap.size 36 3 v (range (m.take j) from_ to_).length (cells (range (m.take j) from_ to_))) ∧ Hid (Below w3.heap.size w3 wq)) (fun _ i _ => N - (intOf i).toNat)
        case atStart => exact ⟨0, Nat.zero_le _, rfl, World.ownsRow_nil _ _ _ _, Below.refl _ _⟩
        case round =>
          obtain ⟨j, hj, rfl, HO, HQ⟩ := hrel
          by_cases hjl : j < N
          · have j1 : (j : Int) < (N : Int) := by omega
            have hjm : j < m.length := by have := HNl.out; omega
            obtain ⟨b4, off4, rfl, _⟩ := (HM3.out.below HQ.out).2.2 (by omega)
            obtain ⟨p0, p1, p2⟩ := PairRows.at_three (HM3.out.below HQ.out) j hjm
            have HT := range_next m j hjm from_ to_
            have hlen : (range (m.take j) from_ to_).length ≤ j := Nat.le_trans (List.length_filter_le _ _) (by rw [List.length_take]; omega)
            generalize m[j] = x at p0 p1 p2 HT
            obtain ⟨x0, x1, x2⟩ := x
            simp only at p0 p1 p2 HT
            by_cases hA : lt x0 from_ = true
            · have e1 : Op.bytesLess x0.toList from_.toList = true := hA
              have HT2 : Hid (range (m.take (j + 1)) from_ to_ = range (m.take j) from_ to_) := by
                show _ = _
                rw [HT, hA]
                simp
              clear HT hA
              go_wp2_with fail
              go_roundw
              case rel => exact ⟨j + 1, by omega, by go_num, by rw [HT2.out]; exact HO, HQ⟩
              case measure => simp [intOf]; omega
            have hA : lt x0 from_ = false := by simpa using hA
            have e1 : Op.bytesLess x0.toList from_.toList = false := hA
            by_cases hC : lt x0 to_ = true
            rotate_left
            · have hC : lt x0 to_ = false := by simpa using hC
              have e2 : Op.bytesLess x0.toList to_.toList = false := hC
              have HT2 : Hid (range (m.take (j + 1)) from_ to_ = range (m.take j) from_ to_) := by
                show _ = _
                rw [HT, hA, hC]
                simp
              clear HT hA hC
              go_wp2_with fail
              go_roundw
              case rel => exact ⟨j + 1, by omega, by go_num, by rw [HT2.out]; exact HO, HQ⟩
              case measure => simp [intOf]; omega
            have e2 : Op.bytesLess x0.toList to_.toList = true := hC
            have HT2 : Hid (range (m.take (j + 1)) from_ to_ = range (m.take j) from_ to_ ++ [(⟨x0, x1, x2⟩ : Pair)]) := by
              show _ = _
              rw [HT, hA, hC]
              simp
            clear HT hA hC
            generalize range (m.take j) from_ to_ = r at HO HT2 hlen
            go_wp2_with (at_builtin; go_must (refine wpList_append_own _ rfl (.tmp 127) (.tmp 132) 34 rfl w3.heap.size 36 i0 (.agg #[.string ⟨#[]⟩, .string ⟨#[]⟩, .bool false]) 3 40 Tryd.underlying34 hi hz0 hz1 hz2 rfl (by decide) _ _ _ rfl (HO.out.alloc _) ⟨_, 0, none⟩ 1 1 [.string x0, .string x1, .bool x2] rfl rfl (WalkWithRef.cell_three_new _ _ _ _ _) (fun u hu => by simp at hu; rcases hu with rfl | rfl | rfl <;> rfl) (by unfold maxLen; omega) (by omega) (by have := HQ.out.size; simp; omega) ?_); intro v1 wn o1 g1 z1; clear z1)
            have HQN : Hid (Below w3.heap.size w3 wn) := (HQ.out.alloc HQ.out.size _).grown g1 (by have := HQ.out.size; simp; omega) (fun k hk => (HO.out.lt k hk).1)
            have HON : Hid (wn.ownsRow w3.heap.size 36 3 v1 (range (m.take (j + 1)) from_ to_).length (cells (range (m.take (j + 1)) from_ to_))) := by
              rw [HT2.out, cells_append, List.length_append]
              exact o1
            clear g1 o1 HO HQ
            go_roundw
            case rel => exact ⟨j + 1, by omega, by go_num, HON, HQN⟩
            case measure => simp [intOf]; omega
          · have j1 : ¬ (j : Int) < (N : Int) := by omega
            obtain rfl : j = N := by omega
            have ho := HO.out
            rw [List.take_of_length_le (by have := HNl.out; omega)] at ho
            have hS := st_below HS3.out HQ.out
            have hBq := HB3.out.trans (HQ.out.mono HB3.out.size)
            have hRl : (range m from_ to_).length ≤ 60 := Nat.le_trans (List.length_filter_le _ _) (by have := HNl.out; omega)
            obtain ⟨a5, c5, rfl, hw5⟩ := Wides.owns_wide ho
            clear HO HQ HS3 HB3 ho
            go_wp2_with fail
            refine (WalkSto.range_any hS from_ to_ (by unfold maxLen; omega) (by unfold maxLen; omega)).mono ?_
            rintro e w6 ⟨v6, rfl, ho6, b6⟩
            obtain ⟨a6, c6, rfl, hw6⟩ := Wides.owns_wide ho6
            have hw5' := hw5.below b6
            clear ho6 hw5
            go_wp2_with fail
            refine (WalkPairsSame.pairs_same (range m from_ to_) a6 a5 _ c6 c5 w6 hw6 hw5' (by omega)).mono ?_
            rintro e w7 ⟨rfl, b7⟩
            have HBE : Hid (Below w.heap.size w w7) := (hBq.trans (b6.mono hBq.size)).trans (b7.mono (Nat.le_trans hBq.size b6.size))
            clear hBq b6 b7 hw6 hw5' hS
            go_wp2_with fail
            go_ret
            exact ⟨rfl, HBE.out⟩

end Go.Proofs.YtibmgmadoaencaeDoor.WalkStorePlays
