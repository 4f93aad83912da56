/-
  What package lsm makes of the pairs of all levels: of each key the youngest, those that are gone left out; and a table of pairs.
-/
import Derived.Test.YtofaegcljcpceagGreatDoorSorts
import Derived.Test.YtofaegcljcpceagGreatDoorWalkConcat
import Derived.Test.YtofaegcljcpceagGreatDoorWalkTab
import Derived.Test.YtofaegcljcpceagGreatDoorPlains
namespace Go.Proofs.YtofaegcljcpceagGreatDoor.WalkLiving
open Go.RowKit
open Lists (Row bt)
open Keeps (Kept owns_kept)
open Wides (Wide)
open Stores (Pair)
open PairRows (cells)
open Lsms (total live)
open WalkConcat (Fresh Owns)
open WalkInsSort (byKey)
open WalkCompact (sameKey)
open WalkDelete (isGone)
open Errs (errv errv0 errv_pos)
open Nums (str)
open Tabs (pairsE buildV table openT openE)

set_option maxHeartbeats 4000000 in
set_option maxRecDepth 100000 in
theorem living_any (vs : List Value) (r : List (List Pair)) (a : Option Addr) (n cap : Nat) (w : World) (hr : Row w a n cap vs) (ho : Owns w vs r) (hn : n ≤ 1000000) (ht : total r ≤ 1000000) :
    Calls Tryz.prog 27 #[.slice a n cap] w fun e w' => Fresh (live r) w e w' := by
  have cC := WalkConcat.concat_any vs r a n cap w hr ho hn ht
  have HT : Hid (r.flatten.length ≤ 1000000) := by rw [Blocks.total_flat]; exact ht
  clear hr ho ht
  go_enter Tryz.func27, Tryz.ntmps27
  go_wp2_with fail
  refine cC.mono ?_
  rintro e w1 ⟨v1, rfl, o1, b1⟩
  have hfar : ∀ k, v1.ownBlock = some k → w.heap.size ≤ k := fun k hk => (o1.lt k hk).1
  have HFar : Hid (∀ k, v1.ownBlock = some k → w.heap.size ≤ k) := hfar
  have HB1 : Hid (Below w.heap.size w w1) := b1
  have cS := WalkStable.sort_any r.flatten v1 w.heap.size w1 o1 HT.out
  clear cC o1 b1 hfar
  go_wp2_with fail
  refine cS.mono ?_
  rintro e w2 ⟨rfl, ⟨d, h1, h2, o2⟩, k2⟩
  have HB2 : Hid (Below w.heap.size w w2) := HB1.out.trans (k2.below HFar.out HB1.out.size)
  have HD : Hid ((Blocks.firsts d).filter WalkDelete.stays = live r) := Blocks.live_of r h1 h2
  have hdl : d.length ≤ 1000000 := by rw [← h2.1]; exact HT.out
  have cK := WalkCompact.compact_any d v1 w.heap.size w2 o2 hdl
  have HDL : Hid ((Blocks.firsts d).length ≤ 1000000) := Nat.le_trans (Blocks.firsts_len d) hdl
  clear cS h1 h2 o2 k2 hdl HB1
  go_wp2_with fail
  refine cK.mono ?_
  rintro e w3 ⟨v3, rfl, o3, e3, k3⟩
  have HB3 : Hid (Below w.heap.size w w3) := HB2.out.trans (k3.below HFar.out HB2.out.size)
  have HE3 : Hid (v3.ownBlock = v1.ownBlock) := e3
  have cD := WalkDelete.delete_any (Blocks.firsts d) v3 w.heap.size w3 o3 HDL.out
  clear cK o3 e3 k3 HB2
  go_wp2_with fail
  refine cD.mono ?_
  rintro e w4 ⟨v4, rfl, o4, e4, k4⟩
  have HB4 : Hid (Below w.heap.size w w4) := HB3.out.trans (k4.below (fun k hk => HFar.out k (by rw [← HE3.out]; exact hk)) HB3.out.size)
  have HO4 : Hid (w4.ownsRow w.heap.size 31 3 v4 (live r).length (cells (live r))) := by
    show World.ownsRow _ _ _ _ _ _ _
    rw [← HD.out]
    exact o4
  clear cD o4 e4 k4 HB3
  go_wp2_with fail
  go_ret
  exact ⟨v4, rfl, HO4.out, HB4.out⟩

/-! a table of pairs -/
theorem table_size {l : List Pair} (h : pairsE l = 0) (hl : l.length ≤ 10001) : (str (buildV l)).size ≤ 8388608 := by
  have h1 := Tabs.body_len l 10001 (fun p hp => ⟨((Tabs.pairs_ok h).1 p hp).2.1, ((Tabs.pairs_ok h).1 p hp).2.2⟩) hl
  rw [Nums.str_size]
  unfold buildV
  rw [if_pos h, Tabs.table_length]
  omega

set_option maxHeartbeats 4000000 in
set_option maxRecDepth 100000 in
theorem tableOf_any (l : List Pair) (a : Option Addr) (n cap : Nat) (w : World) (hr : Wide 3 w a n cap (cells l)) (hn : n ≤ 10001) (h : pairsE l = 0) :
    Calls Tryz.prog 102 #[.slice a n cap] w fun e w' => (∃ b u, e = .returned (.tuple #[.pointer (some ⟨b, 0, none⟩), .nilIface]) ∧ w.heap.size ≤ b ∧ WalkTab.TbF w' w.heap.size b u l) ∧ Below w.heap.size w w' := by
  have hln := PairRows.len_of hr
  have cB := WalkTab.build_any l a n cap w hr (fun e he => by have := (Tabs.pairs_ok h).1 e he; unfold maxLen; omega) (by omega)
  rw [h, errv0] at cB
  have hs := table_size h (by omega)
  have hop : openT (str (buildV l)).data.toList = some l := by
    have e1 : (str (buildV l)).data.toList = buildV l := by rw [← ByteArray.toList_eq, Nums.str_toList]
    rw [e1]
    unfold buildV
    rw [if_pos h]
    exact Tabs.open_table h
  generalize str (buildV l) = s at cB hs hop
  have HO : Hid (openT s.data.toList = some l) := hop
  clear hr h hln hop
  go_enter Tryz.func102, Tryz.ntmps102
  go_wp2_with fail
  refine cB.mono ?_
  rintro e w1 ⟨rfl, b1⟩
  have cO := WalkTab.open_big s w1 hs
  have HB1 : Hid (Below w.heap.size w w1) := b1
  clear cB b1
  go_wp2_with fail
  refine cO.mono ?_
  rintro e w2 ⟨v, rfl, hv, b2⟩
  obtain ⟨b, rfl, hb, u, ht⟩ := hv l HO.out
  rw [(Tabs.open_is HO.out).1, errv0]
  have HB2 : Hid (Below w.heap.size w w2) := bt HB1.out b2
  have HT : Hid (w.heap.size ≤ b ∧ WalkTab.TbF w2 w.heap.size b u l) := by
    have h1 := HB1.out.size
    exact ⟨Nat.le_trans h1 hb, ⟨ht.row, Keeps.owns_base ht.own h1, ht.right, ht.few⟩⟩
  clear cO hb ht hv b2
  go_wp2_with fail
  go_ret2
  exact ⟨⟨b, u, rfl, HT.out.1, HT.out.2⟩, HB2.out⟩

end Go.Proofs.YtofaegcljcpceagGreatDoor.WalkLiving
