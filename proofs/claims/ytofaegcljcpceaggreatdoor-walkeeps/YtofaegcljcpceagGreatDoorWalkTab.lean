/-
  What package table does, for every argument: Build, Open, Get, All, First, Last.
-/
import Derived.Test.YtofaegcljcpceagGreatDoorWalkTabTake
import Derived.Test.YtofaegcljcpceagGreatDoorWalkTabFind
import Derived.BigQuiet
import Derived.Deep.QuietTactic
import Derived.Lib.SliceRun
namespace Go.Proofs.YtofaegcljcpceagGreatDoor.WalkTab
open Go.RowKit
open Lists (bt)
open Keeps (Kept owns_kept owns_base)
open Wides (Wide owns_wide)
open Stores (Pair Rising)
open PairRows (cells cells_append cells_length)
open Tabs (fault pairsE body one headT table buildV openT openE getP getPE firstK lastK)
open TabOpens (word takesT lastKey)
open Errs (errv errv0 errv_pos)
open Nums (str four)
open WalkTabOne (aggP sizeP eq_yes eq_no empty_is empty_yes empty_no Has Still)
open WalkTabTake (size_list infoP)

/-- the table in block b, with its pairs -/
structure TbF (w : World) (B b : Nat) (v : Value) (l : List Pair) : Prop where
  row : w.rowIs b 115 1 (fun _ => v)
  own : w.ownsRow B 31 3 v l.length (cells l)
  right : pairsE l = 0
  few : l.length ≤ 3000000
def Tb (w : World) (b : Nat) (l : List Pair) : Prop := ∃ B v, TbF w B b v l
theorem TbF.kept {w w' : World} {B b : Nat} {v : Value} {l : List Pair} {S : Nat → Prop} (h : TbF w B b v l) (k : Kept S w w') (hb : ¬ S b) (hS : ∀ i, v.ownBlock = some i → ¬ S i) : TbF w' B b v l :=
  ⟨h.row.of_block (k.block b h.row.lt hb), owns_kept h.own k hS, h.right, h.few⟩
theorem Tb.below {w w' : World} {b : Nat} {l : List Pair} (h : Tb w b l) (k : Below w.heap.size w w') : Tb w' b l := by
  obtain ⟨B, v, h⟩ := h
  exact ⟨B, v, h.kept (Kept.of_below (fun _ => False) k) (fun q => q) fun _ _ q => q⟩

/-- the bytes so far -/
structure Far (w : World) (v : Value) (l : List Pair) (k : Nat) (wr : World) : Prop where
  has : Has w.heap.size wr v (body (l.take k))
  bel : Below w.heap.size w wr
  right : pairsE (l.take k) = 0

set_option maxHeartbeats 4000000 in
set_option maxRecDepth 100000 in
theorem build_any (l : List Pair) (a : Option Addr) (n cap : Nat) (w : World) (hr : Wide 3 w a n cap (cells l)) (hz : ∀ e ∈ l, e.key.size ≤ maxLen ∧ e.val.size ≤ maxLen) (hn : n ≤ 1048576) :
    Calls Tryz.prog 35 #[.slice a n cap] w fun e w' => e = .returned (.tuple #[.string (str (buildV l)), errv (pairsE l)]) ∧ Below w.heap.size w w' := by
  have hln := PairRows.len_of hr
  have HR : Hid (Wide 3 w a n cap (cells l)) := hr
  have HZ : Hid (∀ e ∈ l, e.key.size ≤ maxLen ∧ e.val.size ≤ maxLen) := hz
  have a26 := aggP
  have z26 := sizeP
  clear hr hz
  go_enter Tryz.func35, Tryz.ntmps35
  go_upto_region 4 with fail
  go_loopw [4, 5, 7, 8, 12] (fun v s5 _ _ i wr => ∃ k : Nat, k ≤ n ∧ i = .int .i64 (k : Int) ∧ s5 = .string (lastKey (l.take k)) ∧ Hid (Far w v l k wr)) (fun _ _ _ _ i _ => n - (intOf i).toNat)
  case atStart => exact ⟨0, Nat.zero_le _, rfl, rfl, ⟨⟨World.ownsRow_nil _ _ _ _, Nat.le_refl _⟩, Below.refl _ _, rfl⟩⟩
  case round =>
    obtain ⟨k, hk, rfl, rfl, HS⟩ := hrel
    by_cases hlt : k < n
    · have i1 : (k : Int) < (n : Int) := by omega
      have hkl : k < l.length := by omega
      obtain ⟨b1, off1, rfl, _⟩ := HR.out.2.2 (by omega)
      obtain ⟨p0, p1, p2⟩ := PairRows.at_three (HR.out.below HS.out.bel) k hkl
      obtain ⟨hx, hy⟩ := HZ.out _ (List.getElem_mem hkl)
      have HA : Hid (fault (Tabs.last none (l.take k)) l[k] ≠ 0 → pairsE l = fault (Tabs.last none (l.take k)) l[k]) := Tabs.pairs_at hkl HS.out.right
      have HN : Hid (fault (Tabs.last none (l.take k)) l[k] = 0 → pairsE (l.take (k + 1)) = 0) := Tabs.pairs_next hkl HS.out.right
      have HF : Hid (fault (some (lastKey (l.take k))) l[k] = fault (Tabs.last none (l.take k)) l[k]) := TabOpens.fault_last _ _
      have HT : Hid (l.take (k + 1) = l.take k ++ [l[k]]) := List.take_succ_eq_append_getElem hkl
      generalize l[k] = p at p0 p1 p2 hx hy HA HN HF HT
      obtain ⟨x, y, z⟩ := p
      simp only at p0 p1 p2 hx hy
      have cC := WalkTabOne.check_any x y z (lastKey (l.take k))
      rw [HF.out] at cC
      generalize lastKey (l.take k) = K at cC HF ⊢
      generalize fault (Tabs.last none (l.take k)) ⟨x, y, z⟩ = E at cC HA HN HF
      have hR : (wr.alloc (.cells #[.string x, .string y, .bool z] 31)).rowIs wr.heap.size 31 3 (fun j => if j = 0 then .string x else if j = 1 then .string y else .bool z) := World.rowIs_alloc _ _ _ _ (fun j hj => by match j, hj with | 0, _ | 1, _ | 2, _ => rfl | j + 3, h => simp at h; omega)
      have HB1 : Hid (Below w.heap.size w (wr.alloc (.cells #[.string x, .string y, .bool z] 31))) := HS.out.bel.alloc HS.out.bel.size _
      have HH1 : Hid (Has w.heap.size (wr.alloc (.cells #[.string x, .string y, .bool z] 31)) u4 (body (l.take k))) := HS.out.has.alloc _
      go_upto_region 6 with fail
      generalize wr.alloc (.cells #[.string x, .string y, .bool z] 31) = w1 at hR HB1 HH1 ⊢
      generalize wr.heap.size = gp at hR ⊢
      have HR1 : Hid (w1.rowIs gp 31 3 (fun j => if j = 0 then .string x else if j = 1 then .string y else .bool z)) := hR
      have r0 : w1.cell? ⟨gp, 0, none⟩ = some (.string x) := HR1.out.cell (i := 0) (by omega)
      have r1 : w1.cell? ⟨gp, 1, none⟩ = some (.string y) := HR1.out.cell (i := 1) (by omega)
      have r2 : w1.cell? ⟨gp, 2, none⟩ = some (.bool z) := HR1.out.cell (i := 2) (by omega)
      clear p0 p1 p2 hR
      by_cases hE : E = 0
      · subst hE
        rw [errv0] at cC
        have HG : Hid (Far w u4 l k wr) := HS
        obtain ⟨_, hx2, hy2, _⟩ := Tabs.fault_ok HF.out
        simp only at hx2 hy2
        have hLn : (body (l.take k)).length ≤ 403 * 1048576 := Tabs.body_len _ _ (fun p hp => ⟨((Tabs.pairs_ok HS.out.right).1 p hp).2.1, ((Tabs.pairs_ok HS.out.right).1 p hp).2.2⟩) (by rw [List.length_take]; omega)
        have HNx : Hid (pairsE (l.take (k + 1)) = 0) := HN.out rfl
        go_wp2_with fail
        refine (cC _ hx hy).mono ?_
        rintro e w2 ⟨rfl, b2⟩
        have HH2 : Hid (Has w.heap.size w2 u4 (body (l.take k))) := HH1.out.kept (Kept.of_below (fun _ => False) b2) fun _ _ q => q
        have HB2 : Hid (Below w.heap.size w w2) := bt HB1.out b2
        have HR2 : Hid (w2.rowIs gp 31 3 (fun j => if j = 0 then .string x else if j = 1 then .string y else .bool z)) := HR1.out.of_block (b2.block _ HR1.out.lt)
        have s0 : w2.cell? ⟨gp, 0, none⟩ = some (.string x) := HR2.out.cell (i := 0) (by omega)
        have s1 : w2.cell? ⟨gp, 1, none⟩ = some (.string y) := HR2.out.cell (i := 1) (by omega)
        have s2 : w2.cell? ⟨gp, 2, none⟩ = some (.bool z) := HR2.out.cell (i := 2) (by omega)
        clear b2 HH1 HB1 HR1 r0 r1 r2 cC HS HA HN HF
        go_wp2_with fail
        refine (WalkTabOne.appendPair_own HH2.out x y z (by omega) hx2 hy2).mono ?_
        rintro e w3 ⟨v3, rfl, h3, st3⟩
        have HS3 : Hid (Far w v3 l (k + 1) w3) := ⟨by rw [HT.out, Tabs.body_snoc]; exact h3, HB2.out.trans st3.below, HNx.out⟩
        have t0 : w3.cell? ⟨gp, 0, none⟩ = some (.string x) := (st3.pair _ _ HR2.out).cell (i := 0) (by omega)
        have HK : Hid (lastKey (l.take (k + 1)) = x) := by show _ = _; rw [HT.out]; exact TabOpens.lastKey_snoc _ _
        clear h3 st3 HH2 HB2 HR2 s0 s1 s2 HNx HT hx2 hy2 hLn
        go_wp2_with fail
        go_roundw
        case rel => exact ⟨k + 1, by omega, by go_num, by rw [HK.out], HS3⟩
        case measure => simp [intOf]; omega
      · have HV : Hid (pairsE l = E ∧ str (buildV l) = ⟨#[]⟩) := ⟨HA.out hE, by unfold buildV; rw [if_neg (by rw [HA.out hE]; exact hE)]; rfl⟩
        have HE : Hid (errv E = .iface 58 (.int .i64 (E : Nat))) := errv_pos _ hE
        rw [errv_pos _ hE] at cC
        go_wp2_with fail
        refine (cC _ hx hy).mono ?_
        rintro e w2 ⟨rfl, b2⟩
        have HB2 : Hid (Below w.heap.size w w2) := bt HB1.out b2
        clear b2 HH1 HB1 HR1 r0 r1 r2 cC HS HA HN HF hE
        go_wp2_with fail
        go_ret2
        exact ⟨by rw [HV.out.1, HV.out.2, HE.out]; rfl, HB2.out⟩
    · obtain rfl : k = n := by omega
      have i1 : ¬ (k : Int) < (k : Int) := by omega
      have HP : Hid (pairsE l = 0) := by have h := HS.out.right; rw [List.take_of_length_le (by omega)] at h; exact h
      have HV : Hid (str (buildV l) = str (table l)) := by unfold buildV; rw [if_pos HP.out]; rfl
      have hH := HS.out.has
      rw [List.take_of_length_le (by omega)] at hH
      have hLn : (body l).length ≤ 403 * 1048576 := Tabs.body_len _ _ (fun p hp => ⟨((Tabs.pairs_ok HP.out).1 p hp).2.1, ((Tabs.pairs_ok HP.out).1 p hp).2.2⟩) (by omega)
      have hvk : Nums.valid (k : Int) = true := Nums.valid_iff.2 ⟨by omega, by omega⟩
      generalize lastKey (l.take k) = K
      go_wp2_with fail
      refine (WalkTabOne.appendWord_own hH (k : Int) (by omega) hvk).mono ?_
      rintro e w2 ⟨v2, rfl, h2, st2⟩
      have eH : body l ++ four (k : Int) = headT l := by rw [Tabs.headT, hln]
      rw [eH] at h2
      have hNl : (headT l).length = (body l).length + 4 := by rw [← eH, List.length_append]; rfl
      obtain ⟨g, cp, rfl, kc⟩ := WalkMix.ownsRow_cells (l := headT l) ((body l).length + 4) h2.own hNl (by omega)
      have hvS : Nums.valid (Sums.sum (headT l)) = true := Nums.valid_iff.2 (Sums.sum_bd _)
      have HB2 : Hid (Below w.heap.size w w2) := HS.out.bel.trans st2.below
      have HTb : Hid (str (headT l) ++ str (four (Sums.sum (headT l))) = str (table l)) := Nums.str_append _ _
      have hsz : (str (headT l)).size ≤ 422576132 := by rw [Nums.str_size]; omega
      clear h2 st2 HS hH eH
      go_wp2_with fail
      refine (WalkSum.sum_any _ _ (by unfold maxLen; omega)).mono ?_
      rintro e w3 ⟨rfl, rfl⟩
      rw [Nums.str_data]
      clear kc
      go_wp2_with fail
      have h0 : Has w.heap.size w3 (.slice none 0 0) [] := ⟨World.ownsRow_nil _ _ _ _, HB2.out.size⟩
      refine (WalkTabOne.appendWord_own h0 _ (by simp) hvS).mono ?_
      rintro e w4 ⟨v4, rfl, h4, st4⟩
      rw [List.nil_append] at h4
      obtain ⟨g4, cp4, rfl, kc⟩ := WalkMix.ownsRow_cells (l := four (Sums.sum (headT l))) 4 h4.own rfl (by omega)
      have HB4 : Hid (Below w.heap.size w w4) := HB2.out.trans st4.below
      have hsz2 : (str (four (Sums.sum (headT l)))).size = 4 := by rw [Nums.str_size]; rfl
      generalize str (headT l) = S1 at HTb hsz ⊢
      generalize str (four (Sums.sum (headT l))) = S2 at HTb hsz2 kc ⊢
      have hq : ¬ 9223372036854775807 < S1.size + S2.size := by omega
      clear h4 st4 h0 hvS HB2
      go_wp2_with fail
      go_ret2
      exact ⟨by rw [HV.out, ← HTb.out, HP.out]; rfl, HB4.out⟩

/-- bytes that are long enough, in their three parts -/
theorem three_parts (s : List UInt8) (h : 8 ≤ s.length) : ∃ b r q, s = b ++ r ++ q ∧ r.length = 4 ∧ q.length = 4 := by
  refine ⟨s.take (s.length - 8), (s.drop (s.length - 8)).take 4, s.drop (s.length - 4), ?_, ?_, ?_⟩
  · have e : (s.drop (s.length - 8)).drop 4 = s.drop (s.length - 4) := by rw [List.drop_drop]; congr 1; omega
    rw [← e, List.append_assoc, List.take_append_drop, List.take_append_drop]
  · rw [List.length_take, List.length_drop]; omega
  · rw [List.length_drop]; omega
/-- what Open tells -/
def Opens (s : List UInt8) (w : World) (e : Ending) (w' : World) : Prop := ∃ v, e = .returned (.tuple #[v, errv (openE s)]) ∧ (∀ l, openT s = some l → ∃ b, v = .pointer (some ⟨b, 0, none⟩) ∧ w.heap.size ≤ b ∧ ∃ u, TbF w' w.heap.size b u l) ∧ Below w.heap.size w w'
theorem opens_not {s : List UInt8} {w w' : World} (h : openT s = none) (b : Below w.heap.size w w') (v : Value) : Opens s w (.returned (.tuple #[v, errv 2])) w' := by
  refine ⟨v, by rw [(Tabs.open_not h).1], fun l hl => ?_, b⟩
  rw [h] at hl
  cases hl

set_option maxHeartbeats 4000000 in
set_option maxRecDepth 100000 in
theorem open_big (s : ByteArray) (w : World) (hs : s.size ≤ 8388608) : Calls Tryz.prog 110 #[.string s] w fun e w' => Opens s.data.toList w e w' := by
  by_cases h4 : s.size < 4
  · have HV : Hid (openT s.data.toList = none) := TabOpens.open_short (by rw [size_list]; omega)
    go_enter Tryz.func110, Tryz.ntmps110
    go_wp2_with fail
    refine (WalkTabTake.cutWord_short s _ h4).mono ?_
    rintro e w1 ⟨rfl, b1⟩
    clear h4 hs
    go_wp2_with fail
    go_ret2
    exact opens_not HV.out b1 _
  obtain ⟨ah, q, hc, hq⟩ : ∃ ah q, s.data.toList = ah ++ q ∧ q.length = 4 := ⟨s.data.toList.take (s.size - 4), s.data.toList.drop (s.size - 4), (List.take_append_drop _ _).symm, by rw [List.length_drop, size_list]; omega⟩
  have hal : ah.length + 4 = s.size := by rw [← size_list, hc, List.length_append, hq]
  have c1 := WalkTabTake.cutWord_any s ah q w hc hq (by omega)
  rw [hc]
  clear hc
  have cS : ∀ w1, Calls Tryz.prog 64 #[.string (str ah)] w1 fun e w' => e = .returned (.int .i64 (Sums.sum ah)) ∧ w' = w1 := fun w1 => WalkSum.sum_any (str ah) w1 (by rw [Nums.str_size]; unfold maxLen; omega)
  by_cases hS : ((word q : Nat) : Int) = Sums.sum ah
  · rw [← hS] at cS
    have q1 : (((word q : Nat) : Int) != ((word q : Nat) : Int)) = false := by simp
    by_cases h8 : ah.length < 4
    · have HV : Hid (openT (ah ++ q) = none) := TabOpens.open_short (by rw [List.length_append]; omega)
      have cW := fun w1 => WalkTabTake.cutWord_short (str ah) w1 (by rw [Nums.str_size]; exact h8)
      generalize ((word q : Nat) : Int) = Q at q1 c1 cS
      clear hS h8 h4 hs hal
      generalize str ah = A at c1 cS cW
      go_enter Tryz.func110, Tryz.ntmps110
      go_wp2_with fail
      refine c1.mono ?_
      rintro e w1 ⟨rfl, b1⟩
      clear c1
      go_wp2_with fail
      refine (cS _).mono ?_
      rintro e w2 ⟨rfl, rfl⟩
      clear cS
      go_wp2_with fail
      refine (cW _).mono ?_
      rintro e w3 ⟨rfl, b3⟩
      clear cW
      go_wp2_with fail
      go_ret2
      exact opens_not HV.out (bt b1 b3) _
    · obtain ⟨b, r, rfl, hr⟩ : ∃ b r, ah = b ++ r ∧ r.length = 4 := ⟨ah.take (ah.length - 4), ah.drop (ah.length - 4), (List.take_append_drop _ _).symm, by rw [List.length_drop]; omega⟩
      have hbl : b.length ≤ 8388608 := by rw [List.length_append] at hal; omega
      have cW := fun w1 => WalkTabTake.cutWord_any (str (b ++ r)) b r w1 (Nums.str_data _) hr (by omega)
      have HO : Hid (openT (b ++ r ++ q) = match takesT b with | some l => if ((word r : Nat) : Int) = (l.length : Int) ∧ ((word q : Nat) : Int) = Sums.sum (b ++ r) then some l else none | none => none) := TabOpens.open_parts hr hq (by omega)
      have HQ : Hid (((word q : Nat) : Int) = Sums.sum (b ++ r)) := hS
      have cT := fun w1 => WalkTabTake.takeAll_any (str b) w1 (by rw [Nums.str_size]; exact hbl)
      rw [Nums.str_data] at cT
      have hrl := TabOpens.word_lt 4 r hr
      have HBl : Hid (b.length ≤ 8388608) := hbl
      generalize ((word q : Nat) : Int) = Q at q1 c1 cS HO HQ
      generalize hRw : word r = Rw at cW HO hrl
      have HRw : Hid (Rw < 4294967296) := by show _ < _; have h : (256 : Nat) ^ 4 = 4294967296 := by decide
                                             omega
      clear hS h8 h4 hs hal hbl hRw hrl
      generalize str (b ++ r) = A at c1 cS cW
      generalize str b = Bs at cW cT
      go_enter Tryz.func110, Tryz.ntmps110
      go_wp2_with fail
      refine c1.mono ?_
      rintro e w1 ⟨rfl, b1⟩
      clear c1
      go_wp2_with fail
      refine (cS _).mono ?_
      rintro e w2 ⟨rfl, rfl⟩
      clear cS
      go_wp2_with fail
      refine (cW _).mono ?_
      rintro e w3 ⟨rfl, b3⟩
      clear cW
      go_wp2_with fail
      refine (cT _).mono ?_
      rintro e w4 ⟨v, rfl, hv, b4⟩
      have HB4 : Hid (Below w.heap.size w w4) := bt b1 (bt b3 b4)
      have HB3 : Hid (w.heap.size ≤ w3.heap.size) := (bt b1 b3).size
      clear cT b1 b3 b4
      cases hT : takesT b with
      | none =>
        rw [hT] at HO
        have HV : Hid (openT (b ++ r ++ q) = none) := HO.out
        clear HO hv hT
        go_wp2_with fail
        go_ret2
        exact opens_not HV.out HB4.out _
      | some l =>
        rw [hT] at HO
        simp only at HO
        have ho := hv l hT
        obtain ⟨hE, hbd⟩ := TabOpens.takes_back hT
        have hfew : l.length ≤ 3000000 := by
          have h := Tabs.body_le l
          rw [hbd] at h
          have := HBl.out
          omega
        obtain ⟨a4, c4, rfl, _⟩ := owns_wide ho
        have HO4 : Hid (w4.ownsRow w3.heap.size 31 3 (.slice a4 l.length c4) l.length (cells l)) := ho
        have HP : Hid (pairsE l = 0 ∧ l.length ≤ 3000000) := ⟨hE, hfew⟩
        clear hv ho hT hE hbd
        by_cases hm : Rw = l.length
        · have HV : Hid (openT (b ++ r ++ q) = some l) := by show _ = _; rw [HO.out, if_pos ⟨by rw [hm], HQ.out⟩]
          have q2 : (((l.length : Nat) : Int) != ((Rw : Nat) : Int)) = false := by rw [hm]; simp
          clear HO hm
          generalize hN : l.length = N at q2 hfew HO4
          have HN : Hid (l.length = N) := hN
          clear hN
          go_wp2_with fail
          go_ret2
          refine ⟨_, by rw [(Tabs.open_is HV.out).1]; rfl, fun l' hl => ?_, HB4.out.alloc HB4.out.size _⟩
          rw [HV.out] at hl
          obtain rfl : l = l' := by simpa using hl
          refine ⟨w4.heap.size, rfl, HB4.out.size, .slice a4 N c4, World.rowIs_alloc _ _ _ _ (fun j hj => by match j, hj with | 0, _ => rfl), ?_, HP.out.1, HP.out.2⟩
          rw [HN.out]
          exact (owns_base HO4.out HB3.out).alloc _
        · have HV : Hid (openT (b ++ r ++ q) = none) := by show _ = _; rw [HO.out, if_neg fun h => hm (by have := h.1; omega)]
          have q2 : (((l.length : Nat) : Int) != ((Rw : Nat) : Int)) = true := by rw [bne_iff_ne]; omega
          clear HO hm HO4
          generalize l.length = N at q2 hfew ⊢
          go_wp2_with fail
          go_ret2
          exact opens_not HV.out HB4.out _
  · have q1 : (((word q : Nat) : Int) != Sums.sum ah) = true := by rw [bne_iff_ne]; exact hS
    have HV : Hid (openT (ah ++ q) = none) := by
      by_cases h8 : ah.length < 4
      · exact TabOpens.open_short (by rw [List.length_append]; omega)
      · obtain ⟨b, r, rfl, hr⟩ : ∃ b r, ah = b ++ r ∧ r.length = 4 := ⟨ah.take (ah.length - 4), ah.drop (ah.length - 4), (List.take_append_drop _ _).symm, by rw [List.length_drop]; omega⟩
        show _ = _
        rw [TabOpens.open_parts hr hq (by rw [List.length_append] at hal; omega)]
        match takesT b with
        | none => rfl
        | some l => exact if_neg fun h => hS h.2
    generalize ((word q : Nat) : Int) = Q at q1 c1
    generalize Sums.sum ah = M at q1 cS
    clear hS h4 hs hal
    generalize str ah = A at c1 cS
    go_enter Tryz.func110, Tryz.ntmps110
    go_wp2_with fail
    refine c1.mono ?_
    rintro e w1 ⟨rfl, b1⟩
    clear c1
    go_wp2_with fail
    refine (cS _).mono ?_
    rintro e w2 ⟨rfl, rfl⟩
    clear cS
    go_wp2_with fail
    go_ret2
    exact opens_not HV.out b1 _
theorem open_any_full (s : ByteArray) (w : World) (hs : s.size ≤ 2097152) : Calls Tryz.prog 110 #[.string s] w fun e w' => Opens s.data.toList w e w' := open_big s w (by omega)
theorem open_any (s : ByteArray) (w : World) (hs : s.size ≤ 2097152) :
    Calls Tryz.prog 110 #[.string s] w fun e w' => ∃ v, e = .returned (.tuple #[v, errv (openE s.data.toList)]) ∧ (∀ l, openT s.data.toList = some l → ∃ b, v = .pointer (some ⟨b, 0, none⟩) ∧ w.heap.size ≤ b ∧ Tb w' b l) ∧ Below w.heap.size w w' := by
  refine (open_any_full s w hs).mono ?_
  rintro e w' ⟨v, rfl, hv, b⟩
  refine ⟨v, rfl, fun l hl => ?_, b⟩
  obtain ⟨c, h1, h2, u, h3⟩ := hv l hl
  exact ⟨c, h1, h2, _, u, h3⟩


theorem clone_any (l : List Pair) (a : Option Addr) (n cap : Nat) (w : World) (hn : n ≤ 3000000) (hr : Wide 3 w a n cap (cells l)) :
    Calls Tryz.prog 74 #[.slice a n cap] w fun e w' => ∃ v, e = .returned v ∧ w'.ownsRow w.heap.size 31 3 v n (cells l) ∧ Below w.heap.size w w' := by
  obtain ⟨i0, hi, hz0, hz1, hz2⟩ := info_parts infoP
  have hln : (cells l).length = n * 3 := hr.1
  cases a with
  | none =>
    have hn0 : n = 0 := by
      rcases Nat.eq_zero_or_pos n with h | h
      · exact h
      · obtain ⟨_, _, h, _⟩ := hr.2.2 h; cases h
    subst hn0
    have e0 : cells l = [] := List.eq_nil_of_length_eq_zero hln
    rw [e0]
    clear hr hln
    have q : ∀ (w : World), (binOp .eql 32 (.slice none 0 cap) (.slice none 0 0)).run Tryz.prog w = .ok (.bool true) w := fun w => Lib.run_eql_slice_nil w _ _ none 0 cap 0 0 Tryz.underlying32
    go_enter Tryz.func74, Tryz.ntmps74
    go_wp2_with fail
    go_ret
    exact ⟨_, rfl, World.ownsRow_nil _ _ _ _, Below.refl _ _⟩
  | some p =>
    have hcell : ∀ j u, (cells l)[j]? = some u → (w.alloc (.cells #[] 31)).cell? (p.add j) = some u := by
      intro j u hj
      have hj' : j < n * 3 := by rw [← hln]; exact (List.getElem?_eq_some_iff.1 hj).1
      obtain ⟨b, off, hp, hc⟩ := hr.2.2 (by omega)
      obtain rfl : p = ⟨b, off, none⟩ := by simpa using hp
      have h1 := hc j u hj
      rw [show (⟨b, off, none⟩ : Addr).add j = ⟨b, off + j, none⟩ by (unfold Addr.add; split <;> simp_all)]
      rw [World.cell?_alloc_lt _ _ ⟨b, off + j, none⟩ (Lists.block_lt h1)]
      exact h1
    have one : ∀ (l : List Pair), ∀ u ∈ cells l, u.oneCell' = true := by
      intro l
      induction l with
      | nil => intro u hu; cases hu
      | cons p l ih =>
        intro u hu
        simp only [cells, List.mem_cons] at hu
        rcases hu with rfl | rfl | rfl | hu
        · rfl
        · rfl
        · rfl
        · exact ih u hu
    have HC : Hid (∀ j u, (cells l)[j]? = some u → (w.alloc (.cells #[] 31)).cell? (p.add j) = some u) := hcell
    have HO : Hid (∀ u ∈ cells l, u.oneCell' = true) := one l
    clear hcell hr one
    have q : ∀ (w : World), (binOp .eql 32 (.slice (some p) n cap) (.slice none 0 0)).run Tryz.prog w = .ok (.bool false) w := fun w => Lib.run_eql_slice_nil w _ _ (some p) n cap 0 0 Tryz.underlying32
    have hm : (w.alloc (.cells #[] 31)).ownsRow w.heap.size 31 3 (.slice (some ⟨w.heap.size, 0, none⟩) 0 0) 0 [] := World.ownsRow_made w #[] 0 (Nat.le_refl _) (Nat.zero_le _) rfl
    go_enter Tryz.func74, Tryz.ntmps74
    go_wp2_with (at_builtin; go_must (refine wpList_append_own _ rfl (.tmp 5) (.tmp 6) 32 rfl w.heap.size 31 i0 (.agg #[.string ⟨#[]⟩, .string ⟨#[]⟩, .bool false]) 3 40 Tryz.underlying32 hi hz0 hz1 hz2 rfl (by decide) _ _ _ rfl hm p n cap (cells l) rfl (by omega) HC.out HO.out (by unfold maxLen; omega) (by omega) (by simp) ?_); intro v1 w1 o1 g1 _)
    have b1 : Below w.heap.size w w1 := ((Below.refl _ w).alloc (Nat.le_refl _) _).grown g1 (by simp) (fun k hk => (hm.lt k hk).1)
    rw [Nat.zero_add, List.nil_append] at o1
    clear g1 HC hm
    go_wp2_with fail
    go_ret
    exact ⟨_, rfl, o1, b1⟩
theorem all_any (l : List Pair) (b : Nat) (w : World) (h : Tb w b l) :
    Calls Tryz.prog 53 #[.pointer (some ⟨b, 0, none⟩)] w fun e w' => ∃ v, e = .returned v ∧ w'.ownsRow w.heap.size 31 3 v l.length (cells l) ∧ Below w.heap.size w w' := by
  obtain ⟨B, v, h⟩ := h
  have hfew := h.few
  obtain ⟨a, cap, rfl, hw⟩ := owns_wide h.own
  have c0 := h.row.cell (i := 0) (by omega)
  have cC := clone_any l a l.length cap w hfew hw
  clear h hw
  go_enter Tryz.func53, Tryz.ntmps53
  go_wp2_with fail
  refine cC.mono ?_
  rintro e w1 ⟨v, rfl, o1, b1⟩
  clear cC
  go_wp2_with fail
  go_ret
  exact ⟨v, rfl, o1, b1⟩



end Go.Proofs.YtofaegcljcpceagGreatDoor.WalkTab
