/-
  What of package wal puts pairs into an Lsm: putOne, putAll.
-/
import Derived.Test.YtofaegcljcpceagGreatDoorLsAll
import Derived.Test.YtofaegcljcpceagGreatDoorWalPlain
import Derived.Deep.RegionHeld3
import Derived.Laws.AppendOwnNone
import Derived.Laws.IdiomStrings
import Derived.Lib.QuietBelow
import Derived.Deep.RegionLaw
import Derived.Deep.AppendLies
import Derived.BigRegion
import Derived.Deep.RegionWith
namespace Go.Proofs.YtofaegcljcpceagGreatDoor.WalkWa
open Go.RowKit
open Lists (bt)
open Keeps (Kept owns_kept)
open Wides (Wide)
open Stores (Pair putE)
open PairRows (cells)
open Lsms (Lsm putted)
open WalkLs (Ls)
open Wals (puts)
open Errs (errv errv0 errv_pos)
open WalkTabOne (empty_is aggP sizeP)

/-- an Lsm that goes on: what it is then, and that nothing else has turned -/
def Goes (w : World) (B b : Nat) (F : Nat → Prop) (y : Lsm) (w' : World) : Prop := (∃ F', Ls w' B b F' y ∧ ∀ k, F' k → F k ∨ w.heap.size ≤ k) ∧ Kept F w w'
theorem Goes.refl {w : World} {B b : Nat} {F : Nat → Prop} {x : Lsm} (h : Ls w B b F x) : Goes w B b F x w := ⟨⟨F, h, fun _ q => .inl q⟩, Kept.refl _ _⟩
theorem Goes.next {w w1 w2 : World} {B b : Nat} {F F1 : Nat → Prop} {z : Lsm} (n1 : ∀ k, F1 k → F k ∨ w.heap.size ≤ k) (k1 : Kept F w w1) (h2 : Goes w1 B b F1 z w2) : Goes w B b F z w2 := by
  obtain ⟨⟨F2, l2, n2⟩, k2⟩ := h2
  refine ⟨⟨F2, l2, fun k hk => ?_⟩, k1.trans k2 n1⟩
  rcases n2 k hk with q | q
  · exact n1 k q
  · exact .inr (Nat.le_trans k1.size q)
theorem Goes.first {w w1 w2 : World} {B b : Nat} {F : Nat → Prop} {z : Lsm} (b1 : Below w.heap.size w w1) (h2 : Goes w1 B b F z w2) : Goes w B b F z w2 := Goes.next (fun _ q => .inl q) (Kept.of_below F b1) h2
theorem Goes.then {w w1 w2 : World} {B b : Nat} {F : Nat → Prop} {z : Lsm} (h : Goes w B b F z w1) (b2 : Below w1.heap.size w1 w2) : Goes w B b F z w2 := by
  obtain ⟨⟨F1, l1, n1⟩, k1⟩ := h
  exact ⟨⟨F1, l1.kept (Kept.of_below (fun _ => False) b2) fun _ _ q => q, n1⟩, k1.then b2⟩
theorem ls_below {w w' : World} {B b : Nat} {F : Nat → Prop} {x : Lsm} (h : Ls w B b F x) (k : Below w.heap.size w w') : Ls w' B b F x := h.kept (Kept.of_below (fun _ => False) k) fun _ _ q => q
theorem wide_kept {S : Nat → Prop} {s : Nat} {w w' : World} {a : Option Addr} {n cap : Nat} {xs : List Value} (h : Wide s w a n cap xs) (k : Kept S w w') (hd : ∀ p, 0 < n → a = some p → ¬ S p.block) : Wide s w' a n cap xs := by
  refine ⟨h.1, h.2.1, fun h0 => ?_⟩
  obtain ⟨b, off, ha, hc⟩ := h.2.2 h0
  refine ⟨b, off, ha, fun j u hj => ?_⟩
  have h1 := hc j u hj
  rw [k.cell (p := ⟨b, off + j, none⟩) (Lists.block_lt h1) (show ¬ S b from hd _ h0 ha)]
  exact h1

set_option maxHeartbeats 1000000 in
set_option maxRecDepth 100000 in
theorem putOne_any {w : World} {B b : Nat} {F : Nat → Prop} {x : Lsm} (h : Ls w B b F x) (hs : x.size ≤ 10000) (p0 p1 : ByteArray) (g : Bool) (hk : p0.size ≤ maxLen) (hv : p1.size ≤ maxLen) (hg : g = true → p1.size = 0) :
    Calls Tryz.prog 40 #[.pointer (some ⟨b, 0, none⟩), .agg #[.string p0, .string p1, .bool g]] w fun e w' => e = .returned (errv (putE x.young ⟨p0, p1, g⟩)) ∧ Goes w B b F (putted x ⟨p0, p1, g⟩) w' := by
  have b0 : Below w.heap.size w (w.alloc (.cells #[.string p0, .string p1, .bool g] 31)) := (Below.refl _ _).alloc (Nat.le_refl _) _
  have HB0 : Hid (Below w.heap.size w (w.alloc (.cells #[.string p0, .string p1, .bool g] 31))) := b0
  have h1 := ls_below h b0
  clear h b0
  cases g with
  | true =>
    obtain rfl := empty_is (hg rfl)
    have cD := WalkLs.drop_any h1 hs p0 hk
    generalize errv (putE x.young ⟨p0, ⟨#[]⟩, true⟩) = V at cD ⊢
    clear hs hk hv hg h1
    go_enter Tryz.func40, Tryz.ntmps40
    go_wp2_with fail
    refine cD.mono ?_
    rintro e w1 ⟨rfl, h2⟩
    have HE : Hid (Goes w B b F (putted x ⟨p0, ⟨#[]⟩, true⟩) w1) := Goes.first HB0.out h2
    clear cD h2
    go_wp2_with fail
    go_ret
    exact ⟨rfl, HE.out⟩
  | false =>
    have cP := WalkLs.put_any h1 hs p0 p1 hk hv
    generalize errv (putE x.young ⟨p0, p1, false⟩) = V at cP ⊢
    clear hs hk hv hg h1
    go_enter Tryz.func40, Tryz.ntmps40
    go_wp2_with fail
    refine cP.mono ?_
    rintro e w1 ⟨rfl, h2⟩
    have HE : Hid (Goes w B b F (putted x ⟨p0, p1, false⟩) w1) := Goes.first HB0.out h2
    clear cP h2
    go_wp2_with fail
    go_ret
    exact ⟨rfl, HE.out⟩

set_option maxHeartbeats 4000000 in
set_option maxRecDepth 100000 in
theorem putAll_any {w : World} {B b : Nat} {F : Nat → Prop} {x : Lsm} (h : Ls w B b F x) (l : List Pair) (hs : x.size + l.length ≤ 10000) (a : Option Addr) (n cap : Nat) (hr : Wide 3 w a n cap (cells l)) (hz : ∀ e ∈ l, e.key.size ≤ maxLen ∧ e.val.size ≤ maxLen) (hg : ∀ e ∈ l, e.gone = true → e.val.size = 0) (hd : ∀ p, 0 < n → a = some p → ¬ F p.block) :
    Calls Tryz.prog 24 #[.pointer (some ⟨b, 0, none⟩), .slice a n cap] w fun e w' => e = .returned (errv (puts x l).2) ∧ Goes w B b F (puts x l).1 w' := by
  have hln := PairRows.len_of hr
  have HR : Hid (∀ wr, Kept F w wr → Wide 3 wr a n cap (cells l)) := fun wr k => wide_kept hr k hd
  have HN : Hid (l.length = n) := hln
  have HZ : Hid (∀ e ∈ l, e.key.size ≤ maxLen ∧ e.val.size ≤ maxLen) := hz
  have HGo : Hid (∀ e ∈ l, e.gone = true → e.val.size = 0) := hg
  have HS : Hid (x.size + l.length ≤ 10000) := hs
  have H0 : Hid (Goes w B b F x w) := Goes.refl h
  have a26 := aggP
  have z26 := sizeP
  have hn : n ≤ 10000 := by omega
  clear h hr hz hg hs hd hln
  go_enter Tryz.func24, Tryz.ntmps24
  go_upto_region 2 with fail
  go_loopw [6, 7, 10] (fun _ _ kv wr => ∃ k : Nat, k ≤ n ∧ kv = .int .i64 (k : Int) ∧ Hid ((puts x (l.take k)).2 = 0) ∧ Hid (Goes w B b F (puts x (l.take k)).1 wr)) (fun _ _ kv _ => n - (intOf kv).toNat)
  case atStart => exact ⟨0, Nat.zero_le _, rfl, rfl, H0.out⟩
  case round =>
    obtain ⟨k, hk, rfl, HE, HG⟩ := hrel
    by_cases hlt : k < n
    · have i1 : (k : Int) < (n : Int) := by omega
      have hkl : k < l.length := by have := HN.out; omega
      have hW := HR.out wr HG.out.2
      obtain ⟨b1, off1, rfl, _⟩ := hW.2.2 (by omega)
      obtain ⟨p0, p1, p2⟩ := PairRows.at_three hW k hkl
      have HX : Hid (l[k]? = some l[k]) := List.getElem?_eq_getElem hkl
      have HZk := HZ.out l[k] (List.getElem_mem hkl)
      have HGk := HGo.out l[k] (List.getElem_mem hkl)
      have hsz := WalBytes.size_puts (l.take k) x
      rw [List.length_take] at hsz
      generalize l[k] = p at p0 p1 p2 HX HZk HGk
      obtain ⟨x0, x1, x2⟩ := p
      simp only at p0 p1 p2 HZk HGk
      have HNX : Hid (putE (puts x (l.take k)).1.young ⟨x0, x1, x2⟩ = 0 → puts x (l.take (k + 1)) = (putted (puts x (l.take k)).1 ⟨x0, x1, x2⟩, 0)) := fun q => WalBytes.puts_next HX.out HE.out q
      have HST : Hid (putE (puts x (l.take k)).1.young ⟨x0, x1, x2⟩ ≠ 0 → puts x l = ((puts x (l.take k)).1, putE (puts x (l.take k)).1.young ⟨x0, x1, x2⟩)) := fun q => WalBytes.puts_stop HX.out HE.out q
      have hs1 : (puts x (l.take k)).1.size ≤ 10000 := by have := HS.out; omega
      generalize (puts x (l.take k)).1 = y at HNX HST HG hsz hs1
      have HP : Hid (∀ w1, Below wr.heap.size wr w1 → Calls Tryz.prog 40 #[.pointer (some ⟨b, 0, none⟩), .agg #[.string x0, .string x1, .bool x2]] w1 fun e w' => e = .returned (errv (putE y.young ⟨x0, x1, x2⟩)) ∧ Goes w B b F (putted y ⟨x0, x1, x2⟩) w') := fun w1 q => by
        obtain ⟨⟨F1, l1, n1⟩, k1⟩ := HG.out
        refine (putOne_any (ls_below l1 q) hs1 x0 x1 x2 HZk.1 HZk.2 HGk).mono ?_
        rintro e w' ⟨rfl, h2⟩
        exact ⟨rfl, Goes.next n1 k1 (Goes.first q h2)⟩
      have HB : Hid (Below wr.heap.size wr (wr.alloc (.cells #[.string x0, .string x1, .bool x2] 31))) := (Below.refl _ _).alloc (Nat.le_refl _) _
      clear hW hkl HX HZk HGk hsz hs1 HE
      by_cases he : putE y.young ⟨x0, x1, x2⟩ = 0
      · rw [he, errv0] at HP
        have HN2 := HNX.out he
        clear he HNX HST HG
        go_wp2_with fail
        refine (HP.out _ HB.out).mono ?_
        rintro e w2 ⟨rfl, h2⟩
        have HG2 : Hid (Goes w B b F (puts x (l.take (k + 1))).1 w2) := by show Goes _ _ _ _ _ _; rw [HN2]; exact h2
        have HE2 : Hid ((puts x (l.take (k + 1))).2 = 0) := by show _ = _; rw [HN2]
        clear h2 HN2 p0 p1 p2
        go_wp2_with fail
        go_roundw
        case rel => exact ⟨k + 1, by omega, by go_num, HE2, HG2⟩
        case measure => simp [intOf]; omega
      · have hst := HST.out he
        have HV : Hid (errv (puts x l).2 = .iface 58 (.int .i64 (putE y.young ⟨x0, x1, x2⟩ : Nat)) ∧ (puts x l).1 = y ∧ putted y ⟨x0, x1, x2⟩ = y) := ⟨by rw [hst]; exact errv_pos _ he, by rw [hst], Lsms.put_same y _ he⟩
        rw [errv_pos _ he] at HP
        generalize putE y.young ⟨x0, x1, x2⟩ = E at HP HV
        clear he HNX HST HG hst
        go_wp2_with fail
        refine (HP.out _ HB.out).mono ?_
        rintro e w2 ⟨rfl, h2⟩
        have HG2 : Hid (Goes w B b F (puts x l).1 w2) := by show Goes _ _ _ _ _ _; rw [HV.out.2.1, ← HV.out.2.2]; exact h2
        clear h2 p0 p1 p2
        go_wp2_with fail
        go_ret
        exact ⟨by rw [HV.out.1]; rfl, HG2.out⟩
    · obtain rfl : k = n := by omega
      have i1 : ¬ (k : Int) < (k : Int) := by omega
      have HV : Hid (errv (puts x l).2 = .nilIface ∧ Goes w B b F (puts x l).1 wr) := by
        have h1 := HE.out
        have h2 := HG.out
        rw [List.take_of_length_le (by have := HN.out; omega)] at h1 h2
        exact ⟨by rw [h1]; rfl, h2⟩
      clear HE HG
      go_wp2_with fail
      go_ret
      exact ⟨by rw [HV.out.1]; rfl, HV.out.2⟩

end Go.Proofs.YtofaegcljcpceagGreatDoor.WalkWa

/-
  What package wal makes of a batch: its record, as bytes.
-/
namespace Go.Proofs.YtofaegcljcpceagGreatDoor.WalkWa
open Go.RowKit
open Lists (bt Row)
open Keeps (Kept owns_kept)
open Wides (Wide)
open Stores (Pair)
open PairRows (cells)
open WalBytes (pairB pairsB recB Fit)
open WalkTabOne (Has Still aggP sizeP u8_of)

/-- append of a text onto bytes of the call's own, as one step of a region that draws -/
theorem step_append_text {P : Program} {ops : Array Oper} {o : Oper} {a : Act} {w : World} {K : Act → World → Prop} {Q : Exit → Act → World → Prop} {E : Prop} (hgd : o.guard = none) (sl x : Operand) (t u : TypeId)
    (ho : o.op = .call { callee := .builtin .append, args := #[sl, x], argTypes := #[t, u] })
    (base : Nat) (e : TypeId) (i : TypeInfo) (ht : P.underlying t = some (.slice e)) (hu : P.underlying u = some .string) (hi : P.info? e = some i) (hz : i.zero = some (.int .u8 0))
    (hsize : i.size = 1) (hby : i.bytes = 1)
    (v : Value) (n : Nat) (xs : List Value) (hs : a.eval sl = v) (hown : w.ownsRow base e 1 v n xs) (s : ByteArray) (hx : a.eval x = .string s)
    (h63 : n + s.size ≤ maxLen) (hbytes : n + s.size ≤ 140737488355328) (hbase : base ≤ w.heap.size)
    (h : ∀ v' w', w'.ownsRow base e 1 v' (n + s.size) (xs ++ Lib.strCells s) → w.grownBy w' v.ownBlock → K (a.put o.dst v') w') : if Region.wanted o (yielded ops a.tmps) = true then Oper.wp P o a w K Q else E := by
  rw [if_pos (by simp [Region.wanted, hgd])]
  obtain ⟨v', w', hr, h2, h3, _⟩ := Lib.run_append_own_string (P := P) w base t u o.type e i ht hu hi hz hsize hby v n xs hown s h63 hbytes hbase
  unfold Oper.wp execOp
  simp only [ho, resolve, invoke, builtin, Sem.run_bind, Sem.run_pure, Result.andThen_ok, List.map_toArray, List.map_cons, List.map_nil, hs, hx, hr]
  exact h v' w' h2 h3

theorem text_cells (s : ByteArray) : Lib.strCells s = WalkMix.cells s.data.toList := rfl
/-- a text more -/
theorem Has.text {base : Nat} {w w1 : World} {v v1 : Value} {L : List UInt8} {s : ByteArray} (h : Has base w v L) (g : w.grownBy w1 v.ownBlock) (o : w1.ownsRow base 5 1 v1 (L.length + s.size) (WalkMix.cells L ++ Lib.strCells s)) : Has base w1 v1 (L ++ s.data.toList) ∧ Still base w w1 := by
  have st := WalkTabOne.Has.still h g
  refine ⟨⟨?_, Nat.le_trans h.base st.below.size⟩, st⟩
  rw [List.length_append, show s.data.toList.length = s.size from Array.length_toList, WalkMix.cells_append, ← text_cells]
  exact o
theorem Has.drew {base : Nat} {w : World} {v : Value} {L : List UInt8} (h : Has base w v L) : Has base w.drew v L := ⟨h.own.drew, h.base⟩
theorem head_cells (x y : ByteArray) (z : Bool) (hx : x.size ≤ 200) (hy : y.size ≤ 200) : WalkMix.cells [Tabs.mark z, UInt8.ofNat x.size, UInt8.ofNat y.size] = [.int .u8 (if z = true then 1 else 0), .int .u8 (x.size : Int), .int .u8 (y.size : Int)] := by
  have h1 := u8_of x.size hx
  have h2 := u8_of y.size hy
  simp only [WalkMix.cells, List.map_cons, List.map_nil, List.cons.injEq, and_true] at h1 h2 ⊢
  refine ⟨?_, h1, h2⟩
  cases z <;> rfl
theorem head_at (w : World) (a b c : Value) (t : TypeId) : ∀ j u, [a, b, c][j]? = some u → (w.alloc (.cells #[a, b, c] t)).cell? ((⟨w.heap.size, 0, none⟩ : Addr).add j) = some u := by
  intro j u hj
  match j, hj with
  | 0, hj | 1, hj | 2, hj => all_goals (simp at hj; subst hj; simp [Addr.add])
  | j + 3, hj => simp at hj
theorem two_at (w : World) (a b : Value) (t : TypeId) : ∀ j u, [a, b][j]? = some u → (w.alloc (.cells #[a, b] t)).cell? ((⟨w.heap.size, 0, none⟩ : Addr).add j) = some u := by
  intro j u hj
  match j, hj with
  | 0, hj | 1, hj => all_goals (simp at hj; subst hj; simp [Addr.add])
  | j + 2, hj => simp at hj
theorem Has.head {base : Nat} {w wn : World} {v v1 : Value} {L : List UInt8} {x y : ByteArray} {z : Bool} {o : Obj} (hx : x.size ≤ 200) (hy : y.size ≤ 200) (h : Has base w v L) (g : (w.alloc o).grownBy wn v.ownBlock) (ho : wn.ownsRow base 5 1 v1 (L.length + 3) (WalkMix.cells L ++ [.int .u8 (if z = true then 1 else 0), .int .u8 (x.size : Int), .int .u8 (y.size : Int)])) :
    Has base wn v1 (L ++ [Tabs.mark z, UInt8.ofNat x.size, UInt8.ofNat y.size]) ∧ Still base w wn := by
  have s1 : Still base w wn := (Still.of_below h.base ((Below.refl _ w).alloc (Nat.le_refl _) o)).trans (WalkTabOne.Has.still (h.alloc _) g)
  exact ⟨⟨by rw [List.length_append, WalkMix.cells_append, head_cells x y z hx hy]; exact ho, Nat.le_trans h.base s1.below.size⟩, s1⟩
theorem pairB_parts (x y : ByteArray) (z : Bool) (L : List UInt8) : L ++ [Tabs.mark z, UInt8.ofNat x.size, UInt8.ofNat y.size] ++ x.data.toList ++ y.data.toList = L ++ pairB ⟨x, y, z⟩ := by simp [pairB]
theorem pairsB_next {l : List Pair} {k : Nat} {p : Pair} (h : l[k]? = some p) : pairsB (l.take (k + 1)) = pairsB (l.take k) ++ pairB p := by
  obtain ⟨hk, rfl⟩ := List.getElem?_eq_some_iff.1 h
  rw [List.take_succ_eq_append_getElem hk, WalBytes.pairsB_append, pairsB, pairsB, List.append_nil]
theorem rec_cells {l : List Pair} (h : Fit l) : WalkMix.cells (recB l) = [.int .u8 (((pairsB l).length : Int) / 256), .int .u8 (((pairsB l).length : Int) % 256)] ++ WalkMix.cells (pairsB l) := by
  have := WalBytes.fit_le h
  simp only [recB, WalkMix.cells, List.map_cons, UInt8.toNat_ofNat', List.cons_append, List.nil_append, List.cons.injEq, Value.int.injEq, true_and, and_true]
  constructor <;> omega
theorem cells_one (L : List UInt8) : ∀ u ∈ WalkMix.cells L, u.oneCell' = true := by
  intro u hu
  obtain ⟨c, _, rfl⟩ := List.mem_map.1 hu
  rfl

/-- as far as it is -/
structure Far (w : World) (v : Value) (l : List Pair) (k : Nat) (wr : World) : Prop where
  has : Has w.heap.size wr v (pairsB (l.take k))
  bel : Below w.heap.size w wr

set_option maxHeartbeats 4000000 in
set_option maxRecDepth 100000 in
theorem record_any (l : List Pair) (hf : Fit l) (a : Option Addr) (n cap : Nat) (w : World) (hr : Wide 3 w a n cap (cells l)) :
    Calls Tryz.prog 22 #[.slice a n cap] w fun e w' => ∃ v, e = .returned v ∧ w'.ownsRow w.heap.size 5 1 v (recB l).length (WalkMix.cells (recB l)) ∧ Below w.heap.size w w' := by
  obtain ⟨i0, hi, hz0, hz1, hz2⟩ := info_parts WalkMix.info5
  have hln := PairRows.len_of hr
  have HR : Hid (Wide 3 w a n cap (cells l)) := hr
  have HN : Hid (l.length = n) := hln
  have HF : Hid (Fit l) := hf
  have hn : n ≤ 20 := by have := hf.1; omega
  have a26 := aggP
  have z26 := sizeP
  clear hr hf hln
  go_enter Tryz.func22, Tryz.ntmps22
  go_upto_region 3 with fail
  go_loopw [3, 5, 6, 9] (fun v _ _ kv wr => ∃ k : Nat, k ≤ n ∧ kv = .int .i64 (k : Int) ∧ Hid (Far w v l k wr)) (fun _ _ _ kv _ => n - (intOf kv).toNat)
  case atStart => exact ⟨0, Nat.zero_le _, rfl, ⟨World.ownsRow_nil _ _ _ _, Nat.le_refl _⟩, Below.refl _ _⟩
  case round =>
    obtain ⟨k, hk, rfl, HS⟩ := hrel
    by_cases hlt : k < n
    · have i1 : (k : Int) < (n : Int) := by omega
      have hkl : k < l.length := by have := HN.out; omega
      have hW := HR.out.below HS.out.bel
      obtain ⟨b1, off1, rfl, _⟩ := hW.2.2 (by omega)
      obtain ⟨p0, p1, p2⟩ := PairRows.at_three hW k hkl
      have hok := HF.out.2 l[k] (List.getElem_mem hkl)
      have hx2 := (WalBytes.key_le hok).2
      have hy2 := hok.2.1
      have HNx : Hid (pairsB (l.take (k + 1)) = pairsB (l.take k) ++ pairB l[k]) := pairsB_next (List.getElem?_eq_getElem hkl)
      have hLn : (pairsB (l.take k)).length ≤ 8060 := by
        have h1 := WalBytes.pairsB_le (l.take k) fun p hp => HF.out.2 p (List.mem_of_mem_take hp)
        rw [List.length_take] at h1
        omega
      generalize l[k] = p at p0 p1 p2 hx2 hy2 HNx hok
      obtain ⟨x, y, z⟩ := p
      simp only at p0 p1 p2 hx2 hy2
      have HH1 : Hid (Has w.heap.size (wr.alloc (.cells #[.string x, .string y, .bool z] 31)) u3 (pairsB (l.take k))) := HS.out.has.alloc _
      have HB1 : Hid (Below w.heap.size w (wr.alloc (.cells #[.string x, .string y, .bool z] 31))) := HS.out.bel.alloc HS.out.bel.size _
      have hR : (wr.alloc (.cells #[.string x, .string y, .bool z] 31)).rowIs wr.heap.size 31 3 (fun j => if j = 0 then .string x else if j = 1 then .string y else .bool z) := World.rowIs_alloc _ _ _ _ (fun j hj => by match j, hj with | 0, _ | 1, _ | 2, _ => rfl | j + 3, h => simp at h; omega)
      have HX : Hid (x.size ≤ 200 ∧ y.size ≤ 200) := ⟨hx2, hy2⟩
      have ix : (x.size : Int) ≤ 200 := by omega
      have iy : (y.size : Int) ≤ 200 := by omega
      generalize pairsB (l.take k) = L at HNx hLn HH1
      clear hok hW hkl HS hx2 hy2
      go_upto_region 5 with fail
      generalize wr.alloc (.cells #[.string x, .string y, .bool z] 31) = w1 at HH1 HB1 hR ⊢
      generalize wr.heap.size = gp at hR ⊢
      have HR1 : Hid (w1.rowIs gp 31 3 (fun j => if j = 0 then .string x else if j = 1 then .string y else .bool z)) := hR
      have r0 : w1.cell? ⟨gp, 0, none⟩ = some (.string x) := HR1.out.cell (i := 0) (by omega)
      have r1 : w1.cell? ⟨gp, 1, none⟩ = some (.string y) := HR1.out.cell (i := 1) (by omega)
      have r2 : w1.cell? ⟨gp, 2, none⟩ = some (.bool z) := HR1.out.cell (i := 2) (by omega)
      clear hR p0 p1 p2
      obtain ⟨zb, hzb⟩ : ∃ zb : Int, zb = (if z = true then 1 else 0) := ⟨_, rfl⟩
      have HZB : Hid (zb = (if z = true then 1 else 0)) := hzb
      clear hzb
      go_upto_if 14 with fail
      go_cut [6] from 13 to 14 (fun v wc => v = .int .u8 zb ∧ w1 = wc)
      case first => as_aux_lemma =>
        cases z with
        | true =>
          obtain rfl : zb = 1 := HZB.out
          go_wp2_with fail
          go_meet
          case rel => exact ⟨rfl, rfl⟩
        | false =>
          obtain rfl : zb = 0 := HZB.out
          go_wp2_with fail
          go_meet
          case rel => exact ⟨rfl, rfl⟩
      obtain ⟨rfl, rfl⟩ := hcut
      clear r2
      go_upto_region 9 with (at_builtin; go_must (refine wpList_append_own _ rfl (.tmp 15) (.tmp 25) 53 rfl w.heap.size 5 i0 (.int .u8 0) 1 1 Tryz.underlying53 hi hz0 hz1 hz2 rfl (by decide) _ _ _ rfl (HH1.out.own.alloc _) ⟨_, 0, none⟩ 3 3 [.int .u8 zb, .int .u8 (x.size : Int), .int .u8 (y.size : Int)] rfl rfl (head_at _ _ _ _ _) (fun u hu => by simp at hu; rcases hu with rfl | rfl | rfl <;> rfl) (by unfold maxLen; omega) (by omega) (by have := HH1.out.base; simp; omega) ?_); intro v2 w2 o2 g2 z2; clear z2)
      obtain ⟨h2, st2⟩ := Has.head (z := z) HX.out.1 HX.out.2 HH1.out g2 (by rw [← HZB.out]; exact o2)
      have HH2 : Hid (Has w.heap.size w2 v2 (L ++ [Tabs.mark z, UInt8.ofNat x.size, UInt8.ofNat y.size])) := h2
      have HB2 : Hid (Below w.heap.size w w2) := HB1.out.trans st2.below
      have HR2 : Hid (w2.rowIs gp 31 3 (fun j => if j = 0 then .string x else if j = 1 then .string y else .bool z)) := st2.pair _ _ HR1.out
      have s0 : w2.cell? ⟨gp, 0, none⟩ = some (.string x) := HR2.out.cell (i := 0) (by omega)
      have s1 : w2.cell? ⟨gp, 1, none⟩ = some (.string y) := HR2.out.cell (i := 1) (by omega)
      have HP : Hid (L ++ [Tabs.mark z, UInt8.ofNat x.size, UInt8.ofNat y.size] ++ x.data.toList ++ y.data.toList = pairsB (l.take (k + 1))) := by show _ = _; rw [HNx.out]; exact pairB_parts x y z L
      have hL2 : (L ++ [Tabs.mark z, UInt8.ofNat x.size, UInt8.ofNat y.size]).length ≤ 8063 := by rw [List.length_append]; simp; omega
      generalize L ++ [Tabs.mark z, UInt8.ofNat x.size, UInt8.ofNat y.size] = L2 at HH2 HP hL2
      have hL3 : (L2 ++ x.data.toList).length ≤ 8263 := by rw [List.length_append, show x.data.toList.length = x.size from Array.length_toList]; have := HX.out.1; omega
      clear h2 st2 o2 g2 HH1 HB1 HR1 r0 r1 HNx HZB
      go_region_held3 (fun w' => w'.cell? ⟨gp, 0, none⟩ = some (.string x) ∧ w'.cell? ⟨gp, 1, none⟩ = some (.string y)) (first | exact ⟨s0, s1⟩ | go_keep)
        (first | (refine step_append_text rfl (.tmp 27) (.tmp 29) 53 9 rfl w.heap.size 5 i0 Tryz.underlying53 Tryz.underlying9 hi hz0 hz1 hz2 _ _ _ rfl HH2.out.own.drew x rfl (by have := HX.out.1; unfold maxLen; omega) (by have := HX.out.1; omega) HH2.out.base ?_; intro v3 w3 o3 g3; obtain ⟨h3, st3⟩ := Has.text (Has.drew HH2.out) g3 o3; have HH3 : Hid (Has w.heap.size w3 v3 (L2 ++ x.data.toList)) := h3; have HB3 : Hid (Below w.heap.size w w3) := HB2.out.drew.trans st3.below; have HR3 : Hid (w3.rowIs gp 31 3 (fun j => if j = 0 then .string x else if j = 1 then .string y else .bool z)) := st3.pair _ _ HR2.out.drew; have s0 : w3.cell? ⟨gp, 0, none⟩ = some (.string x) := HR3.out.cell (i := 0) (by omega); have s1 : w3.cell? ⟨gp, 1, none⟩ = some (.string y) := HR3.out.cell (i := 1) (by omega); clear h3 st3 o3 g3) | (refine step_append_text rfl (.tmp 30) (.tmp 32) 53 9 rfl w.heap.size 5 i0 Tryz.underlying53 Tryz.underlying9 hi hz0 hz1 hz2 _ _ _ rfl HH3.out.own y rfl (by have := HX.out.2; unfold maxLen; omega) (by have := HX.out.2; omega) HH3.out.base ?_; intro v4 w4 o4 g4; obtain ⟨h4, st4⟩ := Has.text HH3.out g4 o4; have HH4 : Hid (Has w.heap.size w4 v4 (L2 ++ x.data.toList ++ y.data.toList)) := h4; have HB4 : Hid (Below w.heap.size w w4) := HB3.out.trans st4.below; have HR4 : Hid (w4.rowIs gp 31 3 (fun j => if j = 0 then .string x else if j = 1 then .string y else .bool z)) := st4.pair _ _ HR3.out; have s0 : w4.cell? ⟨gp, 0, none⟩ = some (.string x) := HR4.out.cell (i := 0) (by omega); have s1 : w4.cell? ⟨gp, 1, none⟩ = some (.string y) := HR4.out.cell (i := 1) (by omega); clear h4 st4 o4 g4))
      have HS4 : Hid (Far w v4 l (k + 1) w4) := ⟨by rw [← HP.out]; exact HH4.out, HB4.out⟩
      clear s0 s1 HH2 HH3 HH4 HB2 HB3 HB4 HR2 HR3 HR4 HP
      go_wp2_with fail
      go_roundw
      case rel => exact ⟨k + 1, by omega, by go_num, HS4⟩
      case measure => simp [intOf]; omega
    · obtain rfl : k = n := by omega
      have i1 : ¬ (k : Int) < (k : Int) := by omega
      have hH := HS.out.has
      rw [List.take_of_length_le (by have := HN.out; omega)] at hH
      have hle := WalBytes.fit_le HF.out
      have HB : Hid (Below w.heap.size w wr) := HS.out.bel
      have HC : Hid (WalkMix.cells (recB l) = [.int .u8 (((pairsB l).length : Int) / 256), .int .u8 (((pairsB l).length : Int) % 256)] ++ WalkMix.cells (pairsB l) ∧ (recB l).length = 2 + (pairsB l).length) := ⟨rec_cells HF.out, WalBytes.recB_length l⟩
      generalize pairsB l = L at hH hle HC
      have HO : Hid (wr.ownsRow w.heap.size 5 1 u3 L.length (WalkMix.cells L)) := hH.own
      have hM : ∀ x y, (wr.alloc (.cells #[x, y] 5)).ownsRow w.heap.size 5 1 (.slice (some ⟨wr.heap.size, 0, none⟩) 2 2) 2 [x, y] := fun x y => ⟨rfl, .inr ⟨wr.heap.size, 2, #[x, y], rfl, HB.out.size, heap_alloc_new wr _, Nat.le_refl _, by decide, rfl, rfl⟩⟩
      have HM : Hid (∀ x y, (wr.alloc (.cells #[x, y] 5)).ownsRow w.heap.size 5 1 (.slice (some ⟨wr.heap.size, 0, none⟩) 2 2) 2 [x, y]) := hM
      have HBs : Hid (w.heap.size ≤ wr.heap.size) := HB.out.size
      have HFF : Hid (∀ x y wn, (wr.alloc (.cells #[x, y] 5)).grownBy wn (some wr.heap.size) → Below w.heap.size w wn) := fun x y wn gr => (HB.out.alloc HBs.out _).grown gr (by have := HBs.out; simp; omega) (fun k hk => by simp only [Option.some.injEq] at hk; have := HBs.out; omega)
      clear HS HF hM
      rcases hH.own.2 with ⟨rfl, h0⟩ | ⟨g, cp, cur, rfl, _⟩
      · have hL0 : L = [] := by
          exact List.eq_nil_of_length_eq_zero h0
        subst hL0
        have HE : Hid (Below w.heap.size w (wr.alloc (.cells #[.int .u8 0, .int .u8 0] 5)) ∧ (wr.alloc (.cells #[.int .u8 0, .int .u8 0] 5)).ownsRow w.heap.size 5 1 (.slice (some ⟨wr.heap.size, 0, none⟩) 2 2) (recB l).length (WalkMix.cells (recB l))) := ⟨HB.out.alloc HBs.out _, by rw [HC.out.1, HC.out.2]; exact HM.out _ _⟩
        clear hH h0 hle HC HFF
        go_wp2_with (at_builtin; go_must (refine wpList_append_own_none rfl (.tmp 42) (.tmp 43) 53 rfl w.heap.size 5 i0 1 Tryz.underlying53 hi _ 2 _ rfl (HM.out _ _) rfl ?_))
        go_ret
        exact ⟨_, rfl, HE.out.2, HE.out.1⟩
      · obtain ⟨_, hr3⟩ := Row.of_owns hH.own
        have HR3 : Hid (Row wr (some ⟨g, 0, none⟩) L.length cp (WalkMix.cells L)) := hr3
        generalize hN : L.length = N at *
        have HLN : Hid (L.length = N) := hN
        have iN : (N : Int) ≤ 8060 := by omega
        clear hH hr3 hN HO
        have HL1 : Hid (∀ x y j u, (WalkMix.cells L)[j]? = some u → (wr.alloc (.cells #[x, y] 5)).cell? ((⟨g, 0, none⟩ : Addr).add j) = some u) := fun x y j u hj => by
          rw [WalkTabTake.add_at]
          have h := (HR3.out.below ((Below.refl _ wr).alloc (Nat.le_refl _) (.cells #[x, y] 5))).at j u hj
          rwa [Nat.zero_add] at h
        have HC2 : Hid (WalkMix.cells (recB l) = [.int .u8 ((N : Int) / 256), .int .u8 ((N : Int) % 256)] ++ WalkMix.cells L ∧ (recB l).length = 2 + N) := HC.out
        clear HC
        go_wp2_with (at_builtin; go_must (refine wpList_append_own _ rfl (.tmp 42) (.tmp 43) 53 rfl w.heap.size 5 i0 (.int .u8 0) 1 1 Tryz.underlying53 hi hz0 hz1 hz2 rfl (by decide) _ 2 _ rfl (HM.out _ _) ⟨g, 0, none⟩ N cp (WalkMix.cells L) rfl (by rw [WalkMix.cells, List.length_map, HLN.out, Nat.mul_one]) (HL1.out _ _) (cells_one L) (by unfold maxLen; omega) (by omega) (by have := HBs.out; simp; omega) ?_); intro v4 w4 o4 g4 z4; clear z4; have HO4 : Hid (w4.ownsRow w.heap.size 5 1 v4 (recB l).length (WalkMix.cells (recB l))) := (by show World.ownsRow _ _ _ _ _ _ _; rw [HC2.out.1, HC2.out.2]; exact o4); have HB4 : Hid (Below w.heap.size w w4) := HFF.out _ _ _ g4; clear o4 g4)
        go_ret
        exact ⟨_, rfl, HO4.out, HB4.out⟩

end Go.Proofs.YtofaegcljcpceagGreatDoor.WalkWa

/-
  What package wal reads of bytes: where a record ends, and its pairs.
-/
namespace Go.Proofs.YtofaegcljcpceagGreatDoor.WalkWa
open Go.RowKit
open Lists (bt Row)
open Keeps (Kept owns_kept)
open Wides (Wide)
open Stores (Pair)
open WalBytes (pairB pairsB recB Fit Part)
open WalkTabOne (aggP sizeP u8_of)

theorem drewN_below {B : Nat} {a w : World} (h : Below B a w) (n : Nat) : Below B a (w.drewN n) := ⟨h.os, h.tape, h.output, h.size, h.block⟩
theorem end_short (a : Option Addr) (n cap : Nat) (w : World) (hn : n < 2) :
    Calls Tryz.prog 41 #[.slice a n cap] w fun e w' => e = .returned (.tuple #[.int .i64 0, .bool false]) ∧ Below w.heap.size w w' := by
  have i1 : (n : Int) < 2 := by omega
  go_enter Tryz.func41, Tryz.ntmps41
  go_wp2_with fail
  go_ret2
  exact ⟨rfl, Below.refl _ _⟩
theorem end_long (x y : UInt8) (r : List UInt8) (a : Option Addr) (n cap : Nat) (w : World) (hr : Row w a n cap (WalkMix.cells (x :: y :: r))) (E : Nat) (hE : 2 + (x.toNat * 256 + y.toNat) = E) (t : Bool) (ht : decide (E ≤ n) = t) :
    Calls Tryz.prog 41 #[.slice a n cap] w fun e w' => e = .returned (.tuple #[.int .i64 (E : Int), .bool t]) ∧ Below w.heap.size w w' := by
  have hl : 2 ≤ n := by
    have := hr.1
    simp [WalkMix.cells] at this
    omega
  obtain ⟨b, off, rfl, hc⟩ := hr.2.2 (by omega)
  have c0 : w.cell? ⟨b, off, none⟩ = some (.int .u8 (x.toNat : Int)) := hc 0 _ rfl
  have c1 : w.cell? ⟨b, off + 1, none⟩ = some (.int .u8 (y.toNat : Int)) := hc 1 _ rfl
  have i1 : ¬ (n : Int) < 2 := by omega
  have i2 : (0 : Int) < (n : Int) := by omega
  have i3 : (1 : Int) < (n : Int) := by omega
  have lx := x.toNat_lt
  have ly := y.toNat_lt
  clear hr hc
  go_enter Tryz.func41, Tryz.ntmps41
  go_upto_region 3 with fail
  go_quiet (fail)
  have e1 : (2 : Int) + (x.toNat : Int) * 256 + (y.toNat : Int) = (E : Int) := by omega
  rw [e1]
  have HB : Hid (Below w.heap.size w (w.drewN nq)) := drewN_below (Below.refl _ _) nq
  generalize w.drewN nq = w1 at HB ⊢
  clear e1 hE c0 c1
  cases t with
  | true =>
    have i4 : (E : Int) ≤ (n : Int) := by have := of_decide_eq_true ht; omega
    clear ht
    go_wp2_with fail
    go_ret2
    exact ⟨rfl, HB.out⟩
  | false =>
    have i4 : ¬ (E : Int) ≤ (n : Int) := by have := of_decide_eq_false ht; omega
    clear ht
    go_wp2_with fail
    go_ret2
    exact ⟨rfl, HB.out⟩
/-- a record that is whole, and one that is not -/
theorem end_yes {l : List Pair} (hf : Fit l) (r : List UInt8) (a : Option Addr) (n cap : Nat) (w : World) (hr : Row w a n cap (WalkMix.cells (recB l ++ r))) :
    Calls Tryz.prog 41 #[.slice a n cap] w fun e w' => e = .returned (.tuple #[.int .i64 ((recB l).length : Nat), .bool true]) ∧ Below w.heap.size w w' := by
  obtain ⟨x, y, q, e, hl⟩ := WalBytes.rec_head hf r
  have hn : (recB l ++ r).length = n := by have := hr.1; rwa [WalkMix.cells, List.length_map] at this
  rw [List.length_append] at hn
  rw [e] at hr
  exact end_long x y q a n cap w hr _ hl true (decide_eq_true (by omega))
theorem end_no {q : List UInt8} (hq : Part q) (a : Option Addr) (n cap : Nat) (w : World) (hr : Row w a n cap (WalkMix.cells q)) :
    Calls Tryz.prog 41 #[.slice a n cap] w fun e w' => (∃ k, e = .returned (.tuple #[.int .i64 k, .bool false])) ∧ Below w.heap.size w w' := by
  have hn : q.length = n := by have := hr.1; rwa [WalkMix.cells, List.length_map] at this
  rcases WalBytes.part_head hq with h | ⟨x, y, r, rfl, h⟩
  · refine (end_short a n cap w (by omega)).mono ?_
    rintro e w' ⟨rfl, b⟩
    exact ⟨⟨_, rfl⟩, b⟩
  · refine (end_long x y r a n cap w hr _ rfl false (decide_eq_false (by omega))).mono ?_
    rintro e w' ⟨rfl, b⟩
    exact ⟨⟨_, rfl⟩, b⟩

/-- append onto a slice of the call's own, as one step of a region that draws -/
theorem step_append_own {P : Program} {ops : Array Oper} {o : Oper} {a : Act} {w : World} {K : Act → World → Prop} {Q : Exit → Act → World → Prop} {E : Prop} (hgd : o.guard = none) (s x : Operand) (t : TypeId)
    (ho : o.op = .call { callee := .builtin .append, args := #[s, x], argTypes := #[t, t] })
    (base : Nat) (e : TypeId) (i : TypeInfo) (z : Value) (size bytes : Nat) (ht : P.underlying t = some (.slice e)) (hi : P.info? e = some i) (hz : i.zero = some z)
    (hsize : i.size = size) (hby : i.bytes = bytes) (hzs : z.cells.size = size) (hsz : 0 < size)
    (v : Value) (n : Nat) (xs : List Value) (hs : a.eval s = v) (hown : w.ownsRow base e size v n xs)
    (ad : Addr) (m c : Nat) (news : List Value) (hx : a.eval x = .slice (some ad) m c) (hl : news.length = m * size) (hnews : ∀ j u, news[j]? = some u → w.cell? (ad.add j) = some u) (h1 : ∀ u ∈ news, u.oneCell' = true)
    (h63 : n + m ≤ maxLen) (hbytes : (n + m) * bytes ≤ 140737488355328) (hbase : base ≤ w.heap.size)
    (h : ∀ v' w', w'.ownsRow base e size v' (n + m) (xs ++ news) → w.grownBy w' v.ownBlock → K (a.put o.dst v') w') : if Region.wanted o (yielded ops a.tmps) = true then Oper.wp P o a w K Q else E := by
  rw [if_pos (by simp [Region.wanted, hgd])]
  exact wp_append_own w s x t ho base e i z size bytes ht hi hz hsize hby hzs hsz v n xs hs hown ad m c news hx hl hnews h1 h63 hbytes hbase fun v' w' h2 h3 _ => h v' w' h2 h3
theorem cell_three_new (w : World) (a b c : Value) (t : TypeId) : ∀ j u, [a, b, c][j]? = some u → (w.alloc (.cells #[a, b, c] t)).cell? ((⟨w.heap.size, 0, none⟩ : Addr).add j) = some u := head_at w a b c t
/-- some bytes as a text -/
theorem conv_at {w : World} {b off n cap : Nat} {L : List UInt8} (h : Row w (some ⟨b, off, none⟩) n cap (WalkMix.cells L)) (i m : Nat) (s : ByteArray) (hs : (L.drop i).take m = s.data.toList) (hm : s.size = m) (c : Nat) :
    (convert 53 9 (.slice (some ⟨b, off + i, none⟩) m c)).run Tryz.prog w = .ok (.string s) w := by
  have hl : s.data.toList.length = m := by rw [← hm]; exact Array.length_toList
  have hk := run_convert_bytes_back (P := Tryz.prog) w 53 9 5 ⟨b, off + i, none⟩ c s.data.toList Tryz.underlying53 Tryz.underlying5 Tryz.underlying9 (fun j hj => by
    have hj2 : j < ((L.drop i).take m).length := by rw [hs]; exact hj
    have e1 : L[i + j]? = some s.data.toList[j] := by
      rw [← List.getElem?_drop, ← List.getElem?_take_of_lt (show j < m by omega), hs]
      exact List.getElem?_eq_getElem hj
    have h1 := h.at (i + j) (.int .u8 (s.data.toList[j].toNat : Int)) (by rw [WalkMix.cells, List.getElem?_map, e1]; rfl)
    rw [show (⟨b, off + i, none⟩ : Addr).add j = ⟨b, off + i + j, none⟩ by (unfold Addr.add; split <;> simp_all), Nat.add_assoc]
    exact h1)
  rw [hl] at hk
  exact hk
theorem conv_none (w : World) (ad : Addr) (c : Nat) : (convert 53 9 (.slice (some ad) 0 c)).run Tryz.prog w = .ok (.string ⟨#[]⟩) w :=
  run_convert_bytes_back (P := Tryz.prog) w 53 9 5 ad c [] Tryz.underlying53 Tryz.underlying5 Tryz.underlying9 (fun j hj => absurd hj (by simp))
theorem take_text (x : ByteArray) (R : List UInt8) : (x.data.toList ++ R).take x.size = x.data.toList := by
  rw [show x.size = x.data.toList.length from (Array.length_toList).symm, List.take_left]
theorem key_part (x y : ByteArray) (z : Bool) (R : List UInt8) : ((pairB ⟨x, y, z⟩ ++ R).drop 3).take x.size = x.data.toList := by
  rw [show pairB ⟨x, y, z⟩ ++ R = Tabs.mark z :: UInt8.ofNat x.size :: UInt8.ofNat y.size :: (x.data.toList ++ (y.data.toList ++ R)) by simp [pairB]]
  exact take_text x _
theorem val_part (x y : ByteArray) (z : Bool) (R : List UInt8) : ((pairB ⟨x, y, z⟩ ++ R).drop (3 + x.size)).take y.size = y.data.toList := by
  rw [show pairB ⟨x, y, z⟩ ++ R = ([Tabs.mark z, UInt8.ofNat x.size, UInt8.ofNat y.size] ++ x.data.toList) ++ (y.data.toList ++ R) by simp [pairB], List.drop_left' (by rw [List.length_append, show x.data.toList.length = x.size from Array.length_toList]; rfl)]
  exact take_text y _
theorem rest_part (x y : ByteArray) (z : Bool) (R : List UInt8) : (pairB ⟨x, y, z⟩ ++ R).drop (3 + x.size + y.size) = R := List.drop_left' (WalBytes.pairB_length _)
def lenV : Value → Nat
  | .slice _ n _ => n
  | _ => 0
/-- as far as they are read: what is left, and the pairs so far -/
def Reads (w : World) (l : List Pair) (s : Value) (v : Value) (wr : World) : Prop :=
  ∃ (k : Nat) (a : Option Addr) (n cap : Nat), k ≤ l.length ∧ s = .slice a n cap ∧ Row w a n cap (WalkMix.cells (pairsB (l.drop k))) ∧ wr.ownsRow w.heap.size 31 3 v k (PairRows.cells (l.take k)) ∧ Below w.heap.size w wr

theorem reads_next {w wn : World} {l : List Pair} {k b off n1 cap1 E : Nat} {x y : ByteArray} {z : Bool} {v1 : Value} (hr : Row w (some ⟨b, off, none⟩) n1 cap1 (WalkMix.cells (pairB ⟨x, y, z⟩ ++ pairsB (l.drop (k + 1))))) (hk : k + 1 ≤ l.length) (hE : E = 3 + x.size + y.size) (hEn : E ≤ n1)
    (ho : wn.ownsRow w.heap.size 31 3 v1 (k + 1) (PairRows.cells (l.take (k + 1)))) (hb : Below w.heap.size w wn) :
    (cap1 ≠ E → Reads w l (.slice (some ⟨b, off + E, none⟩) (n1 - E) (cap1 - E)) v1 wn) ∧ (cap1 = E → Reads w l (.slice (some ⟨b, off, none⟩) 0 0) v1 wn) := by
  have h1 := hr.drop E hEn
  have e : (WalkMix.cells (pairB ⟨x, y, z⟩ ++ pairsB (l.drop (k + 1)))).drop E = WalkMix.cells (pairsB (l.drop (k + 1))) := by
    rw [WalkMix.cells, ← List.map_drop, hE, rest_part]
    rfl
  rw [e] at h1
  refine ⟨fun _ => ⟨k + 1, _, _, _, hk, rfl, h1, ho, hb⟩, fun hc => ?_⟩
  have hn : n1 - E = 0 := by have := hr.2.1; omega
  have h2 := h1.1
  rw [hn] at h2
  refine ⟨k + 1, _, _, _, hk, rfl, ?_, ho, hb⟩
  rw [List.eq_nil_of_length_eq_zero h2]
  exact Row.nil _ _ _

set_option maxHeartbeats 4000000 in
set_option maxRecDepth 100000 in
theorem pairsOf_any (l : List Pair) (hf : Fit l) (a : Option Addr) (n cap : Nat) (w : World) (hr : Row w a n cap (WalkMix.cells (pairsB l))) :
    Calls Tryz.prog 42 #[.slice a n cap] w fun e w' => ∃ v, e = .returned v ∧ w'.ownsRow w.heap.size 31 3 v l.length (PairRows.cells l) ∧ Below w.heap.size w w' := by
  obtain ⟨i0, hi, hz0, hz1, hz2⟩ := info_parts WalkTabTake.infoP
  have H0 : Hid (Reads w l (.slice a n cap) (.slice none 0 0) w) := ⟨0, a, n, cap, Nat.zero_le _, rfl, hr, World.ownsRow_nil _ _ _ _, Below.refl _ _⟩
  have HF : Hid (Fit l) := hf
  have a26 := aggP
  have z26 := sizeP
  clear hr hf
  go_enter Tryz.func42, Tryz.ntmps42
  go_upto_region 2 with fail
  go_loopw [0, 3, 4, 5] (fun s v _ _ wr => Hid (Reads w l s v wr)) (fun s _ _ _ _ => lenV s)
  case atStart => exact H0
  case round =>
    obtain ⟨k, a1, n1, cap1, hk, rfl, hr1, ho1, hb1⟩ := hrel.out
    clear hrel H0
    have hn1 : (pairsB (l.drop k)).length = n1 := by have := hr1.1; rwa [WalkMix.cells, List.length_map] at this
    by_cases hlt : k < l.length
    · have hdr : l.drop k = l[k] :: l.drop (k + 1) := List.drop_eq_getElem_cons hlt
      have htk : l.take (k + 1) = l.take k ++ [l[k]] := List.take_succ_eq_append_getElem hlt
      have hok := HF.out.2 l[k] (List.getElem_mem hlt)
      have HK : Hid (k + 1 ≤ l.length) := hlt
      have hk20 : k < 20 := by have := HF.out.1; omega
      generalize l[k] = p at hdr htk hok
      rw [hdr, pairsB] at hr1 hn1
      have HRd : Hid (Row w a1 n1 cap1 (WalkMix.cells (pairB p ++ pairsB (l.drop (k + 1))))) := hr1
      obtain ⟨x, y, z⟩ := p
      have hx2 := (WalBytes.key_le hok).2
      have hy2 := hok.2.1
      have hx1 := (WalBytes.key_le hok).1
      simp only at hx1 hx2 hy2
      rw [List.length_append, WalBytes.pairB_length] at hn1
      simp only at hn1
      obtain ⟨b, off, rfl, hc⟩ := hr1.2.2 (by omega)
      have hcap := hr1.2.1
      obtain ⟨zb, hzb⟩ : ∃ zb : Int, (zb == 1) = z ∧ ((Tabs.mark z).toNat : Int) = zb := ⟨((Tabs.mark z).toNat : Int), by cases z <;> rfl, rfl⟩
      have C0 : Hid (w.cell? ⟨b, off, none⟩ = some (.int .u8 zb)) := by show _ = _; rw [← hzb.2]; exact hc 0 _ rfl
      have c1 : wr.cell? ⟨b, off + 1, none⟩ = some (.int .u8 (x.size : Int)) := Lists.cell_below hb1 <| by
        have h1 := hc 1 _ rfl
        have h2 := u8_of x.size hx2
        simp only [WalkMix.cells, List.map_cons, List.map_nil, List.cons.injEq, and_true] at h2
        exact h1.trans (congrArg some h2)
      have c2 : wr.cell? ⟨b, off + 2, none⟩ = some (.int .u8 (y.size : Int)) := Lists.cell_below hb1 <| by
        have h1 := hc 2 _ rfl
        have h2 := u8_of y.size hy2
        simp only [WalkMix.cells, List.map_cons, List.map_nil, List.cons.injEq, and_true] at h2
        exact h1.trans (congrArg some h2)
      have hq := hzb.1
      obtain ⟨V, hV⟩ : ∃ V : Nat, V = 3 + x.size := ⟨_, rfl⟩
      obtain ⟨E, hE⟩ : ∃ E : Nat, E = V + y.size := ⟨_, rfl⟩
      have i0' : (0 : Int) < (n1 : Int) := by omega
      have i1 : (1 : Int) < (n1 : Int) := by omega
      have i2 : (2 : Int) < (n1 : Int) := by omega
      have i3 : (3 : Int) ≤ (V : Int) := by omega
      have i4 : (V : Int) ≤ (E : Int) := by omega
      have i5 : (E : Int) ≤ (n1 : Int) := by omega
      have i6 : (V : Int) ≤ (n1 : Int) := by omega
      have ix : (x.size : Int) ≤ 200 := by omega
      have iy : (y.size : Int) ≤ 200 := by omega
      have e1 : (3 : Int) + (x.size : Int) = (V : Int) := by omega
      have e2 : (V : Int) + (y.size : Int) = (E : Int) := by omega
      have E1 : Hid ((3 : Int) + (x.size : Int) = (V : Int)) := e1
      have E2 : Hid ((V : Int) + (y.size : Int) = (E : Int)) := e2
      have t0 : decide (0 < n1) = true := decide_eq_true (by omega)
      have I : Hid ((3 : Int) ≤ (V : Int) ∧ (V : Int) ≤ (E : Int) ∧ (E : Int) ≤ (n1 : Int) ∧ (V : Int) ≤ (n1 : Int)) := ⟨i3, i4, i5, i6⟩
      have iV : (V : Int) ≤ 300 := by omega
      clear e1 e2 i3 i4 i5 i6
      have hV3 : 3 < cap1 := by omega
      have hVc : V ≤ cap1 := by omega
      have hEc : E ≤ cap1 := by omega
      have d3 : ¬ cap1 = 3 := by omega
      have HC : Hid (3 < cap1 ∧ V ≤ cap1 ∧ E ≤ cap1) := ⟨hV3, hVc, hEc⟩
      have HN1 : Hid (n1 = 3 + x.size + y.size + (pairsB (l.drop (k + 1))).length ∧ V = 3 + x.size ∧ E = V + y.size) := ⟨hn1.symm, hV, hE⟩
      clear hV3 hVc hEc d3 hV hE hn1 hr1 hc hcap hdr hlt hzb hk hok hx1 hx2 hy2
      go_upto_region 4 with fail
      rw [E1.out]
      go_upto_region 5 with fail
      rw [E2.out]
      obtain ⟨i3, i4, i5, i6⟩ := I.out
      have j1 : (V : Int) ≤ (cap1 : Int) := by have := HC.out; omega
      have j2 : (E : Int) ≤ (cap1 : Int) := by have := HC.out; omega
      have d3 : ¬ cap1 = 3 := by have := HC.out; omega
      have n0 : 0 < n1 := by omega
      have HO1 : Hid (wr.ownsRow w.heap.size 31 3 u3 k (PairRows.cells (l.take k))) := ho1
      have HB1 : Hid (Below w.heap.size w wr) := hb1
      clear ho1 hb1
      have HTk : Hid (l.take (k + 1) = l.take k ++ [⟨x, y, z⟩]) := htk
      clear htk
      by_cases dV : cap1 = V
      · obtain rfl : y = ⟨#[]⟩ := WalkTabOne.empty_is (by have h := HN1.out; have h2 := HC.out; omega)
        obtain rfl : V = n1 := by have h := HN1.out; have h2 := HRd.out.2.1; omega
        obtain rfl : E = V := by have h := HN1.out; have h2 := HC.out; omega
        subst dV
        have HS : Hid (∀ w', Below w.heap.size w w' → w'.cell? ⟨b, off, none⟩ = some (.int .u8 zb) ∧ (∀ c, (convert 53 9 (.slice (some ⟨b, off + 3, none⟩) (cap1 - 3) c)).run Tryz.prog w' = .ok (.string x) w') ∧ ∀ c, (convert 53 9 (.slice (some ⟨b, off, none⟩) 0 c)).run Tryz.prog w' = .ok (.string ⟨#[]⟩) w') := fun w' b' => ⟨Lists.cell_below b' C0.out, fun c => conv_at (HRd.out.below b') 3 (cap1 - 3) x (by have h := HN1.out; rw [show cap1 - 3 = x.size by omega]; exact key_part x ⟨#[]⟩ z _) (by have h := HN1.out; omega) c, fun c => conv_none w' ⟨b, off, none⟩ c⟩
        obtain ⟨q0, q1, q2⟩ := HS.out wr.drew HB1.out.drew
        go_region_held3 (fun w' => w'.cell? ⟨b, off, none⟩ = some (.int .u8 zb) ∧ (∀ c, (convert 53 9 (.slice (some ⟨b, off + 3, none⟩) (cap1 - 3) c)).run Tryz.prog w' = .ok (.string x) w') ∧ ∀ c, (convert 53 9 (.slice (some ⟨b, off, none⟩) 0 c)).run Tryz.prog w' = .ok (.string ⟨#[]⟩) w') (first | exact ⟨q0, q1, q2⟩ | exact HS.out _ (HB1.out.drew.alloc HB1.out.size _)) (first | (refine step_append_own rfl (.tmp 20) (.tmp 35) 32 rfl w.heap.size 31 i0 (.agg #[.string ⟨#[]⟩, .string ⟨#[]⟩, .bool false]) 3 40 Tryz.underlying32 hi hz0 hz1 hz2 rfl (by decide) _ _ _ rfl (HO1.out.drew.alloc _) ⟨wr.heap.size, 0, none⟩ 1 1 [.string x, .string ⟨#[]⟩, .bool z] rfl rfl (cell_three_new _ _ _ _ _) (fun u hu => by simp at hu; rcases hu with rfl | rfl | rfl <;> rfl) (by unfold maxLen; omega) (by omega) (by have := HB1.out.size; simp; omega) ?_; intro v1 wn o1 g1; have HB2 : Hid (Below w.heap.size w wn) := (HB1.out.drew.alloc HB1.out.size _).grown g1 (by have := HB1.out.size; simp; omega) (fun j hj => (HO1.out.lt j hj).1); have HO2 : Hid (wn.ownsRow w.heap.size 31 3 v1 (k + 1) (PairRows.cells (l.take (k + 1)))) := (by show World.ownsRow _ _ _ _ _ _ _; rw [HTk.out, PairRows.cells_append]; exact o1); obtain ⟨q0, q1, q2⟩ := HS.out wn HB2.out; clear o1 g1))
        obtain ⟨_, heq⟩ := reads_next HRd.out HK.out (E := cap1) (by have h := HN1.out; omega) (Nat.le_refl _) HO2.out HB2.out
        have HX : Hid (Reads w l (.slice (some ⟨b, off, none⟩) 0 0) v1 wn) := heq rfl
        clear q0 q1 q2 HO1 HB1 HO2 HB2 HS C0 c1 c2 heq
        go_wp2_with fail
        go_roundw
        case rel => exact HX
        case measure => simpa [lenV] using n0
      · skip
        have HS : Hid (∀ w', Below w.heap.size w w' → w'.cell? ⟨b, off, none⟩ = some (.int .u8 zb) ∧ (∀ c, (convert 53 9 (.slice (some ⟨b, off + 3, none⟩) (V - 3) c)).run Tryz.prog w' = .ok (.string x) w') ∧ ∀ c, (convert 53 9 (.slice (some ⟨b, off + V, none⟩) (E - V) c)).run Tryz.prog w' = .ok (.string y) w') := fun w' b' => ⟨Lists.cell_below b' C0.out, fun c => conv_at (HRd.out.below b') 3 (V - 3) x (by have h := HN1.out; rw [show V - 3 = x.size by omega]; exact key_part x y z _) (by have h := HN1.out; omega) c, fun c => conv_at (HRd.out.below b') V (E - V) y (by have h := HN1.out; rw [show E - V = y.size by omega, h.2.1]; exact val_part x y z _) (by have h := HN1.out; omega) c⟩
        obtain ⟨q0, q1, q2⟩ := HS.out wr.drew HB1.out.drew
        go_region_held3 (fun w' => w'.cell? ⟨b, off, none⟩ = some (.int .u8 zb) ∧ (∀ c, (convert 53 9 (.slice (some ⟨b, off + 3, none⟩) (V - 3) c)).run Tryz.prog w' = .ok (.string x) w') ∧ ∀ c, (convert 53 9 (.slice (some ⟨b, off + V, none⟩) (E - V) c)).run Tryz.prog w' = .ok (.string y) w') (first | exact ⟨q0, q1, q2⟩ | exact HS.out _ (HB1.out.drew.alloc HB1.out.size _)) (first | (refine step_append_own rfl (.tmp 20) (.tmp 35) 32 rfl w.heap.size 31 i0 (.agg #[.string ⟨#[]⟩, .string ⟨#[]⟩, .bool false]) 3 40 Tryz.underlying32 hi hz0 hz1 hz2 rfl (by decide) _ _ _ rfl (HO1.out.drew.alloc _) ⟨wr.heap.size, 0, none⟩ 1 1 [.string x, .string y, .bool z] rfl rfl (cell_three_new _ _ _ _ _) (fun u hu => by simp at hu; rcases hu with rfl | rfl | rfl <;> rfl) (by unfold maxLen; omega) (by omega) (by have := HB1.out.size; simp; omega) ?_; intro v1 wn o1 g1; have HB2 : Hid (Below w.heap.size w wn) := (HB1.out.drew.alloc HB1.out.size _).grown g1 (by have := HB1.out.size; simp; omega) (fun j hj => (HO1.out.lt j hj).1); have HO2 : Hid (wn.ownsRow w.heap.size 31 3 v1 (k + 1) (PairRows.cells (l.take (k + 1)))) := (by show World.ownsRow _ _ _ _ _ _ _; rw [HTk.out, PairRows.cells_append]; exact o1); obtain ⟨q0, q1, q2⟩ := HS.out wn HB2.out; clear o1 g1))
        obtain ⟨hne, heq⟩ := reads_next (E := E) HRd.out HK.out (by have h := HN1.out; omega) (by have h := HN1.out; omega) HO2.out HB2.out
        clear q0 q1 q2 HO1 HB1 HO2 HB2 HS C0 c1 c2
        by_cases dE : cap1 = E
        · have HX : Hid (Reads w l (.slice (some ⟨b, off, none⟩) 0 0) v1 wn) := heq dE
          have hs0 : n1 - E = 0 := by have h := HRd.out.2.1; omega
          have hm : 0 < n1 := n0
          clear hne heq
          subst dE
          go_wp2_with fail
          go_roundw
          case rel => exact HX
          case measure => simpa [lenV] using hm
        · have HX : Hid (Reads w l (.slice (some ⟨b, off + E, none⟩) (n1 - E) (cap1 - E)) v1 wn) := hne dE
          have hm : n1 - E < n1 := by have h := HN1.out; omega
          clear hne heq
          go_wp2_with fail
          go_roundw
          case rel => exact HX
          case measure => simpa [lenV] using hm
    · obtain rfl : k = l.length := by omega
      have HE : Hid (wr.ownsRow w.heap.size 31 3 u3 l.length (PairRows.cells l)) := by have h := ho1; rw [List.take_length] at h; exact h
      have hz : n1 = 0 := by rw [← hn1, List.drop_length]; rfl
      subst hz
      clear hn1 hr1 ho1
      have HB : Hid (Below w.heap.size w wr) := hb1
      go_wp2_with fail
      go_ret
      exact ⟨_, rfl, HE.out, HB.out⟩

end Go.Proofs.YtofaegcljcpceagGreatDoor.WalkWa

/-
  What package wal makes of its bytes again: the Lsm of the whole records, and where these end.
-/
namespace Go.Proofs.YtofaegcljcpceagGreatDoor.WalkWa
open Go.RowKit
open Lists (bt Row)
open Keeps (Kept owns_kept)
open Wides (Wide)
open Stores (Pair)
open Lsms (Lsm)
open WalkLs (Ls)
open Wals (puts)
open Errs (errv errv0 errv_pos)
open WalBytes (pairB pairsB recB Fit Part flat stateOf)

/-- an Lsm of the call's own, and nothing old that has turned -/
def Mine (w : World) (B b : Nat) (y : Lsm) (w' : World) : Prop := (∃ F, Ls w' B b F y ∧ ∀ k, F k → w.heap.size ≤ k) ∧ Below w.heap.size w w'
theorem Mine.then {w w1 w2 : World} {B b : Nat} {y : Lsm} (h : Mine w B b y w1) (k : Below w1.heap.size w1 w2) : Mine w B b y w2 := by
  obtain ⟨⟨F, h1, h2⟩, h3⟩ := h
  exact ⟨⟨F, ls_below h1 k, h2⟩, bt h3 k⟩
theorem Mine.goes {w w1 w2 : World} {B b : Nat} {F : Nat → Prop} {z : Lsm} (hF : ∀ k, F k → w.heap.size ≤ k) (hb : Below w.heap.size w w1) (h : Goes w1 B b F z w2) : Mine w B b z w2 := by
  obtain ⟨⟨F2, l2, n2⟩, k2⟩ := h
  refine ⟨⟨F2, l2, fun k hk => ?_⟩, hb.trans (k2.below hF hb.size)⟩
  rcases n2 k hk with q | q
  · exact hF k q
  · exact Nat.le_trans hb.size q

theorem flat_parts (bs : List (List Pair)) (q : List UInt8) (k : Nat) : flat bs ++ q = flat (bs.take k) ++ (flat (bs.drop k) ++ q) := by
  rw [← List.append_assoc, ← WalBytes.flat_append, List.take_append_drop]
theorem row_from {w : World} {g off n cap : Nat} {L R : List UInt8} (h : Row w (some ⟨g, off, none⟩) n cap (WalkMix.cells (L ++ R))) {W : Nat} (hW : L.length = W) : Row w (some ⟨g, off + W, none⟩) (n - W) (cap - W) (WalkMix.cells R) := by
  have hn : (L ++ R).length = n := by have := h.1; rwa [WalkMix.cells, List.length_map] at this
  rw [List.length_append] at hn
  have h1 := h.drop W (by omega)
  rwa [WalkMix.cells_append, List.drop_left' (by rw [WalkMix.cells, List.length_map, hW])] at h1
/-- the pairs of a record, put -/
theorem put_rec {w w1 w2 : World} {B b : Nat} {y : Lsm} {l : List Pair} {v : Value} (h : Mine w B b y w1) (b2 : Below w1.heap.size w1 w2) (ho : w2.ownsRow w1.heap.size 31 3 v l.length (PairRows.cells l)) (hf : Fit l) (hs : y.size + 20 ≤ 10000) :
    Calls Tryz.prog 24 #[.pointer (some ⟨b, 0, none⟩), v] w2 fun e w' => e = .returned (errv (puts y l).2) ∧ Mine w B b (puts y l).1 w' := by
  obtain ⟨⟨F, h1, h2⟩, h3⟩ := h
  obtain ⟨a, c, rfl, hw⟩ := Wides.owns_wide ho
  have hl := hf.1
  refine (putAll_any (ls_below h1 b2) l (by omega) a l.length c hw (fun e he => ?_) (fun e he => (hf.2 e he).2.2) (fun p _ hp hF => ?_)).mono ?_
  · have q1 := (WalBytes.key_le (hf.2 e he)).2
    have q2 := (hf.2 e he).2.1
    unfold maxLen
    omega
  · have q1 := (h1.foot _ hF).2
    have q2 := Wides.owns_fresh ho p hp
    omega
  · rintro e w' ⟨rfl, h4⟩
    exact ⟨rfl, Mine.goes h2 (bt h3 b2) h4⟩

set_option maxHeartbeats 4000000 in
set_option maxRecDepth 100000 in
theorem replay_some (limit : Nat) (h1 : 1 ≤ limit) (h2 : limit ≤ 60) (bs : List (List Pair)) (q : List UInt8) (hf : ∀ l ∈ bs, Fit l) (hq : Part q) (hl : bs.length ≤ 400) (g off n cap : Nat) (w : World) (B : Nat) (hB : B ≤ w.heap.size) (hr : Row w (some ⟨g, off, none⟩) n cap (WalkMix.cells (flat bs ++ q))) :
    Calls Tryz.prog 25 #[.int .i64 (limit : Int), .slice (some ⟨g, off, none⟩) n cap] w fun e w' => ∃ b, e = .returned (.tuple #[.pointer (some ⟨b, 0, none⟩), .int .i64 ((flat bs).length : Nat)]) ∧ Mine w B b (stateOf limit bs) w' := by
  have hn : (flat bs ++ q).length = n := by have := hr.1; rwa [WalkMix.cells, List.length_map] at this
  have hle := WalBytes.flat_le bs hf
  have hpl := WalBytes.part_le hq
  rw [List.length_append] at hn
  have hn8 : n ≤ 4000000 := by omega
  have hcap := hr.2.1
  have cN := WalkLs.new_any (limit : Int) w B hB
  have hE0 : Lsms.newE (limit : Int) = 0 := if_neg (by omega)
  have HR : Hid (Row w (some ⟨g, off, none⟩) n cap (WalkMix.cells (flat bs ++ q))) := hr
  have HQ : Hid (Part q) := hq
  have HF : Hid (∀ l ∈ bs, Fit l) := hf
  have HLm : Hid (1 ≤ limit ∧ limit ≤ 60 ∧ bs.length ≤ 400) := ⟨h1, h2, hl⟩
  have HN : Hid ((flat bs).length + q.length = n) := hn
  have HE0 : Hid (Lsms.newE (limit : Int) = 0) := hE0
  clear hr hq hf hle hpl hn h1 h2 hl hE0
  go_enter Tryz.func25, Tryz.ntmps25
  go_wp2_with fail
  refine cN.mono ?_
  rintro e w1 ⟨v, rfl, hv, b1⟩
  obtain ⟨b, F, rfl, hL, hF⟩ := hv HE0.out
  rw [HE0.out, errv0]
  have HM : Hid (Mine w B b (stateOf limit []) w1) := ⟨⟨F, by rw [show (limit : Int).toNat = limit from rfl] at hL; exact hL, hF⟩, b1⟩
  clear cN hv hL hF b1
  go_upto_region 2 with fail
  go_loopw [4, 5, 6, 7] (fun bv wv _ _ wr => ∃ k : Nat, k ≤ bs.length ∧ bv = .pointer (some ⟨b, 0, none⟩) ∧ wv = .int .i64 ((flat (bs.take k)).length : Nat) ∧ Hid (Mine w B b (stateOf limit (bs.take k)) wr)) (fun _ wv _ _ _ => n - (intOf wv).toNat)
  case atStart => exact ⟨0, Nat.zero_le _, rfl, rfl, HM⟩
  case round =>
    obtain ⟨k, hk, rfl, rfl, HP⟩ := hrel
    clear HM
    have hpt := flat_parts bs q k
    have hrw := HR.out.below HP.out.2
    rw [hpt] at hrw
    generalize hW : (flat (bs.take k)).length = W at *
    have HW : Hid ((flat (bs.take k)).length = W) := hW
    have hWn : W + (flat (bs.drop k) ++ q).length = n := by
      rw [← hW, ← List.length_append, ← hpt, List.length_append]
      exact HN.out
    by_cases hlt : k < bs.length
    · have hdr : bs.drop k = bs[k] :: bs.drop (k + 1) := List.drop_eq_getElem_cons hlt
      have htk : bs.take (k + 1) = bs.take k ++ [bs[k]] := List.take_succ_eq_append_getElem hlt
      have hfl := HF.out bs[k] (List.getElem_mem hlt)
      generalize bs[k] = l at hdr htk hfl
      rw [hdr, flat, List.append_assoc] at hrw hWn
      rw [List.length_append] at hWn
      have hrow := row_from hrw hW
      have cE := end_yes hfl _ _ _ _ wr hrow
      have hRn := WalBytes.recB_length l
      have hPl := WalBytes.fit_le hfl
      generalize hNl : (recB l).length = N at *
      obtain ⟨W2, hW2⟩ : ∃ W2 : Nat, W2 = W + 2 := ⟨_, rfl⟩
      obtain ⟨WN, hWN⟩ : ∃ WN : Nat, WN = W + N := ⟨_, rfl⟩
      have i1 : (W : Int) ≤ (n : Int) := by omega
      have i2 : (W : Int) ≤ (cap : Int) := by omega
      have i3 : (0 : Int) ≤ (W : Int) := by omega
      have d1 : ¬ cap = W := by omega
      have HA : Hid (W + N ≤ n ∧ 2 ≤ N ∧ N = 2 + (pairsB l).length ∧ W2 = W + 2 ∧ WN = W + N ∧ n ≤ cap) := by refine ⟨by omega, by omega, hRn, hW2, hWN, hcap⟩
      have HRow : Hid (Row w (some ⟨g, off, none⟩) n cap (WalkMix.cells (flat (bs.take k) ++ (recB l ++ (flat (bs.drop (k + 1)) ++ q))))) := by
        have h := HR.out
        rw [hpt, hdr, flat, List.append_assoc] at h
        exact h
      have HNx : Hid ((flat (bs.take (k + 1))).length = WN ∧ stateOf limit (bs.take (k + 1)) = (puts (stateOf limit (bs.take k)) l).1) := ⟨by rw [htk, WalBytes.flat_snoc, List.length_append, hW, hNl, hWN], by rw [htk, WalBytes.state_snoc]⟩
      have HFl : Hid (Fit l) := hfl
      have HSz : Hid ((stateOf limit (bs.take k)).size + 20 ≤ 10000) := by
        show _ ≤ _
        have hfi := (WalBytes.state_fine HLm.out.1 HLm.out.2.1 (bs.take k) fun m hm => HF.out m (List.mem_of_mem_take hm)).size
        have h400 := HLm.out.2.2
        rw [List.length_take] at hfi
        omega
      have HK : Hid (k + 1 ≤ bs.length) := hlt
      clear hrw hrow hpt hdr htk hfl hRn hPl hNl hWn hW hlt hk hcap hW2 hWN
      go_wp2_with fail
      refine cE.mono ?_
      rintro e w2 ⟨rfl, b2⟩
      have HP2 : Hid (Mine w B b (stateOf limit (bs.take k)) w2) := HP.out.then b2
      clear cE b2 HP
      go_upto_region 5 with fail
      have e1 : (W : Int) + 2 = (W2 : Int) := by have := HA.out; omega
      have e2 : (W : Int) + (N : Int) = (WN : Int) := by have := HA.out; omega
      have w1 : IntKind.i64.wrap (W2 : Int) = (W2 : Int) := by have := HA.out; rw [IntKind.wrap_i64]; omega
      have w2' : IntKind.i64.wrap (WN : Int) = (WN : Int) := by have := HA.out; rw [IntKind.wrap_i64]; omega
      have j1 : (W2 : Int) ≤ (WN : Int) := by have := HA.out; omega
      have j2 : (WN : Int) ≤ (n : Int) := by have := HA.out; omega
      have j3 : (W2 : Int) ≤ (n : Int) := by have := HA.out; omega
      have j4 : (WN : Int) ≤ (cap : Int) := by have := HA.out; omega
      have j5 : (0 : Int) ≤ (W2 : Int) := by omega
      by_cases d2 : cap = W2
      · obtain rfl : WN = W2 := by have := HA.out; omega
        subst d2
        have cP := pairsOf_any l HFl.out (some ⟨g, off, none⟩) 0 0 w2 (by
          rw [List.eq_nil_of_length_eq_zero (show (pairsB l).length = 0 by have := HA.out; omega)]
          exact Row.nil _ _ _)
        go_wp2_with fail
        refine cP.mono ?_
        rintro e w3 ⟨v3, rfl, o3, b3⟩
        have HPut := put_rec HP2.out b3 o3 HFl.out HSz.out
        have HD : Hid (k + 1 ≤ bs.length ∧ cap ≤ n ∧ W < cap) := ⟨HK.out, by have := HA.out; omega, by have := HA.out; omega⟩
        clear cP o3 b3 HP2 HA HFl HSz HRow
        generalize errv (puts (stateOf limit (bs.take k)) l).2 = V at HPut
        go_wp2_with fail
        refine HPut.mono ?_
        rintro e w4 ⟨rfl, h4⟩
        have HP4 : Hid (Mine w B b (stateOf limit (bs.take (k + 1))) w4) := by show Mine _ _ _ _ _; rw [HNx.out.2]; exact h4
        clear HPut h4
        go_wp2_with fail
        go_roundw
        case rel => exact ⟨k + 1, HD.out.1, rfl, by rw [HNx.out.1], HP4⟩
        case measure => have := HD.out; simp [intOf]; omega
      · have cP := pairsOf_any l HFl.out (some ⟨g, off + W2, none⟩) (WN - W2) (cap - W2) w2 (by
          have h := HRow.out.below HP2.out.2
          rw [← List.append_assoc, ← List.append_assoc] at h
          have hq2 : recB l = [UInt8.ofNat ((pairsB l).length / 256), UInt8.ofNat ((pairsB l).length % 256)] ++ pairsB l := rfl
          have h2 := h.drop W2 (by have := HA.out; omega)
          have e3 : (WalkMix.cells (flat (bs.take k) ++ recB l ++ flat (bs.drop (k + 1)) ++ q)).drop W2 = WalkMix.cells (pairsB l) ++ WalkMix.cells (flat (bs.drop (k + 1)) ++ q) := by
            rw [hq2, show flat (bs.take k) ++ ([UInt8.ofNat ((pairsB l).length / 256), UInt8.ofNat ((pairsB l).length % 256)] ++ pairsB l) ++ flat (bs.drop (k + 1)) ++ q = (flat (bs.take k) ++ [UInt8.ofNat ((pairsB l).length / 256), UInt8.ofNat ((pairsB l).length % 256)]) ++ (pairsB l ++ (flat (bs.drop (k + 1)) ++ q)) by simp, WalkMix.cells_append]
            rw [List.drop_left' (by rw [WalkMix.cells, List.length_map, List.length_append, HW.out]; have := HA.out; simp; omega), WalkMix.cells_append]
          rw [e3] at h2
          have h3 := h2.take (WN - W2) (by have := HA.out; omega)
          rwa [List.take_left' (by rw [WalkMix.cells, List.length_map]; have := HA.out; omega)] at h3)
        go_wp2_with fail
        refine cP.mono ?_
        rintro e w3 ⟨v3, rfl, o3, b3⟩
        have HPut := put_rec HP2.out b3 o3 HFl.out HSz.out
        have HD : Hid (k + 1 ≤ bs.length ∧ WN ≤ n ∧ W < WN) := ⟨HK.out, by have := HA.out; omega, by have := HA.out; omega⟩
        clear cP o3 b3 HP2 HA HFl HSz HRow
        generalize errv (puts (stateOf limit (bs.take k)) l).2 = V at HPut
        go_wp2_with fail
        refine HPut.mono ?_
        rintro e w4 ⟨rfl, h4⟩
        have HP4 : Hid (Mine w B b (stateOf limit (bs.take (k + 1))) w4) := by show Mine _ _ _ _ _; rw [HNx.out.2]; exact h4
        clear HPut h4
        go_wp2_with fail
        go_roundw
        case rel => exact ⟨k + 1, HD.out.1, rfl, by rw [HNx.out.1], HP4⟩
        case measure => have := HD.out; simp [intOf]; omega
    · obtain rfl : k = bs.length := by omega
      rw [List.drop_length, flat, List.nil_append] at hrw hWn
      have HV : Hid (Mine w B b (stateOf limit bs) wr ∧ (flat bs).length = W) := by
        have h := HP.out
        rw [List.take_length] at h hW
        exact ⟨h, hW⟩
      have hrow := row_from hrw hW
      have i1 : (W : Int) ≤ (n : Int) := by omega
      have i2 : (W : Int) ≤ (cap : Int) := by omega
      have i3 : (0 : Int) ≤ (W : Int) := by omega
      by_cases d1 : cap = W
      · have cE := end_short (some ⟨g, off, none⟩) 0 0 wr (by decide)
        obtain rfl : n = W := by omega
        subst d1
        clear hrw hrow hpt hW HW hWn HP
        go_wp2_with fail
        refine cE.mono ?_
        rintro e w2 ⟨rfl, b2⟩
        have HE : Hid (Mine w B b (stateOf limit bs) w2) := HV.out.1.then b2
        clear cE b2
        go_wp2_with fail
        go_ret2
        exact ⟨b, by rw [HV.out.2]; rfl, HE.out⟩
      · have cE := end_no HQ.out _ _ _ wr hrow
        clear hrw hrow hpt hW HW hWn HP
        go_wp2_with fail
        refine cE.mono ?_
        rintro e w2 ⟨⟨kv, rfl⟩, b2⟩
        have HE : Hid (Mine w B b (stateOf limit bs) w2) := HV.out.1.then b2
        clear cE b2
        go_wp2_with fail
        go_ret2
        exact ⟨b, by rw [HV.out.2]; rfl, HE.out⟩
/-- of nothing -/
theorem replay_none (limit : Nat) (h1 : 1 ≤ limit) (h2 : limit ≤ 60) (w : World) (B : Nat) (hB : B ≤ w.heap.size) :
    Calls Tryz.prog 25 #[.int .i64 (limit : Int), .slice none 0 0] w fun e w' => ∃ b, e = .returned (.tuple #[.pointer (some ⟨b, 0, none⟩), .int .i64 0]) ∧ Mine w B b (stateOf limit []) w' := by
  have cN := WalkLs.new_any (limit : Int) w B hB
  have hE0 : Lsms.newE (limit : Int) = 0 := if_neg (by omega)
  have HE0 : Hid (Lsms.newE (limit : Int) = 0) := hE0
  clear hE0 h1 h2
  go_enter Tryz.func25, Tryz.ntmps25
  go_wp2_with fail
  refine cN.mono ?_
  rintro e w1 ⟨v, rfl, hv, b1⟩
  obtain ⟨b, F, rfl, hL, hF⟩ := hv HE0.out
  rw [HE0.out, errv0]
  have HM : Hid (Mine w B b (stateOf limit []) w1) := ⟨⟨F, by rw [show (limit : Int).toNat = limit from rfl] at hL; exact hL, hF⟩, b1⟩
  have cE := end_short none 0 0
  clear cN hv hL hF b1
  go_upto_region 2 with fail
  go_loopw [4, 5, 6, 7] (fun bv wv _ _ wr => bv = .pointer (some ⟨b, 0, none⟩) ∧ wv = .int .i64 0 ∧ Hid (Mine w B b (stateOf limit []) wr)) (fun _ _ _ _ _ => 0)
  case atStart => exact ⟨rfl, rfl, HM⟩
  case round =>
    obtain ⟨rfl, rfl, HP⟩ := hrel
    clear HM
    go_wp2_with fail
    refine (cE wr (by decide)).mono ?_
    rintro e w2 ⟨rfl, b2⟩
    have HE : Hid (Mine w B b (stateOf limit []) w2) := HP.out.then b2
    clear cE b2
    go_wp2_with fail
    go_ret2
    exact ⟨b, rfl, HE.out⟩

end Go.Proofs.YtofaegcljcpceagGreatDoor.WalkWa

/-
  A Wal of the program as an object: its Lsm, its bytes, how many are safe, when it stops; New, Fail, Sync, Lsm, Bytes, Safe.
-/
namespace Go.Proofs.YtofaegcljcpceagGreatDoor.WalkWa
open Go.RowKit
open Lists (bt Row)
open Keeps (Kept owns_kept owns_base)
open Wides (Wide)
open Stores (Pair)
open Lsms (Lsm)
open WalkLs (Ls ptr)
open Wals
open Errs (errv errv0 errv_pos)
open WalBytes (pairB pairsB recB Fit Part flat stateOf Holds)

def fieldsW (limit : Nat) (lv logv : Value) (safe : Nat) (left : Int) (st : Bool) (j : Nat) : Value :=
  if j = 0 then .int .i64 (limit : Int) else if j = 1 then lv else if j = 2 then logv else if j = 3 then .int .i64 (safe : Int) else if j = 4 then .int .i64 left else .bool st
/-- a Wal in block b: its Lsm y in block lb, its bytes L -/
structure Raw (w : World) (B b limit lb : Nat) (Lf : Nat → Prop) (y : Lsm) (logv : Value) (L : List UInt8) (safe : Nat) (left : Int) (st : Bool) : Prop where
  row : w.rowIs b 55 6 (fieldsW limit (ptr lb) logv safe left st)
  lsm : Ls w B lb Lf y
  log : w.ownsRow B 5 1 logv L.length (WalkMix.cells L)
  above : B ≤ b
  off : ¬ Lf b ∧ logv.ownBlock ≠ some b
  apart : ∀ k, Lf k → logv.ownBlock ≠ some k
def foot (b : Nat) (Lf : Nat → Prop) (logv : Value) (k : Nat) : Prop := k = b ∨ Lf k ∨ logv.ownBlock = some k
theorem Raw.foot {w : World} {B b limit lb : Nat} {Lf : Nat → Prop} {y : Lsm} {logv : Value} {L : List UInt8} {safe : Nat} {left : Int} {st : Bool} (h : Raw w B b limit lb Lf y logv L safe left st) : ∀ k, foot b Lf logv k → B ≤ k ∧ k < w.heap.size := by
  rintro k (rfl | hk | hk)
  · exact ⟨h.above, h.row.lt⟩
  · exact h.lsm.foot k hk
  · exact h.log.lt k hk
theorem Raw.kept {S : Nat → Prop} {w w' : World} {B b limit lb : Nat} {Lf : Nat → Prop} {y : Lsm} {logv : Value} {L : List UInt8} {safe : Nat} {left : Int} {st : Bool} (h : Raw w B b limit lb Lf y logv L safe left st) (k : Kept S w w') (hS : ∀ i, WalkWa.foot b Lf logv i → ¬ S i) : Raw w' B b limit lb Lf y logv L safe left st :=
  ⟨h.row.of_block (k.block b h.row.lt (hS b (.inl rfl))), h.lsm.kept k fun i hi => hS i (.inr (.inl hi)), owns_kept h.log k fun i hi => hS i (.inr (.inr hi)), h.above, h.off, h.apart⟩
theorem Raw.below {w w' : World} {B b limit lb : Nat} {Lf : Nat → Prop} {y : Lsm} {logv : Value} {L : List UInt8} {safe : Nat} {left : Int} {st : Bool} (h : Raw w B b limit lb Lf y logv L safe left st) (k : Below w.heap.size w w') : Raw w' B b limit lb Lf y logv L safe left st := h.kept (Kept.of_below (fun _ => False) k) fun _ _ q => q
/-- one of its own cells is written -/
theorem Raw.cell {w : World} {B b limit lb : Nat} {Lf : Nat → Prop} {y : Lsm} {logv : Value} {L : List UInt8} {safe : Nat} {left : Int} {st : Bool} (h : Raw w B b limit lb Lf y logv L safe left st) {j : Nat} {u : Value} {safe' : Nat} {left' : Int} {st' : Bool}
    (hr : (w.setCell ⟨b, j, none⟩ u).rowIs b 55 6 (fieldsW limit (ptr lb) logv safe' left' st')) : Raw (w.setCell ⟨b, j, none⟩ u) B b limit lb Lf y logv L safe' left' st' := by
  have k := WalkLs.kept_cell w b j u
  exact ⟨hr, h.lsm.kept k fun i hi e => h.off.1 (by rw [← e]; exact hi), owns_kept h.log k fun i hi e => h.off.2 (by rw [← e]; exact hi), h.above, h.off, h.apart⟩
theorem Raw.setSafe {w : World} {B b limit lb : Nat} {Lf : Nat → Prop} {y : Lsm} {logv : Value} {L : List UInt8} {safe : Nat} {left : Int} {st : Bool} (h : Raw w B b limit lb Lf y logv L safe left st) (n : Nat) : Raw (w.setCell ⟨b, 3, none⟩ (.int .i64 (n : Int))) B b limit lb Lf y logv L n left st :=
  h.cell ((h.row.set 3 _).congr fun j hj => by match j, hj with | 0, _ | 1, _ | 2, _ | 3, _ | 4, _ | 5, _ => rfl | j + 6, q => omega)
theorem Raw.setLeft {w : World} {B b limit lb : Nat} {Lf : Nat → Prop} {y : Lsm} {logv : Value} {L : List UInt8} {safe : Nat} {left : Int} {st : Bool} (h : Raw w B b limit lb Lf y logv L safe left st) (n : Int) : Raw (w.setCell ⟨b, 4, none⟩ (.int .i64 n)) B b limit lb Lf y logv L safe n st :=
  h.cell ((h.row.set 4 _).congr fun j hj => by match j, hj with | 0, _ | 1, _ | 2, _ | 3, _ | 4, _ | 5, _ => rfl | j + 6, q => omega)
theorem Raw.setStop {w : World} {B b limit lb : Nat} {Lf : Nat → Prop} {y : Lsm} {logv : Value} {L : List UInt8} {safe : Nat} {left : Int} {st : Bool} (h : Raw w B b limit lb Lf y logv L safe left st) (t : Bool) : Raw (w.setCell ⟨b, 5, none⟩ (.bool t)) B b limit lb Lf y logv L safe left t :=
  h.cell ((h.row.set 5 _).congr fun j hj => by match j, hj with | 0, _ | 1, _ | 2, _ | 3, _ | 4, _ | 5, _ => rfl | j + 6, q => omega)
/-- its bytes are others -/
theorem Raw.setLog {w w1 : World} {B b limit lb : Nat} {Lf : Nat → Prop} {y : Lsm} {logv : Value} {L : List UInt8} {safe : Nat} {left : Int} {st : Bool} (h : Raw w B b limit lb Lf y logv L safe left st) (k : Kept (fun i => logv.ownBlock = some i) w w1) {v : Value} {M : List UInt8}
    (ho : w1.ownsRow B 5 1 v M.length (WalkMix.cells M)) (hv : ∀ i, v.ownBlock = some i → logv.ownBlock = some i ∨ w.heap.size ≤ i) :
    Raw (w1.setCell ⟨b, 2, none⟩ v) B b limit lb Lf y v M safe left st := by
  have hb1 : w1.rowIs b 55 6 (fieldsW limit (ptr lb) logv safe left st) := h.row.of_block (k.block b h.row.lt h.off.2)
  have hl1 : Ls w1 B lb Lf y := h.lsm.kept k fun i hi e => h.apart i hi e
  have k2 := WalkLs.kept_cell w1 b 2 v
  have nb : v.ownBlock ≠ some b := fun e => by
    rcases hv b e with q | q
    · exact h.off.2 q
    · have := h.row.lt; omega
  refine ⟨(hb1.set 2 v).congr fun j hj => by match j, hj with | 0, _ | 1, _ | 2, _ | 3, _ | 4, _ | 5, _ => rfl | j + 6, q => omega, hl1.kept k2 fun i hi e => h.off.1 (by rw [← e]; exact hi), owns_kept ho k2 fun i hi e => nb (by rw [← e]; exact hi), h.above, ⟨h.off.1, nb⟩, fun i hi e => ?_⟩
  rcases hv i e with q | q
  · exact h.apart i hi q
  · have := (h.lsm.foot i hi).2; omega
/-- its Lsm goes on -/
theorem Raw.goes {w w1 : World} {B b limit lb : Nat} {Lf : Nat → Prop} {y z : Lsm} {logv : Value} {L : List UInt8} {safe : Nat} {left : Int} {st : Bool} (h : Raw w B b limit lb Lf y logv L safe left st) (g : Goes w B lb Lf z w1) :
    ∃ Lf', Raw w1 B b limit lb Lf' z logv L safe left st ∧ (∀ k, Lf' k → Lf k ∨ w.heap.size ≤ k) ∧ Kept Lf w w1 := by
  obtain ⟨⟨F2, l2, n2⟩, k2⟩ := g
  refine ⟨F2, ⟨h.row.of_block (k2.block b h.row.lt h.off.1), l2, owns_kept h.log k2 fun i hi e => h.apart i e hi, h.above, ⟨fun q => ?_, h.off.2⟩, fun i hi e => ?_⟩, n2, k2⟩
  · rcases n2 b q with r | r
    · exact h.off.1 r
    · have := h.row.lt; omega
  · rcases n2 i hi with r | r
    · exact h.apart i r e
    · have := (h.log.lt i e).2; omega

/-- the steps that are left -/
def Left (f : Option Nat) (left : Int) : Prop := left ≤ 9223372036854775807 ∧ ((f = none ∧ left < 0) ∨ ∃ n : Nat, f = some n ∧ left = (n : Int))
theorem left_zero {f : Option Nat} {left : Int} (h : Left f left) : (left == 0) = decide (f = some 0) := by
  rcases h.2 with ⟨rfl, h⟩ | ⟨n, rfl, rfl⟩
  · rw [beq_eq_false_iff_ne.2 (by omega)]; rfl
  · by_cases hn : n = 0
    · subst hn; rfl
    · rw [beq_eq_false_iff_ne.2 (by omega)]; simp [hn]
theorem left_fail (n : Int) (h : n ≤ 9223372036854775807) : Left (if n < 0 then none else some n.toNat) n := by
  refine ⟨h, ?_⟩
  by_cases hn : n < 0
  · rw [if_pos hn]; exact .inl ⟨rfl, hn⟩
  · rw [if_neg hn]; exact .inr ⟨_, rfl, by omega⟩

/-- block b holds a Wal; F are its blocks -/
def Wa (w : World) (B b : Nat) (F : Nat → Prop) (x : Wal) : Prop :=
  ∃ limit bs q lb Lf logv left, Raw w B b limit lb Lf x.cur logv (flat bs ++ q) x.safe left x.stopped ∧ Left x.fails left ∧ Holds x limit bs q ∧ ∀ k, F k ↔ foot b Lf logv k
theorem Wa.foot {w : World} {B b : Nat} {F : Nat → Prop} {x : Wal} (h : Wa w B b F x) : ∀ k, F k → B ≤ k ∧ k < w.heap.size := by
  obtain ⟨limit, bs, q, lb, Lf, logv, left, hr, _, _, hF⟩ := h
  exact fun k hk => hr.foot k ((hF k).1 hk)
theorem Wa.kept {S : Nat → Prop} {w w' : World} {B b : Nat} {F : Nat → Prop} {x : Wal} (h : Wa w B b F x) (k : Kept S w w') (hS : ∀ i, F i → ¬ S i) : Wa w' B b F x := by
  obtain ⟨limit, bs, q, lb, Lf, logv, left, hr, h2, h3, hF⟩ := h
  exact ⟨limit, bs, q, lb, Lf, logv, left, hr.kept k fun i hi => hS i ((hF i).2 hi), h2, h3, hF⟩
def Steps (w : World) (B b : Nat) (F : Nat → Prop) (y : Wal) (w' : World) : Prop := (∃ F', Wa w' B b F' y ∧ ∀ k, F' k → F k ∨ w.heap.size ≤ k) ∧ Kept F w w'
/-- the same blocks -/
theorem steps_same {w w' : World} {B b limit lb : Nat} {Lf : Nat → Prop} {logv : Value} {bs : List (List Pair)} {q : List UInt8} {left : Int} {F : Nat → Prop} {y : Wal} (hF : ∀ k, F k ↔ foot b Lf logv k) (hr : Raw w' B b limit lb Lf y.cur logv (flat bs ++ q) y.safe left y.stopped) (hl : Left y.fails left) (hh : Holds y limit bs q) (k : Kept F w w') : Steps w B b F y w' :=
  ⟨⟨F, ⟨limit, bs, q, lb, Lf, logv, left, hr, hl, hh, hF⟩, fun _ q => .inl q⟩, k⟩

/-! New -/
def NewsW (limit : Int) (B : Nat) (w : World) (e : Ending) (w' : World) : Prop := ∃ v, e = .returned (.tuple #[v, errv (Lsms.newE limit)]) ∧ (Lsms.newE limit = 0 → ∃ b F, v = .pointer (some ⟨b, 0, none⟩) ∧ Wa w' B b F (newW limit.toNat) ∧ ∀ k, F k → w.heap.size ≤ k) ∧ Below w.heap.size w w'
theorem new_any (limit : Int) (w : World) (B : Nat) (hB : B ≤ w.heap.size) : Calls Tryz.prog 4 #[.int .i64 limit] w fun e w' => NewsW limit B w e w' := by
  have cN := WalkLs.new_any limit w B hB
  by_cases hz : Lsms.newE limit = 0
  · have hlm : 1 ≤ limit ∧ limit ≤ 60 := by
      unfold Lsms.newE at hz
      split at hz
      · cases hz
      · omega
    obtain ⟨m, rfl⟩ := Int.eq_ofNat_of_zero_le (show 0 ≤ limit by omega)
    have HZ : Hid (Lsms.newE (m : Int) = 0) := hz
    have HM : Hid (1 ≤ m ∧ m ≤ 60) := by show _ ∧ _; omega
    have HBB : Hid (B ≤ w.heap.size) := hB
    clear hz hlm hB
    go_enter Tryz.func4, Tryz.ntmps4
    go_wp2_with fail
    refine cN.mono ?_
    rintro e w1 ⟨v, rfl, hv, b1⟩
    obtain ⟨lb, F, rfl, hL, hF⟩ := hv HZ.out
    rw [HZ.out, errv0]
    have HE : Hid (∀ o, o = Obj.cells #[.int .i64 (m : Int), ptr lb, .slice none 0 0, .int .i64 0, .int .i64 (-1), .bool false] 55 → NewsW (m : Int) B w (.returned (.tuple #[.pointer (some ⟨w1.heap.size, 0, none⟩), .nilIface])) (w1.alloc o)) := by
      rintro o rfl
      have b2 : Below w1.heap.size w1 (w1.alloc (Obj.cells #[.int .i64 (m : Int), ptr lb, .slice none 0 0, .int .i64 0, .int .i64 (-1), .bool false] 55)) := (Below.refl _ _).alloc (Nat.le_refl _) _
      have hs1 := b1.size
      refine ⟨_, by rw [HZ.out, errv0], fun _ => ⟨w1.heap.size, WalkWa.foot w1.heap.size F (.slice none 0 0), rfl, ⟨m, [], [], lb, F, .slice none 0 0, -1, ⟨World.rowIs_alloc _ _ _ _ fun i hi => ?_, ls_below hL b2, World.ownsRow_nil _ _ _ _, by have := HBB.out; omega, ⟨fun q => ?_, by simp [Value.ownBlock]⟩, fun k _ => by simp [Value.ownBlock]⟩, ⟨by decide, .inl ⟨rfl, by decide⟩⟩, WalBytes.holds_new HM.out.1 HM.out.2, fun k => Iff.rfl⟩, ?_⟩, bt b1 b2⟩
      · match i, hi with
        | 0, _ | 1, _ | 2, _ | 3, _ | 4, _ | 5, _ => rfl
        | i + 6, q => simp at q; omega
      · have := (hL.foot _ q).2
        omega
      · rintro k (rfl | q | q)
        · omega
        · exact hF k q
        · cases q
    clear cN hv hL hF b1
    unfold ptr at HE
    go_wp2_with fail
    go_ret2
    exact HE.out _ rfl
  · have he := errv_pos _ hz
    have HE : Hid (∀ v w', Below w.heap.size w w' → NewsW limit B w (.returned (.tuple #[v, errv (Lsms.newE limit)])) w') := fun v w' b => ⟨v, rfl, fun q => absurd q hz, b⟩
    have HC : Hid (Calls Tryz.prog 20 #[.int .i64 limit] w fun e w' => ∃ v, e = .returned (.tuple #[v, errv (Lsms.newE limit)]) ∧ Below w.heap.size w w') := cN.mono (by rintro e w' ⟨v, rfl, _, b⟩; exact ⟨v, rfl, b⟩)
    rw [he] at HE HC
    generalize Lsms.newE limit = E at HE HC
    clear cN hz he
    go_enter Tryz.func4, Tryz.ntmps4
    go_wp2_with fail
    refine HC.out.mono ?_
    rintro e w1 ⟨v, rfl, b1⟩
    have HF := HE.out (.pointer none) w1 b1
    clear HE HC b1
    go_wp2_with fail
    go_ret2
    exact HF

/-! what is told of it -/
theorem lsm_any {w : World} {B b : Nat} {F : Nat → Prop} {x : Wal} (h : Wa w B b F x) :
    Calls Tryz.prog 8 #[.pointer (some ⟨b, 0, none⟩)] w fun e w' => (∃ b2 F2, e = .returned (.pointer (some ⟨b2, 0, none⟩)) ∧ Ls w' B b2 F2 x.cur ∧ ∀ k, F2 k → F k ∨ w.heap.size ≤ k) ∧ Below w.heap.size w w' := by
  obtain ⟨limit, bs, q, lb, Lf, logv, left, hr, _, _, hF⟩ := h
  have c1 : w.cell? ⟨b, 1, none⟩ = some (.pointer (some ⟨lb, 0, none⟩)) := hr.row.cell (i := 1) (by omega)
  have HE : Hid (Ls w B lb Lf x.cur ∧ ∀ k, Lf k → F k ∨ w.heap.size ≤ k) := ⟨hr.lsm, fun k hk => .inl ((hF k).2 (.inr (.inl hk)))⟩
  clear hr hF
  go_enter Tryz.func8, Tryz.ntmps8
  go_wp2_with fail
  go_ret
  exact ⟨⟨lb, Lf, rfl, HE.out⟩, Below.refl _ _⟩
theorem bytes_any {w : World} {B b : Nat} {F : Nat → Prop} {x : Wal} (h : Wa w B b F x) :
    Calls Tryz.prog 10 #[.pointer (some ⟨b, 0, none⟩)] w fun e w' => e = .returned (.int .i64 (x.bytes : Nat)) ∧ Below w.heap.size w w' := by
  obtain ⟨limit, bs, q, lb, Lf, logv, left, hr, _, hh, _⟩ := h
  have c2 : w.cell? ⟨b, 2, none⟩ = some logv := hr.row.cell (i := 2) (by omega)
  obtain ⟨a, c, rfl, _⟩ := Keeps.owns_row hr.log
  rw [hh.bytes] at c2
  clear hr hh
  go_enter Tryz.func10, Tryz.ntmps10
  go_wp2_with fail
  go_ret
  exact ⟨rfl, Below.refl _ _⟩
theorem safe_any {w : World} {B b : Nat} {F : Nat → Prop} {x : Wal} (h : Wa w B b F x) :
    Calls Tryz.prog 11 #[.pointer (some ⟨b, 0, none⟩)] w fun e w' => e = .returned (.int .i64 (x.safe : Nat)) ∧ Below w.heap.size w w' := by
  obtain ⟨limit, bs, q, lb, Lf, logv, left, hr, _, hh, _⟩ := h
  have c3 : w.cell? ⟨b, 3, none⟩ = some (.int .i64 (x.safe : Int)) := hr.row.cell (i := 3) (by omega)
  clear hr hh
  go_enter Tryz.func11, Tryz.ntmps11
  go_wp2_with fail
  go_ret
  exact ⟨rfl, Below.refl _ _⟩

theorem fail_any {w : World} {B b : Nat} {F : Nat → Prop} {x : Wal} (h : Wa w B b F x) (n : Int) (hn : n ≤ 9223372036854775807) :
    Calls Tryz.prog 12 #[.pointer (some ⟨b, 0, none⟩), .int .i64 n] w fun e w' => e = .returned (.tuple #[]) ∧ Steps w B b F (failW x n) w' := by
  obtain ⟨limit, bs, q, lb, Lf, logv, left, hr, hl, hh, hF⟩ := h
  have f4 := hr.row.frozen 4
  have c4 : w.cell? ⟨b, 4, none⟩ = some (.int .i64 left) := hr.row.cell (i := 4) (by omega)
  have HE : Hid (Steps w B b F (failW x n) (w.setCell ⟨b, 4, none⟩ (.int .i64 n))) := steps_same hF (hr.setLeft n) (left_fail n hn) (WalBytes.holds_fail hh n) ((WalkLs.kept_cell w b 4 _).mono fun i hi => (hF i).2 (.inl hi))
  clear hr hl hh hF hn
  go_enter Tryz.func12, Tryz.ntmps12
  go_wp2_with fail
  go_end0
  exact ⟨rfl, HE.out⟩

end Go.Proofs.YtofaegcljcpceagGreatDoor.WalkWa

/-
  A step of a Wal: whether it is the one that stops; Sync.
-/
namespace Go.Proofs.YtofaegcljcpceagGreatDoor.WalkWa
open Go.RowKit
open Lists (bt Row)
open Keeps (Kept owns_kept owns_base)
open Stores (Pair)
open Lsms (Lsm)
open WalkLs (Ls ptr)
open Wals
open Errs (errv errv0 errv_pos)
open WalBytes (pairB pairsB recB Fit Part flat stateOf Holds)

def stepF (f : Option Nat) : Option Nat := if f = some 0 then f else f.map (· - 1)
def Stopped (w : World) (B b limit lb : Nat) (Lf : Nat → Prop) (y : Lsm) (logv : Value) (L : List UInt8) (safe : Nat) (f : Option Nat) (t : Bool) (w' : World) : Prop :=
  (∃ left, Left (stepF f) left ∧ Raw w' B b limit lb Lf y logv L safe left t) ∧ Kept (fun k => k = b) w w'
theorem stops_yes {w : World} {B b limit lb : Nat} {Lf : Nat → Prop} {y : Lsm} {logv : Value} {L : List UInt8} {safe : Nat} {left : Int} {st : Bool} (h : Raw w B b limit lb Lf y logv L safe left st) (hl : Left (some 0) left) :
    Calls Tryz.prog 23 #[.pointer (some ⟨b, 0, none⟩)] w fun e w' => e = .returned (.bool true) ∧ Stopped w B b limit lb Lf y logv L safe (some 0) true w' := by
  obtain rfl : left = 0 := by
    rcases hl.2 with ⟨q, _⟩ | ⟨n, q, rfl⟩
    · cases q
    · simp only [Option.some.injEq] at q; omega
  have h2 := h.setStop true
  have c4 : w.cell? ⟨b, 4, none⟩ = some (.int .i64 0) := h.row.cell (i := 4) (by omega)
  have c5 : w.cell? ⟨b, 5, none⟩ = some (.bool st) := h.row.cell (i := 5) (by omega)
  have f5 := h.row.frozen 5
  have d4 : (w.setCell ⟨b, 5, none⟩ (.bool true)).cell? ⟨b, 4, none⟩ = some (.int .i64 0) := h2.row.cell (i := 4) (by omega)
  have d5 : (w.setCell ⟨b, 5, none⟩ (.bool true)).cell? ⟨b, 5, none⟩ = some (.bool true) := h2.row.cell (i := 5) (by omega)
  have HE : Hid (Stopped w B b limit lb Lf y logv L safe (some 0) true (w.setCell ⟨b, 5, none⟩ (.bool true))) := ⟨⟨0, hl, h2⟩, WalkLs.kept_cell w b 5 _⟩
  clear h h2 hl
  go_enter Tryz.func23, Tryz.ntmps23
  go_wp2_with fail
  go_ret
  exact ⟨rfl, HE.out⟩
theorem stops_no {w : World} {B b limit lb : Nat} {Lf : Nat → Prop} {y : Lsm} {logv : Value} {L : List UInt8} {safe : Nat} {left : Int} {st : Bool} {f : Option Nat} (h : Raw w B b limit lb Lf y logv L safe left st) (hl : Left f left) (hf : f ≠ some 0) :
    Calls Tryz.prog 23 #[.pointer (some ⟨b, 0, none⟩)] w fun e w' => e = .returned (.bool false) ∧ Stopped w B b limit lb Lf y logv L safe f false w' := by
  have h2 := h.setStop false
  have hz : (left == 0) = false := by rw [left_zero hl]; exact decide_eq_false hf
  have hsf : stepF f = f.map (· - 1) := if_neg hf
  have c4 : w.cell? ⟨b, 4, none⟩ = some (.int .i64 left) := h.row.cell (i := 4) (by omega)
  have c5 : w.cell? ⟨b, 5, none⟩ = some (.bool st) := h.row.cell (i := 5) (by omega)
  have f5 := h.row.frozen 5
  have d4 : (w.setCell ⟨b, 5, none⟩ (.bool false)).cell? ⟨b, 4, none⟩ = some (.int .i64 left) := h2.row.cell (i := 4) (by omega)
  have g4 := h2.row.frozen 4
  by_cases hp : 0 < left
  · have h3 := h2.setLeft (left - 1)
    have d5 : ((w.setCell ⟨b, 5, none⟩ (.bool false)).setCell ⟨b, 4, none⟩ (.int .i64 (left - 1))).cell? ⟨b, 5, none⟩ = some (.bool false) := h3.row.cell (i := 5) (by omega)
    have HE : Hid (Stopped w B b limit lb Lf y logv L safe f false ((w.setCell ⟨b, 5, none⟩ (.bool false)).setCell ⟨b, 4, none⟩ (.int .i64 (left - 1)))) := by
      refine ⟨⟨left - 1, ⟨by have := hl.1; omega, ?_⟩, h3⟩, (WalkLs.kept_cell w b 5 _).trans (WalkLs.kept_cell _ b 4 _) fun i hi => .inl hi⟩
      rw [hsf]
      rcases hl.2 with ⟨rfl, q⟩ | ⟨n, rfl, rfl⟩
      · omega
      · exact .inr ⟨n - 1, rfl, by omega⟩
    have hm := hl.1
    clear h h2 h3 hl hf hsf
    go_enter Tryz.func23, Tryz.ntmps23
    go_wp2_with fail
    go_ret
    exact ⟨rfl, HE.out⟩
  · have d5 : (w.setCell ⟨b, 5, none⟩ (.bool false)).cell? ⟨b, 5, none⟩ = some (.bool false) := h2.row.cell (i := 5) (by omega)
    have HE : Hid (Stopped w B b limit lb Lf y logv L safe f false (w.setCell ⟨b, 5, none⟩ (.bool false))) := by
      refine ⟨⟨left, ⟨hl.1, ?_⟩, h2⟩, WalkLs.kept_cell w b 5 _⟩
      rw [hsf]
      rcases hl.2 with ⟨rfl, q⟩ | ⟨n, rfl, rfl⟩
      · exact .inl ⟨rfl, q⟩
      · exfalso
        rcases Nat.eq_zero_or_pos n with r | r
        · subst r; exact hf rfl
        · omega
    clear h h2 hl hf hsf
    go_enter Tryz.func23, Tryz.ntmps23
    go_wp2_with fail
    go_ret
    exact ⟨rfl, HE.out⟩

theorem sync_any {w : World} {B b : Nat} {F : Nat → Prop} {x : Wal} (h : Wa w B b F x) :
    Calls Tryz.prog 6 #[.pointer (some ⟨b, 0, none⟩)] w fun e w' => e = .returned (errv (syncE x)) ∧ Steps w B b F (syncW x) w' := by
  obtain ⟨limit, bs, q, lb, Lf, logv, left, hr, hl, hh, hF⟩ := h
  have hFb : ∀ i, i = b → F i := fun i hi => (hF i).2 (.inl hi)
  have hhs := WalBytes.holds_sync hh
  cases hs : x.stopped with
  | true =>
    have c5 : w.cell? ⟨b, 5, none⟩ = some (.bool true) := by have h := hr.row.cell (i := 5) (by omega); rw [hs] at h; exact h
    have e1 : syncE x = 6 := if_pos (.inl hs)
    have e2 : syncW x = x := if_pos hs
    rw [e1, e2, errv_pos 6 (by decide)]
    have HE : Hid (Steps w B b F x w) := steps_same hF hr hl hh (Kept.refl _ _)
    clear hr hl hh hF hFb hhs e1 e2 hs
    go_enter Tryz.func6, Tryz.ntmps6
    go_wp2_with fail
    go_ret
    exact ⟨rfl, HE.out⟩
  | false =>
    have c5 : w.cell? ⟨b, 5, none⟩ = some (.bool false) := by have h := hr.row.cell (i := 5) (by omega); rw [hs] at h; exact h
    by_cases hf : x.fails = some 0
    · have e1 : syncE x = 6 := if_pos (.inr hf)
      have e2 : syncW x = { x with stopped := true } := by unfold syncW; rw [if_neg (by rw [hs]; decide), if_pos hf]
      have HK : Hid (∀ w', Stopped w B b limit lb Lf x.cur logv (flat bs ++ q) x.safe (some 0) true w' → Steps w B b F (syncW x) w') := by
        rintro w' ⟨⟨left', hl', hr'⟩, k⟩
        rw [e2] at hhs ⊢
        exact steps_same hF hr' (by show Left x.fails _; rw [hf]; exact hl') hhs (k.mono hFb)
      have cS := stops_yes hr (by rw [← hf]; exact hl)
      rw [e1, errv_pos 6 (by decide)]
      clear hr hl hh hF hFb hhs e1 e2 hs hf
      go_enter Tryz.func6, Tryz.ntmps6
      go_wp2_with fail
      refine cS.mono ?_
      rintro e w1 ⟨rfl, h1⟩
      have HE : Hid (Steps w B b F (syncW x) w1) := HK.out w1 h1
      clear cS h1 HK
      go_wp2_with fail
      go_ret
      exact ⟨rfl, HE.out⟩
    · have e1 : syncE x = 0 := if_neg (fun q => q.elim (fun q => by rw [hs] at q; cases q) hf)
      have e2 : syncW x = { x with safe := x.bytes, fails := x.fails.map (· - 1) } := by unfold syncW; rw [if_neg (by rw [hs]; decide), if_neg hf]
      have cS := stops_no hr hl hf
      obtain ⟨a, c, rfl, _⟩ := Keeps.owns_row hr.log
      have HK : Hid (∀ w', Stopped w B b limit lb Lf x.cur (.slice a (flat bs ++ q).length c) (flat bs ++ q) x.safe x.fails false w' → w'.cell? ⟨b, 2, none⟩ = some (.slice a x.bytes c) ∧ w'.frozen? ⟨b, 3, none⟩ = false ∧ (w'.cell? ⟨b, 3, none⟩ = some (.int .i64 (x.safe : Int))) ∧ Steps w B b F (syncW x) (w'.setCell ⟨b, 3, none⟩ (.int .i64 (x.bytes : Int)))) := by
        rintro w' ⟨⟨left', hl', hr'⟩, k⟩
        refine ⟨by have h := hr'.row.cell (i := 2) (by omega); rw [hh.bytes] at h; exact h, hr'.row.frozen 3, hr'.row.cell (i := 3) (by omega), ?_⟩
        rw [e2] at hhs ⊢
        refine steps_same hF (lb := lb) (left := left') ?_ (by show Left (x.fails.map (· - 1)) left'; have h := hl'; rw [show stepF x.fails = x.fails.map (· - 1) from if_neg hf] at h; exact h) hhs ((k.mono hFb).setCell (.inl (hFb b rfl)) _)
        show Raw _ B b limit lb Lf x.cur _ (flat bs ++ q) x.bytes left' x.stopped
        rw [hs]
        exact hr'.setSafe x.bytes
      rw [e1, errv0]
      clear hr hl hh hF hFb hhs e1 e2 hs hf
      go_enter Tryz.func6, Tryz.ntmps6
      go_wp2_with fail
      refine cS.mono ?_
      rintro e w1 ⟨rfl, h1⟩
      obtain ⟨c2, f3, c3, hE⟩ := HK.out w1 h1
      have HE : Hid (Steps w B b F (syncW x) (w1.setCell ⟨b, 3, none⟩ (.int .i64 (x.bytes : Int)))) := hE
      clear cS h1 HK hE
      go_wp2_with fail
      go_ret
      exact ⟨rfl, HE.out⟩

end Go.Proofs.YtofaegcljcpceagGreatDoor.WalkWa

/-
  Why a batch comes to no record: check of package wal.
-/
namespace Go.Proofs.YtofaegcljcpceagGreatDoor.WalkWa
open Go.RowKit
open Lists (bt Row)
open Keeps (Kept owns_kept owns_base)
open Wides (Wide)
open Stores (Pair)
open PairRows (cells)
open Lsms (Lsm)
open WalkLs (Ls ptr)
open Wals
open Errs (errv errv0 errv_pos)
open WalBytes (pairB pairsB recB Fit Part flat stateOf Holds)
open WalkTabOne (empty_yes empty_no)

def badP (p : Pair) : Bool := p.gone && decide (p.val.size ≠ 0)
theorem bad_any (x0 x1 : ByteArray) (x2 : Bool) (w : World) : Calls Tryz.prog 39 #[.agg #[.string x0, .string x1, .bool x2]] w fun e w' => e = .returned (.bool (badP ⟨x0, x1, x2⟩)) ∧ Below w.heap.size w w' := by
  have b0 : Below w.heap.size w (w.alloc (.cells #[.string x0, .string x1, .bool x2] 31)) := (Below.refl _ _).alloc (Nat.le_refl _) _
  cases x2 with
  | false =>
    have e : badP ⟨x0, x1, false⟩ = false := rfl
    rw [e]
    go_enter Tryz.func39, Tryz.ntmps39
    go_wp2_with fail
    go_ret
    exact ⟨rfl, b0⟩
  | true =>
    by_cases h : x1.size = 0
    · have e : badP ⟨x0, x1, true⟩ = false := by simp [badP, h]
      have q := empty_yes h
      rw [e]
      clear h e
      go_enter Tryz.func39, Tryz.ntmps39
      go_wp2_with fail
      go_ret
      exact ⟨rfl, b0⟩
    · have e : badP ⟨x0, x1, true⟩ = true := by simp [badP, h]
      have q := empty_no h
      rw [e]
      clear h e
      go_enter Tryz.func39, Tryz.ntmps39
      go_wp2_with fail
      go_ret
      exact ⟨rfl, b0⟩
theorem entersB : Enters Tryz.prog 39 := enters_of Tryz.func39 (by kernel_rfl) rfl
theorem contains_any (l : List Pair) (a : Option Addr) (n cap : Nat) (w : World) (hr : Wide 3 w a n cap (cells l)) (hn : n ≤ 1000000) :
    Calls Tryz.prog 38 #[.slice a n cap, .func (.func 39) #[] #[]] w fun e w' => e = .returned (.bool (l.any badP)) ∧ Below w.heap.size w w' := by
  have cI := WalkDelete.index_any l a n cap w hr hn 39 #[] entersB badP (fun p w1 _ => bad_any p.key p.val p.gone w1)
  clear hr hn
  go_enter Tryz.func38, Tryz.ntmps38
  go_wp2_with fail
  refine cI.mono ?_
  clear cI
  rintro e w1 ⟨hor, b1⟩
  rcases hor with ⟨i, p, hp, _, hb, rfl⟩ | ⟨hall, rfl⟩
  · have HA : Hid (l.any badP = true) := List.any_eq_true.2 ⟨p, List.mem_of_getElem? hp, hb⟩
    have i1 : (0 : Int) ≤ (i : Int) := by omega
    clear hp hb
    go_wp2_with fail
    go_ret
    exact ⟨by rw [HA.out]; rfl, b1⟩
  · have HA : Hid (l.any badP = false) := by
      show _ = _
      rw [List.any_eq_false]
      intro p hp
      rw [hall p hp]
      decide
    clear hall
    go_wp2_with fail
    go_ret
    exact ⟨by rw [HA.out]; rfl, b1⟩
theorem shape_is (l : List Pair) : shapeE l = if 20 < l.length then 4 else if l.any badP = true then 3 else 0 := rfl

/-- what check tells -/
def checkE (x : Wal) (l : List Pair) : Nat := if x.stopped = true then 6 else batchE x.cur l
set_option maxHeartbeats 1000000 in
theorem check_any {w : World} {B b limit lb : Nat} {Lf : Nat → Prop} {logv : Value} {bs : List (List Pair)} {q : List UInt8} {left : Int} {x : Wal} (hr : Raw w B b limit lb Lf x.cur logv (flat bs ++ q) x.safe left x.stopped) (hh : Holds x limit bs q)
    (l : List Pair) (a : Option Addr) (n cap : Nat) (hw : Wide 3 w a n cap (cells l)) (hz : ∀ e ∈ l, e.key.size ≤ maxLen ∧ e.val.size ≤ maxLen) :
    Calls Tryz.prog 21 #[.pointer (some ⟨b, 0, none⟩), .slice a n cap] w fun e w' => e = .returned (errv (checkE x l)) ∧ Below w.heap.size w w' := by
  have c5 : w.cell? ⟨b, 5, none⟩ = some (.bool x.stopped) := hr.row.cell (i := 5) (by omega)
  have c0 : w.cell? ⟨b, 0, none⟩ = some (.int .i64 (limit : Int)) := hr.row.cell (i := 0) (by omega)
  have hln := PairRows.len_of hw
  cases hs : x.stopped with
  | true =>
    have e1 : checkE x l = 6 := if_pos hs
    rw [hs] at c5
    rw [e1, errv_pos 6 (by decide)]
    clear hr hh hw hz e1 hs
    go_enter Tryz.func21, Tryz.ntmps21
    go_wp2_with fail
    go_ret
    exact ⟨rfl, Below.refl _ _⟩
  | false =>
    have e0 : checkE x l = batchE x.cur l := if_neg (by rw [hs]; decide)
    rw [hs] at c5
    by_cases h20 : 20 < l.length
    · have e1 : checkE x l = 4 := by
        rw [e0]
        unfold batchE
        rw [shape_is, if_pos h20]
        rfl
      have i1 : (20 : Int) < (n : Int) := by omega
      rw [e1, errv_pos 4 (by decide)]
      clear hr hh hw hz e1 hs e0 h20
      go_enter Tryz.func21, Tryz.ntmps21
      go_wp2_with fail
      go_ret
      exact ⟨rfl, Below.refl _ _⟩
    · have i1 : ¬ (20 : Int) < (n : Int) := by omega
      have cC := contains_any l a n cap w hw (by omega)
      cases hb : l.any badP with
      | true =>
        have e1 : checkE x l = 3 := by
          rw [e0]
          unfold batchE
          rw [shape_is, if_neg h20, if_pos hb]
          rfl
        rw [hb] at cC
        rw [e1, errv_pos 3 (by decide)]
        clear hr hh hw hz e1 hs e0 h20
        go_enter Tryz.func21, Tryz.ntmps21
        go_wp2_with fail
        refine cC.mono ?_
        rintro e w1 ⟨rfl, b1⟩
        clear cC
        go_wp2_with fail
        go_ret
        exact ⟨rfl, b1⟩
      | false =>
        have hsh : shapeE l = 0 := by rw [shape_is, if_neg h20, if_neg (by rw [hb]; decide)]
        have hg0 := (LsmFines.Fine.start hh.low hh.high).good
        have e1 : checkE x l = (puts ⟨limit, [], []⟩ l).2 := by
          rw [e0]
          unfold batchE
          rw [if_pos hsh, WalBytes.puts_alone l hh.fine.good hg0]
        have hE0 : Lsms.newE (limit : Int) = 0 := if_neg (by have := hh.low; have := hh.high; omega)
        have hgo := (WalBytes.shape_of hsh).2
        rw [hb] at cC
        rw [e1]
        have HK : Hid (∀ w1, Below w.heap.size w w1 → Calls Tryz.prog 20 #[.int .i64 (limit : Int)] w1 fun e w2 => ∃ lb2, e = .returned (.tuple #[.pointer (some ⟨lb2, 0, none⟩), .nilIface]) ∧ Below w1.heap.size w1 w2 ∧ Calls Tryz.prog 24 #[.pointer (some ⟨lb2, 0, none⟩), .slice a n cap] w2 fun e w3 => e = .returned (errv (puts ⟨limit, [], []⟩ l).2) ∧ Below w.heap.size w w3) := by
          intro w1 b1
          refine (WalkLs.new_any (limit : Int) w1 w1.heap.size (Nat.le_refl _)).mono ?_
          rintro e w2 ⟨v, rfl, hv, b2⟩
          obtain ⟨lb2, F2, rfl, hL, hF⟩ := hv hE0
          refine ⟨lb2, by rw [hE0, errv0], b2, ?_⟩
          rw [show (limit : Int).toNat = limit from rfl] at hL
          refine (putAll_any hL l (by show 0 + 0 + l.length ≤ 10000; omega) a n cap (hw.below (bt b1 b2)) hz hgo (fun p hp he hf => ?_)).mono ?_
          · obtain ⟨b', off', ha, hc⟩ := hw.2.2 hp
            have h1 := hF _ hf
            rw [ha] at he
            simp only [Option.some.injEq] at he
            subst he
            have hlen : (cells l)[0]? = some (.string (l[0]'(by omega)).key) := (PairRows.cells_at l 0 (by omega)).1
            have h2 := Lists.block_lt (hc 0 _ hlen)
            have h3 := b1.size
            simp only at h1 h2
            omega
          · rintro e w3 ⟨rfl, h4⟩
            exact ⟨rfl, (bt b1 b2).trans (h4.2.below (fun k hk => Nat.le_trans b1.size (hF k hk)) (Nat.le_trans b1.size b2.size))⟩
        generalize errv (puts ⟨limit, [], []⟩ l).2 = V at HK
        have HC0 : Hid (∀ w1, Below w.heap.size w w1 → w1.cell? ⟨b, 0, none⟩ = some (.int .i64 (limit : Int))) := fun w1 b1 => Lists.cell_below b1 c0
        clear hr hh hw hz e1 hs e0 h20 hsh hg0 hE0 hgo c0
        go_enter Tryz.func21, Tryz.ntmps21
        go_wp2_with fail
        refine cC.mono ?_
        rintro e w1 ⟨rfl, b1⟩
        have d0 := HC0.out w1 b1
        clear cC
        go_wp2_with fail
        refine (HK.out w1 b1).mono ?_
        rintro e w2 ⟨lb2, rfl, b2, hP⟩
        clear d0
        go_wp2_with fail
        refine hP.mono ?_
        rintro e w3 ⟨rfl, b3⟩
        clear hP b2
        go_wp2_with fail
        go_ret
        exact ⟨rfl, b3⟩

end Go.Proofs.YtofaegcljcpceagGreatDoor.WalkWa

/-
  What package wal does: Put and Crash; and with the texts that it stands on all of its contracts.
-/
namespace Go.Proofs.YtofaegcljcpceagGreatDoor.WalkWa
open Go.RowKit
open Lists (bt Row)
open Keeps (Kept owns_kept owns_base)
open Wides (Wide)
open Stores (Pair)
open PairRows (cells)
open Lsms (Lsm)
open WalkLs (Ls ptr)
open Wals
open Errs (errv errv0 errv_pos)
open WalBytes (pairB pairsB recB Fit Part flat stateOf Holds)

def PutsW (w : World) (B b : Nat) (F : Nat → Prop) (x : Wal) (l : List Pair) (w' : World) : Prop := (∃ n t F', 2 ≤ n ∧ n ≤ 100000 ∧ t < n ∧ Wa w' B b F' (putW x l n t) ∧ ∀ k, F' k → F k ∨ w.heap.size ≤ k) ∧ Kept F w w'
/-- a record behind the bytes -/
theorem log_more {w w1 : World} {B b limit lb : Nat} {Lf : Nat → Prop} {y : Lsm} {logv v : Value} {L R : List UInt8} {safe : Nat} {left : Int} {st : Bool} (h : Raw w B b limit lb Lf y logv L safe left st) (g : w.grownBy w1 logv.ownBlock)
    (o : w1.ownsRow B 5 1 v (L.length + R.length) (WalkMix.cells L ++ WalkMix.cells R)) (hv : v.ownBlock = logv.ownBlock ∨ v.ownBlock = some w.heap.size) :
    Raw (w1.setCell ⟨b, 2, none⟩ v) B b limit lb Lf y v (L ++ R) safe left st ∧ w1.cell? ⟨b, 2, none⟩ = some logv ∧ w1.frozen? ⟨b, 2, none⟩ = false ∧ Kept (fun i => foot b Lf logv i) w (w1.setCell ⟨b, 2, none⟩ v) ∧ ∀ k, foot b Lf v k → foot b Lf logv k ∨ w.heap.size ≤ k := by
  have k : Kept (fun i => logv.ownBlock = some i) w w1 := (Kept.refl _ w).grown g fun i hi => .inl hi
  have hr1 := h.row.of_block (k.block b h.row.lt h.off.2)
  have hvv : ∀ i, v.ownBlock = some i → logv.ownBlock = some i ∨ w.heap.size ≤ i := fun i hi => by
    rcases hv with e | e
    · exact .inl (by rw [← e]; exact hi)
    · rw [e] at hi
      simp only [Option.some.injEq] at hi
      exact .inr (by omega)
  refine ⟨h.setLog k (by rw [List.length_append, WalkMix.cells_append]; exact o) hvv, hr1.cell (i := 2) (by omega), hr1.frozen 2, (k.mono fun i hi => .inr (.inr hi)).setCell (.inl (.inl rfl)) _, ?_⟩
  rintro i (rfl | q | q)
  · exact .inl (.inl rfl)
  · exact .inl (.inr (.inl q))
  · rcases hvv i q with r | r
    · exact .inl (.inr (.inr r))
    · exact .inr r

set_option maxHeartbeats 4000000 in
set_option maxRecDepth 100000 in
theorem put_any {w : World} {B b : Nat} {F : Nat → Prop} {x : Wal} (h : Wa w B b F x) (hs : x.hist.length ≤ 400) (l : List Pair) (a : Option Addr) (n cap : Nat) (hr : Wide 3 w a n cap (cells l)) (hz : ∀ e ∈ l, e.key.size ≤ maxLen ∧ e.val.size ≤ maxLen) (hd : ∀ p, 0 < n → a = some p → ¬ F p.block) :
    Calls Tryz.prog 5 #[.pointer (some ⟨b, 0, none⟩), .slice a n cap] w fun e w' => e = .returned (errv (putWE x l)) ∧ PutsW w B b F x l w' := by
  obtain ⟨limit, bs, q, lb, Lf, logv, left, hraw, hl, hh, hF⟩ := h
  have cC := check_any hraw hh l a n cap hr hz
  by_cases hc : checkE x l = 0
  · have hst : x.stopped = false := by
      cases e : x.stopped
      · rfl
      · unfold checkE at hc; rw [if_pos e] at hc; cases hc
    have hb : batchE x.cur l = 0 := by
      unfold checkE at hc; rwa [if_neg (by rw [hst]; decide)] at hc
    have hfit := WalBytes.fit_of hh.fine.good hb
    have hq := hh.whole hst
    subst hq
    rw [hc, errv0] at cC
    have HR : Hid (∀ w1, Below w.heap.size w w1 → Calls Tryz.prog 22 #[.slice a n cap] w1 fun e w' => ∃ v, e = .returned v ∧ w'.ownsRow w1.heap.size 5 1 v (recB l).length (WalkMix.cells (recB l)) ∧ Below w1.heap.size w1 w') := fun w1 b1 => record_any l hfit a n cap w1 (hr.below b1)
    rw [List.append_nil] at hraw
    obtain ⟨L, hLb⟩ : ∃ L, flat bs = L := ⟨_, rfl⟩
    have HLb : Hid (flat bs = L) := hLb
    have HRaw : Hid (Raw w B b limit lb Lf x.cur logv L x.safe left x.stopped) := by show Raw _ _ _ _ _ _ _ _ _ _ _ _; rw [← hLb]; exact hraw
    have HLf : Hid (Left x.fails left) := hl
    have HH : Hid (Holds x limit bs []) := hh
    have HF : Hid (∀ k, F k ↔ foot b Lf logv k) := hF
    have HFit : Hid (Fit l) := hfit
    have HB : Hid (batchE x.cur l = 0 ∧ x.stopped = false ∧ x.hist.length ≤ 400) := ⟨hb, hst, hs⟩
    have HW : Hid (Wide 3 w a n cap (cells l)) := hr
    have HD : Hid (∀ p, 0 < n → a = some p → ¬ F p.block) := hd
    have HZ : Hid (∀ e ∈ l, e.key.size ≤ maxLen ∧ e.val.size ≤ maxLen) := hz
    have hN2 := WalBytes.recB_length l
    have hNl := WalBytes.fit_le hfit
    have HBy : Hid (L.length ≤ 8000000) := by
      show _ ≤ _
      have h1 := WalBytes.flat_le bs hh.fit
      rw [hLb] at h1
      have h2 := hh.count
      omega
    obtain ⟨i0, hi, hz0, hz1, hz2⟩ := info_parts WalkMix.info5
    clear hraw hl hh hF hfit hb hst hs hr hd hz hc hLb
    go_enter Tryz.func5, Tryz.ntmps5
    go_wp2_with fail
    refine cC.mono ?_
    rintro e w1 ⟨rfl, b1⟩
    clear cC
    go_wp2_with fail
    refine (HR.out w1 b1).mono ?_
    rintro e w2 ⟨v, rfl, o2, b2⟩
    obtain ⟨g, c2, rfl, _, hg1, hg2, hc2, _, hcl, _⟩ := Keeps.owns_open o2 (by omega)
    have HRw : Hid (∀ w3, Kept (fun k => k = b) w2 w3 → ∀ j u, (WalkMix.cells (recB l))[j]? = some u → w3.cell? ⟨g, j, none⟩ = some u) := fun w3 k3 j u hj => by
      rw [k3.cell (p := ⟨g, j, none⟩) hg2 (fun e => by have := HRaw.out.row.lt; have := b1.size; simp only at e; omega)]
      exact hcl j u hj
    have hraw2 := (HRaw.out.below (bt b1 b2))
    have HK2 : Hid (Kept F w w2) := Kept.of_below F (bt b1 b2)
    have HS2 : Hid (w.heap.size ≤ w2.heap.size) := (bt b1 b2).size
    have HB0 : Hid (B ≤ w2.heap.size) := by show _ ≤ _; have := HRaw.out.above; have := hraw2.row.lt; omega
    generalize hNe : (recB l).length = N at *
    have HNe : Hid ((recB l).length = N) := hNe
    have hN1 : 2 ≤ N := by omega
    have hN3 : N ≤ 8062 := by omega
    clear HR o2 b1 b2 hcl hg1 hN2 hNl hNe
    by_cases hf : x.fails = some 0
    · have cS := stops_yes hraw2 (by rw [← hf]; exact HLf.out)
      have HPE : Hid (putWE x l = 6) := by
        show _ = _
        unfold putWE
        rw [if_neg (by rw [HB.out.2.1]; decide), if_neg (fun q => q HB.out.1), if_pos hf]
      have HNew : Hid (Holds (putW x l N (N / 2)) limit bs ((recB l).take (N / 2)) ∧ (putW x l N (N / 2)).cur = x.cur ∧ (putW x l N (N / 2)).safe = x.safe ∧ (putW x l N (N / 2)).stopped = true ∧ (putW x l N (N / 2)).fails = some 0) := by
        have h1 := WalBytes.holds_stop HH.out HB.out.2.1 HB.out.1 hf
        have e : putW x l N (N / 2) = { x with stopped := true, tail := N / 2 } := by
          unfold putW
          rw [if_neg (fun c => c.elim (fun c => by rw [HB.out.2.1] at c; cases c) fun c => c HB.out.1), if_pos hf]
        rw [HNe.out] at h1
        refine ⟨h1, ?_⟩
        rw [e]
        exact ⟨rfl, rfl, rfl, hf⟩
      clear hraw2 hf
      go_wp2_with fail
      refine cS.mono ?_
      rintro e w3 ⟨rfl, ⟨left', hl', hr3⟩, k3⟩
      have HR3 : Hid (Raw w3 B b limit lb Lf x.cur logv L x.safe left' true) := hr3
      have HLl : Hid (Left (some 0) left') := hl'
      have HK3 : Hid (Kept F w w3) := HK2.out.trans k3 fun i hi => .inl ((HF.out i).2 (.inl hi))
      have HC3 : Hid (∀ j u, (WalkMix.cells ((recB l).take (N / 2)))[j]? = some u → w3.cell? ((⟨g, 0, none⟩ : Addr).add j) = some u) := fun j u hj => by
        rw [WalkTabTake.add_at]
        refine HRw.out w3 k3 j u ?_
        rw [WalkMix.cells, List.map_take, List.getElem?_take] at hj
        split at hj
        · exact hj
        · cases hj
      obtain ⟨a0, c0, rfl, _⟩ := Keeps.owns_row hr3.log
      have r2 : w3.cell? ⟨b, 2, none⟩ = some (.slice a0 L.length c0) := hr3.row.cell (i := 2) (by omega)
      have HS3 : Hid (B ≤ w3.heap.size ∧ w.heap.size ≤ w3.heap.size) := ⟨Nat.le_trans HB0.out k3.size, Nat.le_trans HS2.out k3.size⟩
      obtain ⟨M, HM⟩ : ∃ M, Hid (N / 2 = M) := ⟨_, rfl⟩
      rw [HM.out] at HNew HC3
      have HLt : Hid (((recB l).take M).length = M) := by show _ = _; rw [List.length_take, HNe.out]; have := HM.out; omega
      have hM1 : 0 < M := by have := HM.out; omega
      have hM2 : M ≤ N := by have := HM.out; omega
      have q1 : (N : Int) / 2 = (M : Int) := by have := HM.out; omega
      have q2 : (M : Int) ≤ (N : Int) := by omega
      have q0 : IntKind.i64.wrap (M : Int) = (M : Int) := by rw [IntKind.wrap_i64]; omega
      have q3 : (M : Int) ≤ (c2 : Int) := by omega
      clear cS hr3 hl' k3 HRw HRaw HLf
      go_upto_region 6 with fail
      have HFin : Hid (∀ (g4 cap4 : Nat) (w4 : World), w4.ownsRow B 5 1 (.slice (some ⟨g4, 0, none⟩) (L.length + M) cap4) (L.length + M) (WalkMix.cells L ++ WalkMix.cells ((recB l).take M)) → w3.grownBy w4 (Value.slice a0 L.length c0).ownBlock → ((Value.slice a0 L.length c0).ownBlock = some g4 ∨ g4 = w3.heap.size) → w4.cell? ⟨b, 2, none⟩ = some (.slice a0 L.length c0) ∧ w4.frozen? ⟨b, 2, none⟩ = false ∧ PutsW w B b F x l (w4.setCell ⟨b, 2, none⟩ (.slice (some ⟨g4, 0, none⟩) (L.length + M) cap4))) := by
        intro g4 cap4 w4 o4 gr4 hat
        obtain ⟨r4, c4, f4, k4, n4⟩ := log_more (R := (recB l).take M) HR3.out gr4 (by rw [HLt.out]; exact o4) (by rcases hat with e | rfl; exact .inl e.symm; exact .inr rfl)
        obtain ⟨n1, n2, n3, n5, n6⟩ := HNew.out
        refine ⟨c4, f4, ⟨N, M, foot b Lf (.slice (some ⟨g4, 0, none⟩) (L.length + M) cap4), hN1, by omega, by have := HM.out; omega, ⟨limit, bs, (recB l).take M, lb, Lf, _, left', by rw [n2, n3, n5, HLb.out]; exact r4, by rw [n6]; exact HLl.out, n1, fun k => Iff.rfl⟩, fun k hk => ?_⟩, HK3.out.trans k4 fun i hi => .inl ((HF.out i).2 hi)⟩
        rcases n4 k hk with r | r
        · exact .inl ((HF.out k).2 r)
        · exact .inr (Nat.le_trans HS3.out.2 r)
      generalize hK : L.length = K at *
      have HK0 : Hid (K ≤ 8000000) := HBy.out
      have HLog : Hid (w3.ownsRow B 5 1 (.slice a0 K c0) K (WalkMix.cells L)) := by have h := HR3.out.log; rw [hK] at h; exact h
      have hcl2 : (WalkMix.cells ((recB l).take M)).length = M * 1 := by rw [WalkMix.cells, List.length_map, HLt.out, Nat.mul_one]
      have HCL : Hid ((WalkMix.cells ((recB l).take M)).length = M * 1) := hcl2
      clear HR3 HNew HLl HK3 HF HLt hK hcl2
      go_region_law (refine step_append_lies _ rfl (.tmp 21) (.tmp 26) 53 rfl B 5 i0 (.int .u8 0) 1 1 Tryz.underlying53 hi hz0 hz1 hz2 rfl (by decide) _ _ _ rfl HLog.out.drew ⟨g, 0, none⟩ M c2 (WalkMix.cells ((recB l).take M)) rfl HCL.out HC3.out (cells_one _) hM1 (by have := HK0.out; unfold maxLen; omega) (by have := HK0.out; omega) HS3.out.1 w3.heap.size rfl ?_; intro g4 cap4 w4 o4 gr4 hat4 hlt4; obtain ⟨d2, f2, hP⟩ := HFin.out g4 cap4 w4 o4 ⟨gr4.os, gr4.tape, gr4.output, gr4.size, gr4.block⟩ hat4; have HP : Hid (PutsW w B b F x l (w4.setCell ⟨b, 2, none⟩ (.slice (some ⟨g4, 0, none⟩) (K + M) cap4))) := hP; clear o4 gr4 hat4 hlt4 hP)
      go_wp2_with fail
      go_ret
      exact ⟨by rw [HPE.out]; rfl, HP.out⟩
    · have cS := stops_no hraw2 HLf.out hf
      have hput0 := WalBytes.fit_puts HH.out.fine.good HFit.out
      have HPE : Hid (putWE x l = 0) := by
        show _ = _
        unfold putWE
        rw [if_neg (by rw [HB.out.2.1]; decide), if_neg (fun q => q HB.out.1), if_neg hf]
      have HNew : Hid (Holds (putW x l N 0) limit (bs ++ [l]) [] ∧ (putW x l N 0).cur = (puts x.cur l).1 ∧ (putW x l N 0).safe = x.safe ∧ (putW x l N 0).stopped = false ∧ (putW x l N 0).fails = stepF x.fails) := by
        have h1 := WalBytes.holds_done HH.out HB.out.2.1 HB.out.1 hf 0
        have e : putW x l N 0 = { x with hist := x.hist ++ [(x.last.1 + N, batched x.cur l)], fails := x.fails.map (· - 1) } := by
          unfold putW
          rw [if_neg (fun c => c.elim (fun c => by rw [HB.out.2.1] at c; cases c) fun c => c HB.out.1), if_neg hf]
        rw [HNe.out] at h1
        refine ⟨h1, by rw [h1.cur, WalBytes.state_snoc, HH.out.cur], ?_⟩
        rw [e]
        exact ⟨rfl, HB.out.2.1, (if_neg hf).symm⟩
      have HSz : Hid (x.cur.size + l.length ≤ 10000) := by
        show _ ≤ _
        have h1 := HH.out.fine.size
        have h2 := HH.out.count
        have h3 := HB.out.2.2
        have h4 := HFit.out.1
        omega
      clear hraw2 hf
      go_wp2_with fail
      refine cS.mono ?_
      rintro e w3 ⟨rfl, ⟨left', hl', hr3⟩, k3⟩
      have HR3 : Hid (Raw w3 B b limit lb Lf x.cur logv L x.safe left' false) := hr3
      have HLl : Hid (Left (stepF x.fails) left') := hl'
      have HK3 : Hid (Kept F w w3) := HK2.out.trans k3 fun i hi => .inl ((HF.out i).2 (.inl hi))
      have HC3 : Hid (∀ j u, (WalkMix.cells (recB l))[j]? = some u → w3.cell? ((⟨g, 0, none⟩ : Addr).add j) = some u) := fun j u hj => by
        rw [WalkTabTake.add_at]
        exact HRw.out w3 k3 j u hj
      obtain ⟨a0, c0, rfl, _⟩ := Keeps.owns_row hr3.log
      have r2 : w3.cell? ⟨b, 2, none⟩ = some (.slice a0 L.length c0) := hr3.row.cell (i := 2) (by omega)
      have HS3 : Hid (B ≤ w3.heap.size ∧ w.heap.size ≤ w3.heap.size) := ⟨Nat.le_trans HB0.out k3.size, Nat.le_trans HS2.out k3.size⟩
      clear cS hr3 hl' k3 HRw HRaw HLf
      have HFin : Hid (∀ (v : Value) (w4 : World), w4.ownsRow B 5 1 v (L.length + N) (WalkMix.cells L ++ WalkMix.cells (recB l)) → w3.grownBy w4 (Value.slice a0 L.length c0).ownBlock → (v.ownBlock = (Value.slice a0 L.length c0).ownBlock ∨ v.ownBlock = some w3.heap.size) → w4.cell? ⟨b, 2, none⟩ = some (.slice a0 L.length c0) ∧ w4.frozen? ⟨b, 2, none⟩ = false ∧ (w4.setCell ⟨b, 2, none⟩ v).cell? ⟨b, 1, none⟩ = some (.pointer (some ⟨lb, 0, none⟩)) ∧ Calls Tryz.prog 24 #[.pointer (some ⟨lb, 0, none⟩), .slice a n cap] (w4.setCell ⟨b, 2, none⟩ v) fun e w' => e = .returned .nilIface ∧ PutsW w B b F x l w') := by
        intro v w4 o4 gr4 hat
        obtain ⟨r4, c4, f4, k4, n4⟩ := log_more (R := recB l) HR3.out gr4 (by rw [HNe.out]; exact o4) hat
        obtain ⟨n1, n2, n3, n5, n6⟩ := HNew.out
        have kw : Kept F w (w4.setCell ⟨b, 2, none⟩ v) := HK3.out.trans k4 fun i hi => .inl ((HF.out i).2 hi)
        refine ⟨c4, f4, r4.row.cell (i := 1) (by omega), ?_⟩
        refine (putAll_any r4.lsm l HSz.out a n cap (wide_kept HW.out kw HD.out) HZ.out (fun e he => (HFit.out.2 e he).2.2) (fun p hp he hf => HD.out p hp he ((HF.out _).2 (.inr (.inl hf))))).mono ?_
        rintro e w5 ⟨rfl, h5⟩
        obtain ⟨Lf', r5, m5, k5⟩ := r4.goes h5
        refine ⟨by rw [hput0, errv0], ⟨N, 0, foot b Lf' v, hN1, by omega, by omega, ⟨limit, bs ++ [l], [], lb, Lf', v, left', by rw [n2, n3, n5, WalBytes.flat_snoc, List.append_nil, HLb.out]; exact r5, by rw [n6]; exact HLl.out, n1, fun k => Iff.rfl⟩, fun k hk => ?_⟩, kw.trans k5 fun i hi => .inl ((HF.out i).2 (.inr (.inl hi)))⟩
        rcases hk with r | r | r
        · exact .inl ((HF.out k).2 (.inl r))
        · rcases m5 k r with t | t
          · exact .inl ((HF.out k).2 (.inr (.inl t)))
          · exact .inr (Nat.le_trans kw.size t)
        · rcases n4 k (.inr (.inr r)) with t | t
          · exact .inl ((HF.out k).2 t)
          · exact .inr (Nat.le_trans HS3.out.2 t)
      generalize hK : L.length = K at *
      have HK0 : Hid (K ≤ 8000000) := HBy.out
      have HLog : Hid (w3.ownsRow B 5 1 (.slice a0 K c0) K (WalkMix.cells L)) := by have h := HR3.out.log; rw [hK] at h; exact h
      have HCL : Hid ((WalkMix.cells (recB l)).length = N * 1) := by show _ = _; rw [WalkMix.cells, List.length_map, HNe.out, Nat.mul_one]
      clear HR3 HNew HLl HK3 HF hK hput0
      go_upto_region 9 with (at_builtin; go_must (refine wpList_append_own_at _ rfl (.tmp 35) (.tmp 36) 53 rfl B 5 i0 (.int .u8 0) 1 1 Tryz.underlying53 hi hz0 hz1 hz2 rfl (by decide) _ _ _ rfl HLog.out ⟨g, 0, none⟩ N c2 (WalkMix.cells (recB l)) rfl HCL.out HC3.out (cells_one _) (by have := HK0.out; unfold maxLen; omega) (by have := HK0.out; omega) HS3.out.1 ?_); intro v4 w4 o4 g4 z4 hat4; clear z4; obtain ⟨d2, f2, d1, hP⟩ := HFin.out v4 w4 o4 g4 hat4; obtain ⟨a4, c4, rfl, _⟩ := Keeps.owns_row o4; have HP := hP; clear o4 g4 hat4 hP)
      generalize w4.setCell ⟨b, 2, none⟩ (.slice a4 (K + N) c4) = w5 at d1 HP ⊢
      clear d2 f2 r2
      go_wp2_with fail
      refine HP.mono ?_
      rintro e w6 ⟨rfl, h6⟩
      clear HP
      go_wp2_with fail
      go_ret
      exact ⟨by rw [HPE.out]; rfl, h6⟩
  · have e1 : putWE x l = checkE x l := by
      unfold checkE at hc ⊢
      unfold putWE
      split
      · rfl
      · rename_i hst
        rw [if_neg hst] at hc
        rw [if_pos hc]
    have e2 : putW x l 2 0 = x := WalBytes.putW_not (by
      unfold checkE at hc
      by_cases hst : x.stopped = true
      · exact .inl hst
      · rw [if_neg hst] at hc; exact .inr hc) 2 0
    have HE : Hid (∀ w', Below w.heap.size w w' → PutsW w B b F x l w') := fun w' bb => ⟨⟨2, 0, F, by decide, by decide, by decide, by rw [e2]; exact ⟨limit, bs, q, lb, Lf, logv, left, hraw.below bb, hl, hh, hF⟩, fun _ q => .inl q⟩, Kept.of_below F bb⟩
    rw [errv_pos _ hc] at cC
    rw [e1, errv_pos _ hc]
    generalize checkE x l = E at cC
    clear hraw hl hh hF hr hz hd e1 e2 hc
    go_enter Tryz.func5, Tryz.ntmps5
    go_wp2_with fail
    refine cC.mono ?_
    rintro e w1 ⟨rfl, b1⟩
    have HP := HE.out w1 b1
    clear cC b1 HE
    go_wp2_with fail
    go_ret
    exact ⟨rfl, HP⟩

/-- a copy of bytes -/
theorem clone_bytes (L : List UInt8) (a : Option Addr) (n cap : Nat) (w : World) (hn : n ≤ 10000000) (hr : Row w a n cap (WalkMix.cells L)) :
    Calls Tryz.prog 26 #[.slice a n cap] w fun e w' => ∃ v, e = .returned v ∧ w'.ownsRow w.heap.size 5 1 v n (WalkMix.cells L) ∧ Below w.heap.size w w' := by
  obtain ⟨i0, hi, hz0, hz1, hz2⟩ := info_parts WalkMix.info5
  have hln : (WalkMix.cells L).length = n := hr.1
  cases a with
  | none =>
    have hn0 : n = 0 := by
      rcases Nat.eq_zero_or_pos n with h | h
      · exact h
      · obtain ⟨_, _, h, _⟩ := hr.2.2 h; cases h
    subst hn0
    have e0 : WalkMix.cells L = [] := List.eq_nil_of_length_eq_zero hln
    rw [e0]
    clear hr hln
    have q : ∀ (w : World), (binOp .eql 53 (.slice none 0 cap) (.slice none 0 0)).run Tryz.prog w = .ok (.bool true) w := fun w => Lib.run_eql_slice_nil w _ _ none 0 cap 0 0 Tryz.underlying53
    go_enter Tryz.func26, Tryz.ntmps26
    go_wp2_with fail
    go_ret
    exact ⟨_, rfl, World.ownsRow_nil _ _ _ _, Below.refl _ _⟩
  | some p =>
    have hcell : ∀ j u, (WalkMix.cells L)[j]? = some u → (w.alloc (.cells #[] 5)).cell? (p.add j) = some u := by
      intro j u hj
      have hj' : j < n := by rw [← hln]; exact (List.getElem?_eq_some_iff.1 hj).1
      obtain ⟨b, off, hp, hc⟩ := hr.2.2 (by omega)
      obtain rfl : p = ⟨b, off, none⟩ := by simpa using hp
      have h1 := hc j u hj
      rw [show (⟨b, off, none⟩ : Addr).add j = ⟨b, off + j, none⟩ by (unfold Addr.add; split <;> simp_all)]
      rw [World.cell?_alloc_lt _ _ ⟨b, off + j, none⟩ (Lists.block_lt h1)]
      exact h1
    have HC : Hid (∀ j u, (WalkMix.cells L)[j]? = some u → (w.alloc (.cells #[] 5)).cell? (p.add j) = some u) := hcell
    clear hcell hr
    have q : ∀ (w : World), (binOp .eql 53 (.slice (some p) n cap) (.slice none 0 0)).run Tryz.prog w = .ok (.bool false) w := fun w => Lib.run_eql_slice_nil w _ _ (some p) n cap 0 0 Tryz.underlying53
    have hm : (w.alloc (.cells #[] 5)).ownsRow w.heap.size 5 1 (.slice (some ⟨w.heap.size, 0, none⟩) 0 0) 0 [] := World.ownsRow_made w #[] 0 (Nat.le_refl _) (Nat.zero_le _) rfl
    go_enter Tryz.func26, Tryz.ntmps26
    go_wp2_with (at_builtin; refine wpList_append_own _ rfl (.tmp 5) (.tmp 6) 53 rfl w.heap.size 5 i0 (.int .u8 0) 1 1 Tryz.underlying53 hi hz0 hz1 hz2 rfl (by decide) _ _ _ rfl hm p n cap (WalkMix.cells L) rfl (by omega) HC.out (cells_one L) (by unfold maxLen; omega) (by omega) (by simp) ?_; intro v1 w1 o1 g1 _)
    have b1 : Below w.heap.size w w1 := ((Below.refl _ w).alloc (Nat.le_refl _) _).grown g1 (by simp) (fun k hk => (hm.lt k hk).1)
    rw [Nat.zero_add, List.nil_append] at o1
    clear g1 HC hm
    go_wp2_with fail
    go_ret
    exact ⟨_, rfl, o1, b1⟩

theorem flat_nil : ∀ {bs : List (List Pair)}, flat bs = [] → bs = []
  | [], _ => rfl
  | l :: bs, h => by simp [flat, recB] at h
def N_ok (n : Nat) : Prop := n ≤ 4000000
theorem Mine.first {w w1 w2 : World} {B b : Nat} {y : Lsm} (k : Below w.heap.size w w1) (h : Mine w1 B b y w2) : Mine w B b y w2 := by
  obtain ⟨⟨F, h1, h2⟩, h3⟩ := h
  exact ⟨⟨F, h1, fun i hi => Nat.le_trans k.size (h2 i hi)⟩, bt k h3⟩
def put6 (w : World) (b : Nat) (u0 u1 u2 u3 u4 u5 : Value) : World := (((((w.setCell ⟨b, 0, none⟩ u0).setCell ⟨b, 1, none⟩ u1).setCell ⟨b, 2, none⟩ u2).setCell ⟨b, 3, none⟩ u3).setCell ⟨b, 4, none⟩ u4).setCell ⟨b, 5, none⟩ u5
theorem put6_row {w : World} {b : Nat} {f : Nat → Value} (h : w.rowIs b 55 6 f) (limit lb safe : Nat) (logv : Value) (left : Int) (st : Bool) : (put6 w b (.int .i64 (limit : Int)) (ptr lb) logv (.int .i64 (safe : Int)) (.int .i64 left) (.bool st)).rowIs b 55 6 (fieldsW limit (ptr lb) logv safe left st) :=
  ((((((h.set 0 _).set 1 _).set 2 _).set 3 _).set 4 _).set 5 _).congr fun j hj => by match j, hj with | 0, _ | 1, _ | 2, _ | 3, _ | 4, _ | 5, _ => rfl | j + 6, q => omega
theorem put6_kept (w : World) (b : Nat) (u0 u1 u2 u3 u4 u5 : Value) : Kept (fun k => k = b) w (put6 w b u0 u1 u2 u3 u4 u5) := ((((((Kept.refl (fun k => k = b) w).setCell (p := ⟨b, 0, none⟩) (.inl rfl) u0).setCell (p := ⟨b, 1, none⟩) (.inl rfl) u1).setCell (p := ⟨b, 2, none⟩) (.inl rfl) u2).setCell (p := ⟨b, 3, none⟩) (.inl rfl) u3).setCell (p := ⟨b, 4, none⟩) (.inl rfl) u4).setCell (p := ⟨b, 5, none⟩) (.inl rfl) u5
/-- all of it anew -/
theorem crash_raw {w w2 w3 : World} {B b limit lb lb2 : Nat} {Lf : Nat → Prop} {y z : Lsm} {logv v : Value} {L M : List UInt8} {safe : Nat} {left : Int} {st : Bool} (h : Raw w B b limit lb Lf y logv L safe left st) (hm : Mine w B lb2 z w2) (b3 : Below w2.heap.size w2 w3) (ho : w3.ownsRow w2.heap.size 5 1 v M.length (WalkMix.cells M)) :
    ∃ Lf2, Raw (put6 w3 b (.int .i64 (limit : Int)) (ptr lb2) v (.int .i64 (M.length : Int)) (.int .i64 (-1)) (.bool false)) B b limit lb2 Lf2 z v M M.length (-1) false ∧ (∀ k, foot b Lf2 v k → k = b ∨ w.heap.size ≤ k) ∧ Kept (fun k => k = b) w (put6 w3 b (.int .i64 (limit : Int)) (ptr lb2) v (.int .i64 (M.length : Int)) (.int .i64 (-1)) (.bool false)) := by
  obtain ⟨⟨F2, l2, n2⟩, b2⟩ := hm
  have r3 := h.below (bt b2 b3)
  have k6 := put6_kept w3 b (.int .i64 (limit : Int)) (ptr lb2) v (.int .i64 (M.length : Int)) (.int .i64 (-1)) (.bool false)
  have hb := h.row.lt
  have hs2 := b2.size
  have nb : ¬ F2 b := fun q => by have := n2 b q; omega
  have vb : v.ownBlock ≠ some b := fun q => by have := (ho.lt b q).1; omega
  refine ⟨F2, ⟨put6_row r3.row limit lb2 M.length v (-1) false, (ls_below l2 b3).kept k6 fun i hi e => nb (by rw [← e]; exact hi), owns_base (owns_kept ho k6 fun i hi e => vb (by rw [← e]; exact hi)) (by have := h.above; omega), h.above, ⟨nb, vb⟩, fun i hi q => ?_⟩, ?_, (Kept.of_below _ (bt b2 b3)).trans k6 fun i hi => .inl hi⟩
  · have q1 := (l2.foot i hi).2
    have q2 := (ho.lt i q).1
    omega
  · rintro k (q | q | q)
    · exact .inl q
    · exact .inr (n2 k q)
    · have := (ho.lt k q).1
      exact .inr (by omega)

set_option maxHeartbeats 4000000 in
set_option maxRecDepth 100000 in
theorem crash_any {w : World} {B b : Nat} {F : Nat → Prop} {x : Wal} (h : Wa w B b F x) (hs : x.hist.length ≤ 400) (keep : Int) :
    Calls Tryz.prog 7 #[.pointer (some ⟨b, 0, none⟩), .int .i64 keep] w fun e w' => e = .returned (.tuple #[]) ∧ Steps w B b F (crashW x keep) w' := by
  obtain ⟨limit, bs, q, lb, Lf, logv, left, hraw, hl, hh, hF⟩ := h
  obtain ⟨m, p, hm, hp, htk, hnew, hsf⟩ := WalBytes.holds_crash hh keep
  have hhi := WalBytes.high_is hh.ok keep
  have hle := WalBytes.high_le hh.ok keep
  have hok := hh.ok.safe
  have hby := hh.bytes_le
  have hNb := hh.bytes
  have r0 : w.cell? ⟨b, 0, none⟩ = some (.int .i64 (limit : Int)) := hraw.row.cell (i := 0) (by omega)
  have r2 : w.cell? ⟨b, 2, none⟩ = some logv := hraw.row.cell (i := 2) (by omega)
  have r3 : w.cell? ⟨b, 3, none⟩ = some (.int .i64 (x.safe : Int)) := hraw.row.cell (i := 3) (by omega)
  have HFin : Hid (∀ (w2 w3 : World) (lb2 : Nat) (v : Value), Mine w B lb2 (stateOf limit (bs.take m)) w2 → Below w2.heap.size w2 w3 → w3.ownsRow w2.heap.size 5 1 v (flat (bs.take m)).length (WalkMix.cells (flat (bs.take m))) → (∀ j, j < 6 → ∃ u, w3.cell? ⟨b, j, none⟩ = some u) ∧ (∀ j, w3.frozen? ⟨b, j, none⟩ = false) ∧ Steps w B b F (crashW x keep) (put6 w3 b (.int .i64 (limit : Int)) (ptr lb2) v (.int .i64 ((flat (bs.take m)).length : Int)) (.int .i64 (-1)) (.bool false))) := by
    intro w2 w3 lb2 v hmi b3 ho
    obtain ⟨Lf2, rr, nn, kk⟩ := crash_raw hraw hmi b3 ho
    have r3' := (hraw.below (bt hmi.2 b3)).row
    refine ⟨fun j hj => ⟨_, r3'.cell hj⟩, fun j => r3'.frozen j, ⟨⟨foot b Lf2 v, ⟨limit, bs.take m, [], lb2, Lf2, v, -1, by rw [hnew.cur, hsf, List.append_nil]; exact rr, ⟨by decide, .inl ⟨rfl, by decide⟩⟩, hnew, fun k => Iff.rfl⟩, fun k hk => ?_⟩, kk.mono fun i hi => (hF i).2 (.inl hi)⟩⟩
    rcases nn k hk with e | e
    · exact .inl ((hF k).2 (.inl e))
    · exact .inr e
  have HLim : Hid (1 ≤ limit ∧ limit ≤ 60 ∧ (∀ l ∈ bs.take m, Fit l) ∧ (bs.take m).length ≤ 400 ∧ Part p) := ⟨hh.low, hh.high, fun l hl => hh.fit l (List.mem_of_mem_take hl), by rw [List.length_take]; have := hh.count; omega, hp⟩
  have HBB : Hid (B ≤ w.heap.size) := by show _ ≤ _; have := hraw.above; have := hraw.row.lt; omega
  have hlog := hraw.log
  have hNs : N_ok x.bytes := by unfold N_ok; have := hby; omega
  clear hl hraw hF hnew hsf hby hp
  generalize high x keep = H at htk hhi hle
  generalize x.safe = S at *
  generalize hNe : x.bytes = N at *
  unfold N_ok at hNs
  rcases hlog.2 with ⟨rfl, h0⟩ | ⟨g, c0, cur, rfl, _⟩
  · have hN0 : N = 0 := by rw [← hNb]; exact h0
    subst hN0
    obtain rfl : S = 0 := by omega
    obtain rfl : H = 0 := by omega
    rw [List.take_zero] at htk
    obtain ⟨t1, t2⟩ := List.append_eq_nil_iff.1 htk.symm
    have ht : bs.take m = [] := flat_nil t1
    have HW0 : Hid (bs.take m = []) := ht
    rw [ht] at HFin
    have k0 : min (max keep 0) (0 : Int) = 0 := by omega
    have k1 : IntKind.i64.wrap 0 = 0 := by decide
    have r3 : w.cell? ⟨b, 3, none⟩ = some (.int .i64 0) := r3
    clear hlog htk hh hNb hNs hhi hle hok t1 t2 ht
    have HP : Hid (∀ w1, Below w.heap.size w w1 → Calls Tryz.prog 25 #[.int .i64 (limit : Int), .slice none 0 0] w1 fun e w' => ∃ b2, e = .returned (.tuple #[.pointer (some ⟨b2, 0, none⟩), .int .i64 0]) ∧ Mine w B b2 (stateOf limit []) w') := fun w1 b1 => by
      obtain ⟨l1, l2, l3, l4, l5⟩ := HLim.out
      refine (replay_none limit l1 l2 w1 B (Nat.le_trans HBB.out b1.size)).mono ?_
      rintro e w' ⟨b2, rfl, h2⟩
      exact ⟨b2, rfl, Mine.first b1 h2⟩
    have HCe : Hid (∀ w1, Below w.heap.size w w1 → w1.cell? ⟨b, 0, none⟩ = some (.int .i64 (limit : Int)) ∧ w1.cell? ⟨b, 2, none⟩ = some (.slice none 0 0) ∧ w1.cell? ⟨b, 3, none⟩ = some (.int .i64 0)) := fun w1 b1 => ⟨Lists.cell_below b1 r0, Lists.cell_below b1 r2, Lists.cell_below b1 r3⟩
    go_enter Tryz.func7, Tryz.ntmps7
    go_upto_region 0 with fail
    go_region
    go_upto_region 1 with fail
    obtain ⟨s0, s2, s3⟩ := HCe.out w.drew (Below.refl _ w).drew
    have HB0 : Hid (Below w.heap.size w w.drew) := (Below.refl _ w).drew
    generalize w.drew = wd at s0 s2 s3 HB0 ⊢
    clear r0 r2 r3
    go_region_held3 (fun w' => w'.cell? ⟨b, 0, none⟩ = some (.int .i64 (limit : Int)) ∧ w'.cell? ⟨b, 2, none⟩ = some (.slice none 0 0) ∧ w'.cell? ⟨b, 3, none⟩ = some (.int .i64 0)) (first | exact ⟨s0, s2, s3⟩ | go_keep) (first | (go_at_call 25; refine (HP.out _ HB0.out.drew).mono ?_; rintro e w2 ⟨b2, rfl, h2⟩; have HM2 : Hid (Mine w B b2 (stateOf limit []) w2) := h2; obtain ⟨s0, s2, s3⟩ := HCe.out w2 h2.2; clear h2))
    go_upto_region 2 with fail
    have HCl : Hid (Calls Tryz.prog 26 #[.slice none 0 0] w2.drew fun e w3 => ∃ a3 c3, e = .returned (.slice a3 0 c3) ∧ ((∀ j, j < 6 → ∃ u, w3.cell? ⟨b, j, none⟩ = some u) ∧ (∀ j, w3.frozen? ⟨b, j, none⟩ = false) ∧ Steps w B b F (crashW x keep) (put6 w3 b (.int .i64 (limit : Int)) (ptr b2) (.slice a3 0 c3) (.int .i64 0) (.int .i64 (-1)) (.bool false))) ∧ w3.cell? ⟨b, 0, none⟩ = some (.int .i64 (limit : Int)) ∧ w3.cell? ⟨b, 2, none⟩ = some (.slice none 0 0)) := by
      have hM3 := HM2.out.then (Below.refl _ w2).drew
      refine (clone_bytes [] none 0 0 w2.drew (by decide) (Row.nil _ _ _)).mono ?_
      rintro e w3 ⟨v, rfl, o3, b3⟩
      have h3 := HFin.out w2.drew w3 b2 v hM3 b3 o3
      obtain ⟨c1, c2, c3⟩ := HCe.out w3 (bt hM3.2 b3)
      obtain ⟨a3, c3', rfl, _⟩ := Keeps.owns_row o3
      exact ⟨a3, c3', rfl, h3, c1, c2⟩
    clear HM2 HFin HCe HP HLim HBB k0
    go_region_with (first | (go_at_call 26; refine HCl.out.mono ?_; rintro e w3 ⟨a3, c3, rfl, ⟨hc, hf, hst⟩, s0, s2⟩; have HE := hst; obtain ⟨u1, t1⟩ := hc 1 (by omega); obtain ⟨u3, t3⟩ := hc 3 (by omega); obtain ⟨u4, t4⟩ := hc 4 (by omega); obtain ⟨u5, t5⟩ := hc 5 (by omega); have f0 := hf 0; have f1 := hf 1; have f2 := hf 2; have f3 := hf 3; have f4 := hf 4; have f5 := hf 5; clear hc hf hst))
    all_goals (go_wp2_with fail)
    all_goals (go_end0; exact ⟨rfl, HE⟩)
  · obtain ⟨_, hrow⟩ := Row.of_owns hlog
    rw [hNb] at r2 hrow
    have hcap := hrow.2.1
    have hWle : (flat (bs.take m)).length ≤ H := by
      have h1 := congrArg List.length htk
      rw [List.length_take, List.length_append, List.length_append, ← List.length_append] at h1
      rw [hNb] at h1
      omega
    have HRow : Hid (Row w (some ⟨g, 0, none⟩) H c0 (WalkMix.cells (flat (bs.take m) ++ p))) := by
      have h1 := hrow.take H hle
      rw [WalkMix.cells, ← List.map_take, htk] at h1
      exact h1
    have HRow2 : Hid (Row w (some ⟨g, 0, none⟩) (flat (bs.take m)).length c0 (WalkMix.cells (flat (bs.take m)))) := by
      have h1 := HRow.out.take (flat (bs.take m)).length hWle
      rw [WalkMix.cells, ← List.map_take, List.take_left] at h1
      exact h1
    generalize hWe : (flat (bs.take m)).length = W at *
    have HWe : Hid ((flat (bs.take m)).length = W) := hWe
    clear hlog htk hrow hWe hh
    go_enter Tryz.func7, Tryz.ntmps7
    go_upto_region 0 with fail
    go_region
    generalize hKV : min (max keep 0) ((N : Int) - (S : Int)) = KV at hhi ⊢
    have e1 : (S : Int) + KV = (H : Int) := hhi.symm
    have w1 : IntKind.i64.wrap (H : Int) = (H : Int) := by rw [IntKind.wrap_i64]; omega
    have e2 : (H : Int) ≤ (c0 : Int) := by omega
    have e3 : (0 : Int) ≤ (H : Int) := by omega
    clear hKV hhi
    have HP : Hid (∀ w1, Below w.heap.size w w1 → Calls Tryz.prog 25 #[.int .i64 (limit : Int), .slice (some ⟨g, 0, none⟩) H c0] w1 fun e w' => ∃ b2, e = .returned (.tuple #[.pointer (some ⟨b2, 0, none⟩), .int .i64 (W : Int)]) ∧ Mine w B b2 (stateOf limit (bs.take m)) w') := fun w1 b1 => by
      obtain ⟨l1, l2, l3, l4, l5⟩ := HLim.out
      refine (replay_some limit l1 l2 (bs.take m) p l3 l5 l4 g 0 H c0 w1 B (Nat.le_trans HBB.out b1.size) (HRow.out.below b1)).mono ?_
      rintro e w' ⟨b2, rfl, h2⟩
      exact ⟨b2, by rw [HWe.out], Mine.first b1 h2⟩
    have HCe : Hid (∀ w1, Below w.heap.size w w1 → w1.cell? ⟨b, 0, none⟩ = some (.int .i64 (limit : Int)) ∧ w1.cell? ⟨b, 2, none⟩ = some (.slice (some ⟨g, 0, none⟩) N c0) ∧ w1.cell? ⟨b, 3, none⟩ = some (.int .i64 (S : Int))) := fun w1 b1 => ⟨Lists.cell_below b1 r0, Lists.cell_below b1 r2, Lists.cell_below b1 r3⟩
    go_upto_region 1 with fail
    obtain ⟨s0, s2, s3⟩ := HCe.out w.drew (Below.refl _ w).drew
    have HB0 : Hid (Below w.heap.size w w.drew) := (Below.refl _ w).drew
    generalize w.drew = wd at s0 s2 s3 HB0 ⊢
    clear r0 r2 r3
    go_region_held3 (fun w' => w'.cell? ⟨b, 0, none⟩ = some (.int .i64 (limit : Int)) ∧ w'.cell? ⟨b, 2, none⟩ = some (.slice (some ⟨g, 0, none⟩) N c0) ∧ w'.cell? ⟨b, 3, none⟩ = some (.int .i64 (S : Int))) (first | exact ⟨s0, s2, s3⟩ | go_keep) (first | (go_at_call 25; refine (HP.out _ HB0.out.drew).mono ?_; rintro e w2 ⟨b2, rfl, h2⟩; have HM2 : Hid (Mine w B b2 (stateOf limit (bs.take m)) w2) := h2; obtain ⟨s0, s2, s3⟩ := HCe.out w2 h2.2; clear h2))
    go_upto_region 2 with fail
    have i1 : (W : Int) ≤ (N : Int) := by omega
    have i2 : (W : Int) ≤ (c0 : Int) := by omega
    have i3 : (0 : Int) ≤ (W : Int) := by omega
    have hW8 : W ≤ 10000000 := by omega
    have HCl : Hid (Calls Tryz.prog 26 #[.slice (some ⟨g, 0, none⟩) W c0] w2.drew fun e w3 => ∃ a3 c3, e = .returned (.slice a3 W c3) ∧ ((∀ j, j < 6 → ∃ u, w3.cell? ⟨b, j, none⟩ = some u) ∧ (∀ j, w3.frozen? ⟨b, j, none⟩ = false) ∧ Steps w B b F (crashW x keep) (put6 w3 b (.int .i64 (limit : Int)) (ptr b2) (.slice a3 W c3) (.int .i64 (W : Int)) (.int .i64 (-1)) (.bool false))) ∧ w3.cell? ⟨b, 0, none⟩ = some (.int .i64 (limit : Int)) ∧ w3.cell? ⟨b, 2, none⟩ = some (.slice (some ⟨g, 0, none⟩) N c0)) := by
      have hM3 := HM2.out.then (Below.refl _ w2).drew
      refine (clone_bytes (flat (bs.take m)) (some ⟨g, 0, none⟩) W c0 w2.drew hW8 (HRow2.out.below hM3.2)).mono ?_
      rintro e w3 ⟨v, rfl, o3, b3⟩
      have h3 := HFin.out w2.drew w3 b2 v hM3 b3 o3
      obtain ⟨c1, c2, c3⟩ := HCe.out w3 (bt hM3.2 b3)
      obtain ⟨a3, c3', rfl, _⟩ := Keeps.owns_row o3
      exact ⟨a3, c3', rfl, h3, c1, c2⟩
    clear HRow HRow2 HM2 HFin HCe HP HLim HBB HWe hNs hle hok hcap hWle e1 w1 e2 e3
    go_region_with (first | (go_at_call 26; refine HCl.out.mono ?_; rintro e w3 ⟨a3, c3, rfl, ⟨hc, hf, hst⟩, s0, s2⟩; have HE := hst; obtain ⟨u1, t1⟩ := hc 1 (by omega); obtain ⟨u3, t3⟩ := hc 3 (by omega); obtain ⟨u4, t4⟩ := hc 4 (by omega); obtain ⟨u5, t5⟩ := hc 5 (by omega); have f0 := hf 0; have f1 := hf 1; have f2 := hf 2; have f3 := hf 3; have f4 := hf 4; have f5 := hf 5; clear hc hf hst))
    all_goals (go_wp2_with fail)
    all_goals (go_end0; exact ⟨rfl, HE⟩)

end Go.Proofs.YtofaegcljcpceagGreatDoor.WalkWa

