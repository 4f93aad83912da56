/-
  Lists of ints, and lists of lists of ints, as the walks and the reading have them.
-/
import Derived.Test.YticadkggaanbjaaGreatDoorListRows
import Derived.Deep.SlicePairs
import Derived.SizedLaws
import Derived.Test.YticadkggaanbjaaGreatDoorMirrors
namespace Go.Proofs.YticadkggaanbjaaGreatDoor.IntRows
open Go.RowKit
open Lists (Row ints)

section
variable {H : Type} {enc : TypeId × Value → H} {w : World} {base : Nat} {spare : Nat → Bool} {held : Bool}
/-- a list of ints, as the reading opens it -/
theorem open_row {P : Program} {t e : TypeId} {fuel : Nat} {a : Option Addr} {n cap : Nat} {x : DataW H × List MemPlace} (ht : P.underlying t = some (.slice e)) (he : P.underlying e = some (.int .i64)) (ce : P.cellsOf e = 1)
    (h : DataW.trod enc P w base spare held fuel t [.slice a n cap] = some x) :
    ∃ l : List Int, Row w a n cap (ints l) ∧ (∀ z ∈ l, (Lit.int .i64 z).wf = true) ∧ (l = [] ∨ ∃ ls sp, x.1 = .slice ls sp ∧ ls.length = l.length) := by
  rcases Deep.open_slice1 ht ce h with ⟨hcs, _⟩ | ⟨x', len, cap', m, k, V, D, Pl, hcs, _, hl, hm, hmm, rfl, hx⟩
  · simp at hcs
    obtain ⟨rfl, rfl, rfl⟩ := hcs
    refine ⟨[], Row.nil _ _ _, ?_, .inl rfl⟩
    intro z hz
    cases hz
  · simp at hcs
    obtain ⟨rfl, rfl, rfl⟩ := hcs
    have hlm : n ≤ m := by rw [hmm]; split <;> omega
    have each : ∀ i, i < n → ∃ z : Int, w.cell? (x'.add i) = some (.int .i64 z) ∧ (Lit.int .i64 z).wf = true := by
      intro i hi
      obtain ⟨h1, h2⟩ := hx i (by omega)
      obtain ⟨z, q0, _, w0⟩ := DataW.trod_int he h2
      simp only [List.cons.injEq, and_true] at q0
      rw [q0] at h1
      exact ⟨z, h1, w0⟩
    obtain ⟨Z, hZ⟩ := Deep.choose_lt each
    refine ⟨(List.range n).map Z, ?_, ?_, .inr ⟨_, _, rfl, by simp⟩⟩
    · refine ⟨by simp [ints], hl, fun h0 => ?_⟩
      obtain ⟨b, off, spot⟩ := x'
      have hspot : spot = none := by simpa [Addr.add] using World.cell?_spot (hZ 0 h0).1
      subst hspot
      have ea : ∀ k, (⟨b, off, none⟩ : Addr).add k = ⟨b, off + k, none⟩ := fun k => by unfold Addr.add; split <;> simp_all
      refine ⟨b, off, rfl, fun j u hj => ?_⟩
      have hjn : j < n := by
        have := (List.getElem?_eq_some_iff.1 hj).1
        simpa [ints] using this
      have h1 := (hZ j hjn).1
      rw [ea] at h1
      rw [h1]
      simp only [ints, List.map_map, List.getElem?_map, List.getElem?_range hjn, Option.map_some, Function.comp] at hj
      exact hj
    · intro z hz
      obtain ⟨i, hi, rfl⟩ := List.mem_map.1 hz
      exact (hZ i (List.mem_range.1 hi)).2

/-- the list at a, of n lists of ints -/
def Rowss (w : World) (a : Option Addr) (n cap : Nat) (ls : List (List Int)) : Prop :=
  ls.length = n ∧ n ≤ cap ∧ (0 < n → ∃ b off, a = some ⟨b, off, none⟩ ∧ ∀ i l, ls[i]? = some l → ∃ ai ci, w.cell? ⟨b, off + i, none⟩ = some (.slice ai l.length ci) ∧ Row w ai l.length ci (ints l))
theorem Rowss.below {w w' : World} {a : Option Addr} {n cap : Nat} {ls : List (List Int)} (h : Rowss w a n cap ls) (b : Below w.heap.size w w') : Rowss w' a n cap ls := by
  obtain ⟨h1, h2, h3⟩ := h
  refine ⟨h1, h2, fun h0 => ?_⟩
  obtain ⟨bk, off, e, hc⟩ := h3 h0
  refine ⟨bk, off, e, fun i l hi => ?_⟩
  obtain ⟨ai, ci, c1, c2⟩ := hc i l hi
  exact ⟨ai, ci, Lists.cell_below b c1, c2.below b⟩
theorem row_len {w : World} {a : Option Addr} {n cap : Nat} {l : List Int} (h : Row w a n cap (ints l)) : l.length = n := by rw [← h.1, Lists.ints_length]

/-- what is met in reading an element of a list is bounded, too -/
theorem weights_all {P : Program} {e : TypeId} : ∀ {ds : List (DataW H)} {d : DataW H}, d ∈ ds → ∀ k ∈ d.weights P e, k ∈ DataW.weightsAll P e ds
  | d0 :: ds, d, hd, k, hk => by
    simp only [DataW.weightsAll, List.mem_append]
    rcases List.mem_cons.1 hd with rfl | hd
    · exact .inl hk
    · exact .inr (weights_all hd k hk)
theorem weights_slice {P : Program} {t e : TypeId} {ls sp : List (DataW H)} {B : Nat} (ht : P.underlying t = some (.slice e)) (h : ∀ k ∈ (DataW.slice ls sp).weights P t, k ≤ B) :
    (ls.length + sp.length) * P.bytesOf e ≤ B ∧ ∀ d ∈ ls, ∀ k ∈ d.weights P e, k ≤ B := by
  have e1 : (DataW.slice ls sp).weights P t = (ls.length + sp.length) * P.bytesOf e :: (DataW.weightsAll P e ls ++ DataW.weightsAll P e sp) := by simp [DataW.weights, ht]
  rw [e1] at h
  exact ⟨h _ (List.mem_cons_self ..), fun d hd k hk => h k (List.mem_cons_of_mem _ (List.mem_append_left _ (weights_all hd k hk)))⟩
theorem weights_struct {P : Program} {t : TypeId} {fs : Array Field} {ds : List (DataW H)} {B : Nat} (ht : P.underlying t = some (.struct fs)) (h : ∀ k ∈ (DataW.agg ds).weights P t, k ≤ B) {j : Nat} {f : Field} {d : DataW H} (hf : fs[j]? = some f) (hd : ds[j]? = some d) :
    ∀ k ∈ d.weights P f.type, k ≤ B := by
  have e1 : (DataW.agg ds).weights P t = DataW.weightsEach P (fs.toList.map (·.type)) ds := by simp [DataW.weights, ht]
  rw [e1] at h
  exact fun k hk => h k (DataW.weights_mem_each (j := j) (by simp [hf]) hd k hk)

theorem open_rows {P : Program} {t e q : TypeId} {fuel : Nat} {a : Option Addr} {n cap : Nat} {x : DataW H × List MemPlace} (ht : P.underlying t = some (.slice e)) (hs : P.underlying e = some (.slice q)) (hq : P.underlying q = some (.int .i64))
    (c : P.cellsOf e = 1) (cq : P.cellsOf q = 1) (h : DataW.trod enc P w base spare held fuel t [.slice a n cap] = some x) :
    ∃ ls : List (List Int), Rowss w a n cap ls ∧ (∀ l ∈ ls, ∀ z ∈ l, (Lit.int .i64 z).wf = true) ∧ (ls = [] ∨ ∃ es sp, x.1 = .slice es sp ∧ es.length = ls.length) := by
  rcases Deep.open_slice1 ht c h with ⟨hcs, _⟩ | ⟨x', len, cap', m, k, V, D, Pl, hcs, _, hl, hm, hmm, rfl, hx⟩
  · simp at hcs
    obtain ⟨rfl, rfl, rfl⟩ := hcs
    refine ⟨[], ⟨rfl, Nat.zero_le _, fun h => by omega⟩, ?_, .inl rfl⟩
    intro l hl
    cases hl
  · simp at hcs
    obtain ⟨rfl, rfl, rfl⟩ := hcs
    have hlm : n ≤ m := by rw [hmm]; split <;> omega
    have each : ∀ i, i < n → ∃ l : List Int, (∃ ai ci, w.cell? (x'.add i) = some (.slice ai l.length ci) ∧ Row w ai l.length ci (ints l)) ∧ ∀ z ∈ l, (Lit.int .i64 z).wf = true := by
      intro i hi
      obtain ⟨h1, h2⟩ := hx i (by omega)
      obtain ⟨ai, li, ci, hv⟩ : ∃ ai li ci, V i = .slice ai li ci := by
        rcases Deep.open_slice hs h2 with ⟨q1, _⟩ | ⟨y, ly, cy, _, _, _, _, q1, _⟩
        · simp at q1
          exact ⟨none, 0, 0, q1⟩
        · simp at q1
          exact ⟨_, _, _, q1⟩
      rw [hv] at h1 h2
      obtain ⟨l, g1, g2, _⟩ := open_row hs hq cq h2
      have hl2 := row_len g1
      rw [← hl2] at h1 g1
      exact ⟨l, ⟨ai, ci, h1, g1⟩, g2⟩
    obtain ⟨B, hB⟩ := Deep.choose_lt each
    refine ⟨(List.range n).map B, ⟨by simp, hl, fun h0 => ?_⟩, ?_, .inr ⟨_, _, rfl, by simp⟩⟩
    · obtain ⟨b, off, spot⟩ := x'
      obtain ⟨ai, ci, g1, _⟩ := (hB 0 h0).1
      have hspot : spot = none := by simpa [Addr.add] using World.cell?_spot g1
      subst hspot
      have ea : ∀ k, (⟨b, off, none⟩ : Addr).add k = ⟨b, off + k, none⟩ := fun k => by unfold Addr.add; split <;> simp_all
      refine ⟨b, off, rfl, fun i l hi => ?_⟩
      have hin : i < n := by
        have := (List.getElem?_eq_some_iff.1 hi).1
        simpa using this
      rw [List.getElem?_map, List.getElem?_range hin, Option.map_some, Option.some.injEq] at hi
      subst hi
      obtain ⟨ai, ci, g1, g2⟩ := (hB i hin).1
      rw [ea] at g1
      exact ⟨ai, ci, g1, g2⟩
    · intro l hl
      obtain ⟨i, hi, rfl⟩ := List.mem_map.1 hl
      exact (hB i (List.mem_range.1 hi)).2
end

end Go.Proofs.YticadkggaanbjaaGreatDoor.IntRows

/-
  Replies of a log, as the walks and the reading have them: seven cells each (what, the head's four, entries, a proof).
-/
namespace Go.Proofs.YticadkggaanbjaaGreatDoor.ReplyRows
open Go.RowKit
open Lists (Row ints)
open Wides (Wide)
open Mirrors (Reply)
open Heads (Head)
open Entries (Entry)

instance : Inhabited Reply := ⟨⟨0, Heads.zero, [], []⟩⟩

/-- a reply from a cell on -/
structure RAt (w : World) (b off : Nat) (r : Reply) : Prop where
  what : w.cell? ⟨b, off, none⟩ = some (.int .i64 r.what)
  size : w.cell? ⟨b, off + 1, none⟩ = some (.int .i64 r.head.size)
  root : w.cell? ⟨b, off + 2, none⟩ = some (.int .i64 r.head.root)
  time : w.cell? ⟨b, off + 3, none⟩ = some (.int .i64 r.head.time)
  sign : w.cell? ⟨b, off + 4, none⟩ = some (.int .i64 r.head.sign)
  ents : ∃ a c, w.cell? ⟨b, off + 5, none⟩ = some (.slice a r.ents.length c) ∧ Wide 2 w a r.ents.length c (EntRows.cells r.ents)
  proof : ∃ a c, w.cell? ⟨b, off + 6, none⟩ = some (.slice a r.proof.length c) ∧ Row w a r.proof.length c (ints r.proof)
theorem RAt.below {w w' : World} {b off : Nat} {r : Reply} (h : RAt w b off r) (k : Below w.heap.size w w') : RAt w' b off r := by
  obtain ⟨a1, c1, h1, h2⟩ := h.ents
  obtain ⟨a2, c2, h3, h4⟩ := h.proof
  exact ⟨Lists.cell_below k h.what, Lists.cell_below k h.size, Lists.cell_below k h.root, Lists.cell_below k h.time, Lists.cell_below k h.sign, ⟨a1, c1, Lists.cell_below k h1, h2.below k⟩, ⟨a2, c2, Lists.cell_below k h3, h4.below k⟩⟩
/-- how long its parts are, at most -/
structure RFine (r : Reply) : Prop where
  ents : r.ents.length ≤ 17592186043904
  proof : r.proof.length ≤ 17592186043904
  data : ∀ e ∈ r.ents, e.2.size ≤ maxLen
/-- the list at a, of n replies -/
def Replies (w : World) (a : Option Addr) (n cap : Nat) (rs : List Reply) : Prop :=
  rs.length = n ∧ n ≤ cap ∧ (0 < n → ∃ b off, a = some ⟨b, off, none⟩ ∧ ∀ i r, rs[i]? = some r → RAt w b (off + i * 7) r)
theorem Replies.below {w w' : World} {a : Option Addr} {n cap : Nat} {rs : List Reply} (h : Replies w a n cap rs) (k : Below w.heap.size w w') : Replies w' a n cap rs := by
  obtain ⟨h1, h2, h3⟩ := h
  refine ⟨h1, h2, fun h0 => ?_⟩
  obtain ⟨b, off, e, hc⟩ := h3 h0
  exact ⟨b, off, e, fun i r hi => (hc i r hi).below k⟩

section
variable {H : Type} {enc : TypeId × Value → H} {w : World} {base : Nat} {spare : Nat → Bool} {held : Bool}
theorem slice_of {P : Program} {t e : TypeId} {fuel : Nat} {v : Value} {x : DataW H × List MemPlace} (ht : P.underlying t = some (.slice e)) (h : DataW.trod enc P w base spare held fuel t [v] = some x) : ∃ a n c, v = .slice a n c := by
  rcases Deep.open_slice ht h with ⟨q1, _⟩ | ⟨y, ly, cy, _, _, _, _, q1, _⟩
  · simp at q1
    exact ⟨none, 0, 0, q1⟩
  · simp at q1
    exact ⟨_, _, _, q1⟩
set_option maxHeartbeats 1000000 in
/-- an argument, as the reading opens it -/
theorem open_replies {P : Program} {t e th te tp tx : TypeId} {f0 f1 f2 f3 g0 g1 g2 g3 x0 x1 : Field} {fuel : Nat} {a : Option Addr} {n cap : Nat} {x : DataW H × List MemPlace}
    (ht : P.underlying t = some (.slice e)) (he : P.underlying e = some (.struct #[f0, f1, f2, f3])) (hh : P.underlying th = some (.struct #[g0, g1, g2, g3])) (hte : P.underlying te = some (.slice tx)) (hx : P.underlying tx = some (.struct #[x0, x1]))
    (ce : P.cellsOf e = 7) (o0 : f0.offset = 0) (o1 : f1.offset = 1) (o2 : f2.offset = 5) (o3 : f3.offset = 6) (t1 : f1.type = th) (t2 : f2.type = te) (t3 : f3.type = tp)
    (c0 : P.cellsOf f0.type = 1) (c1 : P.cellsOf th = 4) (c2 : P.cellsOf te = 1) (c3 : P.cellsOf tp = 1)
    (p0 : g0.offset = 0) (p1 : g1.offset = 1) (p2 : g2.offset = 2) (p3 : g3.offset = 3) (d0 : P.cellsOf g0.type = 1) (d1 : P.cellsOf g1.type = 1) (d2 : P.cellsOf g2.type = 1) (d3 : P.cellsOf g3.type = 1)
    (u0 : P.underlying f0.type = some (.int .i64)) (v0 : P.underlying g0.type = some (.int .i64)) (v1 : P.underlying g1.type = some (.int .i64)) (v2 : P.underlying g2.type = some (.int .i64)) (v3 : P.underlying g3.type = some (.int .i64))
    (cx : P.cellsOf tx = 2) (y0 : x0.offset = 0) (y1 : x1.offset = 1) (z0 : P.cellsOf x0.type = 1) (z1 : P.cellsOf x1.type = 1) (s0 : P.underlying x0.type = some (.int .i64)) (s1 : P.underlying x1.type = some .string)
    {ti : TypeId} (htp : P.underlying tp = some (.slice ti)) (hti : P.underlying ti = some (.int .i64)) (cti : P.cellsOf ti = 1)
    (be : P.bytesOf tx = 24) (bi : P.bytesOf ti = 8)
    (h : DataW.trod enc P w base spare held fuel t [.slice a n cap] = some x) (hsz : ∀ k ∈ x.1.weights P t, k ≤ reachBytes) :
    ∃ rs : List Reply, Replies w a n cap rs ∧ (∀ r ∈ rs, RFine r) ∧ (rs = [] ∨ ∃ ls sp, x.1 = .slice ls sp ∧ ls.length = rs.length) := by
  rcases Deep.open_slice ht h with ⟨hcs, _⟩ | ⟨x', len, cap', m, k, D, Pl, hcs, _, hl, hm, hmm, rfl, hxx⟩
  · simp at hcs
    obtain ⟨rfl, rfl, rfl⟩ := hcs
    refine ⟨[], ⟨rfl, Nat.zero_le _, fun h => by omega⟩, ?_, .inl rfl⟩
    intro r hr
    cases hr
  · simp at hcs
    obtain ⟨rfl, rfl, rfl⟩ := hcs
    have hlm : n ≤ m := by rw [hmm]; split <;> omega
    have hw := (IntRows.weights_slice ht hsz).2
    have each : ∀ i, i < n → ∃ r : Reply, ((w.cell? (x'.add (i * 7)) = some (.int .i64 r.what) ∧ w.cell? (x'.add (i * 7 + 1)) = some (.int .i64 r.head.size) ∧ w.cell? (x'.add (i * 7 + 2)) = some (.int .i64 r.head.root) ∧ w.cell? (x'.add (i * 7 + 3)) = some (.int .i64 r.head.time) ∧ w.cell? (x'.add (i * 7 + 4)) = some (.int .i64 r.head.sign)) ∧
        (∃ a c, w.cell? (x'.add (i * 7 + 5)) = some (.slice a r.ents.length c) ∧ Wide 2 w a r.ents.length c (EntRows.cells r.ents)) ∧ ∃ a c, w.cell? (x'.add (i * 7 + 6)) = some (.slice a r.proof.length c) ∧ Row w a r.proof.length c (ints r.proof)) ∧ RFine r := by
      intro i hi
      have hDi : ∀ k ∈ (D i).weights P e, k ≤ reachBytes := hw (D i) (List.mem_map.2 ⟨i, List.mem_range.2 hi, rfl⟩)
      obtain ⟨cs', h1, h2⟩ := hxx i (by omega)
      rw [ce] at h1
      obtain ⟨_, hlen, hcell⟩ := World.cells?_some h1
      obtain ⟨xs, k', hk, hxy, _, hxl, hf⟩ := DataW.trod_struct he h2
      match xs, hxl, cs', hlen with
      | [r0, r1, r2, r3], _, [q0, q1, q2, q3, q4, q5, q6], _ =>
        have m0 := hf 0 f0 rfl
        have m1 := hf 1 f1 rfl
        have m2 := hf 2 f2 rfl
        have m3 := hf 3 f3 rfl
        subst t1
        subst t2
        subst t3
        simp [o0, o1, o2, o3, c0, c1, c2, c3] at m0 m1 m2 m3
        have n0 := hcell 0 (by omega)
        have n1 := hcell 1 (by omega)
        have n2 := hcell 2 (by omega)
        have n3 := hcell 3 (by omega)
        have n4 := hcell 4 (by omega)
        have n5 := hcell 5 (by omega)
        have n6 := hcell 6 (by omega)
        rw [Deep.add_add] at n0 n1 n2 n3 n4 n5 n6
        obtain ⟨what, e0, dd0, w0⟩ := DataW.trod_int u0 m0
        simp only [List.cons.injEq, and_true] at e0
        subst e0
        obtain ⟨hs, k2, _, hsy, _, hsl, hg⟩ := DataW.trod_struct hh m1
        obtain ⟨a5, l5, c5, rfl⟩ := slice_of hte m2
        obtain ⟨a6, l6, c6, rfl⟩ := slice_of htp m3
        obtain ⟨le, E1, E2, E3⟩ := EntRows.open_entries hte hx cx y0 y1 z0 z1 s0 s1 m2
        obtain ⟨lp, F1, F2, F3⟩ := IntRows.open_row htp hti cti m3
        match hs, hsl with
        | [h0, h1', h2', h3'], _ =>
          have b0 := hg 0 g0 rfl
          have b1 := hg 1 g1 rfl
          have b2 := hg 2 g2 rfl
          have b3 := hg 3 g3 rfl
          simp [p0, p1, p2, p3, d0, d1, d2, d3] at b0 b1 b2 b3
          obtain ⟨i0, j0, _, _⟩ := DataW.trod_int v0 b0
          obtain ⟨i1, j1, _, _⟩ := DataW.trod_int v1 b1
          obtain ⟨i2, j2, _, _⟩ := DataW.trod_int v2 b2
          obtain ⟨i3, j3, _, _⟩ := DataW.trod_int v3 b3
          simp only [List.cons.injEq, and_true] at j0 j1 j2 j3
          subst j0 j1 j2 j3
          have hle := EntRows.len_of E1
          have hlp := IntRows.row_len F1
          subst hle
          subst hlp
          have hD : D i = .agg [r0.1, r1.1, r2.1, r3.1] := by simp only [Prod.mk.injEq] at hxy; rw [hxy.1]; rfl
          rw [hD] at hDi
          have W2 := IntRows.weights_struct he hDi (j := 2) rfl rfl
          have W3 := IntRows.weights_struct he hDi (j := 3) rfl rfl
          refine ⟨⟨what, ⟨i0, i1, i2, i3⟩, le, lp⟩, ⟨⟨by simpa using n0, by simpa using n1, by simpa using n2, by simpa using n3, by simpa using n4⟩, ⟨a5, c5, by simpa using n5, E1⟩, ⟨a6, c6, by simpa using n6, F1⟩⟩, ?_, ?_, fun y hy => (E2 y hy).2⟩
          · rcases E3 with rfl | ⟨ls, sp, hx3, hl3⟩
            · exact Nat.zero_le _
            · rw [hx3] at W2
              have := (IntRows.weights_slice hte W2).1
              rw [be] at this
              simp only [reachBytes] at this
              show le.length ≤ _
              omega
          · rcases F3 with rfl | ⟨ls, sp, hx3, hl3⟩
            · exact Nat.zero_le _
            · rw [hx3] at W3
              have := (IntRows.weights_slice htp W3).1
              rw [bi] at this
              simp only [reachBytes] at this
              show lp.length ≤ _
              omega
    obtain ⟨R, hR⟩ := Deep.choose_lt each
    refine ⟨(List.range n).map R, ⟨by simp, hl, fun h0 => ?_⟩, ?_, .inr ⟨_, _, rfl, by simp⟩⟩
    · obtain ⟨b, off, spot⟩ := x'
      have hspot : spot = none := by simpa [Addr.add] using World.cell?_spot (hR 0 h0).1.1.1
      subst hspot
      have ea : ∀ k, (⟨b, off, none⟩ : Addr).add k = ⟨b, off + k, none⟩ := fun k => by unfold Addr.add; split <;> simp_all
      refine ⟨b, off, rfl, fun i r hi => ?_⟩
      have hin : i < n := by
        have := (List.getElem?_eq_some_iff.1 hi).1
        simpa using this
      rw [List.getElem?_map, List.getElem?_range hin, Option.map_some, Option.some.injEq] at hi
      subst hi
      obtain ⟨⟨⟨k0, k1, k2, k3, k4⟩, k5, k6⟩, _⟩ := hR i hin
      simp only [ea] at k0 k1 k2 k3 k4 k5 k6
      simp only [← Nat.add_assoc] at k0 k1 k2 k3 k4 k5 k6
      exact ⟨k0, k1, k2, k3, k4, k5, k6⟩
    · intro r hr
      obtain ⟨i, hi, rfl⟩ := List.mem_map.1 hr
      exact (hR i (List.mem_range.1 hi)).2
end

end Go.Proofs.YticadkggaanbjaaGreatDoor.ReplyRows

