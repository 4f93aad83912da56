/-
  What the program's mirror does with entries that it hears: takeEntries.
-/
import Derived.Test.YtigbbhojgajkjaiGreatDoorWalkMiTake
import Derived.Maps.AppendAt
import Derived.Lib.AppendZeros
import Derived.Deep.RegionLaw
namespace Go.Proofs.YtigbbhojgajkjaiGreatDoor.WalkMiEnts
open Go.RowKit
open Lists (Row ints bt)
open Keeps (Kept owns_kept owns_base owns_row)
open Wides (Wide owns_wide)
open Heads (Head zero isKey verifyE)
open HeadVals (hv aggH sizeH)
open Entries (Entry entE entsE firstE leafsOf)
open EntRows (cells cells_append)
open Errs (errv errv0 errv_pos)
open Mirrors (Mir Want rootE Ok someE someE0 someM ends)
open MirObj (Lay fld foot put4)
open WalkMiGo (Turned gone)
open WalkMiLists (infoE ones)

/-- what takeEntries leaves of it: on an error at least its own are as they were -/
def Took (w : World) (B b : Nat) (key : Int) (m : Mir) (v1 v2 : Value) (l : List Entry) (e : Ending) (w' : World) : Prop :=
  e = .returned (errv (someE m l)) ∧ ∃ m', Turned w B b key v1 v2 m' w' ∧ (someE m l = 0 → m' = someM m l) ∧ (someE m l ≠ 0 → m'.forget = m.forget)

/-- one entry put behind those of a row of the call's own -/
theorem run_one (w : World) (B : Nat) (v : Value) (l : List Entry) (hown : w.ownsRow B 65 2 v l.length (cells l)) (g : Nat) (t : Int) (d : ByteArray) (h0 : w.cell? ⟨g, 0, none⟩ = some (.int .i64 t)) (h1 : w.cell? ⟨g, 1, none⟩ = some (.string d)) (hl : l.length ≤ 100000) (hB : B ≤ w.heap.size) :
    ∃ v' w', (∀ ty, (Builtin.append_ #[22, 22] ty #[v, .slice (some ⟨g, 0, none⟩) 1 1]).run Tryz.prog w = .ok v' w') ∧ w'.ownsRow B 65 2 v' (l ++ [(t, d)]).length (cells (l ++ [(t, d)])) ∧ Kept (fun k => v.ownBlock = some k) w w' ∧ ∀ k, v'.ownBlock = some k → v.ownBlock = some k ∨ k = w.heap.size := by
  obtain ⟨i0, hi, hz0, hz1, hz2⟩ := info_parts infoE
  obtain ⟨v', w', hr, o', g', _, at'⟩ := run_append_own_at (P := Tryz.prog) w B 22 22 65 i0 (.agg #[.int .i64 0, .string ⟨#[]⟩]) 2 24 Tryz.underlying22 hi hz0 hz1 hz2 rfl (by decide) v l.length (cells l) hown ⟨g, 0, none⟩ 1 1 (cells [(t, d)]) rfl
    (fun j u hj => by
      match j, hj with
      | 0, hj => simp [cells] at hj; subst hj; exact h0
      | 1, hj => simp [cells] at hj; subst hj; exact h1) (ones _) (by unfold maxLen; omega) (by omega) hB
  refine ⟨v', w', fun ty => hr, ?_, (Kept.refl _ w).grown g' fun k hk => .inl hk, fun k hk => ?_⟩
  · rw [cells_append, List.length_append]
    exact o'
  · rcases at' with e | e
    · exact .inl (by rw [← e]; exact hk)
    · rw [e] at hk
      simp only [Option.some.injEq] at hk
      exact .inr hk.symm
/-- append, where its run is known, in a region that draws -/
theorem step_append_run {P : Program} {w : World} {ops : Array Oper} {o : Oper} {a : Act} {K : Act → World → Prop} {Q : Exit → Act → World → Prop} {E : Prop} (hg : o.guard = none) (s x : Operand) (t t' : TypeId)
    (ho : o.op = .call { callee := .builtin .append, args := #[s, x], argTypes := #[t, t'] }) (vs vx : Value) (hs : a.eval s = vs) (hx : a.eval x = vx) (v' : Value) (w' : World)
    (hr : ∀ ty, (Builtin.append_ #[t, t'] ty #[vs, vx]).run P w = .ok v' w') (hK : K (a.put o.dst v') w') :
    if Region.wanted o (yielded ops a.tmps) = true then Oper.wp P o a w K Q else E := by
  rw [if_pos (by simp [Region.wanted, hg])]
  exact Lib.wp_append_run w s x t t' ho vs vx hs hx v' w' (hr _) hK

/-- so far: the first k wait, too -/
structure Far (w : World) (B b : Nat) (key : Int) (m : Mir) (v1 v2 : Value) (l : List Entry) (k : Nat) (wr : World) : Prop where
  lay : ∃ x, Lay wr B b key (m.with (l.take k)) v1 x ∧ ∀ i, x.ownBlock = some i → v2.ownBlock = some i ∨ w.heap.size ≤ i
  kept : Kept (foot b v1 v2) w wr
  fine : ∀ e ∈ l.take k, entE e = 0
theorem Far.turned {w wr : World} {B b : Nat} {key : Int} {m : Mir} {v1 v2 : Value} {l : List Entry} {k : Nat} (h : Far w B b key m v1 v2 l k wr) : Turned w B b key v1 v2 (m.with (l.take k)) wr := by
  obtain ⟨x, h1, h2⟩ := h.lay
  refine ⟨v1, x, h1, h.kept, ?_⟩
  rintro i (q | q | q)
  · exact .inl (.inl q)
  · exact .inl (.inr (.inl q))
  · exact (h2 i q).imp (fun q => .inr (.inr q)) id
theorem Far.below {w wr w' : World} {B b : Nat} {key : Int} {m : Mir} {v1 v2 : Value} {l : List Entry} {k : Nat} (h : Far w B b key m v1 v2 l k wr) (hb : Below wr.heap.size wr w') : Far w B b key m v1 v2 l k w' := by
  obtain ⟨x, h1, h2⟩ := h.lay
  exact ⟨⟨x, h1.below hb, h2⟩, h.kept.then hb, h.fine⟩
theorem wide_kept {S : Nat → Prop} {s : Nat} {w w' : World} {a : Option Addr} {n cap : Nat} {xs : List Value} (h : Wide s w a n cap xs) (k : Kept S w w') (hS : ∀ p, 0 < n → a = some p → ¬ S p.block) : Wide s w' a n cap xs := by
  refine ⟨h.1, h.2.1, fun h0 => ?_⟩
  obtain ⟨b, off, rfl, hc⟩ := h.2.2 h0
  refine ⟨b, off, rfl, fun j u hj => ?_⟩
  have h1 := hc j u hj
  rw [k.cell (Lists.block_lt h1) (hS ⟨b, off, none⟩ h0 rfl)]
  exact h1

/-- one more of them -/
theorem Far.next {w w2 w4 : World} {B b : Nat} {key : Int} {m : Mir} {v1 v2 : Value} {l : List Entry} {k : Nat} (hF : Far w B b key m v1 v2 l k w2) {x : Value} (hx : Lay w2 B b key (m.with (l.take k)) v1 x) (hxi : ∀ i, x.ownBlock = some i → v2.ownBlock = some i ∨ w.heap.size ≤ i)
    (hb : Below w2.heap.size w2 w4) {t : Int} {d : ByteArray} (he : entE (t, d) = 0) (hT : l.take (k + 1) = l.take k ++ [(t, d)]) (hl : (m.with (l.take k)).waits.length ≤ 1000) :
    ∃ an cn wn, (∀ ty, (Builtin.append_ #[22, 22] ty #[x, .slice (some ⟨w4.heap.size, 0, none⟩) 1 1]).run Tryz.prog (w4.alloc (.cells #[.int .i64 t, .string d] 65)) = .ok (.slice an ((m.with (l.take k)).waits.length + 1) cn) wn) ∧ wn.cell? ⟨b, 2, none⟩ = some x ∧ wn.frozen? ⟨b, 2, none⟩ = false ∧ (∀ p u, w4.cell? p = some u → x.ownBlock ≠ some p.block → wn.cell? p = some u) ∧ Far w B b key m v1 v2 l (k + 1) (wn.setCell ⟨b, 2, none⟩ (.slice an ((m.with (l.take k)).waits.length + 1) cn)) := by
  have ba : Below w2.heap.size w2 (w4.alloc (.cells #[.int .i64 t, .string d] 65)) := hb.alloc hb.size _
  have La := hx.below ba
  obtain ⟨vn, wn, rn, on, kn, fn⟩ := run_one (w4.alloc (.cells #[.int .i64 t, .string d] 65)) B x _ La.waits w4.heap.size t d (by simp) (by simp) (by omega) (Nat.le_of_lt (Nat.lt_of_le_of_lt La.above La.row.lt))
  have rwn : wn.rowIs b 84 11 (fld key v1 (m.with (l.take k)).head (m.with (l.take k)).next x) := La.row.of_block (kn.block b La.row.lt (fun e => La.ap2 e))
  have own : wn.ownsRow B 65 2 v1 m.own.length (cells m.own) := owns_kept La.own kn fun i hi e => La.ap3 i hi e
  have nb : vn.ownBlock ≠ some b := fun e => by
    rcases fn b e with h | h
    · exact La.ap2 h
    · have := La.row.lt
      omega
  have nv : ∀ k, v1.ownBlock = some k → vn.ownBlock ≠ some k := fun k hk e => by
    rcases fn k e with h | h
    · exact La.ap3 k hk h
    · have := (La.own.lt k hk).2
      omega
  have hw : (m.with (l.take k)).waits ++ [(t, d)] = (m.with (l.take (k + 1))).waits := by
    show (m.waits ++ l.take k) ++ [(t, d)] = m.waits ++ l.take (k + 1)
    rw [hT, List.append_assoc]
  have hwl : ((m.with (l.take k)).waits ++ [(t, d)]).length = (m.with (l.take k)).waits.length + 1 := by rw [List.length_append]; rfl
  rw [hw] at on
  have hlen : (m.with (l.take (k + 1))).waits.length = (m.with (l.take k)).waits.length + 1 := by rw [← hw]; exact hwl
  obtain ⟨an, cn, rfl, _⟩ := owns_wide on
  have L8 : Lay (wn.setCell ⟨b, 2, none⟩ (.slice an (m.with (l.take (k + 1))).waits.length cn)) B b key (m.with (l.take (k + 1))) v1 (.slice an (m.with (l.take (k + 1))).waits.length cn) :=
    ⟨MirObj.row_waits rwn _, MirObj.owns_off own (MirObj.kept_set wn b 2 _) La.ap1, MirObj.owns_off on (MirObj.kept_set wn b 2 _) nb, La.above, La.ap1, nb, nv⟩
  rw [hlen] at L8 rn on fn
  refine ⟨an, cn, wn, rn, rwn.cell (i := 2) (by omega), rwn.frozen 2, fun p u hp hq => ?_, ⟨⟨_, L8, fun i hi => ?_⟩, ?_, ?_⟩⟩
  · have h1 : (w4.alloc (.cells #[.int .i64 t, .string d] 65)).cell? p = some u := Lists.cell_below ((Below.refl _ w4).alloc (Nat.le_refl _) _) hp
    rw [kn.cell (Lists.block_lt h1) hq]
    exact h1
  · rcases fn i hi with h | h
    · exact hxi i h
    · refine .inr ?_
      have h1 := hF.kept.size
      have h2 := ba.size
      omega
  · refine (((hF.kept.then ba).trans kn fun i hi => ?_).setCell (.inl (.inl rfl)) _)
    exact (hxi i hi).imp (fun q => .inr (.inr q)) id
  · rw [hT]
    intro e hm
    rcases List.mem_append.1 hm with hm | hm
    · exact hF.fine e hm
    · rw [List.mem_singleton.1 hm]
      exact he

theorem want_small {key : Int} {m : Mir} (ho : Ok key m) (hw : m.want.what = 2) : m.want.to_ - m.want.fr ≤ 16 ∧ (m.has : Int) + (m.want.to_ - m.want.fr) ≤ 200 ∧ m.next.size ≠ 0 ∧ (m.has : Int) + (m.want.to_ - m.want.fr) ≤ m.next.size := by
  obtain ⟨w1, w2, w3, w4⟩ := Mirrors.want_two hw
  have h1 := (Mirrors.size_ok (ho.some w1).1).2
  rw [w3, w4]
  split <;> omega

set_option maxHeartbeats 8000000 in
set_option maxRecDepth 100000 in
theorem ents_any {w : World} {B b : Nat} {key : Int} {m : Mir} {v1 v2 : Value} (h : Lay w B b key m v1 v2) (ho : Ok key m) (hw : m.want.what = 2) (l : List Entry) (a5 : Option Addr) (c5 : Nat) (h5 : Wide 2 w a5 l.length c5 (cells l)) (hz : ∀ e ∈ l, e.2.size ≤ maxLen) (hl : l.length ≤ 17592186043904) (d5 : ∀ p, 0 < l.length → a5 = some p → ¬ foot b v1 v2 p.block) (M : Int) (hM : M = m.want.to_ - m.want.fr) :
    Calls Tryz.prog 113 #[.pointer (some ⟨b, 0, none⟩), .slice a5 l.length c5, .int .i64 M] w fun e w' => Took w B b key m v1 v2 l e w' := by
  obtain ⟨s1, s2, s3, s4⟩ := want_small ho hw
  rw [← hM] at s1 s2 s4
  have HX4 : Hid ((m.has : Int) + M ≤ m.next.size) := s4
  clear s4
  obtain ⟨a1, k1, rfl, _⟩ := owns_wide h.own
  have HL : Hid (Lay w B b key m (.slice a1 m.own.length k1) v2) := h
  have HO : Hid (Ok key m) := ho
  have H5 : Hid (Wide 2 w a5 l.length c5 (cells l)) := h5
  have HZ : Hid (∀ e ∈ l, e.2.size ≤ maxLen) := hz
  have HD : Hid (∀ p, 0 < l.length → a5 = some p → ¬ foot b (.slice a1 m.own.length k1) v2 p.block) := d5
  have HS0 : Hid (someE0 m l = if l.length = 0 ∨ M < l.length then 3 else entsE l) := by show _ = _; rw [hM]; rfl
  have aE := WalkEntOne.aggE
  have zE := WalkEntOne.sizeE
  clear h ho h5 hz d5 hM hw
  have HBad : Hid (someE0 m l ≠ 0 → ∀ w', ∀ m', Turned w B b key (.slice a1 m.own.length k1) v2 m' w' → m'.forget = m.forget → Took w B b key m (.slice a1 m.own.length k1) v2 l (.returned (errv (someE0 m l))) w') := fun hne w' m' hT hm => by
    have hE : someE m l = someE0 m l := by unfold someE; rw [if_neg hne]
    exact ⟨by rw [hE], m', hT, fun q => absurd (hE.symm.trans q) hne, fun _ => hm⟩
  by_cases hbad : l.length = 0 ∨ M < l.length
  · have hE : someE0 m l = 3 := by rw [HS0.out, if_pos hbad]
    have HFIN : Hid (Took w B b key m (.slice a1 m.own.length k1) v2 l (.returned (errv 3)) w) := by
      have h := HBad.out (by rw [hE]; omega) w m (Turned.same HL.out (Below.refl _ _)) rfl
      rw [hE] at h
      exact h
    clear HBad HS0 hE
    by_cases h0 : l.length = 0
    · have e0 : ((l.length : Int) == 0) = true := by rw [h0]; rfl
      clear h0 hbad
      go_enter Tryz.func113, Tryz.ntmps113
      go_wp2_with fail
      go_ret
      exact HFIN.out
    · have e0 : ((l.length : Int) == 0) = false := by rw [beq_eq_false_iff_ne]; omega
      have i1 : M < (l.length : Int) := by omega
      clear h0 hbad
      go_enter Tryz.func113, Tryz.ntmps113
      go_wp2_with fail
      go_ret
      exact HFIN.out
  · have i0 : 0 < l.length := by omega
    have i1 : ¬ M < (l.length : Int) := by omega
    have e0 : ((l.length : Int) == 0) = false := by rw [beq_eq_false_iff_ne]; omega
    have HS1 : Hid (someE0 m l = firstE l) := by
      show _ = _
      rw [HS0.out, if_neg hbad]
      unfold entsE
      rw [if_neg (by omega)]
    obtain ⟨b5, off5, rfl, _⟩ := H5.out.2.2 i0
    obtain ⟨n, hn⟩ : ∃ n, n = l.length := ⟨_, rfl⟩
    have HN : Hid (n = l.length) := hn
    rw [← hn] at e0 i1 i0 H5 HD hl ⊢
    clear hbad HS0 hn
    go_enter Tryz.func113, Tryz.ntmps113
    go_wp2_with fail
    go_loopw [22] (fun i wr => ∃ k : Nat, k ≤ n ∧ i = .int .i64 (k : Int) ∧ Hid (Far w B b key m (.slice a1 m.own.length k1) v2 l k wr)) (fun i _ => n - (intOf i).toNat)
    case atStart => exact ⟨0, Nat.zero_le _, rfl, ⟨⟨v2, by show Lay w B b key { m with waits := m.waits ++ [] } (.slice a1 m.own.length k1) v2; rw [List.append_nil]; exact HL.out, fun i q => .inl q⟩, Kept.refl _ _, fun e he => by simp at he⟩⟩
    case round =>
      obtain ⟨k, hk, rfl, HF⟩ := hrel
      by_cases hlt : k < n
      · have i2 : (k : Int) < (n : Int) := by omega
        have hkl : k < l.length := by rw [← HN.out]; exact hlt
        have H5k : Hid (Wide 2 wr (some ⟨b5, off5, none⟩) n c5 (cells l)) := wide_kept H5.out HF.out.kept HD.out
        obtain ⟨p0, p1⟩ := EntRows.at_two H5k.out k hkl
        have HT : Hid (l.take (k + 1) = l.take k ++ [l[k]'hkl]) := List.take_succ_eq_append_getElem hkl
        have HNx : Hid (entE (l[k]'hkl) ≠ 0 → firstE l = entE (l[k]'hkl)) := fun h => Entries.firstE_at hkl HF.out.fine h
        have HM : Hid ((l[k]'hkl).2.size ≤ maxLen) := HZ.out _ (List.getElem_mem _)
        generalize l[k]'hkl = x at p0 p1 HT HNx HM
        obtain ⟨t, d⟩ := x
        simp only at p0 p1
        clear H5k hkl
        go_wp2_with fail
        refine (WalkEntOne.check_any t d _ HM.out).mono ?_
        rintro e w2 ⟨rfl, b2⟩
        have ba : Below wr.heap.size wr (wr.alloc (.cells #[.int .i64 t, .string d] 65)) := (Below.refl _ _).alloc (Nat.le_refl _) _
        have g0 : (wr.alloc (.cells #[.int .i64 t, .string d] 65)).cell? ⟨wr.heap.size, 0, none⟩ = some (.int .i64 t) := by simp
        have g1 : (wr.alloc (.cells #[.int .i64 t, .string d] 65)).cell? ⟨wr.heap.size, 1, none⟩ = some (.string d) := by simp
        have HB2 : Hid (Below wr.heap.size wr w2) := bt ba b2
        have HG : Hid (w2.cell? ⟨wr.heap.size, 0, none⟩ = some (.int .i64 t) ∧ w2.cell? ⟨wr.heap.size, 1, none⟩ = some (.string d)) := ⟨Lists.cell_below b2 g0, Lists.cell_below b2 g1⟩
        have HF2 : Hid (Far w B b key m (.slice a1 m.own.length k1) v2 l k w2) := HF.out.below HB2.out
        obtain ⟨g, hg⟩ : ∃ g, wr.heap.size = g := ⟨_, rfl⟩
        have HGz : Hid (g < w2.heap.size ∧ ∀ x, Lay wr B b key (m.with (l.take k)) (.slice a1 m.own.length k1) x → ∀ i, foot b (.slice a1 m.own.length k1) x i → i < g) := ⟨by rw [← hg]; exact Nat.lt_of_lt_of_le (by simp) b2.size, fun x hx i hi => by rw [← hg]; exact (hx.foot_lt i hi).2⟩
        have hLk := HF.out.lay
        rw [hg] at HG ⊢
        clear ba g0 g1 b2 p0 p1
        by_cases h0 : entE (t, d) = 0
        · have hd2 : d.size ≤ 200 := (Entries.ent_ok h0).2.2
          have HCO : Hid (∀ w', Calls Tryz.prog 128 #[.agg #[.int .i64 t, .string d]] w' fun e w'' => e = .returned (.agg #[.int .i64 t, .string d]) ∧ Below w'.heap.size w' w'') := fun w' => WalkMiOne.ownCopy_any t d w' hd2
          obtain ⟨x, hx0, hxi⟩ := HF.out.lay
          have HLx : Hid (Lay wr B b key (m.with (l.take k)) (.slice a1 m.own.length k1) x) := hx0
          have hx := hx0.below HB2.out
          clear hx0
          have hlq : (m.with (l.take k)).waits.length ≤ 1000 := by
            have h1 := WalkMiOne.few_waits HO.out
            have h2 := HN.out
            show (m.waits ++ l.take k).length ≤ 1000
            rw [List.length_append, List.length_take]
            omega
          have HNX : Hid (∀ w4, Below w2.heap.size w2 w4 → ∃ an cn wn, (∀ ty, (Builtin.append_ #[22, 22] ty #[x, .slice (some ⟨w4.heap.size, 0, none⟩) 1 1]).run Tryz.prog (w4.alloc (.cells #[.int .i64 t, .string d] 65)) = .ok (.slice an ((m.with (l.take k)).waits.length + 1) cn) wn) ∧ wn.cell? ⟨b, 2, none⟩ = some x ∧ wn.frozen? ⟨b, 2, none⟩ = false ∧ (∀ p u, w4.cell? p = some u → x.ownBlock ≠ some p.block → wn.cell? p = some u) ∧ Far w B b key m (.slice a1 m.own.length k1) v2 l (k + 1) (wn.setCell ⟨b, 2, none⟩ (.slice an ((m.with (l.take k)).waits.length + 1) cn))) := fun w4 hb => HF2.out.next hx hxi hb h0 HT.out hlq
          have HC2 : Hid (∀ w', Below w2.heap.size w2 w' → w'.cell? ⟨b, 2, none⟩ = some x) := fun w' hb => (hx.below hb).row.cell (i := 2) (by omega)
          have HXG : Hid (x.ownBlock ≠ some g) := fun e => by have h1 := HGz.out.2 x HLx.out g (.inr (.inr e)); omega
          have HGB : Hid (b ≠ g) := fun e => by have h1 := HGz.out.2 x HLx.out b (.inl rfl); omega
          have HK : Hid (∀ w', Below w2.heap.size w2 w' → w'.cell? ⟨g, 0, none⟩ = some (.int .i64 t) ∧ w'.cell? ⟨g, 1, none⟩ = some (.string d)) := fun w' hb => ⟨Lists.cell_below hb HG.out.1, Lists.cell_below hb HG.out.2⟩
          obtain ⟨ax, cx, rfl, _⟩ := owns_wide hx.waits
          rw [h0, errv0]
          generalize (m.with (l.take k)).waits.length = Q at *
          clear h0 hx hxi hd2 HF HF2 hLk HGz HBad HM HT HNx HLx
          go_upto_region 9 with fail
          obtain ⟨q0, q1⟩ := HG.out
          have q2 := HC2.out _ (Below.refl _ w2)
          go_region_law (first | (refine step_append_run rfl (.tmp 35) (.tmp 38) 22 22 rfl (.slice ax Q cx) (.slice (some ⟨w4.heap.size, 0, none⟩) 1 1) (by simp [Act.eval]) (by simp [Act.eval]) _ _ rn ?_) | (go_simp; go_at_call 128; refine (HCO.out _).mono ?_; rintro e w4 ⟨rfl, b4⟩; have HB4 : Hid (Below w2.heap.size w2 w4) := bt (Below.refl _ w2).drew b4; have q2 := HC2.out _ HB4.out; have q3 := HC2.out (w4.alloc (.cells #[.int .i64 t, .string d] 65)) (HB4.out.alloc HB4.out.size _); obtain ⟨an, cn, wn, rn, z2, zf, hst, hFn⟩ := HNX.out w4 HB4.out; have HFn : Hid (Far w B b key m (.slice a1 m.own.length k1) v2 l (k + 1) (wn.setCell ⟨b, 2, none⟩ (.slice an (Q + 1) cn))) := hFn; clear b4 hFn hst))
          all_goals
            go_wp2_with fail
            go_roundw
            case rel => exact ⟨k + 1, by omega, by go_num, HFn⟩
            case measure => simp [intOf]; omega
        · have HFF : Hid (Took w B b key m (.slice a1 m.own.length k1) v2 l (.returned (errv (entE (t, d)))) w2) := by
            have he : someE0 m l = entE (t, d) := HS1.out.trans (HNx.out h0)
            have h := HBad.out (by rw [he]; exact h0) w2 _ HF2.out.turned rfl
            rw [he] at h
            exact h
          have HEr : Hid (errv (entE (t, d)) = .iface 70 (.int .i64 (entE (t, d) : Nat))) := errv_pos _ h0
          rw [HEr.out] at HFF ⊢
          clear h0 HEr
          generalize ((entE (t, d) : Nat) : Int) = E at HFF ⊢
          go_wp2_with fail
          go_ret
          exact HFF.out
      · obtain rfl : k = n := by omega
        have i2 : ¬ (k : Int) < (k : Int) := by omega
        have htk : l.take k = l := List.take_of_length_le (by rw [HN.out]; exact Nat.le_refl _)
        have hfine := HF.out.fine
        obtain ⟨x, hx, hxi⟩ := HF.out.lay
        have hkp := HF.out.kept
        rw [htk] at hfine hx
        have HE0 : Hid (someE0 m l = 0) := HS1.out.trans (Entries.firstE_zero.2 hfine)
        have hff : ∀ i, foot b (.slice a1 m.own.length k1) x i → foot b (.slice a1 m.own.length k1) v2 i ∨ w.heap.size ≤ i := by
          rintro i (q | q | q)
          · exact .inl (.inl q)
          · exact .inl (.inr (.inl q))
          · exact (hxi i q).imp (fun q => .inr (.inr q)) id
        have HSE : Hid (someE m l = if ends (m.with l) = true then (m.with l).settledE else 0) := by show _ = _; unfold someE; rw [if_pos HE0.out]
        have HSM : Hid (someM m l = if ends (m.with l) = true then (m.with l).settled else m.with l) := by show _ = _; unfold someM; rw [if_pos HE0.out]
        have hsome := HO.out.some s3
        have hWl : (m.with l).waits.length = m.waits.length + k := by show (m.waits ++ l).length = _; rw [List.length_append, HN.out]
        have HQ : Hid ((m.own.length : Int) + (m.with l).waits.length ≤ m.next.size) := by
          have h1 : (m.has : Int) = ((m.own.length + m.waits.length : Nat) : Int) := rfl
          have h2 := HX4.out
          show _ ≤ _
          rw [hWl]
          omega
        have HFI : Hid (entsE (m.with l).all = 0) := by
          refine Entries.ents_of ?_ ?_
          · show (m.own ++ (m.waits ++ l)).length ≤ 200
            have h1 : (m.has : Int) = ((m.own.length + m.waits.length : Nat) : Int) := rfl
            rw [List.length_append, List.length_append, ← HN.out]
            omega
          · intro e he
            rcases List.mem_append.1 he with he | he
            · exact HO.out.own e he
            · rcases List.mem_append.1 he with he | he
              · exact HO.out.waits e he
              · exact hfine e he
        have HNo : Hid (ends (m.with l) = false → ∀ w', Below wr.heap.size wr w' → Took w B b key m (.slice a1 m.own.length k1) v2 l (.returned (errv 0)) w') := fun hend w' b' => by
          have h1 : someE m l = 0 := by rw [HSE.out, if_neg (by rw [hend]; simp)]
          refine ⟨by rw [h1], m.with l, ⟨(.slice a1 m.own.length k1), x, hx.below b', hkp.then b', hff⟩, fun _ => by rw [HSM.out, if_neg (by rw [hend]; simp)], fun q => absurd h1 q⟩
        have HLx : Hid (Lay wr B b key (m.with l) (.slice a1 m.own.length k1) x) := hx
        have HKp : Hid (Kept (foot b (.slice a1 m.own.length k1) v2) w wr ∧ ∀ i, foot b (.slice a1 m.own.length k1) x i → foot b (.slice a1 m.own.length k1) v2 i ∨ w.heap.size ≤ i) := ⟨hkp, hff⟩
        have c1 : wr.cell? ⟨b, 1, none⟩ = some (.slice a1 m.own.length k1) := hx.row.cell (i := 1) (by omega)
        have c2 : wr.cell? ⟨b, 2, none⟩ = some x := hx.row.cell (i := 2) (by omega)
        have c3 : wr.cell? ⟨b, 3, none⟩ = some (.int .i64 m.next.size) := hx.row.cell (i := 3) (by omega)
        obtain ⟨a2, k2, rfl, _⟩ := owns_wide hx.waits
        have HEn : Hid (ends (m.with l) = decide (m.own.length = 0 ∧ ((m.with l).waits.length : Int) = m.next.size)) := rfl
        have hWs : (m.with l).waits.length ≤ 1000 := by rw [hWl]; have := WalkMiOne.few_waits HO.out; omega
        generalize (m.with l).waits.length = Q at *
        clear hx hxi hkp hff hfine hsome hWl HF HL HBad HE0 HS1 H5 HD HO HZ
        go_upto_region 11 with fail
        by_cases ho0 : 0 < m.own.length
        · have hd1 : decide (0 < m.own.length) = true := decide_eq_true ho0
          have HFI2 : Hid (∀ w', Below wr.heap.size wr w' → Took w B b key m (.slice a1 m.own.length k1) v2 l (.returned (errv 0)) w') := HNo.out (by rw [HEn.out]; exact decide_eq_false fun q => by omega)
          clear ho0 HNo HEn HQ
          go_quiet (fail)
          go_wp2_with fail
          go_ret
          exact HFI2.out _ ⟨rfl, rfl, rfl, Nat.le_refl _, fun _ _ => rfl⟩
        have hd1 : decide (0 < m.own.length) = false := decide_eq_false ho0
        by_cases hq : (Q : Int) < m.next.size
        · have hd2 : decide ((Q : Int) < m.next.size) = true := decide_eq_true hq
          have HFI2 : Hid (∀ w', Below wr.heap.size wr w' → Took w B b key m (.slice a1 m.own.length k1) v2 l (.returned (errv 0)) w') := HNo.out (by rw [HEn.out]; exact decide_eq_false fun q => by omega)
          clear ho0 HNo HEn HQ hq
          go_quiet (fail)
          go_wp2_with fail
          go_ret
          exact HFI2.out _ ⟨rfl, rfl, rfl, Nat.le_refl _, fun _ _ => rfl⟩
        · have hd2 : decide ((Q : Int) < m.next.size) = false := decide_eq_false hq
          have hend : ends (m.with l) = true := by
            have h1 := HQ.out
            rw [HEn.out]
            exact decide_eq_true ⟨by omega, by omega⟩
          have HEM : Hid (someE m l = (m.with l).settledE ∧ someM m l = (m.with l).settled) := ⟨by rw [HSE.out, if_pos hend], by rw [HSM.out, if_pos hend]⟩
          clear ho0 HNo HEn HQ hq hend HSE HSM
          go_quiet (fail)
          have b9 : Below wr.heap.size wr (wr.drewN nq) := ⟨rfl, rfl, rfl, Nat.le_refl _, fun _ _ => rfl⟩
          have L9 := HLx.out.below b9
          have HK9 : Hid (Kept (foot b (.slice a1 m.own.length k1) v2) w (wr.drewN nq)) := HKp.out.1.then b9
          clear b9 c1 c2 c3
          generalize wr.drewN nq = w9 at L9 HK9 ⊢
          have cG := WalkMiGo.goOn_any L9 HFI.out
          obtain ⟨T, HT⟩ : ∃ T, Hid ((m.with l).settledE = T) := ⟨_, rfl⟩
          rw [HT.out] at cG
          clear L9
          go_wp2_with fail
          refine cG.mono ?_
          rintro e w7 ⟨rfl, hS⟩
          have HS7 : Hid (Turned w B b key (.slice a1 m.own.length k1) v2 (gone (m.with l)) w7) := Turned.trans HK9.out HKp.out.2 hS
          clear cG hS
          go_wp2_with fail
          go_ret
          refine ⟨by rw [HEM.out.1, HT.out]; rfl, gone (m.with l), HS7.out, fun q => ?_, fun q => ?_⟩
          · rw [HEM.out.1] at q
            rw [HEM.out.2]
            exact if_pos q
          · rw [HEM.out.1] at q
            show (gone (m.with l)).forget = m.forget
            unfold gone
            rw [if_neg q]
            rfl

end Go.Proofs.YtigbbhojgajkjaiGreatDoor.WalkMiEnts
