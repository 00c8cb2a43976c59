/-
 The state of each's recursion.
 each's recursion: where a condition is not met; its step.
-/
import Derived.Test.YtfilcaolgfghcaaGreatHas
import Derived.Deep.RegionLaw
import Derived.Deep.DeepMust
import Derived.IntWalk
namespace Go.Proofs.YtfilcaolgfghcaaGreat
open Go.RowKit

/-- What the visits may change of the memory that was there: blocks from V on, below V2. -/
structure Framed (wE W : World) (V V2 : Nat) : Prop where
  os : W.os = wE.os
  tape : W.tape = wE.tape
  output : W.output = wE.output
  size : wE.heap.size ≤ W.heap.size
  block : ∀ k, k < wE.heap.size → ¬ (V ≤ k ∧ k < V2) → W.heap[k]? = wE.heap[k]?

variable {wE w W W' : World} {V V2 Bb n : Nat}

theorem Framed.refl (w : World) (V V2 : Nat) : Framed w w V V2 := ⟨rfl, rfl, rfl, Nat.le_refl _, fun _ _ _ => rfl⟩
theorem Framed.more {r : Option Nat} (h : Framed wE W V V2) (hg : W.grownBy W' r) (hr : ∀ k, r = some k → wE.heap.size ≤ k ∨ (V ≤ k ∧ k < V2)) : Framed wE W' V V2 := by
  refine ⟨hg.os.trans h.os, hg.tape.trans h.tape, hg.output.trans h.output, Nat.le_trans h.size hg.size, fun k hk hn => ?_⟩
  refine (hg.block k (Nat.lt_of_lt_of_le hk h.size) (fun e => ?_)).trans (h.block k hk hn)
  rcases hr k e.symm with h1 | h1
  · omega
  · exact hn h1
theorem Framed.grown (h : Framed wE W V V2) (hg : W.grownBy W' none) : Framed wE W' V V2 := h.more hg (fun k hk => by cases hk)
theorem Framed.heap {k : Nat} {o : Obj} (h : Framed wE W V V2) (ho : wE.heap[k]? = some o) (hn : ¬ (V ≤ k ∧ k < V2)) : W.heap[k]? = some o :=
  (h.block k (Array.getElem?_eq_some_iff.1 ho).1 hn).trans ho
theorem Framed.pre {w : World} (h : Framed wE W V V2) (hg : w.grownBy wE none) (hV : w.heap.size ≤ V) : w.grownBy W none :=
  ⟨h.os.trans hg.os, h.tape.trans hg.tape, h.output.trans hg.output, Nat.le_trans hg.size h.size, fun k hk _ => (h.block k (Nat.lt_of_lt_of_le hk hg.size) (by omega)).trans (hg.block k hk (by simp))⟩

def fromFn (H Db Fb : Nat) : Value := .func (.func 73) #[] #[.pointer (some ⟨Db, 0, none⟩), .pointer (some ⟨H, 0, none⟩), .pointer (some ⟨H + 1, 0, none⟩), .pointer (some ⟨Fb, 0, none⟩)]

/-- What the recursion reads. -/
structure FromMem (W : World) (H Db Dm Fb : Nat) (S : List SideD × List CondD) (sv fv : Value) : Prop where
  a0 : W.cell? ⟨H, 0, none⟩ = some sv
  v0 : W.cell? ⟨H + 1, 0, none⟩ = some fv
  d0 : W.cell? ⟨Db, 0, none⟩ = some (.slice (some ⟨Dm, 0, none⟩) (S.1.length + 1) (S.1.length + 1))
  f0 : W.cell? ⟨Fb, 0, none⟩ = some (fromFn H Db Fb)
  sides : SidesAt W sv S.1
  dec : ∀ m, m ≤ S.1.length → ∃ v, W.cell? ⟨Dm, m, none⟩ = some v ∧ RowLAt W v (rowsLen (rowsOf S) m)

/-- The numbers' block, and what the visits have made. -/
structure FromSt (wE w : World) (V V2 Bb n : Nat) (I : List (List Int) → World → Prop) (d : List (List Int)) (xs : List Int) : Prop where
  framed : Framed wE w V V2
  lo : wE.heap.size ≤ Bb
  hi : V2 ≤ wE.heap.size
  buf : w.heap[Bb]? = some (.cells (xs.map (Value.int .i64)).toArray 3 (0, 0))
  len : xs.length = n
  inv : I d w

/-- What the visits have made stays when the numbers turn. -/
def Steady (Bb : Nat) (I : List (List Int) → World → Prop) : Prop := ∀ d w w', I d w → w.grownBy w' (some Bb) → I d w'

variable {I : List (List Int) → World → Prop} {d : List (List Int)} {xs : List Int}

theorem FromSt.kept (h : FromSt wE w V V2 Bb n I d xs) (hI : Steady Bb I) (hg : w.grownBy W none) : FromSt wE W V V2 Bb n I d xs :=
  ⟨h.framed.grown hg, h.lo, h.hi, (hg.block _ (Array.getElem?_eq_some_iff.1 h.buf).1 (by simp)).trans h.buf, h.len, hI _ _ _ h.inv (grownBy_any _ hg)⟩
theorem FromSt.set (h : FromSt wE w V V2 Bb n I d xs) (hI : Steady Bb I) (i : Nat) (z : Int) : FromSt wE (w.setCell ⟨Bb, i, none⟩ (.int .i64 z)) V V2 Bb n I d (xs.set i z) := by
  have hg := grown_set w Bb i (.int .i64 z)
  have hl := h.lo
  refine ⟨h.framed.more hg (fun k hk => by cases hk; exact .inl hl), h.lo, h.hi, ?_, by simp [h.len], hI _ _ _ h.inv hg⟩
  show (w.heap.modify Bb _)[Bb]? = _
  rw [Array.getElem?_modify, if_pos rfl, h.buf]
  simp [List.map_set]
theorem FromSt.ints (h : FromSt wE w V V2 Bb n I d xs) (hn : n ≤ 1000) (cap i : Nat) (hi : i ≤ n) (hb : near (xs.take i)) : IntsAt w (.slice (some ⟨Bb, 0, none⟩) i cap) (xs.take i) := by
  have hl := h.len
  have e : (xs.take i).length = i := by simp; omega
  refine ⟨_, cap, by rw [e], by omega, fun j x hj => ⟨Bb, 0, rfl, by have := hb x (List.mem_of_getElem? hj); omega, ?_⟩⟩
  obtain ⟨hj1, rfl⟩ := List.getElem?_eq_some_iff.1 hj
  have hj2 : j < xs.length := by simp at hj1; omega
  simp [World.cell?, h.buf, hj2]
theorem FromSt.cell (h : FromSt wE w V V2 Bb n I d xs) {i : Nat} (hi : i < n) : (w.cell? ⟨Bb, i, none⟩).isSome = true := by
  have hl := h.len
  have hj2 : i < xs.length := by omega
  simp [World.cell?, h.buf, hj2]
theorem FromSt.free (h : FromSt wE w V V2 Bb n I d xs) (i : Nat) : w.frozen? ⟨Bb, i, none⟩ = false := by
  simp [World.frozen?, h.buf]

/-- What a call of the recursion leaves. -/
def FromPost (wE : World) (V V2 Bb n : Nat) (I : List (List Int) → World → Prop) (go : List (List Int) → Bool) (d ps : List (List Int)) (pre : List Int) (e : Ending) (w' : World) : Prop :=
  e = .returned (.bool (walkP go d ps).2) ∧ ∃ xs', FromSt wE w' V V2 Bb n I (walkP go d ps).1 xs' ∧ xs'.take pre.length = pre

theorem walk_stop {go : List (List Int) → Bool} {d dm : List (List Int)} {F : Int → List (List Int)} {lo : Int} {m cnt : Nat} (h : walkP go d ((rangeI lo m).flatMap F) = (dm, true)) (hm : m < cnt) (hs : (walkP go dm (F (lo + (m : Int)))).2 = false) :
    walkP go d ((rangeI lo cnt).flatMap F) = walkP go dm (F (lo + (m : Int))) := by
  obtain ⟨k, rfl⟩ : ∃ k, cnt = (m + 1) + k := ⟨cnt - (m + 1), by omega⟩
  rw [rangeI_add lo (m + 1) k, rangeI_succ, List.flatMap_append, List.flatMap_append, List.append_assoc, walkP_append, h]
  simp only [if_true, List.flatMap_cons, List.flatMap_nil, List.append_nil]
  rw [walkP_append, hs]
  simp
theorem walk_next {go : List (List Int) → Bool} {d dm : List (List Int)} {F : Int → List (List Int)} {lo : Int} {m : Nat} (h : walkP go d ((rangeI lo m).flatMap F) = (dm, true)) (hs : (walkP go dm (F (lo + (m : Int)))).2 = true) :
    walkP go d ((rangeI lo (m + 1)).flatMap F) = ((walkP go dm (F (lo + (m : Int)))).1, true) := by
  rw [rangeI_succ, List.flatMap_append, walkP_append, h]
  simp only [if_true, List.flatMap_cons, List.flatMap_nil, List.append_nil]
  rw [← hs]

end Go.Proofs.YtfilcaolgfghcaaGreat

namespace Go.Proofs.YtfilcaolgfghcaaGreat
open Go.RowKit
attribute [local go_sem ↓] Go.wp_at_zero Go.wp_at_succ

variable {wE : World} {V V2 Bb n : Nat} {I : List (List Int) → World → Prop} {go : List (List Int) → Bool} {H Db Dm Fb : Nat} {sv fv : Value} {S : List SideD × List CondD}

def FromGives (wE : World) (V V2 Bb n : Nat) (I : List (List Int) → World → Prop) (go : List (List Int) → Bool) (H Db Fb : Nat) (S : List SideD × List CondD) (rest : List SideD) : Prop :=
  ∀ (i : Nat) (w : World) (xs : List Int) (d : List (List Int)), S.1.drop i = rest → i ≤ n → FromSt wE w V V2 Bb n I d xs → near (xs.take i) → d.length + (fromP (rowsOf S) (xs.take i) rest).length ≤ 900000 →
    Calls Tryz.prog 73 #[.slice (some ⟨Bb, 0, none⟩) i n, .pointer (some ⟨Db, 0, none⟩), .pointer (some ⟨H, 0, none⟩), .pointer (some ⟨H + 1, 0, none⟩), .pointer (some ⟨Fb, 0, none⟩)] w
      (FromPost wE V V2 Bb n I go d (fromP (rowsOf S) (xs.take i) rest) (xs.take i))

theorem rowsLen_good (hgood : setErr S = 0) (i : Nat) : ∀ r ∈ rowsLen (rowsOf S) i, goodRow S.1.length r := fun r hr => by
  unfold rowsLen at hr
  exact rows_good hgood r (List.mem_filter.1 hr).1

set_option maxHeartbeats 1000000 in
/-- A condition that is decided is not met. -/
theorem from_bad (hM : ∀ W, Framed wE W V V2 → FromMem W H Db Dm Fb S sv fv) (hI : Steady Bb I) (hgood : setErr S = 0) (hn : n = S.1.length) (i : Nat) (w : World) (xs : List Int) (d : List (List Int)) (rest : List SideD) (hi : i ≤ n) (h : FromSt wE w V V2 Bb n I d xs) (hb : near (xs.take i))
    (hbad : (rowsLen (rowsOf S) i).any (negRow (xs.take i)) = true) :
    Calls Tryz.prog 73 #[.slice (some ⟨Bb, 0, none⟩) i n, .pointer (some ⟨Db, 0, none⟩), .pointer (some ⟨H, 0, none⟩), .pointer (some ⟨H + 1, 0, none⟩), .pointer (some ⟨Fb, 0, none⟩)] w
      (FromPost wE V V2 Bb n I go d (fromP (rowsOf S) (xs.take i) rest) (xs.take i)) := by
  have hn8 := (set_good hgood).1
  have hm := hM w h.framed
  have hd0 := hm.d0
  obtain ⟨dv, hdv, hrl⟩ := hm.dec i (by omega)
  obtain ⟨pd, dcap, rfl, hdl, hdc⟩ := id hrl
  have hpl : (xs.take i).length = i := by have := h.len; simp; omega
  have HX := Lib.hid (h.ints (by omega) n i hi hb)
  have HR := Lib.hid hrl
  have HB := Lib.hid hb
  have HG := Lib.hid (rowsLen_good hgood i)
  have HS := Lib.hid h
  have HE := Lib.hid (show fromP (rowsOf S) (xs.take i) rest = [] by cases rest <;> simp [fromP, hpl, hbad])
  have HN := Lib.hid hbad
  have HPl := Lib.hid hpl
  have hI2 : (i : Int) < (S.1.length : Int) + 1 := by omega
  have hI3 : (0 : Int) ≤ (i : Int) := by omega
  have hpl2 : (xs.take i).length ≤ S.1.length := by omega
  clear hrl hb h hbad hm hpl hn hdc
  generalize (rowsLen (rowsOf S) i).length = dl at *
  go_enter Tryz.func73, Tryz.ntmps73
  go_wp2_with (first | (go_at_call 74; go_must (refine (areMet_any S.1.length (rowsLen (rowsOf S) i) _ _ (xs.take i) _ HR.out HG.out (by omega) HX.out hpl2 HB.out).mono ?_; rintro e w' ⟨rfl, hg1⟩; rw [HN.out]; have G1 := Lib.hid hg1; clear hg1)))
  go_ret
  exact ⟨by rw [HE.out]; rfl, xs, by rw [HE.out]; exact HS.out.kept hI G1.out, by rw [HPl.out]⟩


theorem near_snoc {pre : List Int} {v : Int} (h : near pre) (hv : -1000000 ≤ v ∧ v ≤ 1000000) : near (pre ++ [v]) := fun x hx => by
  rcases List.mem_append.1 hx with hx | hx
  · exact h x hx
  · obtain rfl := List.mem_singleton.1 hx
    exact hv

theorem setCells_one (w : World) (b o : Nat) (v : Value) : w.setCells b o [v] = w.setCell ⟨b, o, none⟩ v := rfl

theorem take_succ_set {xs : List Int} {i : Nat} (h : i < xs.length) (v : Int) : (xs.set i v).take (i + 1) = xs.take i ++ [v] := by
  rw [take_succ_of (v := v) (take_set xs i v) (by simp [h])]

set_option maxRecDepth 100000 in
set_option maxHeartbeats 4000000 in
theorem from_step (hM : ∀ W, Framed wE W V V2 → FromMem W H Db Dm Fb S sv fv) (hI : Steady Bb I) (hgood : setErr S = 0) (hne : emptyB S.1 = false) (hn : n = S.1.length) (s : SideD) (r : List SideD)
    (ih : FromGives wE V V2 Bb n I go H Db Fb S r) : FromGives wE V V2 Bb n I go H Db Fb S (s :: r) := by
  intro i w xs d hd hi h hb hR
  cases hbad : (rowsLen (rowsOf S) i).any (negRow (xs.take i))
  case true => exact from_bad hM hI hgood hn i w xs d (s :: r) hi h hb hbad
  have hn8 := (set_good hgood).1
  have hi2 : i < S.1.length := by
    have := congrArg List.length hd
    simp at this
    omega
  have hd2 : S.1.drop (i + 1) = r := by
    have := List.drop_eq_getElem_cons hi2
    rw [hd] at this
    exact (List.cons.inj this).2.symm
  have hs0 : S.1[i]? = some s := by
    have := List.drop_eq_getElem_cons hi2
    rw [hd] at this
    rw [List.getElem?_eq_getElem hi2, (List.cons.inj this).1]
  have hmem : s ∈ S.1 := List.mem_of_getElem? hs0
  obtain ⟨r1, r2, r3, r4⟩ := side_range (sides_good [] (set_good hgood).2.1 s hmem).2
  have r5 := not_empty hne hmem
  have hm := hM w h.framed
  have hd0 := hm.d0
  have ha0 := hm.a0
  obtain ⟨dv, hdv, hrl⟩ := hm.dec i (by omega)
  obtain ⟨pd, dcap, rfl, hdl, hdc⟩ := id hrl
  obtain ⟨p, cap, rfl, ⟨hl, hlc⟩, hc⟩ := hm.sides
  obtain ⟨b, off, rfl, h3, ⟨h4, h4'⟩, ⟨h5, h5'⟩, h6, h7, h8⟩ := hc i s hs0
  have hpl : (xs.take i).length = i := by have := h.len; simp; omega
  have HX := Lib.hid (h.ints (by omega) n i hi hb)
  have HRl := Lib.hid hrl
  have HB := Lib.hid hb
  have HG := Lib.hid (rowsLen_good hgood i)
  have HS := Lib.hid h
  have HN := Lib.hid hbad
  have HPl := Lib.hid hpl
  have HD := Lib.hid hd2
  have HIH := Lib.hid ih
  have HM := Lib.hid hM
  have hI2 : (i : Int) < (S.1.length : Int) + 1 := by omega
  have hI3 : (0 : Int) ≤ (i : Int) := by omega
  have hI4 : (i : Int) < (S.1.length : Int) := by omega
  have hin : ((i : Int) == (S.1.length : Int)) = false := by
    rw [Bool.eq_false_iff]
    intro e
    simp at e
    omega
  have hpl2 : (xs.take i).length ≤ S.1.length := by omega
  have hin2 : i < n := by omega
  have hxi : i < xs.length := by have := h.len; omega
  have HXi := Lib.hid hxi
  have HF := Lib.hid (show fromP (rowsOf S) (xs.take i) (s :: r) = (rangeI s.2.1 (s.2.2 - s.2.1 + 1).toNat).flatMap fun v => fromP (rowsOf S) (xs.take i ++ [v]) r by
    simp only [fromP, hpl, hbad, Bool.false_eq_true, if_false])
  have HRo := Lib.hid (show d.length + ((rangeI s.2.1 (s.2.2 - s.2.1 + 1).toNat).flatMap fun v => fromP (rowsOf S) (xs.take i ++ [v]) r).length ≤ 900000 by rw [← HF.out]; exact hR)
  generalize hlo : s.2.1 = lo at *
  generalize hhi : s.2.2 = hi' at *
  have HI8 := Lib.hid (fun (W : World) (hf : Framed wE W V V2) => show W.cell? ⟨b, off + i * 3 + 2, none⟩ = some (.int .i64 hi') by
    obtain ⟨p', cap', hv, _, hc'⟩ := (hM W hf).sides
    obtain ⟨rfl, _, _⟩ := Value.slice.inj hv
    obtain ⟨b', off', hbb, _, _, _, _, _, h8'⟩ := hc' i s hs0
    simp only [Option.some.injEq, Addr.mk.injEq] at hbb
    obtain ⟨rfl, rfl, _⟩ := hbb
    rw [← hhi]
    exact h8')
  have hn1 : n ≤ S.1.length := by omega
  have hFb : Fb < Bb := Nat.lt_of_lt_of_le (World.block_lt_of_cell? wE _ (hM wE (Framed.refl _ _ _)).f0) h.lo
  clear hrl hb h hbad hm hpl hdc hd hd2 ih hR hc hs0 h3 h6 h8 hmem hne hgood hM hxi hlo hhi hn
  generalize (rowsLen (rowsOf S) i).length = dl at *
  go_enter Tryz.func73, Tryz.ntmps73
  go_wp2_with (first | (go_at_call 74; go_must (refine (areMet_any S.1.length (rowsLen (rowsOf S) i) _ _ (xs.take i) _ HRl.out HG.out (by omega) HX.out hpl2 HB.out).mono ?_; rintro e w1 ⟨rfl, hg1⟩; rw [HN.out]; have HS1 := Lib.hid (HS.out.kept hI hg1); have d1 := hg1.cell ha0 (by simp); have d2 := hg1.cell h7 (by simp); clear hg1)))
  go_loopw [8] (fun nx wr => ∃ (m : Nat) (xr : List Int) (dm : List (List Int)), m ≤ (hi' - lo + 1).toNat ∧ nx = .int .i64 (lo + (m : Int)) ∧ Hid (walkP go d ((rangeI lo m).flatMap fun v => fromP (rowsOf S) (xs.take i ++ [v]) r) = (dm, true)) ∧ Hid (FromSt wE wr V V2 Bb n I dm xr) ∧ Hid (xr.take i = xs.take i)) (fun nx _ => (hi' + 1 - intOf nx).toNat)
  case atStart => exact ⟨0, xs, d, Nat.zero_le _, by simp, by show _ = _; simp [rangeI, walkP], HS1.out, rfl⟩
  case round =>
    obtain ⟨m, xr, dm, hm, rfl, HW, HSr, HT⟩ := hrel
    have hmr := HM.out wr HSr.out.framed
    have e0 := hmr.a0
    have e1 := HI8.out wr HSr.out.framed
    have e2 := hmr.f0
    unfold fromFn at e2
    by_cases hlt : m < (hi' - lo + 1).toNat
    · have hxr : i < xr.length := by have := HSr.out.len; omega
      have hle : lo + (m : Int) ≤ hi' := by omega
      have hb1 : -1000000 ≤ lo + (m : Int) := by omega
      have hb2 : lo + (m : Int) ≤ 1000000 := by omega
      have hroom : dm.length + (fromP (rowsOf S) (xs.take i ++ [lo + (m : Int)]) r).length ≤ 900000 := by
        have h1 := walkP_length go ((rangeI lo m).flatMap fun v => fromP (rowsOf S) (xs.take i ++ [v]) r) d
        rw [HW.out] at h1
        have h2 := flatMap_room (fun v => fromP (rowsOf S) (xs.take i ++ [v]) r) lo hlt
        have h3 := HRo.out
        simp only at h1 h2
        omega
      have hT2 : ∀ v, (xr.set i v).take (i + 1) = xs.take i ++ [v] := fun v => by rw [take_succ_set hxr, HT.out]
      obtain ⟨⟨dq, bq⟩, hq⟩ : ∃ q, walkP go dm (fromP (rowsOf S) (xs.take i ++ [lo + (m : Int)]) r) = q := ⟨_, rfl⟩
      have HC := Lib.hid (fun W (hS : FromSt wE W V V2 Bb n I dm (xr.set i (lo + (m : Int)))) => show Calls Tryz.prog 73 #[.slice (some ⟨Bb, 0, none⟩) (i + 1) n, .pointer (some ⟨Db, 0, none⟩), .pointer (some ⟨H, 0, none⟩), .pointer (some ⟨H + 1, 0, none⟩), .pointer (some ⟨Fb, 0, none⟩)] W
          (fun e w' => e = .returned (.bool bq) ∧ ∃ xs', FromSt wE w' V V2 Bb n I dq xs' ∧ xs'.take (xs.take i ++ [lo + (m : Int)]).length = xs.take i ++ [lo + (m : Int)]) from by
        have h := HIH.out (i + 1) W _ dm HD.out (by omega) hS (by rw [hT2]; exact near_snoc HB.out ⟨hb1, hb2⟩) (by rw [hT2]; exact hroom)
        rw [hT2] at h
        unfold FromPost at h
        rw [hq] at h
        exact h)
      have HQ := Lib.hid hq
      clear hq
      have HT2 := Lib.hid (hT2 (lo + (m : Int)))
      have hwr := IntWalk.i64_in (lo + (m : Int)) (by omega)
      obtain ⟨i0, hi0, hz0, hz1, hz2⟩ := info_parts Tryz.infoInt
      have e2a := (World.grownBy_alloc wr (.cells #[.int .i64 (lo + (m : Int))] 3) none).cell e2 (by simp)
      have e2b := (grown_set (wr.alloc (.cells #[.int .i64 (lo + (m : Int))] 3)) Bb i (.int .i64 (lo + (m : Int)))).cell e2a (by simp; omega)
      clear hroom hT2 hxr hmr
      go_wp2
      go_region_law (first
        | (go_simp; go_at_call 73; go_must (refine (HC.out _ ?st).mono ?_; (case st => (first | exact (HSr.out.kept hI (grown_ad _ _ _)).set hI i _ | exact (HSr.out.kept hI (World.grownBy_alloc _ _ _)).set hI i _ | exact ((HSr.out.kept hI (World.grownBy_alloc _ _ _)).set hI i _).kept hI (grown_d _ _))); rintro e w2 ⟨rfl, x2, hs2, ht2⟩; have S2 := Lib.hid hs2; have T2 := Lib.hid ht2; clear hs2 ht2))
        | (refine step_append_room (by rfl) _ _ 22 (by rfl) 3 i0 1 Tryz.underlying22 hi0 hz1 Bb 0 i n (by rfl) ⟨wr.heap.size, 0, none⟩ 1 1 [.int .i64 (lo + (m : Int))] (by rfl) (by rfl) news_at (by simp [Value.oneCell']) (by omega) ?sp ?_; (case sp => (intro j hj; obtain rfl : j = 0 := (by simp at hj; omega); rw [show 0 + i * 1 + 0 = i by omega]; first | exact ⟨(HSr.out.kept hI (grown_ad _ _ _)).cell hin2, (HSr.out.kept hI (grown_ad _ _ _)).free i⟩ | exact ⟨(HSr.out.kept hI (World.grownBy_alloc _ _ _)).cell hin2, (HSr.out.kept hI (World.grownBy_alloc _ _ _)).free i⟩)); rw [setCells_one, show 0 + i * 1 = i by omega]))
      all_goals
        cases bq
        · go_wp2
          go_ret
          have hw := walk_stop (F := fun v => fromP (rowsOf S) (xs.take i ++ [v]) r) HW.out hlt (by simp only [HQ.out])
          rw [HQ.out] at hw
          refine ⟨ret_bool (by rw [HF.out, hw]), x2, by rw [HF.out, hw]; exact S2.out, ?_⟩
          exact take_of_take T2.out
        · go_wp2
          go_roundw
          case rel =>
            have hw := walk_next (F := fun v => fromP (rowsOf S) (xs.take i ++ [v]) r) HW.out (by simp only [HQ.out])
            rw [HQ.out] at hw
            refine ⟨m + 1, x2, dq, by omega, by go_num, hw, S2.out, ?_⟩
            have h := take_of_take T2.out
            rwa [HPl.out] at h
          case measure => simp [intOf]; omega
    · have hle : hi' < lo + (m : Int) := by omega
      have hcnt : m = (hi' - lo + 1).toNat := by omega
      clear hmr
      go_wp2
      go_ret
      have hw := HW.out
      rw [hcnt] at hw
      refine ⟨ret_bool (by rw [HF.out, hw]), xr, by rw [HF.out, hw]; exact HSr.out, by rw [HPl.out]; exact HT.out⟩

end Go.Proofs.YtfilcaolgfghcaaGreat
