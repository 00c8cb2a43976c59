/-
 at: the values of variables at a point, as a table.
 RangeIn: the least and the greatest value of a form, by the reference.
-/
import Derived.Test.YtfilcaolgfghcaaGreatIsPoint
import Derived.Test.YtfilcaolgfghcaaGreatParts
import Derived.Test.YtfilcaolgfghcaaGreatSpace
import Derived.Test.YtfilcaolgfghcaaGreatPoints
namespace Go.Proofs.YtfilcaolgfghcaaGreat
open Go.RowKit Go.Maps Go.WideMaps
attribute [local go_sem ↓] Go.wp_at_zero Go.wp_at_succ

/-- A new map with the values of variables. -/
def AtMap (S : List SideD) (xs : List Int) (w : World) (e : Ending) (w' : World) : Prop :=
  ∃ (D : Table) (B n : Nat), e = .returned (.map (some B)) ∧ MapAt w' B n D ∧ PairsD D (varsOf S xs) ∧ w.grownBy w' none

set_option maxRecDepth 100000 in
set_option maxHeartbeats 2000000 in
theorem at_any (S : List SideD) (sv cv xv : Value) (xs : List Int) (w : World) (hS : SidesAt w sv S) (hx : IntsAt w xv xs) (hgood : sidesErr [] S = 0) (hlen : xs.length = S.length) (h8 : S.length ≤ 8) :
    Calls Tryz.prog 56 #[.agg #[sv, cv], xv] w (AtMap S xs w) := by
  obtain ⟨p, cap, hsv, ⟨hl, _⟩, hc⟩ := hS
  obtain ⟨px, xcap, rfl, hxl, hxc⟩ := hx
  subst hsv
  have H := Lib.hid hc
  have HX := Lib.hid hxc
  have HE := Lib.hid hgood
  have HLen := Lib.hid hlen
  clear hc hxc hgood hlen
  have HcM : Hid (MapAt ((w.alloc (.cells #[.slice p S.length cap, cv] 29)).alloc (.map #[] 0)) (w.heap.size + 1) 0 (.map [])) := by
    have h := World.ownsMap_made (H := Unit) (w.alloc (.cells #[.slice p S.length cap, cv] 29)) Tryz.prog 9 (plainElem Tryz.prog 3)
    rw [show (w.alloc (.cells #[.slice p S.length cap, cv] 29)).heap.size = w.heap.size + 1 by simp] at h
    exact h
  have hmm := @run_makeMap Tryz.prog
  go_enter Tryz.func56, Tryz.ntmps56
  go_wp2
  go_loopw [12] (fun i wr => ∃ (k : Nat) (D : Table), k ≤ S.length ∧ i = .int .i64 k ∧ Hid (MapAt wr (w.heap.size + 1) k D) ∧ Hid (PairsD D (((S.zip xs).take k).map pairOf)) ∧
      Hid (((w.alloc (.cells #[.slice p S.length cap, cv] 29)).alloc (.map #[] 0)).grownBy wr (some (w.heap.size + 1)))) (fun i _ => S.length - (intOf i).toNat)
  case atStart => exact ⟨0, _, Nat.zero_le _, rfl, HcM.out, pairsD_start, grownBy_refl _ _⟩
  case round =>
    obtain ⟨k, D, hk, rfl, HM, HP, HG⟩ := hrel
    have HW : Hid (w.grownBy wr none) := grown_own (grownBy_trans (World.grownBy_alloc _ _ _) (World.grownBy_alloc _ _ _)) HG.out (fun i hi => by cases hi; omega)
    by_cases hlt : k < S.length
    · have h0 := List.getElem?_eq_getElem hlt
      have hltx : k < xs.length := by rw [HLen.out]; exact hlt
      have h0x := List.getElem?_eq_getElem hltx
      obtain ⟨b, off, rfl, h3, ⟨h4, h4'⟩, ⟨h5, h5'⟩, h6, h7, h8⟩ := (H.out k _ h0).kept HW.out
      obtain ⟨bx, offx, rfl, ⟨hx1, hx2⟩, hxc⟩ := HX.out k _ h0x
      have hxc' := World.grownBy.cell HW.out hxc (by simp)
      have HF := Lib.hid (pairs_fresh (xs := xs) (sides_apart [] HE.out).2 hlt)
      have HZ := Lib.hid (zip_take_succ h0 h0x)
      have hI1 : (k : Int) < (xs.length : Int) := by omega
      have hI3 : (0 : Int) ≤ (k : Int) := by omega
      generalize hn : (S[k]).1 = n at *
      generalize hlo : (S[k]).2.1 = lo at *
      generalize hhi : (S[k]).2.2 = hi' at *
      generalize hxx : xs[k] = x at *
      have hxa : (wr.alloc (.cells #[.string n, .int .i64 lo, .int .i64 hi'] 64)).cell? ⟨bx, offx + k, none⟩ = some (.int .i64 x) := (World.grownBy_alloc _ _ none).cell hxc' (by simp)
      have hsz3 := HG.out.size
      simp at hsz3
      have hbx : bx < w.heap.size := World.block_lt_of_cell? w _ hxc
      clear hxc h0 h0x
      have hown := (World.ownsMap.alloc HM.out (.cells #[.string n, .int .i64 lo, .int .i64 hi'] 64)).kept (w' := (wr.alloc (.cells #[.string n, .int .i64 lo, .int .i64 hi'] 64)).drew) (row := none) ⟨rfl, rfl, rfl, Nat.le_refl _, fun _ _ _ => rfl⟩ (by simp)
      obtain ⟨w2, hrun, hown2, hg2⟩ := hown.update Tryz.lawStr Tryz.underlying98 (lt_maxLen k (by omega)) (key_str h3) (plainElem_int Tryz.underlying3 (wf64 hx1 hx2))
      have c1 : w2.cell? ⟨wr.heap.size, 0, none⟩ = some (.string n) := hg2.cell (hbox0 n lo hi' wr) (by have := hsz3; simp; omega)
      have c2 : w2.cell? ⟨bx, offx + k, none⟩ = some (.int .i64 x) := hg2.cell hxa (by simp; omega)
      have HO2 := Lib.hid hown2
      have HG2 := Lib.hid hg2
      clear hown hown2 hg2
      go_wp2
      go_region_held3 (fun w' => w'.cell? ⟨wr.heap.size, 0, none⟩ = some (.string n) ∧ w'.cell? ⟨bx, offx + k, none⟩ = some (.int .i64 x)) (go_keep) (fail)
      go_wp2
      go_roundw
      case rel =>
        refine ⟨k + 1, _, by omega, by go_num, HO2.out, ?_, ?_⟩
        · have := pairsD_step (z := x) HP.out HF.out
          show PairsD _ _
          rw [HZ.out, List.map_append]
          exact this
        · exact grownBy_trans HG.out (grownBy_trans (World.grownBy_alloc _ _ _) (grownBy_trans (grown_d _ _) HG2.out))
      case measure => simp [intOf]; omega
    · obtain rfl : k = S.length := by omega
      have HP2 := Lib.hid (show PairsD D (varsOf S xs) by
        have h := HP.out
        rw [List.take_of_length_le (by simp; omega)] at h
        exact h)
      go_wp2
      go_ret
      exact ⟨D, _, _, rfl, HM.out, HP2.out, HW.out⟩

end Go.Proofs.YtfilcaolgfghcaaGreat

namespace Go.Proofs.YtfilcaolgfghcaaGreat
open Go.RowKit Go.Maps Go.WideMaps
attribute [local go_sem ↓] Go.wp_at_zero Go.wp_at_succ

/-- The value of a form at a point. -/
def valF (l : List SideD) (f : CondD) (xs : List Int) : Int := valueOf (valIn (varsOf l xs)) f.1 f.2

def rangeStep (a : Int × Int × Bool) (v : Int) : Int × Int × Bool := if a.2.2 then (min a.1 v, max a.2.1 v, true) else (v, v, true)
def rangeOf (vs : List Int) : Int × Int × Bool := vs.foldl rangeStep (0, 0, false)
theorem rangeOf_snoc (vs : List Int) (v : Int) : rangeOf (vs ++ [v]) = rangeStep (rangeOf vs) v := by simp [rangeOf]

/-- The two boxes of a set and of a form. -/
def TwoBox (w : World) (A F : Nat) (sv cv : Value) (c : Int) (tv : Value) : Prop :=
  w.cell? ⟨A, 0, none⟩ = some sv ∧ w.cell? ⟨A, 1, none⟩ = some cv ∧ w.cell? ⟨F, 0, none⟩ = some (.int .i64 c) ∧ w.cell? ⟨F, 1, none⟩ = some tv
theorem TwoBox.a0 {w : World} {A F : Nat} {sv cv tv : Value} {c : Int} (h : TwoBox w A F sv cv c tv) : w.cell? ⟨A, 0, none⟩ = some sv := h.1
theorem TwoBox.a1 {w : World} {A F : Nat} {sv cv tv : Value} {c : Int} (h : TwoBox w A F sv cv c tv) : w.cell? ⟨A, 1, none⟩ = some cv := h.2.1
theorem TwoBox.f0 {w : World} {A F : Nat} {sv cv tv : Value} {c : Int} (h : TwoBox w A F sv cv c tv) : w.cell? ⟨F, 0, none⟩ = some (.int .i64 c) := h.2.2.1
theorem TwoBox.f1 {w : World} {A F : Nat} {sv cv tv : Value} {c : Int} (h : TwoBox w A F sv cv c tv) : w.cell? ⟨F, 1, none⟩ = some tv := h.2.2.2
theorem TwoBox.kept {w w' : World} {A F : Nat} {sv cv tv : Value} {c : Int} (h : TwoBox w A F sv cv c tv) (hg : w.grownBy w' none) : TwoBox w' A F sv cv c tv :=
  ⟨hg.cell h.a0 (by simp), hg.cell h.a1 (by simp), hg.cell h.f0 (by simp), hg.cell h.f1 (by simp)⟩

def PolyTwo (w0 : World) (A F : Nat) (sv cv tv : Value) (c : Int) (ts : List (ByteArray × Int)) (e : Ending) (w' : World) : Prop :=
  ∃ (D : Table) (B n : Nat), e = .returned (.map (some B)) ∧ Hid (MapAt w' B n D) ∧ Hid (PolyD D c ts) ∧ Hid (w0.grownBy w' none) ∧ Hid (TwoBox w' A F sv cv c tv)
theorem poly_two (w0 w : World) (A F : Nat) (sv cv tv : Value) (c : Int) (ts : List (ByteArray × Int)) (hg : w0.grownBy w none) (ht : TermsAt w0 tv ts) (hgood : formErr c ts = 0) (hb : TwoBox w A F sv cv c tv) :
    Calls Tryz.prog 54 #[.agg #[.int .i64 c, tv]] w (PolyTwo w0 A F sv cv tv c ts) := by
  refine (polyOf_any c ts _ _ (ht.kept hg) hgood).mono ?_
  rintro e w1 ⟨D, B, n, rfl, hB, hM, hn, hP, hg1⟩
  exact ⟨D, B, n, rfl, hM, hP, grownBy_trans hg hg1, hb.kept hg1⟩

def AtTwo (w0 w1 : World) (A F : Nat) (sv cv tv : Value) (c : Int) (S : List SideD) (xs : List Int) (e : Ending) (w' : World) : Prop :=
  ∃ (D : Table) (B n : Nat), e = .returned (.map (some B)) ∧ Hid (MapAt w' B n D) ∧ Hid (PairsD D (varsOf S xs)) ∧ Hid (w1.grownBy w' none) ∧ Hid (w0.grownBy w' none) ∧ Hid (TwoBox w' A F sv cv c tv)
theorem at_two (w0 w1 w : World) (A F : Nat) (sv cv xv tv : Value) (c : Int) (S : List SideD) (xs : List Int) (hg : w0.grownBy w none) (hg1 : w1.grownBy w none) (hS : SidesAt w0 sv S) (hx : IntsAt w0 xv xs) (hgood : sidesErr [] S = 0) (hlen : xs.length = S.length) (h8 : S.length ≤ 8) (hb : TwoBox w A F sv cv c tv) :
    Calls Tryz.prog 56 #[.agg #[sv, cv], xv] w (AtTwo w0 w1 A F sv cv tv c S xs) := by
  refine (at_any S sv cv xv xs w (hS.kept hg) (hx.kept hg) hgood hlen h8).mono ?_
  rintro e w2 ⟨D, B, n, rfl, hM, hP, hg2⟩
  exact ⟨D, B, n, rfl, hM, hP, grownBy_trans hg1 hg2, grownBy_trans hg hg2, hb.kept hg2⟩

def ValueTwo (w0 : World) (A F : Nat) (sv cv tv : Value) (c : Int) (v : Value) (e : Ending) (w' : World) : Prop :=
  e = .returned v ∧ Hid (w0.grownBy w' none) ∧ Hid (TwoBox w' A F sv cv c tv)
theorem value_two (w0 wp wa w : World) (A F Bp np Bx nx : Nat) (sv cv tv : Value) (c : Int) (ts : List (ByteArray × Int)) (l : List SideD) (xs : List Int) (D Dx : Table) (hgood : formErr c ts = 0) (hM : MapAt wp Bp np D) (hP : PolyD D c ts) (hgp : wp.grownBy w none)
    (hV : MapAt wa Bx nx Dx) (hX : PairsD Dx (varsOf l xs)) (hga : wa.grownBy w none) (hXb : near xs) (hg : w0.grownBy w none) (hb : TwoBox w A F sv cv c tv) :
    Calls Tryz.prog 55 #[.map (some Bp), .map (some Bx)] w (ValueTwo w0 A F sv cv tv c (.int .i64 (valF l (c, ts) xs))) := by
  refine (value_any c ts (valIn (varsOf l xs)) D Dx Bp np Bx nx w hgood (World.ownsMap.kept hM hgp (by simp)) hP (World.ownsMap.kept hV hga (by simp)) (fun t _ => hX.2 t.1) (valIn_bound fun t ht => ?_)).mono ?_
  · obtain ⟨q, hq, rfl⟩ := List.mem_map.1 ht
    have := hXb q.2 (List.of_mem_zip (a := q.1) (b := q.2) hq).2
    simp only
    omega
  · rintro e w2 ⟨rfl, hg2⟩
    exact ⟨rfl, grownBy_trans hg hg2, hb.kept hg2⟩

def RangeGives (r : Int × Int × Bool) (w : World) (e : Ending) (w' : World) : Prop := e = .returned (.tuple #[.int .i64 r.1, .int .i64 r.2.1, .bool r.2.2]) ∧ w.grownBy w' none

set_option maxRecDepth 100000 in
set_option maxHeartbeats 2000000 in
theorem rangeIn_any (S : List SideD × List CondD) (c : Int) (ts : List (ByteArray × Int)) (sv cv tv : Value) (w : World) (hS : SetAt w sv cv S) (hgood : setErr S = 0) (ht : TermsAt w tv ts) (hf : formErr c ts = 0) :
    Calls Tryz.prog 18 #[.agg #[sv, cv], .agg #[.int .i64 c, tv]] w (RangeGives (rangeOf ((pointsFrom S [] S.1).map (valF S.1 (c, ts)))) w) := by
  obtain ⟨⟨p, cap, rfl, hl, _⟩, ⟨pc, ccap, rfl, hcl, _⟩⟩ := id hS
  obtain ⟨pt, tcap, rfl, htl, htc⟩ := id ht
  have hpg := points_good S S.1 [] (fun s hs => (sides_good [] (set_good hgood).2.1 s hs).2) (fun x hx => by cases hx)
  have h8 := (set_good hgood).1
  have HSd := Lib.hid (set_good hgood).2.1
  have HPg := Lib.hid hpg
  have HS := Lib.hid hS
  have HT := Lib.hid ht
  have HE := Lib.hid hgood
  have HF := Lib.hid hf
  clear hS ht hgood hf hpg htc
  have hgs : w.grownBy ((w.alloc (.cells #[.slice p S.1.length cap, .slice pc S.2.length ccap] 29)).alloc (.cells #[.int .i64 c, .slice pt ts.length tcap] 33)) none := grownBy_trans (World.grownBy_alloc _ _ _) (World.grownBy_alloc _ _ _)
  have htb : TwoBox ((w.alloc (.cells #[.slice p S.1.length cap, .slice pc S.2.length ccap] 29)).alloc (.cells #[.int .i64 c, .slice pt ts.length tcap] 33)) w.heap.size (w.heap.size + 1) (.slice p S.1.length cap) (.slice pc S.2.length ccap) c (.slice pt ts.length tcap) := by
    have e1 : ((w.alloc (.cells #[.slice p S.1.length cap, .slice pc S.2.length ccap] 29)).alloc (.cells #[.int .i64 c, .slice pt ts.length tcap] 33)).heap[w.heap.size + 1]? = some (.cells #[.int .i64 c, .slice pt ts.length tcap] 33 (0, 0)) := by
      show ((w.heap.push _).push _)[w.heap.size + 1]? = _
      simp only [Array.getElem?_push, Array.size_push]
      rw [if_pos trivial]
    exact ⟨(World.grownBy_alloc _ _ none).cell (by simp) (by simp), (World.grownBy_alloc _ _ none).cell (by simp) (by simp), by unfold World.cell?; rw [e1]; rfl, by unfold World.cell?; rw [e1]; rfl⟩
  have HG0 := Lib.hid hgs
  have HT0 := Lib.hid htb
  have b0 := htb.a0
  have b1 := htb.a1
  clear hgs htb
  go_enter Tryz.func18, Tryz.ntmps18
  go_wp2_with (first
    | (go_at_call 53; go_must (refine (pointsIn_any S _ _ _ (HS.out.kept HG0.out) HE.out).mono ?_; rintro e w1 ⟨pv, rfl, hpv, hg1⟩; obtain ⟨pp, pcap, rfl, hpl, hpc⟩ := hpv; have HPc := Lib.hid hpc; have HG1 := Lib.hid (grownBy_trans HG0.out hg1); have HT1 := Lib.hid (HT0.out.kept hg1); clear hpc hg1 b0 b1)))
  generalize hPS : pointsFrom S [] S.1 = PS at *
  clear hPS
  go_loopw [4, 5, 6, 13] (fun lo hi ok i wr => ∃ (k : Nat) (r : Int × Int × Bool), k ≤ PS.length ∧ i = .int .i64 k ∧ lo = .int .i64 r.1 ∧ hi = .int .i64 r.2.1 ∧ ok = .bool r.2.2 ∧ Hid (r = rangeOf ((PS.take k).map (valF S.1 (c, ts)))) ∧ Hid (w1.grownBy wr none)) (fun _ _ _ i _ => PS.length - (intOf i).toNat)
  case atStart => exact ⟨0, (0, 0, false), Nat.zero_le _, rfl, rfl, rfl, rfl, rfl, grownBy_refl _ _⟩
  case round =>
    obtain ⟨k, ⟨lo, hi, ok⟩, hk, rfl, rfl, rfl, rfl, HR, HG⟩ := hrel
    by_cases hlt : k < PS.length
    · have h0 := List.getElem?_eq_getElem hlt
      obtain ⟨b, off, rv, rfl, hcx, hix⟩ := HPc.out k _ h0
      have hcx' := World.grownBy.cell HG.out hcx (by simp)
      have hmem := HPg.out _ (List.getElem_mem hlt)
      have HX := Lib.hid (hix.kept HG.out)
      have HLx := Lib.hid hmem.1
      have HNr := Lib.hid hmem.2
      have HSt := Lib.hid (show (PS.take (k + 1)).map (valF S.1 (c, ts)) = (PS.take k).map (valF S.1 (c, ts)) ++ [valF S.1 (c, ts) PS[k]] by rw [List.take_succ_eq_append_getElem hlt, List.map_append]; rfl)
      have HTr := Lib.hid (HT1.out.kept HG.out)
      have HGw := Lib.hid (grownBy_trans HG1.out HG.out)
      generalize PS[k] = x at *
      clear h0 hcx hix hmem
      have HXl := Lib.hid (show x.length = S.1.length by have := HLx.out; simpa using this)
      have q0 := HTr.out.a0
      have q1 := HTr.out.a1
      have q2 := HTr.out.f0
      have q3 := HTr.out.f1
      go_wp2
      go_region_held3 (fun w' => w'.cell? ⟨w.heap.size, 0, none⟩ = some (.slice p S.1.length cap) ∧ w'.cell? ⟨w.heap.size, 1, none⟩ = some (.slice pc S.2.length ccap) ∧ w'.cell? ⟨w.heap.size + 1, 0, none⟩ = some (.int .i64 c) ∧ w'.cell? ⟨w.heap.size + 1, 1, none⟩ = some (.slice pt ts.length tcap)) (first | go_keep | exact HB1.out | exact HB2.out | exact HB3.out)
        (first
          | (go_at_call 54; refine (poly_two wr _ w.heap.size (w.heap.size + 1) (.slice p S.1.length cap) (.slice pc S.2.length ccap) (.slice pt ts.length tcap) c ts (grown_d _ _) (HT.out.kept HGw.out) HF.out (HTr.out.kept (grown_d _ _))).mono ?_; rintro e w2 ⟨D, B, n, rfl, HM, HP, HG2, HB1⟩)
          | (go_at_call 56; refine (at_two wr w2 _ w.heap.size (w.heap.size + 1) (.slice p S.1.length cap) (.slice pc S.2.length ccap) rv (.slice pt ts.length tcap) c S.1 x HG2.out (grownBy_refl _ _) (HS.out.1.kept HGw.out) HX.out HSd.out HXl.out h8 HB1.out).mono ?_; rintro e w3 ⟨Dx, Bx, nx, rfl, HMx, HPx, HG23, HG3, HB2⟩)
          | (go_at_call 55; refine (value_two wr w2 w3 _ w.heap.size (w.heap.size + 1) B n Bx nx (.slice p S.1.length cap) (.slice pc S.2.length ccap) (.slice pt ts.length tcap) c ts S.1 x D Dx HF.out HM.out HP.out HG23.out HMx.out HPx.out (grownBy_refl _ _) HNr.out HG3.out HB2.out).mono ?_; rintro e w4 ⟨rfl, HG4, HB3⟩))
      have HV := Lib.hid (show valF S.1 (c, ts) x = valF S.1 (c, ts) x from rfl)
      generalize hv : valF S.1 (c, ts) x = v at *
      clear hv HV q0 q1 q2 q3
      cases ok
      · go_wp2
        go_roundw
        case rel =>
          refine ⟨k + 1, (v, v, true), by omega, by go_num, by simp, by simp, rfl, ?_, grownBy_trans HG.out HG4.out⟩
          show _ = _
          rw [HSt.out, rangeOf_snoc, ← HR.out]
          rfl
        case measure => simp [intOf]; omega
      · go_wp2
        go_roundw
        case rel =>
          refine ⟨k + 1, (min lo v, max hi v, true), by omega, by go_num, by (first | (simp; done) | (simp; split <;> omega)), by (first | (simp; done) | (simp; split <;> omega)), rfl, ?_, grownBy_trans HG.out HG4.out⟩
          show _ = _
          rw [HSt.out, rangeOf_snoc, ← HR.out]
          rfl
        case measure => simp [intOf]; omega
    · obtain rfl : k = PS.length := by omega
      have hr := HR.out
      rw [List.take_length] at hr
      have HR2 := Lib.hid hr
      clear hr
      go_wp2
      go_ret3
      exact ⟨congrArg (fun r : Int × Int × Bool => Ending.returned (.tuple #[.int .i64 r.1, .int .i64 r.2.1, .bool r.2.2])) HR2.out, grownBy_trans HG1.out HG.out⟩

end Go.Proofs.YtfilcaolgfghcaaGreat
