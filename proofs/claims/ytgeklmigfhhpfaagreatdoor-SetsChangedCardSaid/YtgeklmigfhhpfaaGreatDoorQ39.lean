/-
 The conditions of a drawn set but those that are not over another one. The deletion of the conditions that are not over a set.
-/
import Derived.Deep.DeepMust
import Derived.Test.YtgeklmigfhhpfaaGreatDoorQ08
import Derived.Test.YtgeklmigfhhpfaaGreatDoorQ12
import Derived.Test.YtgeklmigfhhpfaaGreatDoorQ28
import Derived.Test.YtgeklmigfhhpfaaGreatDoorQ32
namespace Go.Proofs.YtgeklmigfhhpfaaGreatDoor
open Go.RowKit
attribute [local go_sem ↓] Go.wp_at_zero Go.wp_at_succ
theorem other1_any (l : List SideD) (c : Int) (ts : List TermD) (sv cv tv : Value) (P : Nat) (w : World) (hs : SidesAt w sv l) (ht : TermsAt w tv ts) (h0 : w.cell? ⟨P, 0, none⟩ = some sv) (h1 : w.cell? ⟨P, 1, none⟩ = some cv) :
  Calls Tryz.prog 35 #[.agg #[.int .i64 c, tv], .pointer (some ⟨P, 0, none⟩)] w (Gives (.bool (aroundErr (namesOf l) (c, ts) != 0)) w) := by
 obtain ⟨ps, scap, rfl, _, _⟩ := id hs
 obtain ⟨pt, tcap, rfl, _, _⟩ := id ht
 have hg := gA w (.cells #[.int .i64 c, .slice pt ts.length tcap] 35) none
 have c0 := hg.cell h0 (by simp)
 have c1 := hg.cell h1 (by simp)
 have HF := uH (formOver_any l c ts (.slice ps l.length scap) cv (.slice pt ts.length tcap) _ (hs.kept hg) (ht.kept hg))
 have HG := uH hg
 clear hs ht h0 h1 hg
 go_enter Tryz.func35, Tryz.ntmps35
 go_wp2_with (go_at_call 25; go_must (refine HF.out.mono ?_; rintro e w2 ⟨rfl, hg2⟩; have G2 := uH hg2; clear hg2))
 go_ret
 exact ⟨rfl, gT HG.out G2.out⟩
def offB (l : List SideD) (f : CondD) : Bool := aroundErr (namesOf l) f != 0
def offZ (l : List SideD) (z : CondD × Value) : Bool := offB l z.1
structure AskBox (w : World) (P : Nat) (sv cv : Value) (l : List SideD) : Prop where
 c0 : w.cell? ⟨P, 0, none⟩ = some sv
 c1 : w.cell? ⟨P, 1, none⟩ = some cv
 sides : ∀ w2 : World, w.grownBy w2 none → SidesAt w2 sv l
def ZRow (w : World) (P : Nat) (v : Value) (zs : List (CondD × Value)) : Prop := w.ownsRow P 35 2 v zs.length (zs.flatMap condCells)
theorem ZRow.cells {w : World} {P : Nat} {p : Option Addr} {n cap : Nat} {zs : List (CondD × Value)} (h : ZRow w P (.slice p n cap) zs) {j : Nat} {z : CondD × Value} (hj : zs[j]? = some z) :
  ∃ g, p = some ⟨g, 0, none⟩ ∧ w.cell? ⟨g, j * 2, none⟩ = some (.int .i64 z.1.1) ∧ w.cell? ⟨g, j * 2 + 1, none⟩ = some z.2 := by
 have e0 := flat_get (f := condCells) (k := 2) (fun _ => rfl) hj (i := 0) (v := .int .i64 z.1.1) rfl
 have e1 := flat_get (f := condCells) (k := 2) (fun _ => rfl) hj (i := 1) (v := z.2) rfl
 obtain ⟨g, c, hv, _, k0⟩ := own_cell h e0
 obtain ⟨g', c', hv', _, k1⟩ := own_cell h e1
 obtain ⟨rfl, _, _⟩ := Value.slice.inj hv
 obtain ⟨hg, _, _⟩ := Value.slice.inj hv'
 simp only [Option.some.injEq, Addr.mk.injEq, and_true] at hg
 subst hg
 exact ⟨g, rfl, k0, k1⟩
theorem ZRow.kept {w w' : World} {P : Nat} {v : Value} {zs : List (CondD × Value)} (h : ZRow w P v zs) (hg : w.grownBy w' none) : ZRow w' P v zs := owns_kept h hg
theorem flat_set2 {us : List (CondD × Value)} {i : Nat} (h : i < us.length) (z : CondD × Value) : ((us.flatMap condCells).set (i * 2) (.int .i64 z.1.1)).set (i * 2 + 1) z.2 = (us.set i z).flatMap condCells := by
 induction us generalizing i with
 | nil => simp at h
 | cons a r ih =>
   cases i with
   | zero => rfl
   | succ i =>
     have e : (i + 1) * 2 = (i * 2) + 1 + 1 := by omega
     rw [e]
     simp only [List.flatMap_cons, condCells, List.cons_append, List.nil_append, List.set_cons_succ, List.cons.injEq, true_and]
     exact ih (by simpa using h)
theorem ZRow.stored {w : World} {P g n cap : Nat} {us : List (CondD × Value)} (h : ZRow w P (.slice (some ⟨g, 0, none⟩) n cap) us) {i : Nat} (hi : i < us.length) (z : CondD × Value) :
  ZRow ((w.setCell ⟨g, i * 2, none⟩ (.int .i64 z.1.1)).setCell ⟨g, i * 2 + 1, none⟩ z.2) P (.slice (some ⟨g, 0, none⟩) n cap) (us.set i z) := by
 obtain ⟨p, c, hv⟩ := own_form h
 cases hv
 have a := (World.ownsRow.stored h (i * 2) (.int .i64 z.1.1)).1
 have b := (World.ownsRow.stored a (i * 2 + 1) z.2).1
 unfold ZRow
 rw [← flat_set2 hi z, List.length_set]
 exact b
theorem ZRow.free {w : World} {P g n cap : Nat} {us : List (CondD × Value)} (h : ZRow w P (.slice (some ⟨g, 0, none⟩) n cap) us) : n = us.length ∧ n ≤ cap ∧ cap ≤ maxLen ∧ P ≤ g ∧ ∀ j, w.frozen? ⟨g, j, none⟩ = false := by
 obtain ⟨p, c, hv⟩ := own_form h
 cases hv
 obtain ⟨h1, h2, h3, h4, _⟩ := own_free h
 exact ⟨rfl, h1, h2, h3, h4⟩
theorem ZRow.block {w : World} {P g n cap : Nat} {us : List (CondD × Value)} (h : ZRow w P (.slice (some ⟨g, 0, none⟩) n cap) us) : ∃ cur, w.heap[g]? = some (.cells cur 35 (0, 0)) ∧ cur.size = cap * 2 := by
 obtain ⟨p, c, hv⟩ := own_form h
 cases hv
 obtain ⟨_, _, _, _, cur, h5, h6, _⟩ := own_free h
 exact ⟨cur, h5, h6⟩
theorem ZRow.cut {w w' : World} {P g n cap i : Nat} {us : List (CondD × Value)} {cur : Array Value} (h : ZRow w P (.slice (some ⟨g, 0, none⟩) n cap) us) (hi : i ≤ us.length) (hc : w.heap[g]? = some (.cells cur 35 (0, 0))) (hp : ClearPost g (i * 2) cur 35 w w') :
  ZRow w' P (.slice (some ⟨g, 0, none⟩) i cap) (us.take i) := by
 obtain ⟨p, c, hv⟩ := own_form h
 cases hv
 obtain ⟨h1, h2, h3, _, cur0, h5, h6, h7⟩ := own_free h
 rw [hc] at h5
 cases h5
 obtain ⟨cur', k1, k2, k3, _⟩ := hp
 have hl : (us.take i).length = i := by simp; omega
 have hx : cur'.toList.take (i * 2) = (us.take i).flatMap condCells := by
  rw [k3]
  have e : us = us.take i ++ us.drop i := (List.take_append_drop i us).symm
  have e2 : us.flatMap condCells = (us.take i).flatMap condCells ++ (us.drop i).flatMap condCells := by rw [← List.flatMap_append, ← e]
  have e3 : cur.toList.take (i * 2) = (us.flatMap condCells).take (i * 2) := by rw [← h7, List.take_take, Nat.min_eq_left (by omega)]
  rw [e3, e2, List.take_left' (by rw [flat_length (f := condCells) (k := 2) (fun _ => rfl), hl])]
 unfold ZRow
 rw [hl]
 exact ⟨by rw [flat_length (f := condCells) (k := 2) (fun _ => rfl), hl], .inr ⟨g, cap, cur', rfl, h3, k1, by omega, h2, by rw [k2, h6], hx⟩⟩
theorem Tryz.zeroForm (w : World) : (zeroValue 35).run Tryz.prog w = .ok (.agg #[.int .i64 0, .slice none 0 0]) w := by kernel_rfl
def ZTerms (w : World) (zs : List (CondD × Value)) : Prop := ∀ z ∈ zs, TermsAt w z.2 z.1.2 ∧ -9223372036854775808 ≤ z.1.1 ∧ z.1.1 ≤ 9223372036854775807
set_option maxRecDepth 100000 in
set_option maxHeartbeats 1000000 in
theorem indexForms_any (l : List SideD) (sv cv : Value) (p : Option Addr) (cap P Px : Nat) (zs : List (CondD × Value)) (w : World) (hl : zs.length ≤ 1000000) (hz : ZRow w P (.slice p zs.length cap) zs) (hA : AskBox w Px sv cv l) (hT : ZTerms w zs) :
  Calls Tryz.prog 84 #[.slice p zs.length cap, .func (.func 35) #[] #[.pointer (some ⟨Px, 0, none⟩)]] w (Gives (.int .i64 (firstI (offZ l) zs)) w) := by
 have HZ := uH hz
 have HA := uH hA
 have HT := uH hT
 clear hz hA hT
 go_enter Tryz.func84, Tryz.ntmps84
 go_wp2
 go_loopw [8] (fun i wr => ∃ k : Nat, k ≤ zs.length ∧ i = .int .i64 k ∧ Hid ((zs.take k).any (offZ l) = false) ∧ Hid (w.grownBy wr none)) (fun i _ => zs.length - (intOf i).toNat)
 case atStart => exact ⟨0, Nat.zero_le _, rfl, rfl, gR _ _⟩
 case round =>
  obtain ⟨k, hk, rfl, HR, HG⟩ := hrel
  by_cases hlt : k < zs.length
  · have h0 := List.getElem?_eq_getElem hlt
    obtain ⟨g, rfl, h3, h4⟩ := (HZ.out.kept HG.out).cells h0
    have HS := uH (any_snoc (q := offZ l) h0)
    have HH := uH (fun hq => firstI_hit (q := offZ l) h0 HR.out hq)
    obtain ⟨ht, hb1, hb2⟩ := HT.out _ (List.getElem_mem hlt)
    have HC := uH (fun (W : World) (hW : w.grownBy W none) => other1_any l (zs[k]).1.1 (zs[k]).1.2 sv cv (zs[k]).2 Px W (HA.out.sides W hW) (ht.kept hW) (hW.cell HA.out.c0 (by simp)) (hW.cell HA.out.c1 (by simp)))
    have HE := uH (show offZ l zs[k] = (aroundErr (namesOf l) ((zs[k]).1.1, (zs[k]).1.2) != 0) from rfl)
    obtain ⟨pt, tcap, htv, _, _⟩ := id ht
    generalize hc : (zs[k]).1.1 = c at *
    generalize hts : (zs[k]).1.2 = ts at *
    generalize (zs[k]).2 = tv at *
    subst htv
    have hI1 : (k : Int) < (zs.length : Int) := by omega
    clear h0 hc hts ht
    go_wp2_with (first | (go_at_call 35; go_must (refine (HC.out _ HG.out).mono ?_; rintro e w' ⟨rfl, hg1⟩; have G1 := uH hg1; clear hg1)))
    · have he : (aroundErr (namesOf l) (c, ts) != 0) = true := by assumption
      go_ret
      exact ⟨ret_i64 (HH.out (by rw [HE.out, he])).symm, gT HG.out G1.out⟩
    · have he : (aroundErr (namesOf l) (c, ts) != 0) = false := by assumption
      go_roundw
      case rel => exact ⟨k + 1, by omega, by go_num, by show _ = _; rw [HS.out, HR.out, HE.out, he]; rfl, gT HG.out G1.out⟩
      case measure => simp [intOf]; omega
  · obtain rfl : k = zs.length := by omega
    go_wp2
    go_ret
    have h := HR.out
    rw [List.take_length] at h
    exact ⟨ret_i64 (firstI_miss h).symm, HG.out⟩
end Go.Proofs.YtgeklmigfhhpfaaGreatDoor
namespace Go.Proofs.YtgeklmigfhhpfaaGreatDoor
open Go.RowKit
attribute [local go_sem ↓] Go.wp_at_zero Go.wp_at_succ
def keepZ (l : List SideD) (zs : List (CondD × Value)) : List (CondD × Value) := zs.filter fun z => !(offZ l z)
def KeptPost (P : Nat) (v : Value) (l : List SideD) (zs : List (CondD × Value)) (w : World) (e : Ending) (w' : World) : Prop :=
 ∃ p cap, e = .returned (.slice p (keepZ l zs).length cap) ∧ ZRow w' P (.slice p (keepZ l zs).length cap) (keepZ l zs) ∧ w.grownBy w' v.ownBlock
set_option maxRecDepth 100000 in
set_option maxHeartbeats 4000000 in
theorem deleteForms_any (l : List SideD) (sv cv : Value) (p : Option Addr) (n cap P Px : Nat) (zs : List (CondD × Value)) (w : World) (hl : zs.length ≤ 100000) (h : ZRow w P (.slice p n cap) zs) (hA : AskBox w Px sv cv l) (hPx : Px < P)
  (hSd : ∀ w2, w.grownBy w2 (Value.slice p n cap).ownBlock → SidesAt w2 sv l) (hT : ∀ w2, w.grownBy w2 (Value.slice p n cap).ownBlock → ZTerms w2 zs) :
  Calls Tryz.prog 34 #[.slice p n cap, .func (.func 35) #[] #[.pointer (some ⟨Px, 0, none⟩)]] w (KeptPost P (.slice p n cap) l zs w) := by
 obtain ⟨p0, c, hv⟩ := own_form h
 cases hv
 have H := uH h
 have HA := uH hA
 have HT := uH hT
 have HSd := uH hSd
 have HI := uH (indexForms_any l sv cv p cap P Px zs w (by omega) h hA (hT _ (gR _ _)))
 rcases firstI_cases (offZ l) zs with ⟨hk, hf⟩ | ⟨i0, hk, hlt0, hf⟩
 · have HF : Hid (keepZ l zs = zs) := hf
   rw [hk] at HI
   clear h hA hf hk hT hSd
   go_enter Tryz.func34, Tryz.ntmps34
   go_wp2_with (first | (go_at_call 84; go_must (refine HI.out.mono ?_; rintro e w1 ⟨rfl, hg1⟩; have HG1 := uH hg1; clear hg1)))
   go_ret
   refine ⟨p, cap, by rw [HF.out]; rfl, by rw [HF.out]; exact H.out.kept HG1.out, grownBy_any _ HG1.out⟩
 · have HF : Hid ((zs.take (i0 + 1)).filter (fun z => !(offZ l z)) = zs.take i0) := hf
   rw [hk] at HI
   obtain ⟨g, rfl, _⟩ := h.cells (List.getElem?_eq_getElem hlt0)
   obtain ⟨f1, f2, f3, f4, _⟩ := own_free h
   clear h hA hf hk hT hSd
   go_enter Tryz.func34, Tryz.ntmps34
   have hi0 : ((i0 : Int) == -1) = false := by rw [Bool.eq_false_iff]; intro e; simp at e
   go_wp2_with (first | (go_at_call 84; go_must (refine HI.out.mono ?_; rintro e w1 ⟨rfl, hg1⟩; have HR1 := uH (H.out.kept hg1); have HG1 : Hid (w.grownBy w1 (some g)) := grownBy_any _ hg1; clear hg1)))
   go_loopw [5, 6] (fun i j wr => ∃ (ki kj : Nat) (us : List (CondD × Value)), ki < kj ∧ kj ≤ zs.length ∧ i = .int .i64 ki ∧ j = .int .i64 kj ∧ Hid (us.length = zs.length) ∧ Hid (ZRow wr P (.slice (some ⟨g, 0, none⟩) zs.length cap) us) ∧ Hid (us.take ki = keepZ l (zs.take kj)) ∧ Hid (us.drop kj = zs.drop kj) ∧ Hid (w.grownBy wr (some g))) (fun _ j _ => zs.length - (intOf j).toNat)
   case atStart => exact ⟨i0, i0 + 1, zs, by omega, by omega, rfl, by go_num, rfl, HR1.out, HF.out.symm, rfl, HG1.out⟩
   case round =>
    obtain ⟨ki, kj, us, hij, hj, rfl, rfl, HUl, HR, HT2, HD, HG⟩ := hrel
    by_cases hlt : kj < zs.length
    · have hju : kj < us.length := by rw [HUl.out]; exact hlt
      have hiu : ki < us.length := by omega
      obtain ⟨g', hg', c0, c1⟩ := HR.out.cells (List.getElem?_eq_getElem hju)
      obtain ⟨g2, hg2, d0, d1⟩ := HR.out.cells (List.getElem?_eq_getElem hiu)
      simp only [Option.some.injEq, Addr.mk.injEq, and_true] at hg' hg2
      subst hg' hg2
      have z4 := HR.out.free.2.2.2.2
      have he0 : zs[kj] = us[kj] := by
       have h1 : (us.drop kj)[0]? = (zs.drop kj)[0]? := by rw [HD.out]
       rw [List.getElem?_drop, List.getElem?_drop, Nat.add_zero, List.getElem?_eq_getElem hju, List.getElem?_eq_getElem hlt] at h1
       exact (Option.some.inj h1).symm
      have HSt : Hid (keepZ l (zs.take (kj + 1)) = keepZ l (zs.take kj) ++ (if offZ l us[kj] then [] else [us[kj]])) := by
       show _ = _
       unfold keepZ
       rw [List.take_succ_eq_append_getElem hlt, List.filter_append, he0]
       cases hs : offZ l us[kj] <;> simp [hs]
      have HD1 : Hid (us.drop (kj + 1) = zs.drop (kj + 1)) := by
       show _ = _
       rw [← List.drop_drop, ← List.drop_drop, HD.out]
      obtain ⟨ht, hb1, hb2⟩ := HT.out _ HG.out _ (List.getElem_mem hlt)
      rw [he0] at ht hb1 hb2
      have hc0 := HG.out.cell HA.out.c0 (by simp; omega)
      have hc1 := HG.out.cell HA.out.c1 (by simp; omega)
      have HX1 := uH (show us[kj] = (((us[kj]).1.1, (us[kj]).1.2), (us[kj]).2) from rfl)
      rw [HX1.out] at HSt
      obtain ⟨pt, tcap, htv, _, _⟩ := id ht
      have hsd := HSd.out _ HG.out
      generalize hc : (us[kj]).1.1 = c at *
      generalize hts : (us[kj]).1.2 = ts at *
      generalize (us[kj]).2 = tv at *
      subst htv
      generalize (us[ki]).1.1 = cc2 at *
      generalize (us[ki]).2 = tv2 at *
      have hga := gA wr (.cells #[.int .i64 c, .slice pt ts.length tcap] 35) none
      have HC := uH (other1_any l c ts sv cv (.slice pt ts.length tcap) Px (wr.alloc (.cells #[.int .i64 c, .slice pt ts.length tcap] 35)) (hsd.kept hga) (ht.kept hga) (hga.cell hc0 (by simp)) (hga.cell hc1 (by simp)))
      have HIu := uH hiu
      have hoz : offZ l ((c, ts), .slice pt ts.length tcap) = (aroundErr (namesOf l) (c, ts) != 0) := rfl
      rw [hoz] at HSt
      clear HX1 hc hts hc0 hc1 ht hsd hga he0 hoz
      clear hju hiu
      cases he : (aroundErr (namesOf l) (c, ts) != 0)
      · rw [he] at HC HSt
        go_wp2_with (first | (go_at_call 35; go_must (refine HC.out.mono ?_; rintro e w2 ⟨rfl, hg2⟩; have G2 := uH (gT (gA wr (.cells #[.int .i64 c, .slice pt ts.length tcap] 35) none) hg2); have b0 := hg2.cell (a := ⟨wr.heap.size, 0, none⟩) (v := .int .i64 c) (by simp) (by simp); have b1 := hg2.cell (a := ⟨wr.heap.size, 1, none⟩) (v := .slice pt ts.length tcap) (by simp) (by simp); have e0 := G2.out.cell d0 (by simp); have e1 := G2.out.cell d1 (by simp); have ef := (HR.out.kept G2.out).free.2.2.2.2; clear hg2)))
        have hiu := HIu.out
        go_roundw
        case rel =>
         refine ⟨ki + 1, kj + 1, us.set ki ((c, ts), .slice pt ts.length tcap), by omega, by omega, by go_num, by go_num, ?_, ?_, ?_, ?_, ?_⟩
         · show _ = _
           rw [List.length_set]
           exact HUl.out
         · exact (HR.out.kept G2.out).stored hiu ((c, ts), .slice pt ts.length tcap)
         · show _ = _
           rw [HSt.out, List.take_succ_eq_append_getElem (by rw [List.length_set]; exact hiu), List.take_set_of_le (Nat.le_refl _), HT2.out]
           simp
         · show _ = _
           rw [List.drop_set_of_lt (by omega)]
           exact HD1.out
         · exact gT HG.out (gT (grownBy_any _ G2.out) (gT (gS _ _ _ _) (gS _ _ _ _)))
        case measure => simp [intOf]; omega
      · rw [he] at HC HSt
        go_wp2_with (first | (go_at_call 35; go_must (refine HC.out.mono ?_; rintro e w2 ⟨rfl, hg2⟩; have G2 := uH (gT (gA wr (.cells #[.int .i64 c, .slice pt ts.length tcap] 35) none) hg2); clear hg2)))
        go_roundw
        case rel => exact ⟨ki, kj + 1, us, by omega, by omega, by go_num, by go_num, HUl.out, HR.out.kept G2.out, by
         show _ = _
         rw [HSt.out, HT2.out]
         simp, HD1.out, gT HG.out (grownBy_any _ G2.out)⟩
        case measure => simp [intOf]; omega
    · obtain rfl : kj = zs.length := by omega
      obtain ⟨cur, z1, z2⟩ := HR.out.block
      have hi1 : (ki : Int) ≤ (zs.length : Int) := by omega
      have hi2 : (0 : Int) ≤ (ki : Int) := by omega
      have hi3 : (ki : Int) ≤ (cap : Int) := by omega
      obtain ⟨w2, hrun, hcp⟩ := run_clear_row (P := Tryz.prog) wr 27 35 0 (.agg #[.int .i64 0, .slice none 0 0]) 2 Tryz.underlying27 Tryz.zeroForm rfl (by decide) g (ki * 2) (zs.length - ki) (cap - ki) cur 35 z1 (by omega)
      have HC := uH hcp
      clear hcp
      go_wp2
      go_ret
      have hul := HUl.out
      have ht := HT2.out
      rw [List.take_length] at ht
      have hln : (keepZ l zs).length = ki := by rw [← ht, List.length_take]; omega
      refine ⟨some ⟨g, 0, none⟩, cap, by rw [hln]; rfl, ?_, ?_⟩
      · rw [hln, ← ht]
        exact HR.out.cut (by omega) z1 HC.out
      · obtain ⟨_, _, _, _, hgg⟩ := HC.out
        exact gT HG.out hgg
end Go.Proofs.YtgeklmigfhhpfaaGreatDoor
