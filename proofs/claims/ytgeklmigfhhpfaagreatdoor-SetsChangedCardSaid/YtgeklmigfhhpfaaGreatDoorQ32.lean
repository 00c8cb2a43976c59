/-
 The sides without one, in memory. others: the sides without one. The reference's Shadow and Mapped: the forms that come out, in mathematics. Conditions that are put into the box of a new set. A table with another one for a variable.
-/
import Derived.Deep.DeepMust
import Derived.Test.YtgeklmigfhhpfaaGreatDoorQ10
import Derived.Test.YtgeklmigfhhpfaaGreatDoorQ12
import Derived.Test.YtgeklmigfhhpfaaGreatDoorQ17
import Derived.Test.YtgeklmigfhhpfaaGreatDoorQ21
import Derived.Test.YtgeklmigfhhpfaaGreatDoorQ26
import Derived.Test.YtgeklmigfhhpfaaGreatDoorQ29
import Derived.Test.YtgeklmigfhhpfaaGreatDoorQ31
namespace Go.Proofs.YtgeklmigfhhpfaaGreatDoor
open Go.RowKit
attribute [local go_sem ↓] Go.wp_at_zero Go.wp_at_succ
def SideRw (w : World) (P : Nat) (v : Value) (ts : List SideD) : Prop := w.ownsRow P 63 3 v ts.length (ts.flatMap sideCells)
theorem SideRw.cells {w : World} {P : Nat} {p : Option Addr} {n cap : Nat} {ts : List SideD} (h : SideRw w P (.slice p n cap) ts) {j : Nat} {t : SideD} (hj : ts[j]? = some t) :
  ∃ g, p = some ⟨g, 0, none⟩ ∧ w.cell? ⟨g, j * 3, none⟩ = some (.string t.1) ∧ w.cell? ⟨g, j * 3 + 1, none⟩ = some (.int .i64 t.2.1) ∧ w.cell? ⟨g, j * 3 + 2, none⟩ = some (.int .i64 t.2.2) := by
 have e0 := flat_get (f := sideCells) (k := 3) (fun _ => rfl) hj (i := 0) (v := .string t.1) rfl
 have e1 := flat_get (f := sideCells) (k := 3) (fun _ => rfl) hj (i := 1) (v := .int .i64 t.2.1) rfl
 have e2 := flat_get (f := sideCells) (k := 3) (fun _ => rfl) hj (i := 2) (v := .int .i64 t.2.2) rfl
 obtain ⟨g, c, hv, _, k0⟩ := own_cell h e0
 obtain ⟨g', c', hv', _, k1⟩ := own_cell h e1
 obtain ⟨g2, c2, hv2, _, k2⟩ := own_cell h e2
 obtain ⟨rfl, _, _⟩ := Value.slice.inj hv
 obtain ⟨hg, _, _⟩ := Value.slice.inj hv'
 obtain ⟨hg2, _, _⟩ := Value.slice.inj hv2
 simp only [Option.some.injEq, Addr.mk.injEq, and_true] at hg hg2
 subst hg
 subst hg2
 exact ⟨g, rfl, k0, k1, k2⟩
theorem SideRw.kept {w w' : World} {P : Nat} {v : Value} {ts : List SideD} (h : SideRw w P v ts) (hg : w.grownBy w' none) : SideRw w' P v ts := owns_kept h hg
theorem flat_set3 {us : List SideD} {i : Nat} (h : i < us.length) (t : SideD) : (((us.flatMap sideCells).set (i * 3) (.string t.1)).set (i * 3 + 1) (.int .i64 t.2.1)).set (i * 3 + 2) (.int .i64 t.2.2) = (us.set i t).flatMap sideCells := by
 induction us generalizing i with
 | nil => simp at h
 | cons a r ih =>
   cases i with
   | zero => rfl
   | succ i =>
     have e : (i + 1) * 3 = (i * 3) + 1 + 1 + 1 := by omega
     rw [e]
     simp only [List.flatMap_cons, sideCells, List.cons_append, List.nil_append, List.set_cons_succ, List.cons.injEq, true_and]
     exact ih (by simpa using h)
theorem SideRw.stored {w : World} {P g n cap : Nat} {us : List SideD} (h : SideRw w P (.slice (some ⟨g, 0, none⟩) n cap) us) {i : Nat} (hi : i < us.length) (t : SideD) :
  SideRw (((w.setCell ⟨g, i * 3, none⟩ (.string t.1)).setCell ⟨g, i * 3 + 1, none⟩ (.int .i64 t.2.1)).setCell ⟨g, i * 3 + 2, none⟩ (.int .i64 t.2.2)) P (.slice (some ⟨g, 0, none⟩) n cap) (us.set i t) := by
 obtain ⟨p, c, hv⟩ := own_form h
 cases hv
 have a := (World.ownsRow.stored h (i * 3) (.string t.1)).1
 have b := (World.ownsRow.stored a (i * 3 + 1) (.int .i64 t.2.1)).1
 have d := (World.ownsRow.stored b (i * 3 + 2) (.int .i64 t.2.2)).1
 unfold SideRw
 rw [← flat_set3 hi t, List.length_set]
 exact d
theorem SideRw.free {w : World} {P g n cap : Nat} {us : List SideD} (h : SideRw w P (.slice (some ⟨g, 0, none⟩) n cap) us) : n = us.length ∧ n ≤ cap ∧ cap ≤ maxLen ∧ P ≤ g ∧ ∀ j, w.frozen? ⟨g, j, none⟩ = false := by
 obtain ⟨p, c, hv⟩ := own_form h
 cases hv
 obtain ⟨h1, h2, h3, h4, _⟩ := own_free h
 exact ⟨rfl, h1, h2, h3, h4⟩
theorem SideRw.block {w : World} {P g n cap : Nat} {us : List SideD} (h : SideRw w P (.slice (some ⟨g, 0, none⟩) n cap) us) : ∃ cur, w.heap[g]? = some (.cells cur 63 (0, 0)) ∧ cur.size = cap * 3 := by
 obtain ⟨p, c, hv⟩ := own_form h
 cases hv
 obtain ⟨_, _, _, _, cur, h5, h6, _⟩ := own_free h
 exact ⟨cur, h5, h6⟩
theorem SideRw.cut {w w' : World} {P g n cap i : Nat} {us : List SideD} {cur : Array Value} (h : SideRw w P (.slice (some ⟨g, 0, none⟩) n cap) us) (hi : i ≤ us.length) (hc : w.heap[g]? = some (.cells cur 63 (0, 0))) (hp : ClearPost g (i * 3) cur 63 w w') :
  SideRw w' P (.slice (some ⟨g, 0, none⟩) i cap) (us.take i) := by
 obtain ⟨p, c, hv⟩ := own_form h
 cases hv
 obtain ⟨h1, h2, h3, _, cur0, h5, h6, h7⟩ := own_free h
 rw [hc] at h5
 cases h5
 obtain ⟨cur', k1, k2, k3, _⟩ := hp
 have hl : (us.take i).length = i := by simp; omega
 have hx : cur'.toList.take (i * 3) = (us.take i).flatMap sideCells := by
  rw [k3]
  have e : us = us.take i ++ us.drop i := (List.take_append_drop i us).symm
  have e2 : us.flatMap sideCells = (us.take i).flatMap sideCells ++ (us.drop i).flatMap sideCells := by rw [← List.flatMap_append, ← e]
  have e3 : cur.toList.take (i * 3) = (us.flatMap sideCells).take (i * 3) := by rw [← h7, List.take_take, Nat.min_eq_left (by omega)]
  rw [e3, e2, List.take_left' (by rw [flat_length (f := sideCells) (k := 3) (fun _ => rfl), hl])]
 unfold SideRw
 rw [hl]
 exact ⟨by rw [flat_length (f := sideCells) (k := 3) (fun _ => rfl), hl], .inr ⟨g, cap, cur', rfl, h3, k1, by omega, h2, by rw [k2, h6], hx⟩⟩
theorem Tryz.zeroSide (w : World) : (zeroValue 63).run Tryz.prog w = .ok (.agg #[.string ByteArray.empty, .int .i64 0, .int .i64 0]) w := by kernel_rfl
def otherL (x : ByteArray) (l : List SideD) : List SideD := l.filter fun s => !(sameName x s)
theorem firstI_cases {α : Type} (q : α → Bool) (l : List α) : (firstI q l = -1 ∧ l.filter (fun a => !(q a)) = l) ∨ ∃ k : Nat, firstI q l = k ∧ k < l.length ∧ (l.take (k + 1)).filter (fun a => !(q a)) = l.take k := by
 by_cases h : l.any q = true
 · obtain ⟨k, hk, hlt⟩ := firstI_lt h
   refine .inr ⟨k, hk, hlt, ?_⟩
   unfold firstI at hk
   cases hf : l.findIdx? q with
   | none => rw [hf] at hk; simp only at hk; omega
   | some j =>
     rw [hf] at hk
     simp only at hk
     obtain rfl : j = k := by omega
     obtain ⟨hj, h1, h2⟩ := List.findIdx?_eq_some_iff_getElem.1 hf
     rw [List.take_succ_eq_append_getElem hlt, List.filter_append]
     have e1 : (l.take j).filter (fun a => !(q a)) = l.take j := by
      rw [List.filter_eq_self]
      intro a ha
      obtain ⟨i, hi, rfl⟩ := List.mem_take_iff_getElem.1 ha
      have := h2 i (by omega)
      simpa using this
     rw [e1]
     simp [h1]
 · have h' : l.any q = false := by simpa using h
   refine .inl ⟨firstI_miss h', ?_⟩
   rw [List.filter_eq_self]
   intro a ha
   have := List.any_eq_false.1 h' a ha
   simpa using this
def OtherPost (P : Nat) (v : Value) (x : ByteArray) (ts : List SideD) (w : World) (e : Ending) (w' : World) : Prop :=
 ∃ p cap, e = .returned (.slice p (otherL x ts).length cap) ∧ SideRw w' P (.slice p (otherL x ts).length cap) (otherL x ts) ∧ w.grownBy w' v.ownBlock
set_option maxRecDepth 100000 in
set_option maxHeartbeats 2000000 in
theorem deleteSide_any (P Px : Nat) (x : ByteArray) (p : Option Addr) (n cap : Nat) (ts : List SideD) (w : World) (hl : ts.length ≤ 1000) (hg : ∀ s ∈ ts, goodSide s) (hx : w.cell? ⟨Px, 0, none⟩ = some (.string x)) (hPx : Px < P) (h : SideRw w P (.slice p n cap) ts) :
  Calls Tryz.prog 116 #[.slice p n cap, .func (.func 117) #[] #[.pointer (some ⟨Px, 0, none⟩)]] w (OtherPost P (.slice p n cap) x ts w) := by
 obtain ⟨p0, c, hv⟩ := own_form h
 cases hv
 have hS := sides_of_owns h (by omega) hg
 have H := uH h
 have HX := uH hx
 have HI := uH (indexOthers_any _ ts x Px w hS hx)
 rcases firstI_cases (sameName x) ts with ⟨hk, hf⟩ | ⟨i0, hk, hlt0, hf⟩
 · have HF : Hid (otherL x ts = ts) := hf
   rw [hk] at HI
   clear h hx hS hf hk
   go_enter Tryz.func116, Tryz.ntmps116
   go_wp2_with (first | (go_at_call 115; go_must (refine HI.out.mono ?_; rintro e w1 ⟨rfl, hg1⟩; have HG1 := uH hg1; clear hg1)))
   go_ret
   refine ⟨p, cap, by rw [HF.out]; rfl, by rw [HF.out]; exact H.out.kept HG1.out, grownBy_any _ HG1.out⟩
 · have HF : Hid ((ts.take (i0 + 1)).filter (fun s => !(sameName x s)) = ts.take i0) := hf
   rw [hk] at HI
   obtain ⟨g, rfl, _⟩ := h.cells (List.getElem?_eq_getElem hlt0)
   obtain ⟨f1, f2, f3, f4, _⟩ := own_free h
   clear h hx hS hf hk
   go_enter Tryz.func116, Tryz.ntmps116
   have hi0 : ((i0 : Int) == -1) = false := by rw [Bool.eq_false_iff]; intro e; simp at e
   go_wp2_with (first | (go_at_call 115; go_must (refine HI.out.mono ?_; rintro e w1 ⟨rfl, hg1⟩; have HR1 := uH (H.out.kept hg1); have HG1 : Hid (w.grownBy w1 (some g)) := grownBy_any _ hg1; clear hg1)))
   go_loopw [5, 6] (fun i j wr => ∃ (ki kj : Nat) (us : List SideD), ki < kj ∧ kj ≤ ts.length ∧ i = .int .i64 ki ∧ j = .int .i64 kj ∧ Hid (us.length = ts.length) ∧ Hid (SideRw wr P (.slice (some ⟨g, 0, none⟩) ts.length cap) us) ∧ Hid (us.take ki = otherL x (ts.take kj)) ∧ Hid (us.drop kj = ts.drop kj) ∧ Hid (w.grownBy wr (some g))) (fun _ j _ => ts.length - (intOf j).toNat)
   case atStart => exact ⟨i0, i0 + 1, ts, by omega, by omega, rfl, by go_num, rfl, HR1.out, HF.out.symm, rfl, HG1.out⟩
   case round =>
    obtain ⟨ki, kj, us, hij, hj, rfl, rfl, HUl, HR, HT, HD, HG⟩ := hrel
    by_cases hlt : kj < ts.length
    · have hju : kj < us.length := by rw [HUl.out]; exact hlt
      have hiu : ki < us.length := by omega
      obtain ⟨g', hg', c0, c1, c2⟩ := HR.out.cells (List.getElem?_eq_getElem hju)
      obtain ⟨g2, hg2, d0, d1, d2⟩ := HR.out.cells (List.getElem?_eq_getElem hiu)
      simp only [Option.some.injEq, Addr.mk.injEq, and_true] at hg' hg2
      subst hg' hg2
      have z4 := HR.out.free.2.2.2.2
      have HSt : Hid (otherL x (ts.take (kj + 1)) = otherL x (ts.take kj) ++ (if sameName x us[kj] then [] else [us[kj]])) := by
       have e : ts[kj] = us[kj] := by
        have h1 : (us.drop kj)[0]? = (ts.drop kj)[0]? := by rw [HD.out]
        rw [List.getElem?_drop, List.getElem?_drop, Nat.add_zero, List.getElem?_eq_getElem hju, List.getElem?_eq_getElem hlt] at h1
        exact (Option.some.inj h1).symm
       show _ = _
       unfold otherL
       rw [List.take_succ_eq_append_getElem hlt, List.filter_append, e]
       cases hs : sameName x us[kj] <;> simp [hs]
      have HD1 : Hid (us.drop (kj + 1) = ts.drop (kj + 1)) := by
       show _ = _
       rw [← List.drop_drop, ← List.drop_drop, HD.out]
      have HX1 := uH (show us[kj] = ((us[kj]).1, (us[kj]).2.1, (us[kj]).2.2) from rfl)
      have hcx := HG.out.cell HX.out (by simp; omega)
      rw [HX1.out] at HSt
      generalize hn : (us[kj]).1 = nm at *
      generalize hlo : (us[kj]).2.1 = lo at *
      generalize hhi : (us[kj]).2.2 = hi' at *
      generalize (us[ki]).1 = nm2 at *
      generalize (us[ki]).2.1 = lo2 at *
      generalize (us[ki]).2.2 = hi2 at *
      have HC := uH (others1_any nm x lo hi' Px (wr.alloc (.cells #[.string nm, .int .i64 lo, .int .i64 hi'] 63)) ((gA wr _ none).cell hcx (by simp)))
      have HIu := uH hiu
      clear HX1 hn hlo hhi hcx
      clear hju hiu
      cases he : (nm.toList == x.toList)
      · rw [he] at HC
        go_wp2_with (first | (go_at_call 117; go_must (refine HC.out.mono ?_; rintro e w2 ⟨rfl, hg2⟩; have G2 := uH (gT (gA wr (.cells #[.string nm, .int .i64 lo, .int .i64 hi'] 63) none) hg2); have b0 := hg2.cell (a := ⟨wr.heap.size, 0, none⟩) (v := .string nm) (by simp) (by simp); have b1 := hg2.cell (a := ⟨wr.heap.size, 1, none⟩) (v := .int .i64 lo) (by simp) (by simp); have b2 := hg2.cell (a := ⟨wr.heap.size, 2, none⟩) (v := .int .i64 hi') (by simp) (by simp); have e0 := G2.out.cell d0 (by simp); have e1 := G2.out.cell d1 (by simp); have e2 := G2.out.cell d2 (by simp); have ef := (HR.out.kept G2.out).free.2.2.2.2; clear hg2)))
        have hiu := HIu.out
        go_roundw
        case rel =>
         refine ⟨ki + 1, kj + 1, us.set ki (nm, lo, hi'), by omega, by omega, by go_num, by go_num, ?_, ?_, ?_, ?_, ?_⟩
         · show _ = _
           rw [List.length_set]
           exact HUl.out
         · exact (HR.out.kept G2.out).stored hiu (nm, lo, hi')
         · show _ = _
           have hs := HSt.out
           rw [show sameName x (nm, lo, hi') = (nm.toList == x.toList) from rfl, he] at hs
           rw [hs, List.take_succ_eq_append_getElem (by rw [List.length_set]; exact hiu), List.take_set_of_le (Nat.le_refl _), HT.out]
           simp
         · show _ = _
           rw [List.drop_set_of_lt (by omega)]
           exact HD1.out
         · exact gT HG.out (gT (grownBy_any _ G2.out) (gT (gS _ _ _ _) (gT (gS _ _ _ _) (gS _ _ _ _))))
        case measure => simp [intOf]; omega
      · rw [he] at HC
        go_wp2_with (first | (go_at_call 117; go_must (refine HC.out.mono ?_; rintro e w2 ⟨rfl, hg2⟩; have G2 := uH (gT (gA wr (.cells #[.string nm, .int .i64 lo, .int .i64 hi'] 63) none) hg2); have b0 := hg2.cell (a := ⟨wr.heap.size, 0, none⟩) (v := .string nm) (by simp) (by simp); have b1 := hg2.cell (a := ⟨wr.heap.size, 1, none⟩) (v := .int .i64 lo) (by simp) (by simp); have b2 := hg2.cell (a := ⟨wr.heap.size, 2, none⟩) (v := .int .i64 hi') (by simp) (by simp); have e0 := G2.out.cell d0 (by simp); have e1 := G2.out.cell d1 (by simp); have e2 := G2.out.cell d2 (by simp); have ef := (HR.out.kept G2.out).free.2.2.2.2; clear hg2)))
        go_roundw
        case rel => exact ⟨ki, kj + 1, us, by omega, by omega, by go_num, by go_num, HUl.out, HR.out.kept G2.out, by
         show _ = _
         have hs := HSt.out
         rw [show sameName x (nm, lo, hi') = (nm.toList == x.toList) from rfl, he] at hs
         rw [hs, HT.out]
         simp, HD1.out, gT HG.out (grownBy_any _ G2.out)⟩
        case measure => simp [intOf]; omega
    · obtain rfl : kj = ts.length := by omega
      obtain ⟨cur, z1, z2⟩ := HR.out.block
      have hi1 : (ki : Int) ≤ (ts.length : Int) := by omega
      have hi2 : (0 : Int) ≤ (ki : Int) := by omega
      have hi3 : (ki : Int) ≤ (cap : Int) := by omega
      obtain ⟨w2, hrun, hcp⟩ := run_clear_row (P := Tryz.prog) wr 26 63 0 (.agg #[.string ByteArray.empty, .int .i64 0, .int .i64 0]) 3 Tryz.underlying26 Tryz.zeroSide rfl (by decide) g (ki * 3) (ts.length - ki) (cap - ki) cur 63 z1 (by omega)
      have HC := uH hcp
      clear hcp
      go_wp2
      go_ret
      have hul := HUl.out
      have ht := HT.out
      rw [List.take_length] at ht
      have hln : (otherL x ts).length = ki := by rw [← ht, List.length_take]; omega
      refine ⟨some ⟨g, 0, none⟩, cap, by rw [hln]; rfl, ?_, ?_⟩
      · rw [hln, ← ht]
        exact HR.out.cut (by omega) z1 HC.out
      · obtain ⟨_, _, _, _, hgg⟩ := HC.out
        exact gT HG.out hgg
end Go.Proofs.YtgeklmigfhhpfaaGreatDoor
namespace Go.Proofs.YtgeklmigfhhpfaaGreatDoor
open Go.RowKit
attribute [local go_sem ↓] Go.wp_at_zero Go.wp_at_succ
def OthersOut (x : ByteArray) (l : List SideD) (w : World) (e : Ending) (w' : World) : Prop :=
 ∃ p cap, e = .returned (.slice p (otherL x l).length cap) ∧ SideRw w' w.heap.size (.slice p (otherL x l).length cap) (otherL x l) ∧ w.grownBy w' none
set_option maxRecDepth 100000 in
set_option maxHeartbeats 1000000 in
theorem others_any (x : ByteArray) (l : List SideD) (sv cv : Value) (w : World) (hs : SidesAt w sv l) (hl : l.length ≤ 1000) (hg : ∀ s ∈ l, goodSide s) :
  Calls Tryz.prog 73 #[.agg #[sv, cv], .string x] w (OthersOut x l w) := by
 obtain ⟨ps, scap, rfl, _, _⟩ := id hs
 have HS := uH hs
 have HGd := uH hg
 clear hs hg
 go_enter Tryz.func73, Tryz.ntmps73
 go_upto_region 1 with fail
 have HG1 := uH (gT (gA w (.cells #[.slice ps l.length scap, cv] 29) none) (gA _ (.cells #[.string x] 9) none))
 have hc0 : ((w.alloc (.cells #[.slice ps l.length scap, cv] 29)).alloc (.cells #[.string x] 9)).cell? ⟨w.heap.size, 0, none⟩ = some (.slice ps l.length scap) := (gA _ _ none).cell (by simp) (by simp)
 have hx0 : ((w.alloc (.cells #[.slice ps l.length scap, cv] 29)).alloc (.cells #[.string x] 9)).cell? ⟨w.heap.size + 1, 0, none⟩ = some (.string x) := by simp
 have hsz : ((w.alloc (.cells #[.slice ps l.length scap, cv] 29)).alloc (.cells #[.string x] 9)).heap.size = w.heap.size + 2 := by simp
 generalize (w.alloc (.cells #[.slice ps l.length scap, cv] 29)).alloc (.cells #[.string x] 9) = W1 at *
 have HX := uH hx0
 have HZ := uH hsz
 clear hx0 hsz
 go_wp2_with (first
  | (go_at_call 69; go_must (refine (cloneSides_any _ l _ (HS.out.kept HG1.out) hl).mono ?_; rintro e w2 ⟨p2, cap2, rfl, hrow2, hg2⟩; have HR2 := uH hrow2; have HG2 := uH hg2; clear hrow2 hg2))
  | (go_at_call 116; go_must (refine (deleteSide_any W1.heap.size (w.heap.size + 1) x p2 l.length cap2 l _ hl HGd.out (HG2.out.cell HX.out (by simp)) (by rw [HZ.out]; omega) HR2.out).mono ?_; rintro e w3 ⟨p3, cap3, rfl, hrow3, hg3⟩; have HR3 := uH hrow3; have HG3 := uH hg3; clear hrow3 hg3)))
 go_ret
 refine ⟨p3, cap3, rfl, owns_lower HR3.out (by rw [HZ.out]; omega), ?_⟩
 exact gT HG1.out (gO HG2.out HG3.out (fun k hk => (HR2.out.lt k hk).1))
end Go.Proofs.YtgeklmigfhhpfaaGreatDoor
namespace Go.Proofs.YtgeklmigfhhpfaaGreatDoor
open Go Go.RowKit
theorem other_erase : ∀ {l : List SideD} {q : Nat} {s : SideD}, Apart l → l[q]? = some s → otherL s.1 l = l.eraseIdx q
 | [], q, s, _, h => by simp at h
 | a :: r, 0, s, ha, h => by
   obtain rfl : a = s := by simpa using h
   have h1 : sameName a.1 a = true := sameName_iff.2 rfl
   have h2 : r.filter (fun s => !(sameName a.1 s)) = r := List.filter_eq_self.2 fun b hb => by
    have hne := (List.pairwise_cons.1 ha).1 b hb
    have : sameName a.1 b = false := by
     rw [Bool.eq_false_iff]
     exact fun e => hne (sameName_iff.1 e).symm
    simp [this]
   unfold otherL
   rw [List.filter_cons, h1]
   simpa using h2
 | a :: r, q + 1, s, ha, h => by
   have hs : s ∈ r := List.mem_of_getElem? (by simpa using h)
   have hne := (List.pairwise_cons.1 ha).1 s hs
   have h1 : sameName s.1 a = false := by
    rw [Bool.eq_false_iff]
    exact fun e => hne (sameName_iff.1 e)
   have ih := other_erase (q := q) (List.pairwise_cons.1 ha).2 (by simpa using h)
   unfold otherL at *
   rw [List.filter_cons, h1, List.eraseIdx_cons_succ, ← ih]
   rfl
theorem name_one {x : ByteArray} (h : nameB x = true) {c z : Int} (hc : -1000000 ≤ c ∧ c ≤ 1000000) (hz : coefBad z = false) : formErr c [(x, z)] = 0 := by
 have h0 := varErr x
 rw [h] at h0
 have h1 : formErr 0 [(x, 1)] = 0 := by simpa using h0
 have hb : inB c (-1000000) 1000000 = true := by simp [inB]; omega
 have hb0 : inB 0 (-1000000) 1000000 = true := by decide
 have hc1 : coefBad 1 = false := by decide
 simp only [formErr, hb0, if_true, List.length_singleton, termsErr, h, hc1] at h1
 simp only [formErr, hb, if_true, List.length_singleton, termsErr, h, hz]
 exact h1
theorem allC_right {S : List SideD × List CondD} {s : SideD} (h : setErr S = 0) (hs : s ∈ S.1) (hx : nameB s.1 = true) : ∀ f ∈ sideC s ++ S.2, formErr f.1 f.2 = 0 := by
 intro f hf
 obtain ⟨b1, b2⟩ := (set_sides h).2.2.2 s hs
 rcases List.mem_append.1 hf with hf | hf
 · simp only [sideC, List.mem_cons, List.not_mem_nil, or_false] at hf
   rcases hf with rfl | rfl
   · exact name_one hx (by omega) (by decide)
   · exact name_one hx (by omega) (by decide)
 · exact (conds_good (set_good h).2.2.2 f hf).1
theorem allC_len {S : List SideD × List CondD} {s : SideD} (h : setErr S = 0) : (sideC s ++ S.2).length ≤ 62 := by
 have := (set_good h).2.2.1
 simp [sideC]
 omega
theorem right_ok {f : CondD} (h : formErr f.1 f.2 = 0) : OkForm f := by
 obtain ⟨h1, h2, h3, _⟩ := form_good h
 have hf := form_formX h
 refine ⟨hf.ups, by omega, by omega, fun t ht => ?_⟩
 obtain ⟨n1, n2⟩ := h3 t ht
 have hsz : t.1.size ≤ 40 := by
  unfold nameB at n1
  simp only [Bool.and_eq_true, decide_eq_true_eq] at n1
  omega
 exact ⟨name_plain n1, ((hf.mem t.1 t.2).1 ht).2.1, by omega, by omega⟩
theorem nodup_len {α : Type} [DecidableEq α] : ∀ {l L : List α}, l.Nodup → (∀ a ∈ l, a ∈ L) → l.length ≤ L.length
 | [], _, _, _ => Nat.zero_le _
 | a :: r, L, hn, hs => by
   obtain ⟨h1, h2⟩ := List.nodup_cons.1 hn
   have ha := hs a List.mem_cons_self
   have ih := nodup_len (L := L.erase a) h2 (fun b hb => (List.mem_erase_of_ne (fun e => h1 (by rw [← e]; exact hb))).2 (hs b (List.mem_cons_of_mem _ hb)))
   rw [List.length_erase_of_mem ha] at ih
   have := List.length_pos_of_mem ha
   rw [List.length_cons]
   omega
theorem coefX_right {f : CondD} (h : formErr f.1 f.2 = 0) (n : ByteArray) : -1000 ≤ coefX f.2 n ∧ coefX f.2 n ≤ 1000 := by
 by_cases e : coefX f.2 n = 0
 · omega
 · exact ((form_good h).2.2.1 _ (coefX_hit e)).2
theorem two_ok {X : ByteArray → Int} {c : Int} {f g h : CondD} (hf : formErr f.1 f.2 = 0) (hg : formErr g.1 g.2 = 0) (hh : FormX X c h) (hc : c.natAbs ≤ 1000000000000)
  (hX : ∀ n, n ≠ ByteArray.empty → (X n).natAbs ≤ 1000000000 ∧ (X n ≠ 0 → coefX f.2 n ≠ 0 ∨ coefX g.2 n ≠ 0)) : OkForm h := by
 have hfr := right_ok hf
 have hgr := right_ok hg
 have hin : ∀ t ∈ h.2, ∃ u, (u ∈ f.2 ∨ u ∈ g.2) ∧ u.1 = t.1 := fun t ht => by
  obtain ⟨h1, h2, h3⟩ := (hh.mem t.1 t.2).1 ht
  rcases (hX t.1 h1).2 (by rw [h3]; exact h2) with e | e
  · exact ⟨_, .inl (coefX_hit e), rfl⟩
  · exact ⟨_, .inr (coefX_hit e), rfl⟩
 refine ⟨hh.ups, ?_, by rw [hh.num]; exact hc, fun t ht => ?_⟩
 · have hnd : (h.2.map Prod.fst).Nodup := List.pairwise_map.2 ((ups_apart hh.ups).imp fun hab => hab)
   have hl := nodup_len (L := f.2.map Prod.fst ++ g.2.map Prod.fst) hnd (fun a ha => by
    obtain ⟨t, ht, rfl⟩ := List.mem_map.1 ha
    obtain ⟨u, hu, e⟩ := hin t ht
    rw [← e]
    rcases hu with hu | hu
    · exact List.mem_append_left _ (List.mem_map_of_mem hu)
    · exact List.mem_append_right _ (List.mem_map_of_mem hu))
   have l1 := (form_good hf).2.1
   have l2 := (form_good hg).2.1
   simp at hl
   omega
 · obtain ⟨h1, h2, h3⟩ := (hh.mem t.1 t.2).1 ht
   have hb := (hX t.1 h1).1
   obtain ⟨u, hu, e⟩ := hin t ht
   have hu' : plainN u.1 ∧ u.1.size ≤ 100 := by
    rcases hu with hu | hu
    · exact ⟨(hfr.term u hu).1, (hfr.term u hu).2.2.1⟩
    · exact ⟨(hgr.term u hu).1, (hgr.term u hu).2.2.1⟩
   rw [e] at hu'
   exact ⟨hu'.1, h2, hu'.2, by omega⟩
theorem comb_ok {x : ByteArray} {f g h : CondD} (hf : formErr f.1 f.2 = 0) (hg : formErr g.1 g.2 = 0) (hc : CombF x (f, g) h) : OkForm h := by
 have a1 := coefX_right hf x
 have a2 := coefX_right hg x
 have c1 := (form_good hf).1
 have c2 := (form_good hg).1
 refine two_ok hf hg hc ?_ (fun n hn => ⟨?_, fun hne => ?_⟩)
 · have := mul_two (a := -(coefX g.2 x)) (b := coefX f.2 x) (x := f.1) (y := g.1) (A := 1000) (X := 1000000) (by omega) (by omega) (by omega) (by omega)
   simp only at this ⊢
   omega
 · have b1 := coefX_right hf n
   have b2 := coefX_right hg n
   have := mul_two (a := -(coefX g.2 x)) (b := coefX f.2 x) (x := coefX f.2 n) (y := coefX g.2 n) (A := 1000) (X := 1000) (by omega) (by omega) (by omega) (by omega)
   simp only at this ⊢
   omega
 · by_cases e : coefX f.2 n = 0
   · refine .inr fun e2 => hne ?_
     simp [e, e2]
   · exact .inl e
theorem put_ok {x : ByteArray} {f g h : CondD} (hf : formErr f.1 f.2 = 0) (hg : formErr g.1 g.2 = 0) (hc : PutF x g f h) : OkForm h := by
 have a1 := coefX_right hf x
 have c1 := (form_good hf).1
 have c2 := (form_good hg).1
 refine two_ok hf hg hc ?_ (fun n hn => ⟨?_, fun hne => ?_⟩)
 · have := mul_abs (a := coefX f.2 x) (x := g.1) (A := 1000) (X := 1000000) (by omega) (by omega)
   omega
 · have b1 := coefX_right hf n
   have b2 := coefX_right hg n
   have := mul_abs (a := coefX f.2 x) (x := coefX g.2 n) (A := 1000) (X := 1000) (by omega) (by omega)
   split <;> omega
 · by_cases e : coefX f.2 n = 0
   · refine .inr fun e2 => hne ?_
     simp [e, e2]
   · exact .inl e
theorem Twin.right {α β : Type} {R : α → β → Prop} {l : List α} {m : List β} (h : Twin R l m) : ∀ b ∈ m, ∃ a ∈ l, R a b := by
 induction h with
 | nil => intro b hb; cases hb
 | cons r _ ih =>
   intro b hb
   rcases List.mem_cons.1 hb with rfl | hb
   · exact ⟨_, List.mem_cons_self, r⟩
   · obtain ⟨a, ha, hr⟩ := ih b hb
     exact ⟨a, List.mem_cons_of_mem _ ha, hr⟩
theorem elim_ok {x : ByteArray} {all C : List CondD} (hr : ∀ f ∈ all, formErr f.1 f.2 = 0) (hl : all.length ≤ 62) (he : ElimF x all C) : (∀ f ∈ C, OkForm f) ∧ C.length ≤ 5000 := by
 obtain ⟨hs, rfl, ht⟩ := he
 constructor
 · intro h hh
   rcases List.mem_append.1 hh with hh | hh
   · exact right_ok (hr h (List.mem_filter.1 hh).1)
   · obtain ⟨⟨f, g⟩, hp, hc⟩ := ht.right h hh
     obtain ⟨f', hf', hm⟩ := List.mem_flatMap.1 hp
     obtain ⟨g', hg', e⟩ := List.mem_map.1 hm
     cases e
     exact comb_ok (hr _ (List.mem_filter.1 hf').1) (hr _ (List.mem_filter.1 hg').1) hc
 · have h1 : (all.filter fun f => decide (coefX f.2 x = 0)).length ≤ all.length := List.length_filter_le _ _
   have h2 : (all.filter fun f => decide (0 < coefX f.2 x)).length ≤ all.length := List.length_filter_le _ _
   have h3 : (all.filter fun f => decide (coefX f.2 x < 0)).length ≤ all.length := List.length_filter_le _ _
   have h4 := ht.length
   have h5 : (pairsFG (all.filter fun f => decide (0 < coefX f.2 x)) (all.filter fun f => decide (coefX f.2 x < 0))).length ≤ (all.filter fun f => decide (0 < coefX f.2 x)).length * 62 := flat_le fun a _ => by simp; omega
   rw [List.length_append, ← h4]
   omega
theorem polyX_right {f : CondD} (h : formErr f.1 f.2 = 0) (n : ByteArray) : -1000000 ≤ polyX f.1 f.2 n ∧ polyX f.1 f.2 n ≤ 1000000 := by
 unfold polyX
 split
 · exact (form_good h).1
 · have := coefX_right h n
   omega
end Go.Proofs.YtgeklmigfhhpfaaGreatDoor
namespace Go.Proofs.YtgeklmigfhhpfaaGreatDoor
open Go Go.RowKit
theorem CW.over {w w' : World} {P X : Nat} {kv : Value} {fs : List CondD} {tvs : List Value} (h : CW w P kv fs tvs) (hX : SlBox w X) (hlt : X < P) (hXs : X < w.heap.size) (hg : w.grownBy w' (some X)) : CW w' P kv fs tvs := by
 refine ⟨h.len, owns_under h.row hg (fun k hk => by cases hk; exact hlt), fun j f tv h1 h2 => ⟨(h.terms j f tv h1 h2).1, fun w3 h3 => ?_⟩⟩
 have hob : ∀ k, kv.ownBlock = some k → P ≤ k := fun k hk => (World.ownsRow.lt h.row k hk).1
 obtain ⟨o, ho⟩ : ∃ o, w.heap[X]? = some o := ⟨_, Array.getElem?_eq_getElem hXs⟩
 have hX3 : X < w3.heap.size := Nat.lt_of_lt_of_le hXs (Nat.le_trans hg.size h3.size)
 have hgr : w.grownBy { w3 with heap := w3.heap.setIfInBounds X o } kv.ownBlock := by
  refine ⟨h3.os.trans hg.os, h3.tape.trans hg.tape, h3.output.trans hg.output, ?_, fun i hi hne => ?_⟩
  · show w.heap.size ≤ (w3.heap.setIfInBounds X o).size
    rw [Array.size_setIfInBounds]
    exact Nat.le_trans hg.size h3.size
  · show (w3.heap.setIfInBounds X o)[i]? = _
    by_cases e : X = i
    · subst e
      rw [Array.getElem?_setIfInBounds_self_of_lt hX3, ho]
    · rw [Array.getElem?_setIfInBounds_ne e, h3.block i (Nat.lt_of_lt_of_le hi hg.size) hne]
      exact hg.block i hi (fun e2 => e (Option.some.inj e2).symm)
 have ht := (h.terms j f tv h1 h2).2 _ hgr
 refine ht.over (X := X) (fun k v hv => ?_) ?_
 · refine hX k v ?_
   rw [← hv]
   refine (World.cell?_of_block ?_).symm
   show (w3.heap.setIfInBounds X o)[X]? = w.heap[X]?
   rw [Array.getElem?_setIfInBounds_self_of_lt hX3, ho]
 · refine ⟨rfl, rfl, rfl, ?_, fun i hi hne => ?_⟩
   · show (w3.heap.setIfInBounds X o).size ≤ w3.heap.size
     rw [Array.size_setIfInBounds]
     exact Nat.le_refl _
   · show w3.heap[i]? = (w3.heap.setIfInBounds X o)[i]?
     rw [Array.getElem?_setIfInBounds_ne (fun e => hne (by rw [e]))]
structure OcSt (X P : Nat) (w7 wr : World) (sv2 pv : Value) (fs : List CondD) (tvs : List Value) : Prop where
 grown : w7.grownBy wr (some X)
 lt : X < P
 le : w7.heap.size ≤ P
 slice : ∃ p n c, sv2 = .slice p n c
 box : wr.heap[X]? = some (.cells #[sv2, pv] 29 (0, 0))
 conds : CW wr P pv fs tvs
theorem OcSt.start {X P : Nat} {w7 : World} {p : Option Addr} {n c : Nat} (hlt : X < P) (hP : w7.heap.size ≤ P) (hb : w7.heap[X]? = some (.cells #[.slice p n c, .slice none 0 0] 29 (0, 0))) : OcSt X P w7 w7 (.slice p n c) (.slice none 0 0) [] [] :=
 ⟨grownBy_any _ (gR _ _), hlt, hP, ⟨p, n, c, rfl⟩, hb, CW.start _ _⟩
theorem OcSt.kept {X P : Nat} {w7 wr w' : World} {sv2 pv : Value} {fs : List CondD} {tvs : List Value} (h : OcSt X P w7 wr sv2 pv fs tvs) (hg : wr.grownBy w' none) : OcSt X P w7 w' sv2 pv fs tvs :=
 ⟨gT h.grown (grownBy_any _ hg), h.lt, h.le, h.slice, kH h.box hg (by simp), h.conds.kept hg⟩
theorem OcSt.old {X P : Nat} {w7 wr w1 w2 : World} {sv2 pv : Value} {fs : List CondD} {tvs : List Value} (h : OcSt X P w7 wr sv2 pv fs tvs) (h1 : wr.grownBy w1 none) (h2 : w1.grownBy w2 pv.ownBlock) : w7.grownBy w2 (some X) := by
 have hP := h.le
 have hob : ∀ k, pv.ownBlock = some k → P ≤ k := fun k hk => (World.ownsRow.lt h.conds.row k hk).1
 exact World.grownBy.andThen (gT h.grown (grownBy_any _ h1)) h2 (fun j hj => .inl (by have := hob j hj; omega))
theorem OcSt.push {X P : Nat} {w7 wr w1 w2 : World} {sv2 pv tv : Value} {fs : List CondD} {tvs : List Value} {f : CondD} {o : Obj} {g cap : Nat} (h : OcSt X P w7 wr sv2 pv fs tvs) (k1 : wr.grownBy w1 none)
  (hf : -9223372036854775808 ≤ f.1 ∧ f.1 ≤ 9223372036854775807) (ht : ∀ w2, w1.grownBy w2 pv.ownBlock → TermsAt w2 tv f.2) (k2 : (w1.alloc o).grownBy w2 pv.ownBlock)
  (row : w2.ownsRow P 35 2 (.slice (some ⟨g, 0, none⟩) (fs.length + 1) cap) (fs.length + 1) ((fs.zip tvs).flatMap condCells ++ condCells (f, tv))) (hg : pv.ownBlock = some g ∨ w1.heap.size ≤ g) :
  OcSt X P w7 (w2.setCell ⟨X, 1, none⟩ (.slice (some ⟨g, 0, none⟩) (fs.length + 1) cap)) sv2 (.slice (some ⟨g, 0, none⟩) (fs.length + 1) cap) (fs ++ [f]) (tvs ++ [tv]) := by
 have hob : ∀ k, pv.ownBlock = some k → P ≤ k := fun k hk => (World.ownsRow.lt h.conds.row k hk).1
 have hp := CW.push h.conds k1 hf ht k2 row hg
 have hlt := h.lt
 have k12 : wr.grownBy w2 pv.ownBlock := gT (grownBy_any _ k1) (gT (gA w1 o pv.ownBlock) k2)
 have hb2 := kH h.box k12 (fun e => by have := hob _ e; omega)
 have g2 := gS w2 X 1 (.slice (some ⟨g, 0, none⟩) (fs.length + 1) cap)
 obtain ⟨p, n, c, rfl⟩ := h.slice
 obtain ⟨q, d, rfl⟩ := own_form h.conds.row
 have hX2 : X < w2.heap.size := (Array.getElem?_eq_some_iff.1 hb2).1
 refine ⟨?_, hlt, h.le, ⟨p, n, c, rfl⟩, ?_, hp.over (slBox_two hb2) hlt hX2 g2⟩
 · have hle := h.le
   exact World.grownBy.andThen (World.grownBy.andThen h.grown k12 (fun j hj => .inl (by have := hob j hj; omega))) g2 (fun j hj => .inr hj)
 · show (w2.heap.modify X _)[X]? = _
   rw [Array.getElem?_modify, if_pos rfl, hb2]
   simp
end Go.Proofs.YtgeklmigfhhpfaaGreatDoor
namespace Go.Proofs.YtgeklmigfhhpfaaGreatDoor
open Go.RowKit Go.Maps Go.WideMaps Go.Shelf
attribute [local go_sem ↓] Go.wp_at_zero Go.wp_at_succ
def putX (X Y : ByteArray → Int) (x : ByteArray) (m : ByteArray) : Int := (if m = x then 0 else X m) + X x * Y m
set_option maxRecDepth 100000 in
set_option maxHeartbeats 2000000 in
theorem put_any (X Y : ByteArray → Int) (x : ByteArray) (Dp Dq : Table) (Bp np Bq nq : Nat) (w : World) (hP : MapAt w Bp np Dp) (hQ : MapAt w Bq nq Dq) (hX : TabIs Dp X) (hY : TabIs Dq Y) (hn : np + nq ≤ 900) (hx : x.size ≤ maxLen)
  (hb : ∀ n, (-1000000000000000 ≤ X n ∧ X n ≤ 1000000000000000) ∧ (-1000000000000000 ≤ X x * Y n ∧ X x * Y n ≤ 1000000000000000)) :
  Calls Tryz.prog 77 #[.map (some Bp), .string x, .map (some Bq)] w (TabNew (putX X Y x) (np + nq) w) := by
 have hlq := World.ownsMap.lt hQ
 have HP := uH hP
 have HQ := uH hQ
 have HX := uH hX
 have HY := uH hY
 have HB := uH hb
 have hlk := tab_look hP hX hx
 have hkey := key_str hx
 clear hP hQ hX hY hb
 go_enter Tryz.func77, Tryz.ntmps77
 go_wp2_with (first
  | (go_at_call 119; go_must (refine (clonePoly_any np Bp Dp _ HP.out).mono ?_; rintro e w1 ⟨rfl, hm1, hg1⟩; have hs1 := World.ownsMap.lt hm1; have HQ1 : Hid (MapAt w1 Bq nq Dq) := World.ownsMap.kept HQ.out hg1 (by simp); have HG1 := uH hg1; obtain ⟨w2, hdel, hm2, ht2⟩ := World.ownsMap.drop hm1 Tryz.lawStr Tryz.underlying110 hkey 0; have HM2 := uH hm2; have hg2 := World.mapTurned.grown ht2; have HG2 := uH hg2; have HQ2 : Hid (MapAt w2 Bq nq Dq) := World.ownsMap.kept HQ1.out hg2 (by simp; omega); clear hm1 hg1 hm2 hg2 ht2 hlk))
  | (go_at_call 76; go_must (refine (plus_any (X x) (fun m => if m = x then 0 else X m) Y (Dp.del (strL x)) Dq w.heap.size np Bq nq _ HM2.out HQ2.out (HX.out.del x) HY.out hn (fun n => ⟨by by_cases e : n = x; (simp [e]); (simp only [if_neg e]; exact (HB.out n).1), (HB.out n).2⟩)).mono ?_; rintro e w3 ⟨D, B, rfl, hB, hm3, ht3, hg3⟩; have HM3 := uH hm3; have HT3 := uH ht3; have HG3 := uH hg3; have HBl := uH hB; clear hm3 ht3 hg3 hB)))
 go_ret
 have hg := gO HG1.out HG2.out (fun i hi => by cases hi; exact Nat.le_refl _)
 exact ⟨D, B, rfl, Nat.le_trans hg.size HBl.out, HM3.out, HT3.out, gT hg HG3.out⟩
end Go.Proofs.YtgeklmigfhhpfaaGreatDoor
