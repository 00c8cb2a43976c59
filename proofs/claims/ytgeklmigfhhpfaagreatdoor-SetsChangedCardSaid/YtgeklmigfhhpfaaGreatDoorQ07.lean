/-
 CheckSet. Lists that are compared. Values: numbers that a stream draws. The parts of a set while it is drawn: rows of sides, of conditions, of terms.
-/
import Derived.Deep.RegionHeld3
import Derived.Test.YtgeklmigfhhpfaaGreatDoorQ05
import Derived.Test.YtgeklmigfhhpfaaGreatDoorQ06
namespace Go.Proofs.YtgeklmigfhhpfaaGreatDoor
open Go.RowKit
theorem sides_take {w : World} {p : Option Addr} {cap : Nat} {l : List SideD} (k : Nat) (hk : k ≤ l.length) (hl : l.length ≤ 1000000) (hlc : l.length ≤ cap) (h : ∀ j s, l[j]? = some s → SideAt w p s j) : SidesAt w (.slice p k cap) (l.take k) := by
 have e : (l.take k).length = k := by simp; omega
 refine ⟨p, cap, by rw [e], ⟨by omega, by omega⟩, fun j s hj => ?_⟩
 have hjk : j < k := by
  have := (List.getElem?_eq_some_iff.1 hj).1
  omega
 rw [List.getElem?_take_of_lt hjk] at hj
 exact h j s hj
set_option maxRecDepth 100000 in
set_option maxHeartbeats 4000000 in
theorem checkSet_any (S : List SideD × List CondD) (sv cv : Value) (w : World) (hS : SetAt w sv cv S) :
  Calls Tryz.prog 95 #[.agg #[sv, cv]] w (Gives (.int .i64 (setErr S)) w) := by
 obtain ⟨sides, conds⟩ := S
 obtain ⟨⟨p, cap, hsv, ⟨hl, hlc⟩, hc⟩, ⟨pc, ccap, hcv, hcl, hcc⟩⟩ := hS
 simp only at hsv hl hc hcv hcl hcc
 subst hsv hcv
 have H := uH hc
 have HCC := uH hcc
 clear hc hcc
 by_cases hlen8 : 8 < sides.length
 · go_enter Tryz.func95, Tryz.ntmps95
   go_wp2
   go_ret
   exact ⟨ret_i64 (by simp [setErr, hlen8]), gA _ _ _⟩
 go_enter Tryz.func95, Tryz.ntmps95
 go_wp2
 go_loopw [15] (fun i wr => ∃ k : Nat, k ≤ sides.length ∧ i = .int .i64 k ∧ Hid (sidesErr (namesOf (sides.take k)) (sides.drop k) = sidesErr [] sides) ∧
   Hid ((w.alloc (.cells #[.slice p sides.length cap, .slice pc conds.length ccap] 29)).grownBy wr none)) (fun i _ => sides.length - (intOf i).toNat)
 case atStart => exact ⟨0, Nat.zero_le _, rfl, rfl, gR _ _⟩
 case round =>
  obtain ⟨k, hk, rfl, HR, HG⟩ := hrel
  have hbox0 := HG.out.cell (a := ⟨w.heap.size, 0, none⟩) (v := .slice p sides.length cap) (by simp) (by simp)
  have hbox1 := HG.out.cell (a := ⟨w.heap.size, 1, none⟩) (v := .slice pc conds.length ccap) (by simp) (by simp)
  by_cases hlt : k < sides.length
  · have h0 := List.getElem?_eq_getElem hlt
    have hgw : w.grownBy wr none := gT (gA _ _ _) HG.out
    obtain ⟨b, off, rfl, h3, ⟨h4, h4'⟩, ⟨h5, h5'⟩, h6, h7, h8⟩ := (H.out k _ h0).kept hgw
    have HS := uH (sidesErr_drop (namesOf (sides.take k)) h0)
    have HL := uH (namesOf_take h0)
    have HT := uH (sides_take (cap := cap) k hk hl hlc H.out)
    have HF := uH (firstI_none (sameName (sides[k]).1) (sides.take k))
    have HSN := uH (sameName_any (sides[k]).1 (sides.take k))
    generalize hn : (sides[k]).1 = n at *
    generalize hlo : (sides[k]).2.1 = lo at *
    generalize hhi : (sides[k]).2.2 = hi' at *
    have G := uH hgw
    have hcap : k ≤ cap := by omega
    clear hgw h0 hn hlo hhi
    go_wp2_with (first
     | (go_at_call 129; refine (affName_any n _ ‹_›).mono ?_; rintro e w1 ⟨rfl, hg1⟩; have G1 := uH hg1; have b0 := hg1.cell ((gA wr (.cells #[.string n, .int .i64 lo, .int .i64 hi'] 63) none).cell hbox0 (by simp)) (by simp); have b1 := hg1.cell (a := ⟨wr.heap.size, 0, none⟩) (v := .string n) (by simp) (by simp); have b2 := hg1.cell (a := ⟨wr.heap.size, 1, none⟩) (v := .int .i64 lo) (by simp) (by simp); have b3 := hg1.cell (a := ⟨wr.heap.size, 2, none⟩) (v := .int .i64 hi') (by simp) (by simp); clear hg1)
     | (go_at_call 130; refine (isNear_any n lo hi' _ ⟨h4, h4'⟩ ⟨h5, h5'⟩).mono ?_; rintro e w3 ⟨rfl, hg3⟩; have G3 := uH hg3; clear hg3))
    · have he : nameB n = false := by have h : (!nameB n) = true := (by assumption); simpa using h
      go_ret
      exact ⟨ret_i64 (setErr_1 (S := (sides, conds)) hlen8 (by rw [← HR.out, HS.out, he]; rfl) (by decide)).symm, gT G.out (gT (gA _ _ _) G1.out)⟩
    · have he : nameB n = true := by have h : (!nameB n) = false := (by assumption); simpa using h
      have HE := uH he
      clear he
      go_region_held3 (fun W => W.cell? ⟨wr.heap.size, 0, none⟩ = some (.string n) ∧ W.cell? ⟨wr.heap.size, 1, none⟩ = some (.int .i64 lo) ∧ W.cell? ⟨wr.heap.size, 2, none⟩ = some (.int .i64 hi') ∧ W.cell? ⟨w.heap.size, 0, none⟩ = some (.slice (some ⟨b, off, none⟩) sides.length cap)) (go_keep) (first
       | (go_at_call 105; refine (placeOf_any n _ (sides.take k) _ (HT.out.kept (gT G.out (gT (gA _ _ _) (gT G1.out (grown_d _ _)))))).mono ?_; rintro e w2 ⟨rfl, hg2⟩; have G2 := uH hg2; have d0 := hg2.cell b0 (by simp); have d1 := hg2.cell b1 (by simp); have d2 := hg2.cell b2 (by simp); have d3 := hg2.cell b3 (by simp); clear hg2))
      generalize hq : firstI (sameName n) (sides.take k) = q at *
      have HQ := uH hq
      clear hq
      go_wp2_with (first
       | (go_at_call 130; refine (isNear_any n lo hi' _ ⟨h4, h4'⟩ ⟨h5, h5'⟩).mono ?_; rintro e w3 ⟨rfl, hg3⟩; have G3 := uH hg3; clear hg3))
      · have he : containsB (namesOf (sides.take k)) n = true := by
         have h := HF.out
         rw [HSN.out] at h
         have h2 : (q != -1) = true := by assumption
         rw [show (q == -1) = !(q != -1) by simp [bne], h2] at h
         simpa using h.symm
        go_ret
        exact ⟨ret_i64 (setErr_1 (S := (sides, conds)) hlen8 (by rw [← HR.out, HS.out, HE.out, he]; rfl) (by decide)).symm, gT G.out (gT (gA _ _ _) (gT G1.out (gT (grown_d _ _) G2.out)))⟩
      · have he : containsB (namesOf (sides.take k)) n = false := by
         have h := HF.out
         rw [HSN.out] at h
         have h2 : (q != -1) = false := by assumption
         rw [show (q == -1) = !(q != -1) by simp [bne], h2] at h
         simpa using h.symm
        have hb : sideBad lo hi' = true := by assumption
        go_ret
        exact ⟨ret_i64 (setErr_1 (S := (sides, conds)) hlen8 (by rw [← HR.out, HS.out, HE.out, he, hb]; rfl) (by decide)).symm, gT G.out (gT (gA _ _ _) (gT G1.out (gT (grown_d _ _) (gT G2.out G3.out))))⟩
      · have he : containsB (namesOf (sides.take k)) n = false := by
         have h := HF.out
         rw [HSN.out] at h
         have h2 : (q != -1) = false := by assumption
         rw [show (q == -1) = !(q != -1) by simp [bne], h2] at h
         simpa using h.symm
        have hb : sideBad lo hi' = false := by assumption
        go_roundw
        case rel => exact ⟨k + 1, by omega, by go_num, by show _ = _; rw [HL.out, ← HR.out, HS.out, HE.out, he, hb]; rfl, gT HG.out (gT (gA _ _ _) (gT G1.out (gT (grown_d _ _) (gT G2.out G3.out))))⟩
        case measure => simp [intOf]; omega
  · obtain rfl : k = sides.length := by omega
    have HGw : Hid (w.grownBy wr none) := gT (gA _ _ _) HG.out
    have HE := uH (show sidesErr [] sides = 0 by rw [← HR.out]; simp [sidesErr])
    have HSd : Hid (SidesAt w (.slice p sides.length cap) sides) := ⟨p, cap, rfl, ⟨hl, hlc⟩, H.out⟩
    clear HR HG
    generalize wr = wA at *
    by_cases h60 : 60 < conds.length
    · go_wp2
      go_ret
      exact ⟨ret_i64 (setErr_2 (S := (sides, conds)) hlen8 HE.out h60).symm, HGw.out⟩
    go_wp2
    go_loopw [46] (fun i wr => ∃ k : Nat, k ≤ conds.length ∧ i = .int .i64 k ∧ Hid (condsErr (namesOf sides) (conds.drop k) = condsErr (namesOf sides) conds) ∧ Hid (wA.grownBy wr none)) (fun i _ => conds.length - (intOf i).toNat)
    case atStart => exact ⟨0, Nat.zero_le _, rfl, rfl, gR _ _⟩
    case round =>
     obtain ⟨k, hk, rfl, HR, HGA⟩ := hrel
     have hb0 := HGA.out.cell hbox0 (by simp)
     by_cases hlt : k < conds.length
     · have h0 := List.getElem?_eq_getElem hlt
       have hgw : w.grownBy wr none := gT HGw.out HGA.out
       obtain ⟨b, off, tv, rfl, h3, h4, h5, h6, h7⟩ := (HCC.out k _ h0).kept hgw
       have HS := uH (condsErr_drop (names := namesOf sides) h0)
       generalize hc : (conds[k]).1 = c at *
       generalize hts : (conds[k]).2 = ts at *
       obtain ⟨pt, ct, rfl, htl, htc⟩ := h5
       have HT : Hid (TermsAt wr (.slice pt ts.length ct) ts) := ⟨pt, ct, rfl, htl, htc⟩
       clear htc hc hts
       have G := uH hgw
       have hb0a := (gA wr (.cells #[.int .i64 c, .slice pt ts.length ct] 35) none).cell hb0 (by simp)
       clear hgw h0
       go_wp2_with (first | (go_at_call 55; refine (affForm_any c ts sides (.slice pt ts.length ct) _ _ (HT.out.kept (gA _ _ _)) (HSd.out.kept (gT G.out (gA _ _ _)))).mono ?_; rintro e w' ⟨rfl, hg1⟩; have G1 := uH hg1; clear hg1))
       · have he : aroundErr (namesOf sides) (c, ts) ≠ 0 := by simpa using ‹(aroundErr (namesOf sides) (c, ts) != 0) = true›
         go_ret
         exact ⟨ret_i64 (setErr_3 (S := (sides, conds)) hlen8 HE.out h60 (by rw [← HR.out, HS.out, if_neg (by simpa using he)]) he).symm, gT G.out (gT (gA _ _ _) G1.out)⟩
       · have he : aroundErr (namesOf sides) (c, ts) = 0 := by simpa using ‹(aroundErr (namesOf sides) (c, ts) != 0) = false›
         go_roundw
         case rel => exact ⟨k + 1, by omega, by go_num, by show _ = _; rw [← HR.out, HS.out, if_pos (by simpa using he)], gT HGA.out (gT (gA _ _ _) G1.out)⟩
         case measure => simp [intOf]; omega
     · obtain rfl : k = conds.length := by omega
       have HF := uH (setErr_4 (S := (sides, conds)) hlen8 HE.out h60 (by rw [← HR.out]; simp [condsErr]))
       have HGB : Hid (w.grownBy wr none) := gT HGw.out HGA.out
       have HB := uH (fun s hs => (sides_good [] HE.out s hs).2)
       clear HR HGA
       go_wp2_with (first | (go_at_call 131; refine (isLarge_any sides _ _ (HSd.out.kept HGB.out) HB.out).mono ?_; rintro e w' ⟨rfl, hg1⟩; have G1 := uH hg1; clear hg1))
       · have he : (!emptyB sides) = true ∧ boxOver 1 sides = true := by assumption
         obtain ⟨he1, he2⟩ := he
         go_ret
         exact ⟨ret_i64 (by rw [HF.out, he2]; simp at he1; rw [he1]; rfl), gT HGB.out G1.out⟩
       · have he : (!emptyB sides) = false ∨ boxOver 1 sides = false := by assumption
         go_ret
         exact ⟨ret_i64 (by have hf := HF.out; clear HF H HCC HE HSd HGw HGB HB G1; rw [hf]; rcases he with he | he <;> simp_all), gT HGB.out G1.out⟩
end Go.Proofs.YtgeklmigfhhpfaaGreatDoor
namespace Go.Proofs.YtgeklmigfhhpfaaGreatDoor
open Go.RowKit
theorem eq_of_take {α : Type} {xs ys : List α} (hl : xs.length = ys.length) {k : Nat} (h : xs.take k = ys.take k) (hk : xs.length ≤ k) : xs = ys := by
 rwa [List.take_of_length_le hk, List.take_of_length_le (by omega)] at h
theorem ne_of_get {α : Type} {xs ys : List α} {k : Nat} {a b : α} (ha : xs[k]? = some a) (hb : ys[k]? = some b) (h : a ≠ b) : xs ≠ ys := by
 intro e
 subst e
 rw [ha] at hb
 exact h (Option.some.inj hb)
theorem take_eq_succ {α : Type} {xs ys : List α} {k : Nat} {a : α} (h : xs.take k = ys.take k) (ha : xs[k]? = some a) (hb : ys[k]? = some a) : xs.take (k + 1) = ys.take (k + 1) := by
 rw [List.take_add_one, List.take_add_one, h, ha, hb]
def sameInts (xs ys : List Int) : Bool := decide (xs = ys)
set_option maxHeartbeats 1000000 in
theorem equal_any (v u : Value) (xs ys : List Int) (w : World) (hv : IntsAt w v xs) (hu : IntsAt w u ys) :
  Calls Tryz.prog 61 #[v, u] w (GivesDrawn (.bool (sameInts xs ys)) w) := by
 obtain ⟨p, cap, rfl, hl, hc⟩ := hv
 obtain ⟨q, ucap, rfl, hul, huc⟩ := hu
 have H := uH hc
 have HU := uH huc
 clear hc huc
 by_cases hlen : xs.length = ys.length
 · have HL := uH hlen
   have hq : ((xs.length : Int) != (ys.length : Int)) = false := by simp [hlen]
   clear hlen
   go_enter Tryz.func61, Tryz.ntmps61
   go_wp2
   go_loopw [13] (fun i wr => ∃ k : Nat, k ≤ xs.length ∧ i = .int .i64 k ∧ Hid (xs.take k = ys.take k) ∧ Hid (w.grownBy wr none)) (fun i _ => xs.length - (intOf i).toNat)
   case atStart => exact ⟨0, Nat.zero_le _, rfl, rfl, gR _ _⟩
   case round =>
    obtain ⟨k, hk, rfl, HR, HG⟩ := hrel
    by_cases hlt : k < xs.length
    · have hlt2 : k < ys.length := by have := HL.out; omega
      have h0 := List.getElem?_eq_getElem hlt
      have h1 := List.getElem?_eq_getElem hlt2
      obtain ⟨b, off, rfl, ⟨b1, b2⟩, hcx⟩ := H.out k _ h0
      obtain ⟨d, doff, rfl, ⟨d1, d2⟩, hcy⟩ := HU.out k _ h1
      have hcx' := World.grownBy.cell HG.out hcx (by simp)
      have hcy' := World.grownBy.cell HG.out hcy (by simp)
      have HN := uH (fun h => ne_of_get h0 h1 h)
      have HT := uH (fun (e : xs[k] = ys[k]) => take_eq_succ HR.out h0 (by rw [h1, e]))
      generalize xs[k] = x at *
      generalize ys[k] = y at *
      have hI1 : (k : Int) < (xs.length : Int) := by omega
      have hI2 : (k : Int) < (ys.length : Int) := by omega
      have hI3 : (0 : Int) ≤ (k : Int) := by omega
      clear h0 h1 hcx hcy
      go_wp2
      go_quiet (fail)
      go_wp2
      · have he : x ≠ y := by have h : (x != y) = true := (by assumption); simpa using h
        go_ret
        exact ⟨ret_bool (by simp [sameInts, HN.out he]), gT HG.out (grownBy_drewN _ _ _)⟩
      · have he : x = y := by have h : (x != y) = false := (by assumption); simpa using h
        go_roundw
        case rel => exact ⟨k + 1, by omega, by go_num, HT.out he, gT HG.out (grownBy_drewN _ _ _)⟩
        case measure => simp [intOf]; omega
    · go_wp2
      go_ret
      exact ⟨ret_bool (by simp [sameInts, eq_of_take HL.out HR.out (by omega)]), HG.out⟩
 · have hq : ((xs.length : Int) != (ys.length : Int)) = true := by simp; omega
   have hne : xs ≠ ys := fun e => hlen (by rw [e])
   have HN := uH hne
   clear hlen hne
   go_enter Tryz.func61, Tryz.ntmps61
   go_wp2
   go_ret
   exact ⟨ret_bool (by simp [sameInts, HN.out]), gR _ _⟩
def sameRows (xs ys : List (List Int)) : Bool := decide (xs = ys)
set_option maxHeartbeats 1000000 in
theorem equalFunc_any (v u : Value) (xs ys : List (List Int)) (w : World) (hv : RowsAt w v xs) (hu : RowsAt w u ys) :
  Calls Tryz.prog 60 #[v, u, .func (.func 61) #[] #[]] w (GivesDrawn (.bool (sameRows xs ys)) w) := by
 obtain ⟨p, cap, rfl, hl, hc⟩ := hv
 obtain ⟨q, ucap, rfl, hul, huc⟩ := hu
 have H := uH hc
 have HU := uH huc
 clear hc huc
 by_cases hlen : xs.length = ys.length
 · have HL := uH hlen
   have hq : ((xs.length : Int) != (ys.length : Int)) = false := by simp [hlen]
   clear hlen
   go_enter Tryz.func60, Tryz.ntmps60
   go_wp2
   go_loopw [17] (fun i wr => ∃ k : Nat, k ≤ xs.length ∧ i = .int .i64 k ∧ Hid (xs.take k = ys.take k) ∧ Hid (w.grownBy wr none)) (fun i _ => xs.length - (intOf i).toNat)
   case atStart => exact ⟨0, Nat.zero_le _, rfl, rfl, gR _ _⟩
   case round =>
    obtain ⟨k, hk, rfl, HR, HG⟩ := hrel
    by_cases hlt : k < xs.length
    · have hlt2 : k < ys.length := by have := HL.out; omega
      have h0 := List.getElem?_eq_getElem hlt
      have h1 := List.getElem?_eq_getElem hlt2
      obtain ⟨b, off, rv, rfl, hcx, hix⟩ := H.out k _ h0
      obtain ⟨d, doff, ru, rfl, hcy, hiy⟩ := HU.out k _ h1
      have hcx' := World.grownBy.cell HG.out hcx (by simp)
      have hcy' := World.grownBy.cell HG.out hcy (by simp)
      have HN := uH (fun h => ne_of_get h0 h1 h)
      have HT := uH (fun (e : xs[k] = ys[k]) => take_eq_succ HR.out h0 (by rw [h1, e]))
      have HC := uH (equal_any rv ru xs[k] ys[k] wr (hix.kept HG.out) (hiy.kept HG.out))
      generalize xs[k] = x at *
      generalize ys[k] = y at *
      clear h0 h1 hcx hcy hix hiy
      go_wp2_with (first | (go_at_call 61; refine HC.out.mono ?_; rintro e w' ⟨rfl, hg1⟩; have G1 := uH hg1; clear hg1))
      · have he : x ≠ y := by have h : (!sameInts x y) = true := (by assumption); simpa [sameInts] using h
        go_ret
        exact ⟨ret_bool (by simp [sameRows, HN.out he]), gT HG.out G1.out⟩
      · have he : x = y := by have h : (!sameInts x y) = false := (by assumption); simpa [sameInts] using h
        go_roundw
        case rel => exact ⟨k + 1, by omega, by go_num, HT.out he, gT HG.out G1.out⟩
        case measure => simp [intOf]; omega
    · go_wp2
      go_ret
      exact ⟨ret_bool (by simp [sameRows, eq_of_take HL.out HR.out (by omega)]), HG.out⟩
 · have hq : ((xs.length : Int) != (ys.length : Int)) = true := by simp; omega
   have hne : xs ≠ ys := fun e => hlen (by rw [e])
   have HN := uH hne
   clear hlen hne
   go_enter Tryz.func60, Tryz.ntmps60
   go_wp2
   go_ret
   exact ⟨ret_bool (by simp [sameRows, HN.out]), gR _ _⟩
theorem sameLists_any (v u : Value) (xs ys : List (List Int)) (w : World) (hv : RowsAt w v xs) (hu : RowsAt w u ys) :
  Calls Tryz.prog 19 #[v, u] w (GivesDrawn (.bool (sameRows xs ys)) w) := by
 have HV := uH hv
 have HU := uH hu
 clear hv hu
 go_enter Tryz.func19, Tryz.ntmps19
 go_wp2_with (first | (go_at_call 60; refine (equalFunc_any v u xs ys _ HV.out HU.out).mono ?_; rintro e w' ⟨rfl, hg1⟩; have G1 := uH hg1; clear hg1))
 go_ret
 exact ⟨rfl, G1.out⟩
end Go.Proofs.YtgeklmigfhhpfaaGreatDoor
namespace Go.Proofs.YtgeklmigfhhpfaaGreatDoor
open Go.RowKit
theorem append_one_at {P : Program} {ops : Array Oper} {rest : List Oper} {o : Oper} {a : Act} {Q : Exit → Act → World → Prop} {w : World} (hgd : o.guard = none) (s x : Operand) (t : TypeId)
  (ho : o.op = .call { callee := .builtin .append, args := #[s, x], argTypes := #[t, t] })
  (base : Nat) (e : TypeId) (i : TypeInfo) (z : Value) (size bytes : Nat) (ht : P.underlying t = some (.slice e)) (hi : P.info? e = some i) (hz : i.zero = some z)
  (hsize : i.size = size) (hby : i.bytes = bytes) (hzs : z.cells.size = size) (hsz : 0 < size) (hbb : bytes ≤ 1000)
  (v : Value) (n : Nat) (xs news : List Value) (hs : a.eval s = v) (hown : w.ownsRow base e size v n xs)
  (hx : a.eval x = .slice (some ⟨w.heap.size, 0, none⟩) 1 1) (hl : news.length = size) (h1 : ∀ u ∈ news, u.oneCell' = true)
  (hn : n ≤ 1000000) (hbase : base ≤ w.heap.size)
  (h : ∀ v' w', w'.ownsRow base e size v' (n + 1) (xs ++ news) → w.grownBy w' v.ownBlock → (∀ k, v.ownBlock = some k → base ≤ k) → wpList P ops Q rest (a.put o.dst v') w') :
  wpList P ops Q (o :: rest) a (w.alloc (.cells news.toArray e)) := by
 refine wpList_append_own _ hgd s x t ho base e i z size bytes ht hi hz hsize hby hzs hsz v n xs hs (hown.alloc _) ⟨w.heap.size, 0, none⟩ 1 1 news hx (by omega) news_at h1 (by unfold maxLen; omega) ?_ (by simp; omega) ?_
 · have : (n + 1) * bytes ≤ 1000001 * 1000 := Nat.mul_le_mul (by omega) hbb
   omega
 · intro v' w' ho' hg _
   exact h v' w' ho' (gT (gA _ _ _) hg) fun k hk => (hown.lt k hk).1
theorem owns_drawn {w w' : World} {B m : Nat} {base : Nat} {e : TypeId} {size : Nat} {v : Value} {n : Nat} {xs : List Value} (h : w.ownsRow base e size v n xs) (hd : Drawn B m w w') (hB : B < base) : w'.ownsRow base e size v n xs := by
 refine h.kept hd.1 ?_
 cases hb : v.ownBlock with
 | none => exact .inl rfl
 | some g =>
   refine .inr fun e => ?_
   have := (h.lt g hb).1
   have := Option.some.inj e
   omega
def small (x : Int) : Prop := -2000000000000 ≤ x ∧ x ≤ 2000000000000
end Go.Proofs.YtgeklmigfhhpfaaGreatDoor
namespace Go.Proofs.YtgeklmigfhhpfaaGreatDoor
open Go.RowKit
theorem flat_get {α β : Type} {f : α → List β} {k : Nat} (hf : ∀ a, (f a).length = k) : ∀ {l : List α} {j i : Nat} {a : α} {v : β}, l[j]? = some a → (f a)[i]? = some v → (l.flatMap f)[j * k + i]? = some v
 | [], j, i, a, v, h, _ => by simp at h
 | b :: r, 0, i, a, v, h, hv => by
   simp at h
   subst h
   have hi := (List.getElem?_eq_some_iff.1 hv).1
   rw [List.flatMap_cons, Nat.zero_mul, Nat.zero_add, List.getElem?_append_left hi]
   exact hv
 | b :: r, j + 1, i, a, v, h, hv => by
   have ih := flat_get hf (l := r) (j := j) (i := i) (a := a) (v := v) (by simpa using h) hv
   rw [List.flatMap_cons, List.getElem?_append_right (by rw [hf, Nat.succ_mul]; omega), hf]
   rw [show (j + 1) * k + i - k = j * k + i by rw [Nat.succ_mul]; omega]
   exact ih
theorem flat_length {α β : Type} {f : α → List β} {k : Nat} (hf : ∀ a, (f a).length = k) : ∀ (l : List α), (l.flatMap f).length = l.length * k
 | [] => by simp
 | a :: r => by rw [List.flatMap_cons, List.length_append, hf, flat_length hf r, List.length_cons, Nat.succ_mul]; omega
def sideCells (s : SideD) : List Value := [.string s.1, .int .i64 s.2.1, .int .i64 s.2.2]
def termCells (t : ByteArray × Int) : List Value := [.string t.1, .int .i64 t.2]
def condCells (q : CondD × Value) : List Value := [.int .i64 q.1.1, q.2]
theorem own_cell {w : World} {base : Nat} {e : TypeId} {size : Nat} {v : Value} {n : Nat} {xs : List Value} (h : w.ownsRow base e size v n xs) {j : Nat} {u : Value} (hj : xs[j]? = some u) :
  ∃ g cap, v = .slice (some ⟨g, 0, none⟩) n cap ∧ base ≤ g ∧ w.cell? ⟨g, j, none⟩ = some u := by
 have hcells := fun g hg => World.ownsRow.cells (g := g) h hg
 rcases h.2 with ⟨rfl, hz⟩ | ⟨g, cap, cur, rfl, hb, _⟩
 · have := h.1
   rw [hz] at this
   simp at this
   rw [this] at hj
   simp at hj
 · have hadd : (⟨g, 0, none⟩ : Addr).add j = ⟨g, j, none⟩ := by unfold Addr.add; split <;> simp_all
   have := hcells g rfl j u hj
   rw [hadd] at this
   exact ⟨g, cap, rfl, hb, this⟩
theorem own_form {w : World} {base : Nat} {e : TypeId} {size : Nat} {v : Value} {n : Nat} {xs : List Value} (h : w.ownsRow base e size v n xs) : ∃ p cap, v = .slice p n cap := by
 rcases h.2 with ⟨rfl, hz⟩ | ⟨g, cap, cur, rfl, _⟩
 · exact ⟨none, 0, by rw [hz]⟩
 · exact ⟨_, _, rfl⟩
theorem own_cap {w : World} {base : Nat} {e : TypeId} {size : Nat} {p : Option Addr} {cap n : Nat} {xs : List Value} (h : w.ownsRow base e size (.slice p n cap) n xs) : n ≤ cap := by
 rcases h.2 with ⟨hv, hz⟩ | ⟨g, c, cur, hv, _, _, hc, _⟩
 · omega
 · obtain ⟨_, _, rfl⟩ := Value.slice.inj hv
   exact hc
def goodSide (s : SideD) : Prop := s.1.size ≤ 100 ∧ small s.2.1 ∧ small s.2.2
def goodTerm (t : ByteArray × Int) : Prop := t.1.size ≤ 100 ∧ small t.2
theorem sides_of_owns {w : World} {base : Nat} {e : TypeId} {v : Value} {l : List SideD} (h : w.ownsRow base e 3 v l.length (l.flatMap sideCells)) (hl : l.length ≤ 1000000) (hg : ∀ s ∈ l, goodSide s) : SidesAt w v l := by
 obtain ⟨p, cap, hv⟩ := own_form h
 refine ⟨p, cap, hv, ⟨hl, own_cap (hv ▸ h)⟩, fun j s hj => ?_⟩
 obtain ⟨g1, ⟨g2, g3⟩, ⟨g4, g5⟩⟩ := hg s (List.mem_of_getElem? hj)
 obtain ⟨b, c1, e1, _, k1⟩ := own_cell h (flat_get (k := 3) (fun _ => rfl) hj (i := 0) (v := .string s.1) rfl)
 obtain ⟨b2, c2, e2, _, k2⟩ := own_cell h (flat_get (k := 3) (fun _ => rfl) hj (i := 1) (v := .int .i64 s.2.1) rfl)
 obtain ⟨b3, c3, e3, _, k3⟩ := own_cell h (flat_get (k := 3) (fun _ => rfl) hj (i := 2) (v := .int .i64 s.2.2) rfl)
 rw [hv] at e1 e2 e3
 obtain ⟨rfl, _, _⟩ := Value.slice.inj e1
 obtain ⟨ee, _, _⟩ := Value.slice.inj e2
 obtain ⟨ee3, _, _⟩ := Value.slice.inj e3
 cases ee
 cases ee3
 refine ⟨b, 0, rfl, by unfold maxLen; omega, ⟨by omega, by omega⟩, ⟨by omega, by omega⟩, ?_, ?_, ?_⟩
 · simpa using k1
 · simpa using k2
 · simpa using k3
theorem terms_of_owns {w : World} {base : Nat} {e : TypeId} {v : Value} {l : List (ByteArray × Int)} (h : w.ownsRow base e 2 v l.length (l.flatMap termCells)) (hl : l.length ≤ 1000000) (hg : ∀ s ∈ l, goodTerm s) : TermsAt w v l := by
 obtain ⟨p, cap, hv⟩ := own_form h
 refine ⟨p, cap, hv, by unfold maxLen; omega, fun j s hj => ?_⟩
 obtain ⟨g1, g2, g3⟩ := hg s (List.mem_of_getElem? hj)
 obtain ⟨b, c1, e1, _, k1⟩ := own_cell h (flat_get (k := 2) (fun _ => rfl) hj (i := 0) (v := .string s.1) rfl)
 obtain ⟨b2, c2, e2, _, k2⟩ := own_cell h (flat_get (k := 2) (fun _ => rfl) hj (i := 1) (v := .int .i64 s.2) rfl)
 rw [hv] at e1 e2
 obtain ⟨rfl, _, _⟩ := Value.slice.inj e1
 obtain ⟨ee, _, _⟩ := Value.slice.inj e2
 cases ee
 refine ⟨b, 0, rfl, by unfold maxLen; omega, by omega, by omega, ?_, ?_⟩
 · simpa using k1
 · simpa using k2
structure CSt (w : World) (P : Nat) (cv : Value) (l : List CondD) (tvs : List Value) : Prop where
 len : tvs.length = l.length
 row : w.ownsRow P 35 2 cv l.length ((l.zip tvs).flatMap condCells)
 terms : ∀ (j : Nat) (f : CondD) (tv : Value), l[j]? = some f → tvs[j]? = some tv → w.ownsRow P 65 2 tv f.2.length (f.2.flatMap termCells) ∧ (tv.ownBlock = none ∨ tv.ownBlock ≠ cv.ownBlock)
 good : ∀ f ∈ l, small f.1 ∧ f.2.length ≤ 1000 ∧ ∀ t ∈ f.2, goodTerm t
theorem CSt.start (w : World) (P : Nat) : CSt w P (.slice none 0 0) [] [] := ⟨rfl, World.ownsRow_nil _ _ _ _, fun j f tv h => by simp at h, fun f h => by cases h⟩
theorem CSt.kept {w w' : World} {P : Nat} {cv : Value} {l : List CondD} {tvs : List Value} {r : Option Nat} (h : CSt w P cv l tvs) (hg : w.grownBy w' r) (hr : ∀ k, r = some k → k < P) : CSt w' P cv l tvs := by
 have key : ∀ {e : TypeId} {size : Nat} {v : Value} {n : Nat} {xs : List Value}, w.ownsRow P e size v n xs → w'.ownsRow P e size v n xs := fun ho => by
  refine ho.kept hg ?_
  cases hb : Value.ownBlock _ with
  | none => exact .inl rfl
  | some g =>
    refine .inr fun e => ?_
    have := (ho.lt g hb).1
    have := hr g e.symm
    omega
 exact ⟨h.len, key h.row, fun j f tv h1 h2 => ⟨key (h.terms j f tv h1 h2).1, (h.terms j f tv h1 h2).2⟩, h.good⟩
theorem CSt.conds {w : World} {P : Nat} {cv : Value} {l : List CondD} {tvs : List Value} (h : CSt w P cv l tvs) (hl : l.length ≤ 1000000) : CondsAt w cv l := by
 obtain ⟨p, cap, hv⟩ := own_form h.row
 refine ⟨p, cap, hv, hl, fun j f hj => ?_⟩
 have hjl := (List.getElem?_eq_some_iff.1 hj).1
 have hjt : tvs[j]? = some (tvs[j]'(by rw [h.len]; exact hjl)) := List.getElem?_eq_getElem _
 generalize tvs[j]'(by rw [h.len]; exact hjl) = tv at hjt
 have hz : (l.zip tvs)[j]? = some (f, tv) := by
  rw [List.getElem?_zip_eq_some]
  exact ⟨hj, hjt⟩
 obtain ⟨⟨g1, g2⟩, g3, g4⟩ := h.good f (List.mem_of_getElem? hj)
 obtain ⟨b, c1, e1, _, k1⟩ := own_cell h.row (flat_get (k := 2) (fun _ => rfl) hz (i := 0) (v := .int .i64 f.1) rfl)
 obtain ⟨b2, c2, e2, _, k2⟩ := own_cell h.row (flat_get (k := 2) (fun _ => rfl) hz (i := 1) (v := tv) rfl)
 rw [hv] at e1 e2
 obtain ⟨rfl, _, _⟩ := Value.slice.inj e1
 obtain ⟨ee, _, _⟩ := Value.slice.inj e2
 cases ee
 exact ⟨b, 0, tv, rfl, by simpa using k1, by simpa using k2, terms_of_owns (h.terms j f tv hj hjt).1 (by omega) g4, by omega, by omega⟩
theorem CSt.push {w w1 w2 : World} {P B : Nat} {cv cv' tv : Value} {l : List CondD} {tvs : List Value} {c : Int} {ts : List (ByteArray × Int)} {g cap : Nat} (h : CSt w P cv l tvs) (hB : B < P) (hP : P ≤ w.heap.size)
  (k1 : w.grownBy w1 (some B)) (ht : w1.ownsRow w.heap.size 65 2 tv ts.length (ts.flatMap termCells)) (k2 : w1.grownBy w2 cv.ownBlock)
  (row : w2.ownsRow P 35 2 cv' (l.length + 1) ((l.zip tvs).flatMap condCells ++ condCells ((c, ts), tv))) (hv : cv' = .slice (some ⟨g, 0, none⟩) (l.length + 1) cap) (hg : cv.ownBlock = some g ∨ w1.heap.size ≤ g)
  (good : small c ∧ ts.length ≤ 1000 ∧ ∀ t ∈ ts, goodTerm t) : CSt w2 P cv' (l ++ [(c, ts)]) (tvs ++ [tv]) := by
 have hob : ∀ k, cv.ownBlock = some k → P ≤ k ∧ k < w.heap.size := h.row.lt
 have hgv : cv'.ownBlock = some g := by rw [hv]; rfl
 have h1 := h.kept k1 (fun k hk => by cases hk; exact hB)
 have ht' : w1.ownsRow P 65 2 tv ts.length (ts.flatMap termCells) := by
  obtain ⟨a1, a2⟩ := ht
  refine ⟨a1, ?_⟩
  rcases a2 with a2 | ⟨g, cap, cur, hv, hb, r⟩
  · exact .inl a2
  · exact .inr ⟨g, cap, cur, hv, by omega, r⟩
 refine ⟨by simp [h.len], ?_, fun j f u hj hu => ?_, fun f hf => ?_⟩
 · rw [List.length_append, List.zip_append (by rw [h.len]), List.flatMap_append]
   simpa using row
 · by_cases hj' : j < l.length
   · rw [List.getElem?_append_left hj'] at hj
     rw [List.getElem?_append_left (by rw [h.len]; exact hj')] at hu
     obtain ⟨r1, r2⟩ := h1.terms j f u hj hu
     have r0 := (h.terms j f u hj hu).1
     refine ⟨r1.kept k2 r2, ?_⟩
     cases hb : u.ownBlock with
     | none => exact .inl rfl
     | some b =>
       refine .inr fun e => ?_
       rw [hgv] at e
       have e := Option.some.inj e
       rcases hg with hg | hg
       · rcases r2 with r2 | r2
         · rw [hb] at r2; cases r2
         · exact r2 (by rw [hb, hg, e])
       · have := (r0.lt b hb).2
         have := k1.size
         omega
   · have hj2 : j = l.length := by
      have := (List.getElem?_eq_some_iff.1 hj).1
      simp at this
      omega
     subst hj2
     simp at hj
     subst hj
     rw [← h.len] at hu
     simp at hu
     subst hu
     refine ⟨ht'.kept k2 ?_, ?_⟩
     · cases hb : tv.ownBlock with
       | none => exact .inl rfl
       | some b =>
         refine .inr fun e => ?_
         have := (ht.lt b hb).1
         have := hob b e.symm
         omega
     · cases hb : tv.ownBlock with
       | none => exact .inl rfl
       | some b =>
         refine .inr fun e => ?_
         rw [hgv] at e
         have e := Option.some.inj e
         have h5 := (ht.lt b hb).1
         have h6 := (ht.lt b hb).2
         rcases hg with hg | hg
         · have := hob g hg
           omega
         · omega
 · rcases List.mem_append.1 hf with hf | hf
   · exact h.good f hf
   · obtain rfl := List.mem_singleton.1 hf
     exact good
end Go.Proofs.YtgeklmigfhhpfaaGreatDoor
