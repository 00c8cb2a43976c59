/-
 CheckSet.
-/
import Derived.Test.YtfilcaolgfghcaaGreatCheck
import Derived.Test.YtfilcaolgfghcaaGreatRow
import Derived.Deep.RegionHeld3
namespace Go.Proofs.YtfilcaolgfghcaaGreat
open Go.RowKit

theorem sides_take {w : World} {p : Option Addr} {cap : Nat} {l : List SideD} (k : Nat) (hk : k ≤ l.length) (hl : l.length ≤ 1000000) (hlc : l.length ≤ cap) (h : ∀ j s, l[j]? = some s → SideAt w p s j) : SidesAt w (.slice p k cap) (l.take k) := by
  have e : (l.take k).length = k := by simp; omega
  refine ⟨p, cap, by rw [e], ⟨by omega, by omega⟩, fun j s hj => ?_⟩
  have hjk : j < k := by
    have := (List.getElem?_eq_some_iff.1 hj).1
    omega
  rw [List.getElem?_take_of_lt hjk] at hj
  exact h j s hj

set_option maxRecDepth 100000 in
set_option maxHeartbeats 4000000 in
theorem checkSet_any (S : List SideD × List CondD) (sv cv : Value) (w : World) (hS : SetAt w sv cv S) :
    Calls Tryz.prog 75 #[.agg #[sv, cv]] w (Gives (.int .i64 (setErr S)) w) := by
  obtain ⟨sides, conds⟩ := S
  obtain ⟨⟨p, cap, hsv, ⟨hl, hlc⟩, hc⟩, ⟨pc, ccap, hcv, hcl, hcc⟩⟩ := hS
  simp only at hsv hl hc hcv hcl hcc
  subst hsv hcv
  have H := Lib.hid hc
  have HCC := Lib.hid hcc
  clear hc hcc
  by_cases hlen8 : 8 < sides.length
  · go_enter Tryz.func75, Tryz.ntmps75
    go_wp2
    go_ret
    exact ⟨ret_i64 (by simp [setErr, hlen8]), World.grownBy_alloc _ _ _⟩
  go_enter Tryz.func75, Tryz.ntmps75
  go_wp2
  go_loopw [15] (fun i wr => ∃ k : Nat, k ≤ sides.length ∧ i = .int .i64 k ∧ Hid (sidesErr (namesOf (sides.take k)) (sides.drop k) = sidesErr [] sides) ∧
      Hid ((w.alloc (.cells #[.slice p sides.length cap, .slice pc conds.length ccap] 29)).grownBy wr none)) (fun i _ => sides.length - (intOf i).toNat)
  case atStart => exact ⟨0, Nat.zero_le _, rfl, rfl, grownBy_refl _ _⟩
  case round =>
    obtain ⟨k, hk, rfl, HR, HG⟩ := hrel
    have hbox0 := HG.out.cell (a := ⟨w.heap.size, 0, none⟩) (v := .slice p sides.length cap) (by simp) (by simp)
    have hbox1 := HG.out.cell (a := ⟨w.heap.size, 1, none⟩) (v := .slice pc conds.length ccap) (by simp) (by simp)
    by_cases hlt : k < sides.length
    · have h0 := List.getElem?_eq_getElem hlt
      have hgw : w.grownBy wr none := grownBy_trans (World.grownBy_alloc _ _ _) HG.out
      obtain ⟨b, off, rfl, h3, ⟨h4, h4'⟩, ⟨h5, h5'⟩, h6, h7, h8⟩ := (H.out k _ h0).kept hgw
      have HS := Lib.hid (sidesErr_drop (namesOf (sides.take k)) h0)
      have HL := Lib.hid (namesOf_take h0)
      have HT := Lib.hid (sides_take (cap := cap) k hk hl hlc H.out)
      have HF := Lib.hid (firstI_none (sameName (sides[k]).1) (sides.take k))
      have HSN := Lib.hid (sameName_any (sides[k]).1 (sides.take k))
      generalize hn : (sides[k]).1 = n at *
      generalize hlo : (sides[k]).2.1 = lo at *
      generalize hhi : (sides[k]).2.2 = hi' at *
      have G := Lib.hid hgw
      have hcap : k ≤ cap := by omega
      clear hgw h0 hn hlo hhi
      go_wp2_with (first
        | (go_at_call 97; refine (affName_any n _ ‹_›).mono ?_; rintro e w1 ⟨rfl, hg1⟩; have G1 := Lib.hid hg1; have b0 := hg1.cell ((World.grownBy_alloc wr (.cells #[.string n, .int .i64 lo, .int .i64 hi'] 64) none).cell hbox0 (by simp)) (by simp); have b1 := hg1.cell (a := ⟨wr.heap.size, 0, none⟩) (v := .string n) (by simp) (by simp); have b2 := hg1.cell (a := ⟨wr.heap.size, 1, none⟩) (v := .int .i64 lo) (by simp) (by simp); have b3 := hg1.cell (a := ⟨wr.heap.size, 2, none⟩) (v := .int .i64 hi') (by simp) (by simp); clear hg1)
        | (go_at_call 98; refine (isNear_any n lo hi' _ ⟨h4, h4'⟩ ⟨h5, h5'⟩).mono ?_; rintro e w3 ⟨rfl, hg3⟩; have G3 := Lib.hid hg3; clear hg3))
      · have he : nameB n = false := by have h : (!nameB n) = true := (by assumption); simpa using h
        go_ret
        exact ⟨ret_i64 (setErr_1 (S := (sides, conds)) hlen8 (by rw [← HR.out, HS.out, he]; rfl) (by decide)).symm, grownBy_trans G.out (grownBy_trans (World.grownBy_alloc _ _ _) G1.out)⟩
      · have he : nameB n = true := by have h : (!nameB n) = false := (by assumption); simpa using h
        have HE := Lib.hid he
        clear he
        go_region_held3 (fun W => W.cell? ⟨wr.heap.size, 0, none⟩ = some (.string n) ∧ W.cell? ⟨wr.heap.size, 1, none⟩ = some (.int .i64 lo) ∧ W.cell? ⟨wr.heap.size, 2, none⟩ = some (.int .i64 hi') ∧ W.cell? ⟨w.heap.size, 0, none⟩ = some (.slice (some ⟨b, off, none⟩) sides.length cap)) (go_keep) (first
          | (go_at_call 77; refine (placeOf_any n _ (sides.take k) _ (HT.out.kept (grownBy_trans G.out (grownBy_trans (World.grownBy_alloc _ _ _) (grownBy_trans G1.out (grown_d _ _)))))).mono ?_; rintro e w2 ⟨rfl, hg2⟩; have G2 := Lib.hid hg2; have d0 := hg2.cell b0 (by simp); have d1 := hg2.cell b1 (by simp); have d2 := hg2.cell b2 (by simp); have d3 := hg2.cell b3 (by simp); clear hg2))
        generalize hq : firstI (sameName n) (sides.take k) = q at *
        have HQ := Lib.hid hq
        clear hq
        go_wp2_with (first
          | (go_at_call 98; refine (isNear_any n lo hi' _ ⟨h4, h4'⟩ ⟨h5, h5'⟩).mono ?_; rintro e w3 ⟨rfl, hg3⟩; have G3 := Lib.hid hg3; clear hg3))
        · have he : containsB (namesOf (sides.take k)) n = true := by
            have h := HF.out
            rw [HSN.out] at h
            have h2 : (q != -1) = true := by assumption
            rw [show (q == -1) = !(q != -1) by simp [bne], h2] at h
            simpa using h.symm
          go_ret
          exact ⟨ret_i64 (setErr_1 (S := (sides, conds)) hlen8 (by rw [← HR.out, HS.out, HE.out, he]; rfl) (by decide)).symm, grownBy_trans G.out (grownBy_trans (World.grownBy_alloc _ _ _) (grownBy_trans G1.out (grownBy_trans (grown_d _ _) G2.out)))⟩
        · have he : containsB (namesOf (sides.take k)) n = false := by
            have h := HF.out
            rw [HSN.out] at h
            have h2 : (q != -1) = false := by assumption
            rw [show (q == -1) = !(q != -1) by simp [bne], h2] at h
            simpa using h.symm
          have hb : sideBad lo hi' = true := by assumption
          go_ret
          exact ⟨ret_i64 (setErr_1 (S := (sides, conds)) hlen8 (by rw [← HR.out, HS.out, HE.out, he, hb]; rfl) (by decide)).symm, grownBy_trans G.out (grownBy_trans (World.grownBy_alloc _ _ _) (grownBy_trans G1.out (grownBy_trans (grown_d _ _) (grownBy_trans G2.out G3.out))))⟩
        · have he : containsB (namesOf (sides.take k)) n = false := by
            have h := HF.out
            rw [HSN.out] at h
            have h2 : (q != -1) = false := by assumption
            rw [show (q == -1) = !(q != -1) by simp [bne], h2] at h
            simpa using h.symm
          have hb : sideBad lo hi' = false := by assumption
          go_roundw
          case rel => exact ⟨k + 1, by omega, by go_num, by show _ = _; rw [HL.out, ← HR.out, HS.out, HE.out, he, hb]; rfl, grownBy_trans HG.out (grownBy_trans (World.grownBy_alloc _ _ _) (grownBy_trans G1.out (grownBy_trans (grown_d _ _) (grownBy_trans G2.out G3.out))))⟩
          case measure => simp [intOf]; omega
    · obtain rfl : k = sides.length := by omega
      have HGw : Hid (w.grownBy wr none) := grownBy_trans (World.grownBy_alloc _ _ _) HG.out
      have HE := Lib.hid (show sidesErr [] sides = 0 by rw [← HR.out]; simp [sidesErr])
      have HSd : Hid (SidesAt w (.slice p sides.length cap) sides) := ⟨p, cap, rfl, ⟨hl, hlc⟩, H.out⟩
      clear HR HG
      generalize wr = wA at *
      by_cases h60 : 60 < conds.length
      · go_wp2
        go_ret
        exact ⟨ret_i64 (setErr_2 (S := (sides, conds)) hlen8 HE.out h60).symm, HGw.out⟩
      go_wp2
      go_loopw [46] (fun i wr => ∃ k : Nat, k ≤ conds.length ∧ i = .int .i64 k ∧ Hid (condsErr (namesOf sides) (conds.drop k) = condsErr (namesOf sides) conds) ∧ Hid (wA.grownBy wr none)) (fun i _ => conds.length - (intOf i).toNat)
      case atStart => exact ⟨0, Nat.zero_le _, rfl, rfl, grownBy_refl _ _⟩
      case round =>
        obtain ⟨k, hk, rfl, HR, HGA⟩ := hrel
        have hb0 := HGA.out.cell hbox0 (by simp)
        by_cases hlt : k < conds.length
        · have h0 := List.getElem?_eq_getElem hlt
          have hgw : w.grownBy wr none := grownBy_trans HGw.out HGA.out
          obtain ⟨b, off, tv, rfl, h3, h4, h5, h6, h7⟩ := (HCC.out k _ h0).kept hgw
          have HS := Lib.hid (condsErr_drop (names := namesOf sides) h0)
          generalize hc : (conds[k]).1 = c at *
          generalize hts : (conds[k]).2 = ts at *
          obtain ⟨pt, ct, rfl, htl, htc⟩ := h5
          have HT : Hid (TermsAt wr (.slice pt ts.length ct) ts) := ⟨pt, ct, rfl, htl, htc⟩
          clear htc hc hts
          have G := Lib.hid hgw
          have hb0a := (World.grownBy_alloc wr (.cells #[.int .i64 c, .slice pt ts.length ct] 33) none).cell hb0 (by simp)
          clear hgw h0
          go_wp2_with (first | (go_at_call 41; refine (affForm_any c ts sides (.slice pt ts.length ct) _ _ (HT.out.kept (World.grownBy_alloc _ _ _)) (HSd.out.kept (grownBy_trans G.out (World.grownBy_alloc _ _ _)))).mono ?_; rintro e w' ⟨rfl, hg1⟩; have G1 := Lib.hid hg1; clear hg1))
          · have he : aroundErr (namesOf sides) (c, ts) ≠ 0 := by simpa using ‹(aroundErr (namesOf sides) (c, ts) != 0) = true›
            go_ret
            exact ⟨ret_i64 (setErr_3 (S := (sides, conds)) hlen8 HE.out h60 (by rw [← HR.out, HS.out, if_neg (by simpa using he)]) he).symm, grownBy_trans G.out (grownBy_trans (World.grownBy_alloc _ _ _) G1.out)⟩
          · have he : aroundErr (namesOf sides) (c, ts) = 0 := by simpa using ‹(aroundErr (namesOf sides) (c, ts) != 0) = false›
            go_roundw
            case rel => exact ⟨k + 1, by omega, by go_num, by show _ = _; rw [← HR.out, HS.out, if_pos (by simpa using he)], grownBy_trans HGA.out (grownBy_trans (World.grownBy_alloc _ _ _) G1.out)⟩
            case measure => simp [intOf]; omega
        · obtain rfl : k = conds.length := by omega
          have HF := Lib.hid (setErr_4 (S := (sides, conds)) hlen8 HE.out h60 (by rw [← HR.out]; simp [condsErr]))
          have HGB : Hid (w.grownBy wr none) := grownBy_trans HGw.out HGA.out
          have HB := Lib.hid (fun s hs => (sides_good [] HE.out s hs).2)
          clear HR HGA
          go_wp2_with (first | (go_at_call 99; refine (isLarge_any sides _ _ (HSd.out.kept HGB.out) HB.out).mono ?_; rintro e w' ⟨rfl, hg1⟩; have G1 := Lib.hid hg1; clear hg1))
          · have he : (!emptyB sides) = true ∧ boxOver 1 sides = true := by assumption
            obtain ⟨he1, he2⟩ := he
            go_ret
            exact ⟨ret_i64 (by rw [HF.out, he2]; simp at he1; rw [he1]; rfl), grownBy_trans HGB.out G1.out⟩
          · have he : (!emptyB sides) = false ∨ boxOver 1 sides = false := by assumption
            go_ret
            exact ⟨ret_i64 (by have hf := HF.out; clear HF H HCC HE HSd HGw HGB HB G1; rw [hf]; rcases he with he | he <;> simp_all), grownBy_trans HGB.out G1.out⟩

end Go.Proofs.YtfilcaolgfghcaaGreat
