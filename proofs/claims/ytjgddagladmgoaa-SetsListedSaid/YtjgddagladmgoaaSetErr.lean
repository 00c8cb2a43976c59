/-
 wbref1.SetFault: the error of a set.
-/
import Derived.Test.YtjgddagladmgoaaSet
namespace Go.Proofs.Ytjgddagladmgoaa
open Go.RowKit

theorem Try.infoStr : (Try.prog.info? 9).map (fun i => (i.zero, i.size, i.bytes)) = some (some (.string ByteArray.empty), 1, 16) := by kernel_rfl

set_option maxRecDepth 100000 in
set_option maxHeartbeats 2000000 in
theorem setFault_any (S : List SideD × List CondD) (sv cv : Value) (w : World) (hS : SetAt w sv cv S) :
    Calls Try.prog 6 #[.agg #[sv, cv]] w (Gives (.int .i64 (setErr S)) w) := by
  obtain ⟨sides, conds⟩ := S
  obtain ⟨⟨p, cap, hsv, ⟨hl, _⟩, hc⟩, hcv⟩ := hS
  simp only at hsv hl hc hcv
  subst hsv
  have H := Lib.hid hc
  have HC := Lib.hid hcv
  clear hc hcv
  obtain ⟨i0, hi, hz0, hz1, hz2⟩ := info_parts Try.infoStr
  by_cases hlen8 : 8 < sides.length
  · go_enter Try.func6, Try.ntmps6
    go_wp2
    go_ret
    exact ⟨ret_i64 (by simp [setErr, hlen8]), World.grownBy_alloc _ _ _⟩
  go_enter Try.func6, Try.ntmps6
  go_wp2
  go_loopw [3, 21] (fun nv i wr => ∃ k : Nat, k ≤ sides.length ∧ i = .int .i64 k ∧ Hid (sidesErr (namesOf (sides.take k)) (sides.drop k) = sidesErr [] sides) ∧
      Hid ((w.alloc (.cells #[.slice p sides.length cap, cv] 29)).grownBy wr none) ∧
      Hid (wr.ownsRow (w.heap.size + 1) 9 1 nv (namesOf (sides.take k)).length ((namesOf (sides.take k)).map Value.string))) (fun _ i _ => sides.length - (intOf i).toNat)
  case atStart => exact ⟨0, Nat.zero_le _, rfl, rfl, grownBy_refl _ _, World.ownsRow_nil _ _ _ _⟩
  case round =>
    obtain ⟨k, hk, rfl, HR, HG, HO⟩ := hrel
    by_cases hlt : k < sides.length
    · have h0 := List.getElem?_eq_getElem hlt
      have hgw : w.grownBy wr none := grownBy_trans (World.grownBy_alloc _ _ _) HG.out
      obtain ⟨b, off, rfl, h3, ⟨h4, h4'⟩, ⟨h5, h5'⟩, h6, h7, h8⟩ := (H.out k _ h0).kept hgw
      have HS := Lib.hid (sidesErr_drop (namesOf (sides.take k)) h0)
      have HL := Lib.hid (namesOf_take h0)
      generalize hn : (sides[k]).1 = n at *
      generalize hlo : (sides[k]).2.1 = lo at *
      generalize hhi : (sides[k]).2.2 = hi' at *
      have G := Lib.hid hgw
      have hnl := Lib.hid (namesOf_len sides k hk)
      clear hgw h0 hn hlo hhi
      go_wp2_with (first | (go_at_call 28; refine (in_any _ _ _ _).mono ?_; rintro e w' ⟨rfl, rfl⟩) | (go_at_call 26; refine (name_any _ _ ‹_›).mono ?_; rintro e w' ⟨rfl, hg1⟩; have q0 : w'.cell? ⟨wr.heap.size, 0, none⟩ = some (.string n) := hg1.cell (by simp) (by simp); have q1 : w'.cell? ⟨wr.heap.size, 1, none⟩ = some (.int .i64 lo) := hg1.cell (by simp) (by simp); have q2 : w'.cell? ⟨wr.heap.size, 2, none⟩ = some (.int .i64 hi') := hg1.cell (by simp) (by simp); have G1 := Lib.hid hg1; clear hg1) | (go_at_call 27; refine (contains_any _ (namesOf (sides.take k)) _ _ (strs_of_owns (owns_kept HO.out (grownBy_trans (World.grownBy_alloc _ _ _) G1.out)) (by rw [hnl.out]; unfold maxLen; omega))).mono ?_; rintro e w'' ⟨rfl, rfl⟩) | (at_builtin; refine append_one rfl _ _ 51 rfl (w.heap.size + 1) 9 i0 (.string ByteArray.empty) 1 16 Try.underlying51 hi hz0 hz1 hz2 rfl (by decide) (by decide) _ _ _ [.string n] rfl (owns_kept HO.out (grownBy_trans (World.grownBy_alloc _ _ _) G1.out)) rfl rfl (by simp [Value.oneCell']) (by rw [hnl.out]; omega) (Nat.le_trans (by have := HG.out.size; simpa using this) (Nat.le_trans (World.grownBy_alloc _ _ none).size G1.out.size)) ?_; intro v' w1 hown' hgrow'; have HO' := Lib.hid hown'; have HG' := Lib.hid hgrow'; clear hown' hgrow'))
      all_goals first
        | (go_ret
           exact ⟨ret_i64 (setErr_1 (S := (sides, conds)) hlen8 (by rw [← HR.out, HS.out]; clear HR HS H HG HO HC G G1 HL hnl; simp_all [sideBad]) (by decide)).symm, grownBy_trans G.out (grownBy_trans (World.grownBy_alloc _ _ _) G1.out)⟩)
        | (go_roundw
           case rel => exact ⟨k + 1, by omega, by go_num, by show _ = _; rw [HL.out, ← HR.out, HS.out]; clear HR HS H HG HO HC G G1 HL hnl; simp_all [sideBad], HG'.out _ (by simp) (grownBy_trans HG.out (grownBy_trans (World.grownBy_alloc _ _ _) G1.out)), by show World.ownsRow _ _ _ _ _ _ _; rw [HL.out]; simpa using HO'.out⟩
           case measure => simp [intOf]; omega)
    · obtain rfl : k = sides.length := by omega
      have hbox : wr.cell? ⟨w.heap.size, 1, none⟩ = some cv := HG.out.cell (by simp) (by simp)
      have hbox0 : wr.cell? ⟨w.heap.size, 0, none⟩ = some (.slice p sides.length cap) := HG.out.cell (by simp) (by simp)
      have HGw : Hid (w.grownBy wr none) := grownBy_trans (World.grownBy_alloc _ _ _) HG.out
      have HE := Lib.hid (show sidesErr [] sides = 0 by rw [← HR.out]; simp [sidesErr])
      have HN := Lib.hid (strs_of_owns (zs := namesOf sides) (by have := HO.out; rwa [List.take_length] at this) (by simp [namesOf]; unfold maxLen; omega))
      obtain ⟨pc, ccap, rfl, hcl, hcc⟩ := HC.out
      have HCC := Lib.hid hcc
      clear hcc HR HO HC
      rename_i nv
      generalize wr = wA at *
      by_cases h60 : 60 < conds.length
      · go_wp2
        go_ret
        exact ⟨ret_i64 (setErr_2 (S := (sides, conds)) hlen8 HE.out h60).symm, HGw.out⟩
      go_wp2
      go_loopw [59] (fun i wr => ∃ k : Nat, k ≤ conds.length ∧ i = .int .i64 k ∧ Hid (condsErr (namesOf sides) (conds.drop k) = condsErr (namesOf sides) conds) ∧ Hid (wA.grownBy wr none)) (fun i _ => conds.length - (intOf i).toNat)
      case atStart => exact ⟨0, Nat.zero_le _, rfl, rfl, grownBy_refl _ _⟩
      case round =>
        obtain ⟨k, hk, rfl, HR, HGA⟩ := hrel
        by_cases hlt : k < conds.length
        · have h0 := List.getElem?_eq_getElem hlt
          have hgw : w.grownBy wr none := grownBy_trans HGw.out HGA.out
          obtain ⟨b, off, tv, rfl, h3, h4, h5, h6, h7⟩ := (HCC.out k _ h0).kept hgw
          have HS := Lib.hid (condsErr_drop (names := namesOf sides) h0)
          generalize hc : (conds[k]).1 = c at *
          generalize hts : (conds[k]).2 = ts at *
          obtain ⟨pt, ct, rfl, htl, htc⟩ := h5
          have HT : Hid (TermsAt wr (.slice pt ts.length ct) ts) := ⟨pt, ct, rfl, htl, htc⟩
          clear htc hc hts
          have G := Lib.hid hgw
          clear hgw h0
          go_wp2_with (first | (go_at_call 29; refine (around_any c ts (namesOf sides) (.slice pt ts.length ct) _ _ (HT.out.kept (World.grownBy_alloc _ _ _)) (HN.out.kept (grownBy_trans HGA.out (World.grownBy_alloc _ _ _)))).mono ?_; rintro e w' ⟨rfl, hg1⟩; have G1 := Lib.hid hg1; clear hg1))
          · have he : aroundErr (namesOf sides) (c, ts) ≠ 0 := by simpa using ‹(aroundErr (namesOf sides) (c, ts) != 0) = true›
            go_ret
            exact ⟨ret_i64 (setErr_3 (S := (sides, conds)) hlen8 HE.out h60 (by rw [← HR.out, HS.out, if_neg (by simpa using he)]) he).symm, grownBy_trans G.out (grownBy_trans (World.grownBy_alloc _ _ _) G1.out)⟩
          · have he : aroundErr (namesOf sides) (c, ts) = 0 := by simpa using ‹(aroundErr (namesOf sides) (c, ts) != 0) = false›
            go_roundw
            case rel => exact ⟨k + 1, by omega, by go_num, by show _ = _; rw [← HR.out, HS.out, if_pos (by simpa using he)], grownBy_trans HGA.out (grownBy_trans (World.grownBy_alloc _ _ _) G1.out)⟩
            case measure => simp [intOf]; omega
        · obtain rfl : k = conds.length := by omega
          have HF := Lib.hid (setErr_4 (S := (sides, conds)) hlen8 HE.out h60 (by rw [← HR.out]; simp [condsErr]))
          have hb0 := HGA.out.cell hbox0 (by simp)
          have HGB : Hid (w.grownBy wr none) := grownBy_trans HGw.out HGA.out
          clear HR HGA hbox hbox0 HCC HN HG HGw
          generalize wr = wB at *
          go_wp2
          go_loopw [73] (fun i wr => ∃ k : Nat, k ≤ sides.length ∧ i = .int .i64 k ∧ Hid (emptyB (sides.take k) = false) ∧ Hid (wB.grownBy wr none)) (fun i _ => sides.length - (intOf i).toNat)
          case atStart => exact ⟨0, Nat.zero_le _, rfl, rfl, grownBy_refl _ _⟩
          case round =>
            obtain ⟨k, hk, rfl, HR, HGC⟩ := hrel
            by_cases hlt : k < sides.length
            · have h0 := List.getElem?_eq_getElem hlt
              have hgw : w.grownBy wr none := grownBy_trans HGB.out HGC.out
              obtain ⟨b, off, rfl, h3, ⟨h4, h4'⟩, ⟨h5, h5'⟩, h6, h7, h8⟩ := (H.out k _ h0).kept hgw
              have HS := Lib.hid (emptyB_snoc h0)
              have HT := fun h => emptyB_stop h0 h
              generalize hn : (sides[k]).1 = n at *
              generalize hlo : (sides[k]).2.1 = lo at *
              generalize hhi : (sides[k]).2.2 = hi' at *
              have HT := Lib.hid HT
              have G := Lib.hid hgw
              clear hgw h0 hn hlo hhi
              go_wp2
              · have he : hi' < lo := by assumption
                go_ret
                exact ⟨ret_i64 (by rw [HF.out, HT.out he]; rfl), grownBy_trans G.out (World.grownBy_alloc _ _ _)⟩
              · have he : ¬ hi' < lo := by omega
                go_roundw
                case rel => exact ⟨k + 1, by omega, by go_num, by show _ = _; rw [HS.out, HR.out]; simpa using he, grownBy_trans HGC.out (World.grownBy_alloc _ _ _)⟩
                case measure => simp [intOf]; omega
            · obtain rfl : k = sides.length := by omega
              have HNE := Lib.hid (show emptyB sides = false by have := HR.out; rwa [List.take_length] at this)
              have hb0' := HGC.out.cell hb0 (by simp)
              have HGD : Hid (w.grownBy wr none) := grownBy_trans HGB.out HGC.out
              clear HR HGC hb0 HGB
              generalize wr = wD at *
              go_wp2
              go_loopw [9, 86] (fun n i wr => ∃ k : Nat, ∃ q : Int, k ≤ sides.length ∧ i = .int .i64 k ∧ n = .int .i64 q ∧ 0 ≤ q ∧ q ≤ 200000 ∧ Hid (boxOver q (sides.drop k) = boxOver 1 sides) ∧ Hid (wD.grownBy wr none)) (fun _ i _ => sides.length - (intOf i).toNat)
              case atStart => exact ⟨0, 1, Nat.zero_le _, rfl, rfl, by omega, by omega, rfl, grownBy_refl _ _⟩
              case round =>
                obtain ⟨k, q, hk, rfl, rfl, hq0, hq1, HR, HGC⟩ := hrel
                by_cases hlt : k < sides.length
                · have h0 := List.getElem?_eq_getElem hlt
                  have hgw : w.grownBy wr none := grownBy_trans HGD.out HGC.out
                  obtain ⟨b, off, rfl, h3, ⟨h4, h4'⟩, ⟨h5, h5'⟩, h6, h7, h8⟩ := (H.out k _ h0).kept hgw
                  have HS := Lib.hid (boxOver_drop q h0)
                  obtain ⟨r1, r2, r3, r4⟩ := side_range (sides_good [] HE.out _ (List.getElem_mem hlt)).2
                  have r5 := not_empty HNE.out (List.getElem_mem hlt)
                  generalize hn : (sides[k]).1 = n at *
                  generalize hlo : (sides[k]).2.1 = lo at *
                  generalize hhi : (sides[k]).2.2 = hi' at *
                  have G := Lib.hid hgw
                  clear hgw h0 hn hlo hhi
                  have m1 : 0 ≤ q * (hi' - lo + 1) := Int.mul_nonneg hq0 (by omega)
                  have m2 : q * (hi' - lo + 1) ≤ 200000 * 2000001 := Int.mul_le_mul hq1 (by omega) (by omega) (by omega)
                  go_wp2
                  · have he : 200000 < q * (hi' - lo + 1) := by assumption
                    go_ret
                    exact ⟨ret_i64 (by rw [HF.out, HNE.out, ← HR.out, HS.out, if_pos he]; rfl), grownBy_trans G.out (World.grownBy_alloc _ _ _)⟩
                  · have he : ¬ 200000 < q * (hi' - lo + 1) := by omega
                    have he' : q * (hi' - lo + 1) ≤ 200000 := by omega
                    go_roundw
                    case rel => exact ⟨k + 1, _, by omega, by go_num, rfl, m1, he', by show _ = _; rw [← HR.out, HS.out, if_neg he], grownBy_trans HGC.out (World.grownBy_alloc _ _ _)⟩
                    case measure => simp [intOf]; omega
                · obtain rfl : k = sides.length := by omega
                  go_wp2
                  go_ret
                  exact ⟨ret_i64 (by rw [HF.out, HNE.out, ← HR.out]; simp [boxOver]), grownBy_trans HGD.out HGC.out⟩

end Go.Proofs.Ytjgddagladmgoaa
