/-
 Image.
 wbref1.ImageIn; and Image and Projected by the reference's tables.
-/
import Derived.Test.YtfilcaolgfghcaaGreatListsX
import Derived.Test.YtfilcaolgfghcaaGreatProj
namespace Go.Proofs.YtfilcaolgfghcaaGreat
open Go.RowKit
attribute [local go_sem ↓] Go.wp_at_zero Go.wp_at_succ

/-- The first fault of forms over a set's variables. -/
def firstErr (names : List ByteArray) : List CondD → Int
  | [] => 0
  | f :: r => if aroundErr names f = 0 then firstErr names r else aroundErr names f
theorem firstErr_snoc {names : List ByteArray} {f : CondD} : ∀ {l : List CondD}, firstErr names l = 0 → firstErr names (l ++ [f]) = aroundErr names f
  | [], _ => by by_cases h : aroundErr names f = 0 <;> simp [firstErr, h]
  | g :: r, h => by
    simp only [firstErr] at h
    by_cases hg : aroundErr names g = 0
    · rw [if_pos hg] at h
      simp only [List.cons_append, firstErr]
      rw [if_pos hg, firstErr_snoc h]
    · rw [if_neg hg] at h
      exact absurd h hg
theorem firstErr_hit {names : List ByteArray} {f : CondD} : ∀ {l : List CondD} {k : Nat}, l[k]? = some f → firstErr names (l.take k) = 0 → aroundErr names f ≠ 0 → firstErr names l = aroundErr names f
  | [], k, h, _, _ => by simp at h
  | g :: r, 0, h, _, hf => by
    simp at h
    subst h
    simp [firstErr, hf]
  | g :: r, k + 1, h, h0, hf => by
    simp only [List.take_succ_cons, firstErr] at h0
    by_cases hg : aroundErr names g = 0
    · rw [if_pos hg] at h0
      simp only [firstErr]
      rw [if_pos hg]
      exact firstErr_hit (by simpa using h) h0 hf
    · rw [if_neg hg] at h0
      exact absurd h0 hg
theorem firstErr_all {names : List ByteArray} : ∀ {l : List CondD}, firstErr names l = 0 → ∀ f ∈ l, aroundErr names f = 0
  | [], _, f, h => by cases h
  | g :: r, h0, f, h => by
    simp only [firstErr] at h0
    by_cases hg : aroundErr names g = 0
    · rw [if_pos hg] at h0
      rcases List.mem_cons.1 h with rfl | h
      · exact hg
      · exact firstErr_all h0 f h
    · rw [if_neg hg] at h0
      exact absurd h0 hg

/-- What Image answers with. -/
def imageErr (S : List SideD × List CondD) (fs : List CondD) : Int := if setErr S = 0 then (if 8 < fs.length then 2 else firstErr (namesOf S.1) fs) else setErr S
def imageOf (S : List SideD × List CondD) (fs : List CondD) : Int := if imageErr S fs = 0 then ((distL (fs.map (rowD S)) (pointsFrom S [] S.1)).length : Int) else 0

set_option maxRecDepth 100000 in
set_option maxHeartbeats 4000000 in
theorem image_any (S : List SideD × List CondD) (fs : List CondD) (sv cv lv : Value) (w : World) (hS : SetAt w sv cv S) (hl : CondsAt w lv fs) :
    Calls Tryz.prog 13 #[.agg #[sv, cv], lv] w (Gives (.tuple #[.int .i64 (imageOf S fs), .int .i64 (imageErr S fs)]) w) := by
  obtain ⟨⟨p, cap, rfl, ⟨hsl, hscc⟩, hsc⟩, ⟨pc, ccap, rfl, hcl, hcc⟩⟩ := id hS
  obtain ⟨pl, lcap, rfl, hll, hlc⟩ := id hl
  have HS := Lib.hid hS
  have HL := Lib.hid hlc
  clear hS hl hsc hcc hlc
  by_cases hE : setErr S = 0
  case neg =>
    have hE0 : (setErr S != 0) = true := by simp [hE]
    have HE := Lib.hid hE
    clear hE
    go_enter Tryz.func13, Tryz.ntmps13
    go_wp2_with (first
      | (go_at_call 40; go_must (refine (spaceOf_any S _ _ _ (HS.out.kept (World.grownBy_alloc _ _ _))).mono ?_; rintro e w1 ⟨hg1, hk0, _⟩; obtain rfl := hk0 HE.out; have G1 := Lib.hid hg1; clear hg1 hk0)))
    go_ret2
    exact ⟨by simp [imageOf, imageErr, HE.out], grownBy_trans (World.grownBy_alloc _ _ _) (grownBy_trans G1.out (World.grownBy_alloc _ _ _))⟩
  case pos =>
  have hE0 : (setErr S != 0) = false := by simp [hE]
  have hn8 := (set_good hE).1
  have HE := Lib.hid hE
  clear hE
  by_cases h8 : 8 < fs.length
  case pos =>
    have h8i : (8 : Int) < (fs.length : Int) := by omega
    go_enter Tryz.func13, Tryz.ntmps13
    go_wp2_with (first
      | (go_at_call 40; go_must (refine (spaceOf_any S _ _ _ (HS.out.kept (World.grownBy_alloc _ _ _))).mono ?_; rintro e w1 ⟨hg1, _, hk0⟩; obtain ⟨kv, rfl, hk1⟩ := hk0 HE.out; obtain ⟨pk, kcap, rfl, _, _⟩ := hk1; have G1 := Lib.hid hg1; clear hk0 hg1)))
    go_ret2
    exact ⟨by simp [imageOf, imageErr, HE.out, h8], grownBy_trans (World.grownBy_alloc _ _ _) (grownBy_trans G1.out (World.grownBy_alloc _ _ _))⟩
  case neg =>
  have h8i : ¬ (8 : Int) < (fs.length : Int) := by omega
  obtain ⟨j0, hj0, hy0, hy1, hy2⟩ := info_parts Tryz.infoRow
  go_enter Tryz.func13, Tryz.ntmps13
  go_wp2_with (first
    | (go_at_call 40; go_must (refine (spaceOf_any S _ _ _ (HS.out.kept (World.grownBy_alloc _ _ _))).mono ?_; rintro e w1 ⟨hg1, _, hk0⟩; obtain ⟨kv, rfl, hk1⟩ := hk0 HE.out; clear hk0; obtain ⟨pk, kcap, rfl, hkl, hkc⟩ := id hk1; have K2 := Lib.hid (hk1.kept (World.grownBy_alloc w1 (.cells #[.slice p S.1.length cap, .slice pk (rowsOf S).length kcap] 77) none)); have G2 := Lib.hid (grownBy_trans (World.grownBy_alloc w (.cells #[.slice p S.1.length cap, .slice pc S.2.length ccap] 29) none) (grownBy_trans hg1 (World.grownBy_alloc w1 (.cells #[.slice p S.1.length cap, .slice pk (rowsOf S).length kcap] 77) none))); have HA := Lib.hid (cell_of_two (heap_alloc_new w1 (.cells #[.slice p S.1.length cap, .slice pk (rowsOf S).length kcap] 77))); have HSz := Lib.hid (show w1.heap.size + 1 = (w1.alloc (.cells #[.slice p S.1.length cap, .slice pk (rowsOf S).length kcap] 77)).heap.size by simp); clear hg1 hk1 hkc)))
  generalize hA : w1.heap.size = A at *
  generalize hw2 : w1.alloc (.cells #[.slice p S.1.length cap, .slice pk (rowsOf S).length kcap] 77) = w2 at *
  go_loopw [8, 26] (fun rv i wr => ∃ (k : Nat) (cvs : List Value), k ≤ fs.length ∧ i = .int .i64 k ∧ Hid (firstErr (namesOf S.1) (fs.take k) = 0) ∧ Hid (((fs.take k).map (rowD S)).length = k) ∧ Hid (RSt wr (A + 1) rv ((fs.take k).map (rowD S)) cvs) ∧ Hid (w2.grownBy wr none)) (fun _ i _ => fs.length - (intOf i).toNat)
  case atStart => exact ⟨0, [], Nat.zero_le _, rfl, rfl, rfl, RSt.start _ _, grownBy_refl _ _⟩
  case round =>
    obtain ⟨k, cvs, hk, rfl, HF, HLen, HRt, HG⟩ := hrel
    have a0 := HG.out.cell HA.out.1 (by simp)
    have a1 := HG.out.cell HA.out.2.1 (by simp)
    by_cases hlt : k < fs.length
    · have h0 := List.getElem?_eq_getElem hlt
      obtain ⟨b, off, tv, rfl, h3, h4, h5, h6, h7⟩ := (HL.out k _ h0).kept (grownBy_trans G2.out HG.out)
      obtain ⟨pt, ct, rfl, htl, htc⟩ := h5
      have HT : Hid (TermsAt wr (.slice pt (fs[k]).2.length ct) (fs[k]).2) := ⟨pt, ct, rfl, htl, htc⟩
      have HTk := Lib.hid (List.take_succ_eq_append_getElem hlt)
      have HH := Lib.hid (fun h => firstErr_hit (names := namesOf S.1) h0 HF.out h)
      have HN := Lib.hid (firstErr_snoc (f := fs[k]) HF.out)
      obtain ⟨pr, rcap, hrv⟩ := own_form HRt.out.row
      rw [HLen.out] at hrv
      subst hrv
      have hA1 := HSz.out
      have hA2 := HG.out.size
      clear h0 htc
      generalize fs[k] = f at *
      obtain ⟨c, ts⟩ := f
      simp only at h3 h4 h6 h7 htl HT
      have a0a := (World.grownBy_alloc wr (.cells #[.int .i64 c, .slice pt ts.length ct] 33) none).cell a0 (by simp)
      have HCf := Lib.hid (coefs_length S.1 ts)
      by_cases hA : aroundErr (namesOf S.1) (c, ts) = 0
      case neg =>
        have hA0 : (aroundErr (namesOf S.1) (c, ts) != 0) = true := by simp [hA]
        have HA3 := Lib.hid (HH.out hA)
        clear hA
        go_wp2_with (first
          | (go_at_call 41; go_must (refine (affForm_any c ts S.1 _ _ _ (HT.out.kept (World.grownBy_alloc _ _ _)) (HS.out.1.kept (grownBy_trans G2.out (grownBy_trans HG.out (World.grownBy_alloc _ _ _))))).mono ?_; rintro e w5 ⟨rfl, hg5⟩; have G5 := Lib.hid hg5; clear hg5)))
        go_ret2
        exact ⟨by simp at hA0; simp [imageOf, imageErr, HE.out, h8, HA3.out, hA0], grownBy_trans G2.out (grownBy_trans HG.out (grownBy_trans (World.grownBy_alloc _ _ _) G5.out))⟩
      case pos =>
        have HIn := Lib.hid (around_good hA).2
        have HAz := Lib.hid hA
        clear hA
        go_wp2_with (first
          | (go_at_call 41; go_must (refine (affForm_any c ts S.1 _ _ _ (HT.out.kept (World.grownBy_alloc _ _ _)) (HS.out.1.kept (grownBy_trans G2.out (grownBy_trans HG.out (World.grownBy_alloc _ _ _))))).mono ?_; rintro e w5 ⟨rfl, hg5⟩; rw [HAz.out]; have G5 := Lib.hid (grownBy_trans (World.grownBy_alloc wr (.cells #[.int .i64 c, .slice pt ts.length ct] 33) none) hg5); have f0 := hg5.cell (show (wr.alloc (.cells #[.int .i64 c, .slice pt ts.length ct] 33)).cell? ⟨wr.heap.size, 0, none⟩ = some (.int .i64 c) by simp) (by simp); have f1 := hg5.cell (show (wr.alloc (.cells #[.int .i64 c, .slice pt ts.length ct] 33)).cell? ⟨wr.heap.size, 1, none⟩ = some (.slice pt ts.length ct) by simp) (by simp); have a05 := hg5.cell a0a (by simp); clear hg5))
          | (go_at_call 42; go_must (refine (rowOf_any c ts S.1 _ _ _ (HT.out.kept G5.out) (HS.out.1.kept (grownBy_trans G2.out (grownBy_trans HG.out G5.out))) HIn.out (by omega)).mono ?_; rintro e w6 ⟨Cb, rfl, hC, hcb, hg6⟩; have G6 := Lib.hid (grownBy_trans G5.out hg6); have HCb := Lib.hid hcb; have HC := Lib.hid (show wr.heap.size ≤ Cb by have := G5.out.size; omega); have hsz6 := G6.out.size; clear hC hcb hg6))
          | (at_builtin; go_must (refine wpList_append_lies _ rfl _ _ 75 rfl (A + 1) 79 j0 (.agg #[.int .i64 0, .slice none 0 0]) 2 32 Tryz.underlying75 hj0 hy0 hy1 hy2 rfl (by decide) (.slice pr k rcap) ((fs.take k).map (rowD S)).length ((((fs.take k).map (rowD S)).zip cvs).flatMap rowCells) rfl (World.ownsRow.alloc (owns_kept HRt.out.row G6.out) _) ⟨w6.heap.size, 0, none⟩ 1 1 (rowCells ((c, coefsOf S.1 ts), .slice (some ⟨Cb, 0, none⟩) S.1.length S.1.length)) rfl rfl news_at (by simp [rowCells, Value.oneCell']) (by decide) (by have := HLen.out; unfold maxLen; omega) (by have := HLen.out; omega) (by simp; omega) (w6.heap.size + 1) (by simp) ?_; intro g ncap w7 hown7 hgrow7 hat _; have O7 := Lib.hid hown7; have A7 := Lib.hid hat; have G7 := Lib.hid hgrow7; clear hown7 hgrow7 hat)))
        go_roundw
        case rel =>
          have hlen := HLen.out
          have e1 : (fs.take (k + 1)).map (rowD S) = (fs.take k).map (rowD S) ++ [(c, coefsOf S.1 ts)] := by rw [HTk.out, List.map_append]; rfl
          refine ⟨k + 1, cvs ++ [.slice (some ⟨Cb, 0, none⟩) S.1.length S.1.length], by omega, by go_num, ?_, ?_, ?_, ?_⟩
          · show _ = _
            rw [HTk.out, HN.out, HAz.out]
          · show _ = _
            rw [e1, List.length_append, hlen]
            rfl
          · have hcf := HCf.out
            have h := HRt.out.push (w1 := w6) (r := (c, coefsOf S.1 ts)) (by omega) G6.out HC.out HCb.out G7.out (by rw [hcf]; exact O7.out) (by rcases A7.out with h | h; exact .inl h; exact .inr (by omega))
            rw [hcf, hlen] at h
            show RSt _ _ _ _ _
            rw [e1]
            exact h
          · exact grown_own (grownBy_trans HG.out (grownBy_trans G6.out (World.grownBy_alloc _ _ _))) G7.out (fun i hi => by have := (HRt.out.row.lt _ hi).1; omega)
        case measure => simp [intOf]; omega
    · obtain rfl : k = fs.length := by omega
      have hrt := HRt.out
      have hfe := HF.out
      rw [List.take_length] at hrt hfe
      obtain ⟨pr, rcap, hrv⟩ := own_form hrt.row
      rw [List.length_map] at hrv
      subst hrv
      have hgd : ∀ r ∈ fs.map (rowD S), goodRow S.1.length r := fun r hr => by
        obtain ⟨f, hf, rfl⟩ := List.mem_map.1 hr
        exact coefs_good (around_good (firstErr_all hfe f hf)).1
      have H := Lib.hid (listsI_any S (.slice p S.1.length cap) (.slice pk (rowsOf S).length kcap) (.slice pr fs.length rcap) (fs.map (rowD S)) wr.heap.size wr (wr.alloc (.cells #[.int .i64 0] 3)) (HS.out.1.kept (grownBy_trans G2.out HG.out)) (K2.out.kept HG.out) HE.out (hrt.rows (n := S.1.length) (by simp; omega) (by omega) hgd) hgd (by simp; omega) (World.grownBy_alloc _ _ _) (Nat.le_refl _) (by simp) (heap_alloc_new _ _))
      unfold fvImg at H
      have a0a := (World.grownBy_alloc wr (.cells #[.int .i64 0] 3) none).cell a0 (by simp)
      have a1a := (World.grownBy_alloc wr (.cells #[.int .i64 0] 3) none).cell a1 (by simp)
      clear hrt hgd
      go_wp2_with (first
        | (go_at_call 43; go_must (refine H.out.mono ?_; rintro e w8 ⟨rfl, hg8, hm8⟩; have G8 := Lib.hid hg8; have m0 := (one_cell hm8).1; clear hg8 hm8)))
      go_ret2
      exact ⟨by simp [imageOf, imageErr, HE.out, h8, hfe], grownBy_trans G2.out (grownBy_trans HG.out G8.out)⟩

end Go.Proofs.YtfilcaolgfghcaaGreat

namespace Go.Proofs.YtfilcaolgfghcaaGreat
open Go.RowKit
attribute [local go_sem ↓] Go.wp_at_zero Go.wp_at_succ

theorem firsts_dist (rs : List RowD) : ∀ (ps d : List (List Int)), firsts d (ps.map (valsOf rs)) = ps.foldl (distStep rs) d
  | [], d => rfl
  | p :: ps, d => by
    simp only [List.map_cons, firsts, List.foldl_cons]
    unfold distStep
    split
    · exact firsts_dist rs ps d
    · exact firsts_dist rs ps _
theorem dist_firsts (rs : List RowD) (ps : List (List Int)) : distL rs ps = firsts [] (ps.map (valsOf rs)) := (firsts_dist rs ps []).symm

/-- The rows' values are those of the forms. -/
theorem vals_eq {S : List SideD × List CondD} {fl : List CondD} (h : setErr S = 0) (hf : ∀ f ∈ fl, aroundErr (namesOf S.1) f = 0) : ∀ pt ∈ pointsFrom S [] S.1, valsOf (fl.map (rowD S)) pt = valsF S.1 fl pt := by
  intro pt hpt
  unfold valsOf valsF
  rw [List.map_map]
  refine List.map_congr_left fun f hm => ?_
  exact rowD_val (by unfold overErr; rw [if_pos h]; exact hf f hm) pt hpt
theorem dist_table {S : List SideD × List CondD} {fl : List CondD} (h : setErr S = 0) (hf : ∀ f ∈ fl, aroundErr (namesOf S.1) f = 0) : distL (fl.map (rowD S)) (pointsFrom S [] S.1) = firsts [] ((pointsFrom S [] S.1).map (valsF S.1 fl)) := by
  rw [dist_firsts, List.map_congr_left (vals_eq h hf)]

theorem image_table {S : List SideD × List CondD} {fl : List CondD} {t : List (List Int)} (h : imageErr S fl = 0) (ht : t.Perm ((pointsFrom S [] S.1).map (valsF S.1 fl))) (hr : Rising t) : imageOf S fl = ((compactL t).length : Int) := by
  have h1 : setErr S = 0 := by
    unfold imageErr at h
    by_cases h1 : setErr S = 0
    · exact h1
    · rw [if_neg h1] at h; exact absurd h h1
  have h2 : firstErr (namesOf S.1) fl = 0 := by
    unfold imageErr at h
    rw [if_pos h1] at h
    split at h
    · cases h
    · exact h
  unfold imageOf
  rw [if_pos h, dist_table h1 (firstErr_all h2), table_len ht hr]

set_option maxHeartbeats 1000000 in
theorem imageIn_any (S : List SideD × List CondD) (fl : List CondD) (sv cv lv : Value) (w : World) (hS : SetAt w sv cv S) (hgood : setErr S = 0) (hl : CondsAt w lv fl) (hf : ∀ f ∈ fl, formErr f.1 f.2 = 0) (hf8 : fl.length ≤ 8) :
    Calls Tryz.prog 19 #[.agg #[sv, cv], lv] w (fun e w' => ∃ t : List (List Int), e = .returned (.int .i64 ((compactL t).length : Int)) ∧ t.Perm ((pointsFrom S [] S.1).map (valsF S.1 fl)) ∧ Rising t ∧ w.grownBy w' none) := by
  obtain ⟨⟨p, cap, rfl, _, _⟩, ⟨pc, ccap, rfl, _, _⟩⟩ := id hS
  obtain ⟨pl, lcap, rfl, _, _⟩ := id hl
  have HS := Lib.hid hS
  have HL := Lib.hid hl
  clear hS hl
  go_enter Tryz.func19, Tryz.ntmps19
  go_wp2_with (first
    | (go_at_call 57; go_must (refine (tables_any S fl _ _ _ _ (HS.out.kept (World.grownBy_alloc _ _ _)) hgood (HL.out.kept (World.grownBy_alloc _ _ _)) hf hf8).mono ?_; rintro e w1 ⟨v, t, rfl, ht, hr, hat, hg1⟩; obtain ⟨pv, vcap, rfl, _, _⟩ := hat; have HT := Lib.hid ht; have HR := Lib.hid hr; have G1 := Lib.hid hg1; clear ht hr hg1)))
  go_ret
  exact ⟨t, rfl, HT.out, HR.out, grownBy_trans (World.grownBy_alloc _ _ _) G1.out⟩

end Go.Proofs.YtfilcaolgfghcaaGreat
