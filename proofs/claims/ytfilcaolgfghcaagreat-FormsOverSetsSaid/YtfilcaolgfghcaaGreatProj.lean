/-
 Projected.
-/
import Derived.Test.YtfilcaolgfghcaaGreatNamesC
import Derived.Test.YtfilcaolgfghcaaGreatTables
namespace Go.Proofs.YtfilcaolgfghcaaGreat
open Go.RowKit Go.Shelf
attribute [local go_sem ↓] Go.wp_at_zero Go.wp_at_succ

theorem namesGo_all {sn : List ByteArray} : ∀ (ns pre : List ByteArray), namesGo sn pre ns = 0 → ∀ x ∈ ns, nameErr sn x = 0
  | [], _, _, x, h => by cases h
  | y :: r, pre, h0, x, h => by
    simp only [namesGo] at h0
    by_cases hy : nameErr sn y = 0
    · rw [if_pos hy] at h0
      split at h0
      · cases h0
      · rcases List.mem_cons.1 h with rfl | h
        · exact hy
        · exact namesGo_all r _ h0 x h
    · rw [if_neg hy] at h0
      exact absurd h0 hy
theorem nameErr_good {sn : List ByteArray} {x : ByteArray} (h : nameErr sn x = 0) : formErr 0 [(x, 1)] = 0 ∧ termsIn sn [(x, 1)] = true := by
  unfold nameErr at h
  by_cases h1 : nameB x = true
  · rw [if_pos h1] at h
    by_cases h2 : containsB sn x = true
    · have h3 := varErr x
      rw [h1] at h3
      exact ⟨by simpa using h3, by simp [termsIn, h2]⟩
    · rw [if_neg h2] at h; cases h
  · rw [if_neg h1] at h; cases h

def varRow (S : List SideD × List CondD) (x : ByteArray) : RowD := (0, coefsOf S.1 [(x, 1)])
/-- What Projected answers with. -/
def projErr (S : List SideD × List CondD) (ns : List ByteArray) : Int :=
  if setErr S = 0 then (if namesErr (namesOf S.1) ns = 0 then (if (distL (ns.map (varRow S)) (pointsFrom S [] S.1)).length ≤ 5000 then 0 else 12) else namesErr (namesOf S.1) ns) else setErr S
def ProjPost (S : List SideD × List CondD) (ns : List ByteArray) (w : World) (e : Ending) (w' : World) : Prop :=
  ∃ v t, e = .returned (.tuple #[v, .int .i64 (projErr S ns)]) ∧ RowsAt w' v t ∧ w.grownBy w' none ∧ (projErr S ns = 0 → t.Perm (distL (ns.map (varRow S)) (pointsFrom S [] S.1)) ∧ Rising t) ∧ (projErr S ns ≠ 0 → t = [])
theorem rowsNil (w : World) : RowsAt w (.slice none 0 0) [] := ⟨none, 0, rfl, by simp, fun j x hj => by simp at hj⟩

theorem sortList_any (P : Nat) (ov : Value) (vs : List Value) (L : List (List Int)) (w : World) (h : w.ownsRow P 22 1 ov L.length vs) (hr : RowsAre w P ov.ownBlock vs L) (hl : ∀ p ∈ L, p.length ≤ 1000) (hb : ∀ p ∈ L, ∀ x ∈ p, -9223372036854775808 ≤ x ∧ x ≤ 9223372036854775807) (hn : L.length ≤ 1000000) :
    Calls Tryz.prog 48 #[ov, .func (.func 49) #[] #[]] w (fun e w' => e = .returned (.tuple #[]) ∧ ∃ t, t.Perm L ∧ Rising t ∧ RowsAt w' ov t ∧ w.grownBy w' ov.ownBlock) := by
  rcases Nat.eq_zero_or_pos L.length with h0 | hpos
  · obtain rfl := List.eq_nil_of_length_eq_zero h0
    obtain ⟨q, c, rfl⟩ := own_form h
    have hcon := AnyF.slices_SortFunc_none { Tryz.sortRows with } q c (.func (.func 49) #[] #[]) w
    change Calls Tryz.prog 48 _ _ _ at hcon
    refine hcon.mono ?_
    rintro e w' ⟨rfl, rfl⟩
    exact ⟨rfl, [], List.Perm.refl _, List.Pairwise.nil, ⟨q, c, rfl, by simp, fun j x hj => by simp at hj⟩, grownBy_refl _ _⟩
  · obtain ⟨g, c, rfl, _, _⟩ := World.ownsRow.form h hpos
    refine (sortRows_any P g L.length c L vs w rfl hn h (rowsSt_of (P := P) hr hl hb)).mono ?_
    rintro e w' ⟨rfl, t, us, ht, hri, hown, hrs, hg⟩
    exact ⟨rfl, t, ht, hri, rowsAt_of hown hrs ht.length_eq hn, hg⟩

theorem dist_lists {S : List SideD × List CondD} {rs : List RowD} (hg : ∀ r ∈ rs, goodRow S.1.length r) (hn : S.1.length ≤ 8) (h : setErr S = 0) : ∀ v ∈ distL rs (pointsFrom S [] S.1), v.length = rs.length ∧ ∀ x ∈ v, -9223372036854775808 ≤ x ∧ x ≤ 9223372036854775807 := by
  have hp := points_good S S.1 [] (fun s hs => (sides_good [] (set_good h).2.1 s hs).2) (fun x hx => by cases hx)
  intro v hv
  rcases distL_mem rs _ [] v hv with h1 | ⟨pt, hpt, rfl⟩
  · cases h1
  · obtain ⟨q1, q2⟩ := hp pt hpt
    refine ⟨by simp [valsOf], fun x hx => ?_⟩
    obtain ⟨r, hr, rfl⟩ := List.mem_map.1 hx
    have hb := dot_bound r.2 pt pt.length (hg r hr).2.2 q2
    rw [List.take_length] at hb
    have h2 := (hg r hr).2.1
    simp at q1
    unfold rowVal
    constructor <;> omega

set_option maxRecDepth 100000 in
set_option maxHeartbeats 4000000 in
theorem projected_any (S : List SideD × List CondD) (ns : List ByteArray) (sv cv nv : Value) (w : World) (hS : SetAt w sv cv S) (hn : StrsAt w nv ns) (hx : ∀ s ∈ ns, s.size ≤ maxLen) (hcap : ∃ p cap, nv = .slice p ns.length cap ∧ ns.length ≤ cap) :
    Calls Tryz.prog 14 #[.agg #[sv, cv], nv] w (ProjPost S ns w) := by
  obtain ⟨⟨p, cap, rfl, ⟨hsl, hscc⟩, hsc⟩, ⟨pc, ccap, rfl, hcl, hcc⟩⟩ := id hS
  obtain ⟨pl, lcap, rfl, hlcap⟩ := hcap
  obtain ⟨_, _, _, hnl, hnc⟩ := id hn
  have hnm := hnl
  unfold maxLen at hnm
  have HS := Lib.hid hS
  have HN := Lib.hid hn
  have HX := Lib.hid hx
  clear hS hn hsc hcc hnc hx
  by_cases hE : setErr S = 0
  case neg =>
    have hE0 : (setErr S != 0) = true := by simp [hE]
    have HE := Lib.hid hE
    have HPe := Lib.hid (show projErr S ns = setErr S by simp [projErr, hE])
    clear hE
    go_enter Tryz.func14, Tryz.ntmps14
    go_wp2_with (first
      | (go_at_call 40; go_must (refine (spaceOf_any S _ _ _ (HS.out.kept (World.grownBy_alloc _ _ _))).mono ?_; rintro e w1 ⟨hg1, hk0, _⟩; obtain rfl := hk0 HE.out; have G1 := Lib.hid hg1; clear hg1 hk0)))
    go_ret2
    exact ⟨.slice none 0 0, [], by rw [HPe.out]; rfl, rowsNil _, grownBy_trans (World.grownBy_alloc _ _ _) (grownBy_trans G1.out (World.grownBy_alloc _ _ _)), fun h => absurd (HPe.out.symm.trans h) HE.out, fun _ => rfl⟩
  case pos =>
  have hE0 : (setErr S != 0) = false := by simp [hE]
  have hn8 := (set_good hE).1
  have HE := Lib.hid hE
  clear hE
  by_cases hNe : namesErr (namesOf S.1) ns = 0
  case neg =>
    have hN0 : (namesErr (namesOf S.1) ns != 0) = true := by simp [hNe]
    have HNe := Lib.hid hNe
    have HPe := Lib.hid (show projErr S ns = namesErr (namesOf S.1) ns by simp [projErr, HE.out, hNe])
    clear hNe
    go_enter Tryz.func14, Tryz.ntmps14
    go_wp2_with (first
      | (go_at_call 40; go_must (refine (spaceOf_any S _ _ _ (HS.out.kept (World.grownBy_alloc _ _ _))).mono ?_; rintro e w1 ⟨hg1, _, hk0⟩; obtain ⟨kv, rfl, hk1⟩ := hk0 HE.out; obtain ⟨pk, kcap, rfl, _, _⟩ := hk1; have G2 := Lib.hid (grownBy_trans (World.grownBy_alloc w (.cells #[.slice p S.1.length cap, .slice pc S.2.length ccap] 29) none) (grownBy_trans hg1 (World.grownBy_alloc w1 (.cells #[.slice p S.1.length cap, .slice pk (rowsOf S).length kcap] 77) none))); clear hk0 hg1))
      | (go_at_call 45; go_must (refine (checkNames_any ns _ _ S.1 _ (HN.out.kept G2.out) HX.out (HS.out.1.kept G2.out) ⟨_, _, rfl, hlcap⟩).mono ?_; rintro e w3 ⟨rfl, hg3⟩; have G3 := Lib.hid hg3; clear hg3)))
    go_ret2
    exact ⟨.slice none 0 0, [], by rw [HPe.out]; rfl, rowsNil _, grownBy_trans G2.out G3.out, fun h => absurd (HPe.out.symm.trans h) HNe.out, fun _ => rfl⟩
  case pos =>
  have h8 : ns.length ≤ 8 := by
    unfold namesErr at hNe
    by_cases h : 8 < ns.length
    · rw [if_pos h] at hNe; cases hNe
    · omega
  have HAll := Lib.hid (fun x hx => nameErr_good (namesGo_all (sn := namesOf S.1) ns [] (by unfold namesErr at hNe; rwa [if_neg (by omega)] at hNe) x hx))
  have HNe := Lib.hid hNe
  clear hNe
  obtain ⟨j0, hj0, hy0, hy1, hy2⟩ := info_parts Tryz.infoRow
  go_enter Tryz.func14, Tryz.ntmps14
  go_wp2_with (first
    | (go_at_call 40; go_must (refine (spaceOf_any S _ _ _ (HS.out.kept (World.grownBy_alloc _ _ _))).mono ?_; rintro e w1 ⟨hg1, _, hk0⟩; obtain ⟨kv, rfl, hk1⟩ := hk0 HE.out; clear hk0; obtain ⟨pk, kcap, rfl, hkl, hkc⟩ := id hk1; have K1 := Lib.hid (hk1.kept (World.grownBy_alloc w1 (.cells #[.slice p S.1.length cap, .slice pk (rowsOf S).length kcap] 77) none)); have G1 := Lib.hid (grownBy_trans (World.grownBy_alloc w (.cells #[.slice p S.1.length cap, .slice pc S.2.length ccap] 29) none) (grownBy_trans hg1 (World.grownBy_alloc w1 (.cells #[.slice p S.1.length cap, .slice pk (rowsOf S).length kcap] 77) none))); have HA := Lib.hid (cell_of_two (heap_alloc_new w1 (.cells #[.slice p S.1.length cap, .slice pk (rowsOf S).length kcap] 77))); have HSz0 := Lib.hid (show w1.heap.size + 1 = (w1.alloc (.cells #[.slice p S.1.length cap, .slice pk (rowsOf S).length kcap] 77)).heap.size by simp); clear hg1 hk1 hkc))
    | (go_at_call 45; go_must (refine (checkNames_any ns _ _ S.1 _ (HN.out.kept G1.out) HX.out (HS.out.1.kept G1.out) ⟨_, _, rfl, hlcap⟩).mono ?_; rintro e w2 ⟨rfl, hg2⟩; rw [HNe.out]; have G2 := Lib.hid (grownBy_trans G1.out hg2); have K2 := Lib.hid (K1.out.kept hg2); have A2 := Lib.hid (show _ ∧ _ from ⟨hg2.cell HA.out.1 (by simp), hg2.cell HA.out.2.1 (by simp)⟩); have HSz := Lib.hid (show w1.heap.size + 1 ≤ w2.heap.size by have := HSz0.out; have := hg2.size; omega); clear hg2)))
  generalize hA : w1.heap.size = A at *
  go_loopw [9, 31] (fun rv i wr => ∃ (k : Nat) (cvs : List Value), k ≤ ns.length ∧ i = .int .i64 k ∧ Hid (((ns.take k).map (varRow S)).length = k) ∧ Hid (RSt wr w2.heap.size rv ((ns.take k).map (varRow S)) cvs) ∧ Hid (w2.grownBy wr none)) (fun _ i _ => ns.length - (intOf i).toNat)
  case atStart => exact ⟨0, [], Nat.zero_le _, rfl, rfl, RSt.start _ _, grownBy_refl _ _⟩
  case round =>
    obtain ⟨k, cvs, hk, rfl, HLen, HRt, HG⟩ := hrel
    have a0 := HG.out.cell A2.out.1 (by simp)
    have a1 := HG.out.cell A2.out.2 (by simp)
    by_cases hlt : k < ns.length
    · have h0 := List.getElem?_eq_getElem hlt
      obtain ⟨p', cap', hv, _, hc⟩ := HN.out.kept (grownBy_trans G2.out HG.out)
      obtain ⟨rfl, _, rfl⟩ := Value.slice.inj hv
      obtain ⟨b, off, rfl, h3⟩ := hc k _ h0
      have HTk := Lib.hid (List.take_succ_eq_append_getElem hlt)
      have hxk := HX.out _ (List.getElem_mem hlt)
      have HGd := Lib.hid (HAll.out _ (List.getElem_mem hlt))
      obtain ⟨pr, rcap, hrv⟩ := own_form HRt.out.row
      rw [HLen.out] at hrv
      subst hrv
      have hA1 := HSz.out
      have hA2 := HG.out.size
      clear h0 hc hv
      generalize ns[k] = x at *
      have HCf := Lib.hid (coefs_length S.1 [(x, 1)])
      go_wp2
      go_region_law (first
        | (go_simp; go_at_call 46; go_must (refine (variable_any x _ hxk).mono ?_; rintro e w5 ⟨pv, vcap, rfl, ht5, hg5z⟩; have hg5 : wr.grownBy w5 none := (by first | exact hg5z | exact grownBy_trans (grown_d wr none) hg5z); have G5 := Lib.hid hg5; have HT5 := Lib.hid ht5; have a05 := hg5.cell a0 (by simp); clear ht5 hg5 hg5z))
        | (go_simp; go_at_call 42; go_must (refine (rowOf_any 0 [(x, 1)] S.1 _ _ _ (by first | exact HT5.out | exact HT5.out.kept (grown_d _ none)) (HS.out.1.kept (by first | exact grownBy_trans G2.out (grownBy_trans HG.out G5.out) | exact grownBy_trans G2.out (grownBy_trans HG.out (grownBy_trans G5.out (grown_d _ none))))) HGd.out.2 (by omega)).mono ?_; rintro e w6 ⟨Cb, rfl, hC, hcb, hg6z⟩; have hg6 : w5.grownBy w6 none := (by first | exact hg6z | exact grownBy_trans (grown_d w5 none) hg6z); have G6 := Lib.hid (grownBy_trans G5.out hg6); have HCb := Lib.hid hcb; have HC := Lib.hid (show wr.heap.size ≤ Cb by have h1 := G5.out.size; have h2 : w5.heap.size ≤ Cb := hC; omega); have hsz6 := G6.out.size; clear hC hcb hg6 hg6z))
        | (refine step_append_lies _ (by rfl) _ _ 75 (by rfl) w2.heap.size 79 j0 (.agg #[.int .i64 0, .slice none 0 0]) 2 32 Tryz.underlying75 hj0 hy0 hy1 hy2 (by rfl) (by decide) (.slice pr k rcap) ((ns.take k).map (varRow S)).length ((((ns.take k).map (varRow S)).zip cvs).flatMap rowCells) (by rfl) (World.ownsRow.alloc (owns_kept HRt.out.row G6.out) _) ⟨w6.heap.size, 0, none⟩ 1 1 (rowCells ((0, coefsOf S.1 [(x, 1)]), .slice (some ⟨Cb, 0, none⟩) S.1.length S.1.length)) (by rfl) (by rfl) news_at (by simp [rowCells, Value.oneCell']) (by decide) (by have := HLen.out; unfold maxLen; omega) (by have := HLen.out; omega) (by simp; omega) (w6.heap.size + 1) (by simp) ?_; intro g ncap w7 hown7 hgrow7 hat _; have O7 := Lib.hid hown7; have A7 := Lib.hid hat; have G7 := Lib.hid hgrow7; clear hown7 hgrow7 hat))
      all_goals
        go_wp2
        go_roundw
        case rel =>
          have hlen := HLen.out
          have e1 : (ns.take (k + 1)).map (varRow S) = (ns.take k).map (varRow S) ++ [(0, coefsOf S.1 [(x, 1)])] := by rw [HTk.out, List.map_append]; rfl
          refine ⟨k + 1, cvs ++ [.slice (some ⟨Cb, 0, none⟩) S.1.length S.1.length], by omega, by go_num, ?_, ?_, ?_⟩
          · show _ = _
            rw [e1, List.length_append, hlen]
            rfl
          · have hcf := HCf.out
            have h := HRt.out.push (w1 := w6) (r := (0, coefsOf S.1 [(x, 1)])) (by omega) G6.out HC.out HCb.out G7.out (by rw [hcf]; exact O7.out) (by rcases A7.out with h | h; exact .inl h; exact .inr (by omega))
            rw [hcf, hlen] at h
            show RSt _ _ _ _ _
            rw [e1]
            exact h
          · exact grown_own (grownBy_trans HG.out (grownBy_trans G6.out (World.grownBy_alloc _ _ _))) G7.out (fun i hi => by have := (HRt.out.row.lt _ hi).1; omega)
        case measure => simp [intOf]; omega
    · obtain rfl : k = ns.length := by omega
      have hrt := HRt.out
      rw [List.take_length] at hrt
      obtain ⟨pr, rcap, hrv⟩ := own_form hrt.row
      rw [List.length_map] at hrv
      subst hrv
      have hgd : ∀ r ∈ ns.map (varRow S), goodRow S.1.length r := fun r hr => by
        obtain ⟨x, hx, rfl⟩ := List.mem_map.1 hr
        exact coefs_good (HAll.out x hx).1
      have H := Lib.hid (listsP_any S (.slice p S.1.length cap) (.slice pk (rowsOf S).length kcap) (.slice pr ns.length rcap) (ns.map (varRow S)) wr.heap.size wr (wr.alloc (.cells #[.slice none 0 0] 48)) (HS.out.1.kept (grownBy_trans G2.out HG.out)) (K2.out.kept HG.out) HE.out (hrt.rows (n := S.1.length) (by simp; omega) (by omega) hgd) hgd (by simp; omega) (World.grownBy_alloc _ _ _) (Nat.le_refl _) (by simp) (heap_alloc_new _ _))
      unfold fvPro at H
      have a0a := (World.grownBy_alloc wr (.cells #[.slice none 0 0] 48) none).cell a0 (by simp)
      have a1a := (World.grownBy_alloc wr (.cells #[.slice none 0 0] 48) none).cell a1 (by simp)
      have HLb := Lib.hid (dist_lists hgd hn8 HE.out)
      clear hrt hgd
      by_cases hfull : (distL (ns.map (varRow S)) (pointsFrom S [] S.1)).length ≤ 5000
      · have HFl := Lib.hid hfull
        have HPe := Lib.hid (show projErr S ns = 0 by simp [projErr, HE.out, HNe.out, hfull])
        rw [decide_eq_true hfull] at H
        clear hfull
        go_wp2_with (first
          | (go_at_call 43; go_must (refine H.out.mono ?_; rintro e w8 ⟨rfl, hg8, Bb, ov', hb8, _, hl8⟩; obtain ⟨ov, vs, l1, l2, l3⟩ := hl8 HFl.out; have G8 := Lib.hid hg8; have m0 := (one_cell l1).1; have HM8 := Lib.hid l1; have HB8 := Lib.hid hb8; have HO8 := Lib.hid (fun k (hk : ov.ownBlock = some k) => (l2.lt k hk).1); have HSo := Lib.hid (sortList_any (Bb + 1) ov vs _ w8 l2 l3 (fun v hv => by have := (HLb.out v hv).1; simp at this; omega) (fun v hv => (HLb.out v hv).2) (by have := HFl.out; omega)); clear hg8 l1 l2 l3 hl8 hb8))
          | (go_at_call 48; go_must (refine HSo.out.mono ?_; rintro e w9 ⟨rfl, t, ht, hri, hat, hg9⟩; have HT9 := Lib.hid ht; have HR9 := Lib.hid hri; have HA9 := Lib.hid hat; have G9 := Lib.hid hg9; have m9 := (one_cell (heap_keep HM8.out hg9 (fun e => by have h1 := HO8.out _ e; have h2 := HB8.out; have h3 := G8.out.size; omega))).1; clear ht hri hat hg9)))
        go_ret2
        exact ⟨ov, t, by rw [HPe.out]; rfl, HA9.out, grown_own (grownBy_trans G2.out (grownBy_trans HG.out G8.out)) G9.out (fun i hi => by have h1 := HO8.out _ hi; have h2 := HB8.out; have h3 := (grownBy_trans G2.out HG.out).size; omega), fun _ => ⟨HT9.out, HR9.out⟩, fun h => absurd HPe.out h⟩
      · have hfl : ¬ (distL (ns.map (varRow S)) (pointsFrom S [] S.1)).length ≤ 5000 := hfull
        have HPe := Lib.hid (show projErr S ns = 12 by simp [projErr, HE.out, HNe.out, hfl])
        rw [decide_eq_false hfull] at H
        clear hfull hfl
        go_wp2_with (first
          | (go_at_call 43; go_must (refine H.out.mono ?_; rintro e w8 ⟨rfl, hg8, Bb, ov, _, hm8, _⟩; have G8 := Lib.hid hg8; have m0 := (one_cell hm8).1; clear hg8 hm8)))
        go_ret2
        exact ⟨.slice none 0 0, [], by rw [HPe.out]; rfl, rowsNil _, grownBy_trans G2.out (grownBy_trans HG.out G8.out), fun h => (by have := HPe.out.symm.trans h; omega), fun _ => rfl⟩

end Go.Proofs.YtfilcaolgfghcaaGreat
