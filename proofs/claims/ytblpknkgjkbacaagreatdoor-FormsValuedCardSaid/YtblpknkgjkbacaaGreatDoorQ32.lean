/-
 nest.Put, for all forms and names. The references: the first of some errors, spans, a point as a table, the value of a form at a point. A table with another one for a variable.
-/
import Derived.Maps.OwnSet
import Derived.Deep.DeepMust
import Derived.Test.YtblpknkgjkbacaaGreatDoorQ05
import Derived.Test.YtblpknkgjkbacaaGreatDoorQ09
import Derived.Test.YtblpknkgjkbacaaGreatDoorQ31
namespace Go.Proofs.YtblpknkgjkbacaaGreatDoor
set_option linter.unusedVariables false
open Go.RowKit Go.Maps Go.WideMaps
variable {w w' : World} {T Bm m : Nat} {c : Int} {X Y : ByteArray → Int}
/-- A name less. -/
def delX (X : ByteArray → Int) (x : ByteArray) : ByteArray → Int := fun m => if m = x then 0 else X m
/-- One form alone. -/
def oneF (ts : List (ByteArray × Int)) : ByteArray → Int := plusX (fun _ => 0) 1 ts
theorem oneF_eq (ts : List (ByteArray × Int)) (n : ByteArray) : oneF ts n = coefX ts n := by simp [oneF, plusX]
/-- What Put answers. -/
noncomputable def putA (f : CondD) (x : ByteArray) (g : CondD) : CondD × Int :=
  if formErr f.1 f.2 ≠ 0 then ((0, []), formErr f.1 f.2) else if nameB x = false then ((0, []), 5) else if formErr g.1 g.2 ≠ 0 then ((0, []), formErr g.1 g.2)
  else okForm (formOfX (plusX (delX (oneF f.2) x) (coefX f.2 x) g.2) (0 + 1 * f.1 + coefX f.2 x * g.1))
set_option maxRecDepth 100000 in
set_option maxHeartbeats 2000000 in
theorem put_nest (f g : CondD) (x : ByteArray) (tf tg : Value) (w : World) (hF : TermsAt w tf f.2) (hG : TermsAt w tg g.2) (hx : x.size ≤ maxLen) :
    Calls Tryz.prog 10 #[.agg #[.int .i64 f.1, tf], .string x, .agg #[.int .i64 g.1, tg]] w (Formed (putA f x g) w) := by
  obtain ⟨fc, ft⟩ := f
  obtain ⟨gc, gt⟩ := g
  simp only at hF hG ⊢
  obtain ⟨pf, cf, rfl, hfl, hfcell⟩ := id hF
  obtain ⟨pg, cg, rfl, hgl, hgcell⟩ := id hG
  have HF := Lib.hid hF
  have HG := Lib.hid hG
  have HFc := Lib.hid hfcell
  have HGc := Lib.hid hgcell
  clear hF hG hfcell hgcell
  generalize hsr : putA (fc, ft) x (gc, gt) = R
  go_enter Tryz.func10, Tryz.ntmps10
  go_upto_region 1 with fail
  obtain ⟨hA, hB, hC, hg3⟩ := three_boxes w (.cells #[.int .i64 fc, .slice pf ft.length cf] 28) (.cells #[.int .i64 gc, .slice pg gt.length cg] 28) (.cells #[.int .i64 0, .slice none 0 0] 28) _ rfl
  generalize ((w.alloc (.cells #[.int .i64 fc, .slice pf ft.length cf] 28)).alloc (.cells #[.int .i64 gc, .slice pg gt.length cg] 28)).alloc (.cells #[.int .i64 0, .slice none 0 0] 28) = w3 at *
  have HA := Lib.hid hA
  have HB := Lib.hid hB
  have HC := Lib.hid hC
  have HG3 := Lib.hid hg3
  have hCw : w.heap.size + 1 + 1 < w3.heap.size := (Array.getElem?_eq_some_iff.1 hC).1
  clear hA hB hC hg3
  obtain ⟨a0, a1, af⟩ := cell_of_two HA.out
  go_upto_region 2 with (go_at_call 26; go_must (refine (checkForm_at fc ft pf cf _ hfl (fun j t h => (HFc.out j t h).kept HG3.out)).mono ?_; rintro e w4 ⟨rfl, hg⟩; have HA4 := Lib.hid (heap_keep HA.out hg (by simp)); have HB4 := Lib.hid (heap_keep HB.out hg (by simp)); have HC4 := Lib.hid (heap_keep HC.out hg (by simp)); have HG4 := Lib.hid (grownBy_trans HG3.out hg); clear hg))
  clear a0 a1 af HA HB HC HG3
  obtain ⟨b0, b1, bf⟩ := cell_of_two HB4.out
  obtain ⟨c0, c1, cf'⟩ := cell_of_two HC4.out
  unfold putA at hsr
  by_cases h1 : formErr fc ft = 0
  case neg =>
    rw [if_pos h1] at hsr
    subst hsr
    have h1b : (formErr fc ft != 0) = true := by simpa using h1
    clear h1
    go_wp2
    obtain ⟨f1, f2⟩ := two_set HC4.out (.int .i64 0) (.slice none 0 0)
    exact bodyPost_ret (results_form rfl _ _ (w.heap.size + 1 + 1) _ _ _ _ rfl f1) rfl ⟨_, rfl, ⟨none, 0, rfl, Nat.zero_le _, fun j t h => by simp at h⟩, grown_own HG4.out f2 (fun i hi => by cases hi; omega)⟩
  case pos =>
  rw [if_neg (by simp [h1])] at hsr
  have h1b : (formErr fc ft != 0) = false := by simp [h1]
  have H1 := Lib.hid h1
  clear h1
  cases hnx : nameB x with
  | false =>
    rw [if_pos hnx] at hsr
    subst hsr
    go_wp2_with (go_at_call 35; go_must (refine (isName_any _ _ hx).mono ?_; rintro e w5 ⟨rfl, rfl⟩; rw [hnx]))
    obtain ⟨f1, f2⟩ := two_set HC4.out (.int .i64 0) (.slice none 0 0)
    exact bodyPost_ret (results_form rfl _ _ (w.heap.size + 1 + 1) _ _ _ _ rfl f1) rfl ⟨_, rfl, ⟨none, 0, rfl, Nat.zero_le _, fun j t h => by simp at h⟩, grown_own HG4.out f2 (fun i hi => by cases hi; omega)⟩
  | true =>
  rw [if_neg (by simp [hnx])] at hsr
  go_upto_region 7 with (first
    | (go_at_call 35; go_must (refine (isName_any _ _ hx).mono ?_; rintro e w5 ⟨rfl, rfl⟩; rw [hnx]))
    | (go_at_call 26; go_must (refine (checkForm_at gc gt pg cg _ hgl (fun j t h => (HGc.out j t h).kept HG4.out)).mono ?_; rintro e w6 ⟨rfl, hg⟩; have HA6 := Lib.hid (heap_keep HA4.out hg (by simp)); have HB6 := Lib.hid (heap_keep HB4.out hg (by simp)); have HC6 := Lib.hid (heap_keep HC4.out hg (by simp)); have HG6 := Lib.hid (grownBy_trans HG4.out hg); clear hg)))
  clear b0 b1 bf c0 c1 cf' HA4 HB4 HC4 HG4
  obtain ⟨c0, c1, cf'⟩ := cell_of_two HC6.out
  by_cases h2 : formErr gc gt = 0
  case neg =>
    rw [if_pos h2] at hsr
    subst hsr
    have h2b : (formErr gc gt != 0) = true := by simpa using h2
    clear h2
    go_wp2
    obtain ⟨f1, f2⟩ := two_set HC6.out (.int .i64 0) (.slice none 0 0)
    exact bodyPost_ret (results_form rfl _ _ (w.heap.size + 1 + 1) _ _ _ _ rfl f1) rfl ⟨_, rfl, ⟨none, 0, rfl, Nat.zero_le _, fun j t h => by simp at h⟩, grown_own HG6.out f2 (fun i hi => by cases hi; omega)⟩
  case pos =>
  rw [if_neg (by simp [h2])] at hsr
  have h2b : (formErr gc gt != 0) = false := by simp [h2]
  have H2 := Lib.hid h2
  have HSr := Lib.hid hsr
  clear h2 hsr
  obtain ⟨hfc, -, -, -⟩ := form_good H1.out
  obtain ⟨hgc, -, -, -⟩ := form_good H2.out
  obtain ⟨q1, q2⟩ := plusX_good (X := fun _ => 0) (a := 1) (B := 0) (fun n h => absurd rfl h) (fun n => by omega) (by omega) H1.out
  have hk := coefX_small H1.out x
  have Q2 : Hid (∀ n, -1000000 ≤ delX (oneF ft) x n ∧ delX (oneF ft) x n ≤ 1000000) := fun n => by
    have := q2 n
    unfold delX oneF
    split <;> omega
  have q1d : ∀ n, delX (oneF ft) x n ≠ 0 → n.size ≤ 40 := fun n h => by
    unfold delX at h
    by_cases e : n = x
    · rw [if_pos e] at h; exact absurd rfl h
    · rw [if_neg e] at h; exact q1 n h
  obtain ⟨q3, q4⟩ := plusX_good (B := 1000000) q1d Q2.out hk H2.out
  have hp2 := prod6_bound (A := 1000) (B := 1000000) (by omega) hk hgc
  have QG : Hid (GoodX (plusX (delX (oneF ft) x) (coefX ft x) gt)) := fun n h => ⟨by have := q3 n h; omega, by have := q4 n; unfold small; omega⟩
  have hE : x ≠ ByteArray.empty := fun e => name_ne_empty hnx e
  have Q0 : Hid (plusX (delX (oneF ft) x) (coefX ft x) gt ByteArray.empty = 0) := plusX_empty (by unfold delX; rw [if_neg (fun e => hE e.symm)]; exact plusX_empty rfl H1.out) H2.out
  clear q1 q2 q3 q4 q1d hE
  go_upto_region 10 with (go_at_call 32; go_must (refine (newTotal_any _).mono ?_; rintro e w7 ⟨T, Bm, rfl, hT, hBm, hTB, htot, hmap, hg⟩; have HT7 : Hid (TotIs T Bm 0 (fun _ => 0) 0 w7) := ⟨htot, 0, .map [], hmap, tab_start, Nat.le_refl _⟩; have HG7 := Lib.hid hg; clear htot hmap hg))
  have HA7 := Lib.hid (heap_keep HA6.out HG7.out (by simp))
  have HB7 := Lib.hid (heap_keep HB6.out HG7.out (by simp))
  have HC7 := Lib.hid (heap_keep HC6.out HG7.out (by simp))
  have HW7 := Lib.hid (grownBy_trans HG6.out HG7.out)
  have hs6 := HG6.out.size
  have hC6 : w.heap.size + 1 + 1 < w6.heap.size := (Array.getElem?_eq_some_iff.1 HC6.out).1
  clear c0 c1 cf' HA6 HB6 HC6 HG6 HG7
  obtain ⟨a0, a1, af⟩ := cell_of_two HA7.out
  go_upto_region 11 with (go_at_call 33; go_must (refine (add_any fc ft _ 1 _ HT7.out (by omega) (HF.out.kept HW7.out) H1.out (by omega) (by omega) (fun n => by omega)).mono ?_; rintro e w8 ⟨rfl, hb, ht8⟩; have HB8 := Lib.hid hb; have HT8 : Hid (TotIs T Bm (0 + 1 * fc) (oneF ft) (0 + 12) w8) := ht8; clear hb ht8))
  have HW8 := Lib.hid (HB8.out.old HW7.out (by omega) (by omega) (by omega))
  have HBb8 := Lib.hid (HB8.out.keep HB7.out (by omega) (by omega) (by omega))
  have HCc8 := Lib.hid (HB8.out.keep HC7.out (by omega) (by omega) (by omega))
  clear a0 a1 af HA7 HB7 HC7 HT7 HW7
  obtain ⟨kd, D, hm8, htab8, hkd⟩ := HT8.out.tab
  have HM8 := Lib.hid hm8
  have HTb8 := Lib.hid htab8
  have hlk : (Instr.lookup 73 (.map (some Bm)) (.string x) false).run Tryz.prog w8 = .ok (.int .i64 (coefX ft x)) w8 := by
    have := tot_look hm8 htab8 hx
    rwa [oneF_eq] at this
  clear hm8 htab8
  obtain ⟨t0, t1, tf'⟩ := cell_of_two HT8.out.tot
  go_upto_region 13 with (at_delete; refine wpList_delete_own _ rfl _ _ 73 9 rfl 3 Tryz.lawStr Tryz.underlying73 _ Bm kd D rfl HM8.out _ _ rfl (key_str hx) ?_; intro w9 hown hturn; have HO9 := Lib.hid hown; have HG9 := Lib.hid hturn.grown; clear hown hturn)
  have HT9 : Hid (TotIs T Bm (0 + 1 * fc) (delX (oneF ft) x) 12 w9) := ⟨heap_keep HT8.out.tot HG9.out (by simp; omega), kd, _, HO9.out, HTb8.out.del x, by omega⟩
  have HW9 := Lib.hid (grown_own HW8.out HG9.out (fun i hi => by cases hi; omega))
  have HBb9 := Lib.hid (heap_keep HBb8.out HG9.out (by simp; omega))
  have HCc9 := Lib.hid (heap_keep HCc8.out HG9.out (by simp; omega))
  clear t0 t1 tf' hlk HT8 HM8 HTb8 HO9 HG9 HBb8 HCc8 HW8 HB8
  obtain ⟨b0, b1, bf⟩ := cell_of_two HBb9.out
  go_upto_region 14 with (go_at_call 33; go_must (refine (add_any gc gt _ (coefX ft x) _ HT9.out (by omega) (HG.out.kept HW9.out) H2.out hk (by omega) (fun n => by have := Q2.out n; omega)).mono ?_; rintro e w10 ⟨rfl, hb, ht⟩; have HB10 := Lib.hid hb; have HT10 := Lib.hid ht; clear hb ht))
  have HW10 := Lib.hid (HB10.out.old HW9.out (by omega) (by omega) (by omega))
  have HCc10 := Lib.hid (HB10.out.keep HCc9.out (by omega) (by omega) (by omega))
  clear b0 b1 bf HBb9 HCc9 HT9 HW9 HB10
  have hck := Lib.hid (checked_any w10 HT10.out (by omega) Q0.out QG.out)
  rw [HSr.out] at hck
  go_wp2_with (go_at_call 34; go_must (refine hck.out.mono ?_; rintro e w11 ⟨v, rfl, hv, hg⟩; obtain ⟨pv, cv, rfl, -⟩ := id hv; have HV := Lib.hid hv; have HG11 := Lib.hid hg; obtain ⟨c0, c1, cf'⟩ := cell_of_two (heap_keep HCc10.out hg (by simp)); clear hv hg))
  obtain ⟨f1, f2⟩ := two_set (heap_keep HCc10.out HG11.out (by simp)) (.int .i64 R.1.1) (.slice pv R.1.2.length cv)
  exact bodyPost_ret (results_form rfl _ _ (w.heap.size + 1 + 1) _ _ _ _ rfl f1) rfl ⟨_, rfl, TermsAt.later_set HV.out HCc10.out HG11.out f2, grown_own (grownBy_trans HW10.out HG11.out) f2 (fun i hi => by cases hi; omega)⟩
end Go.Proofs.YtblpknkgjkbacaaGreatDoor
namespace Go.Proofs.YtblpknkgjkbacaaGreatDoor
open Go.RowKit Go.Maps Go.WideMaps
variable {w w' : World}
set_option maxHeartbeats 2000000 in
theorem errsL_any (l : List Int) (P cap : Nat) (w : World) (hl : l.length ≤ 1000) (hc : ∀ j e, l[j]? = some e → w.cell? ⟨P, j, none⟩ = some (.int .i64 e)) :
    Calls Tryz.prog 12 #[.slice (some ⟨P, 0, none⟩) l.length cap] w (Ret (.int .i64 (firstE l)) w) := by
  have HC := Lib.hid hc
  have hlI : (l.length : Int) ≤ 1000 := by omega
  clear hc
  generalize hE : firstE l = E
  go_enter Tryz.func12, Tryz.ntmps12
  go_wp2
  go_loopw [7] (fun i wr => ∃ k : Nat, k ≤ l.length ∧ i = .int .i64 k ∧ wr = w ∧ Hid (firstE (l.drop k) = E)) (fun i _ => l.length - (intOf i).toNat)
  case atStart => exact ⟨0, by omega, rfl, rfl, hE⟩
  case round =>
    obtain ⟨k, hk, rfl, rfl, HR⟩ := hrel
    by_cases hlt : k < l.length
    · have h0 := List.getElem?_eq_getElem hlt
      have c0 := HC.out k _ h0
      have HD := Lib.hid (firstE_drop h0)
      generalize l[k] = e at *
      have hkI : (k : Int) < (l.length : Int) := by omega
      clear h0
      by_cases hz : e = 0
      · subst hz
        have h6 := HD.out
        rw [if_pos rfl, HR.out] at h6
        have H6 := Lib.hid h6.symm
        clear h6
        go_wp2
        go_roundw
        case rel => exact ⟨k + 1, by omega, by go_num, (by first | rfl | trivial), H6.out⟩
        case measure => simp [intOf]; omega
      · have hz0 : (e != 0) = true := by simpa using hz
        have h6 := HD.out
        rw [if_neg hz, HR.out] at h6
        have H6 := Lib.hid h6
        clear h6
        go_wp2
        go_ret
        exact ⟨by rw [H6.out]; rfl, rfl⟩
    · obtain rfl : k = l.length := by omega
      have h2 := HR.out
      rw [List.drop_eq_nil_of_le (by simp)] at h2
      have H2 := Lib.hid h2
      clear h2
      go_wp2
      go_ret
      exact ⟨by rw [← H2.out]; rfl, rfl⟩
def spanE (n low high : Int) : Int := if inB n low high = true then 0 else 1
set_option maxHeartbeats 1000000 in
theorem spanFault_any (n low high : Int) (w : World) : Calls Tryz.prog 14 #[.int .i64 n, .int .i64 low, .int .i64 high] w (Ret (.int .i64 (spanE n low high)) w) := by
  cases h : inB n low high with
  | true =>
    have HE : Hid (spanE n low high = 0) := by show _ = _; unfold spanE; rw [if_pos h]
    go_enter Tryz.func14, Tryz.ntmps14
    go_wp2_with (go_at_call 36; refine (in_any _ _ _ _).mono ?_; rintro e w' ⟨rfl, rfl⟩; rw [h])
    go_ret
    exact ⟨by rw [HE.out]; rfl, rfl⟩
  | false =>
    have HE : Hid (spanE n low high = 1) := by show _ = _; unfold spanE; rw [if_neg (by simp [h])]
    go_enter Tryz.func14, Tryz.ntmps14
    go_wp2_with (go_at_call 36; refine (in_any _ _ _ _).mono ?_; rintro e w' ⟨rfl, rfl⟩; rw [h])
    go_ret
    exact ⟨by rw [HE.out]; rfl, rfl⟩
set_option maxRecDepth 100000 in
set_option maxHeartbeats 4000000 in
theorem table_any (pt : List (ByteArray × Int)) (v : Value) (w : World) (ht : TermsAt w v pt) (hd : pt.Pairwise fun a b => a.1 ≠ b.1) (hl : pt.length ≤ 800) :
    Calls Tryz.prog 40 #[v] w (fun e w' => ∃ B D k, e = .returned (.map (some B)) ∧ w.heap.size ≤ B ∧ MapAt w' B k D ∧ TabIs D (coefX pt) ∧ k ≤ 800 ∧ w.grownBy w' none) := by
  obtain ⟨p, cap, rfl, -, hc⟩ := ht
  have HC := Lib.hid hc
  have HD := Lib.hid hd
  have hlI : (pt.length : Int) ≤ 800 := by omega
  clear hc hd
  have hmm := @run_makeMap Tryz.prog
  have hM0 : Hid (MapAt (w.alloc (.map #[] 0)) w.heap.size 0 (.map [])) := World.ownsMap_made (H := Unit) w Tryz.prog 9 (plainElem Tryz.prog 3)
  have HG0 := Lib.hid (World.grownBy_alloc w (.map #[] 0) none)
  go_enter Tryz.func40, Tryz.ntmps40
  go_wp2
  go_loopw [9] (fun i wr => ∃ k : Nat, ∃ D : Table, k ≤ pt.length ∧ i = .int .i64 k ∧ Hid (MapAt wr w.heap.size k D) ∧ Hid (TabIs D (coefX (pt.take k))) ∧ Hid (w.grownBy wr none)) (fun i _ => pt.length - (intOf i).toNat)
  case atStart => exact ⟨0, .map [], Nat.zero_le _, rfl, hM0.out, tab_start, HG0.out⟩
  case round =>
    obtain ⟨k, D, hk, rfl, HM, HT, HG⟩ := hrel
    by_cases hlt : k < pt.length
    · have h0 := List.getElem?_eq_getElem hlt
      obtain ⟨b, off, rfl, h3, h4, h5, h6, h7⟩ := (HC.out k _ h0).kept HG.out
      have HTake := Lib.hid (List.take_succ_eq_append_getElem hlt)
      have HNo : Hid (∀ t ∈ pt.take k, t.1 ≠ (pt[k]).1) := fun t ht => by
        obtain ⟨j, hj, rfl⟩ := List.getElem_of_mem ht
        rw [List.length_take] at hj
        rw [List.getElem_take]
        exact List.pairwise_iff_getElem.1 HD.out j k (by omega) hlt (by omega)
      generalize pt[k] = t at *
      obtain ⟨n, z⟩ := t
      simp only at h3 h4 h5 h6 h7 HNo
      have hkI : (k : Int) < (pt.length : Int) := by omega
      have HMa : Hid (MapAt (wr.alloc (.cells #[.string n, .int .i64 z] 61)) w.heap.size k D) := World.ownsMap.alloc HM.out _
      have HGa := Lib.hid (World.grownBy_alloc wr (.cells #[.string n, .int .i64 z] 61) none)
      obtain ⟨b0, b1, bf⟩ := cell_of_two (heap_alloc_new wr (.cells #[.string n, .int .i64 z] 61))
      clear h0
      go_wp2_with (at_mapUpdate; refine wpList_mapUpdate_own _ rfl _ _ _ 73 rfl 9 3 Tryz.lawStr Tryz.underlying73 _ w.heap.size k D rfl HMa.out (lt_maxLen _ (by omega)) _ _ _ rfl rfl (key_str h3) _ [] (plainElem_int Tryz.underlying3 (wf64 h4 h5)) ?_; intro w6 hown hg6; have HO6 := Lib.hid hown; have HG6 := Lib.hid hg6; clear hown hg6)
      go_roundw
      case rel =>
        refine ⟨k + 1, _, by omega, by go_num, HO6.out, ?_, grown_own (grownBy_trans HG.out HGa.out) HG6.out (fun i hi => by cases hi; exact Nat.le_refl _)⟩
        show TabIs _ _
        rw [HTake.out]
        exact (HT.out.put n z).cong fun x => (coefX_snoc HNo.out x).symm
      case measure => simp [intOf]; omega
    · obtain rfl : k = pt.length := by omega
      have h2 := HT.out
      rw [List.take_length] at h2
      have HTl := Lib.hid h2
      clear h2
      go_wp2
      go_ret
      exact ⟨_, D, _, rfl, Nat.le_refl _, HM.out, HTl.out, hl, HG.out⟩
set_option maxRecDepth 100000 in
set_option maxHeartbeats 4000000 in
theorem valueIn_any (c : Int) (ts pt : List (ByteArray × Int)) (tv pv : Value) (w : World) (ht : TermsAt w tv ts) (hp : TermsAt w pv pt) (hpl : pt.length ≤ 800) (hf : formErr c ts = 0) (hpt : ptErr ByteArray.empty pt = 0) :
    Calls Tryz.prog 16 #[.agg #[.int .i64 c, tv], pv] w (Gives (.int .i64 (valueOf (coefX pt) c ts)) w) := by
  obtain ⟨p, cap, rfl, hl, -⟩ := id ht
  obtain ⟨-, hpw, hpr⟩ := pt_good hpt
  have HT := Lib.hid ht
  have HP := Lib.hid hp
  have HD : Hid (pt.Pairwise fun a b => a.1 ≠ b.1) := hpw.imp (fun {a b} h e => by rw [e, cN_self] at h; omega)
  have HXr := Lib.hid (fun n => coefX_range (fun t h => (hpr t h).2) n)
  have HG := Lib.hid (World.grownBy_alloc w (.cells #[.int .i64 c, .slice p ts.length cap] 28) none)
  have HB := Lib.hid (heap_alloc_new w (.cells #[.int .i64 c, .slice p ts.length cap] 28))
  clear ht hp hpw hpr
  go_enter Tryz.func16, Tryz.ntmps16
  go_upto_region 1 with fail
  generalize w.alloc (.cells #[.int .i64 c, .slice p ts.length cap] 28) = w1 at *
  obtain ⟨x0, x1, xf⟩ := cell_of_two HB.out
  go_wp2_with (first
    | (go_at_call 38; go_must (refine (polyOf_any c ts _ _ (HT.out.kept HG.out) hf).mono ?_; rintro e w2 ⟨D, B, n, rfl, hB, hM, hn, hPD, hg⟩; have HM := Lib.hid hM; have HPD := Lib.hid hPD; have HG2 := Lib.hid (grownBy_trans HG.out hg); clear hM hPD hg))
    | (go_at_call 40; go_must (refine (table_any pt _ _ (HP.out.kept HG2.out) HD.out hpl).mono ?_; rintro e w3 ⟨B2, D2, k2, rfl, hB2, hM2, hT2, hk2, hg⟩; have HM3 : Hid (MapAt w3 B n D) := World.ownsMap.kept HM.out hg (by simp); have HMx := Lib.hid hM2; have HTx := Lib.hid hT2; have HG3 := Lib.hid (grownBy_trans HG2.out hg); clear hM2 hT2 hg))
    | (go_at_call 39; go_must (refine (value_any c ts (coefX pt) D D2 B n B2 k2 _ hf HM3.out HPD.out HMx.out (fun t _ => HTx.out.at_ t.1) HXr.out).mono ?_; rintro e w4 ⟨rfl, hg⟩; have HG4 := Lib.hid (grownBy_trans HG3.out hg); clear hg)))
  go_ret
  exact ⟨rfl, HG4.out⟩
end Go.Proofs.YtblpknkgjkbacaaGreatDoor
namespace Go.Proofs.YtblpknkgjkbacaaGreatDoor
open Go.RowKit Go.Maps Go.WideMaps Go.Shelf
attribute [local go_sem ↓] Go.wp_at_zero Go.wp_at_succ
def putX (X Y : ByteArray → Int) (x : ByteArray) (m : ByteArray) : Int := (if m = x then 0 else X m) + X x * Y m
set_option maxRecDepth 100000 in
set_option maxHeartbeats 2000000 in
theorem put_any (X Y : ByteArray → Int) (x : ByteArray) (Dp Dq : Table) (Bp np Bq nq : Nat) (w : World) (hP : MapAt w Bp np Dp) (hQ : MapAt w Bq nq Dq) (hX : TabIs Dp X) (hY : TabIs Dq Y) (hn : np + nq ≤ 900) (hx : x.size ≤ maxLen)
    (hb : ∀ n, (-1000000000000000 ≤ X n ∧ X n ≤ 1000000000000000) ∧ (-1000000000000000 ≤ X x * Y n ∧ X x * Y n ≤ 1000000000000000)) :
    Calls Tryz.prog 43 #[.map (some Bp), .string x, .map (some Bq)] w (TabNew (putX X Y x) (np + nq) w) := by
  have hlq := World.ownsMap.lt hQ
  have HP := Lib.hid hP
  have HQ := Lib.hid hQ
  have HX := Lib.hid hX
  have HY := Lib.hid hY
  have HB := Lib.hid hb
  have hlk := tab_look hP hX hx
  have hkey := key_str hx
  clear hP hQ hX hY hb
  go_enter Tryz.func43, Tryz.ntmps43
  go_wp2_with (first
    | (go_at_call 57; go_must (refine (clonePoly_any np Bp Dp _ HP.out).mono ?_; rintro e w1 ⟨rfl, hm1, hg1⟩; have hs1 := World.ownsMap.lt hm1; have HQ1 : Hid (MapAt w1 Bq nq Dq) := World.ownsMap.kept HQ.out hg1 (by simp); have HG1 := Lib.hid hg1; obtain ⟨w2, hdel, hm2, ht2⟩ := World.ownsMap.drop hm1 Tryz.lawStr Tryz.underlying78 hkey 0; have HM2 := Lib.hid hm2; have hg2 := World.mapTurned.grown ht2; have HG2 := Lib.hid hg2; have HQ2 : Hid (MapAt w2 Bq nq Dq) := World.ownsMap.kept HQ1.out hg2 (by simp; omega); clear hm1 hg1 hm2 hg2 ht2 hlk))
    | (go_at_call 41; go_must (refine (plus_any (X x) (fun m => if m = x then 0 else X m) Y (Dp.del (strL x)) Dq w.heap.size np Bq nq _ HM2.out HQ2.out (HX.out.del x) HY.out hn (fun n => ⟨by by_cases e : n = x; (simp [e]); (simp only [if_neg e]; exact (HB.out n).1), (HB.out n).2⟩)).mono ?_; rintro e w3 ⟨D, B, rfl, hB, hm3, ht3, hg3⟩; have HM3 := Lib.hid hm3; have HT3 := Lib.hid ht3; have HG3 := Lib.hid hg3; have HBl := Lib.hid hB; clear hm3 ht3 hg3 hB)))
  go_ret
  have hg := grown_own HG1.out HG2.out (fun i hi => by cases hi; exact Nat.le_refl _)
  exact ⟨D, B, rfl, Nat.le_trans hg.size HBl.out, HM3.out, HT3.out, grownBy_trans hg HG3.out⟩
end Go.Proofs.YtblpknkgjkbacaaGreatDoor
