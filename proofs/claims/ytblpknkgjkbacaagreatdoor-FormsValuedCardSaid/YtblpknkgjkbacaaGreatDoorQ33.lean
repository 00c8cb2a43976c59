/-
 The references SumOf and PutOf.
-/
import Derived.Test.YtblpknkgjkbacaaGreatDoorQ09
import Derived.Test.YtblpknkgjkbacaaGreatDoorQ12
import Derived.Test.YtblpknkgjkbacaaGreatDoorQ32
namespace Go.Proofs.YtblpknkgjkbacaaGreatDoor
set_option linter.unusedVariables false
open Go.RowKit Go.Maps Go.WideMaps
variable {w w' : World}
theorem formX_to {X Y : ByteArray → Int} {c : Int} {f : CondD} (h : FormX Y c f) (he : ∀ n, n ≠ ByteArray.empty → X n = Y n) : FormX X c f := ⟨h.num, h.ups, fun n z => (h.mem n z).trans ⟨fun ⟨a, b, d⟩ => ⟨a, b, (he n a).trans d⟩, fun ⟨a, b, d⟩ => ⟨a, b, (he n a).symm.trans d⟩⟩⟩
theorem polyX_bound {c : Int} {ts : List (ByteArray × Int)} (h : formErr c ts = 0) (n : ByteArray) : -1000000 ≤ polyX c ts n ∧ polyX c ts n ≤ 1000000 := by
  obtain ⟨hc, -, -, -⟩ := form_good h
  unfold polyX
  split
  · exact hc
  · have := coefX_small h n
    omega
/-- A form as a table, in memory of its own. -/
theorem polyTab (c : Int) (ts : List (ByteArray × Int)) (tv : Value) (w : World) (ht : TermsAt w tv ts) (hf : formErr c ts = 0) :
    Calls Tryz.prog 38 #[.agg #[.int .i64 c, tv]] w (TabNew (polyX c ts) 20 w) :=
  (polyOf_any c ts tv w ht hf).mono fun e w' ⟨D, B, n, h1, h2, h3, h4, h5, h6⟩ => ⟨D, B, h1, h2, World.ownsMap.mono h3 h4, h5.tab hf, h6⟩
/-- A call that makes a form. -/
def MadeF (F : CondD) (w : World) (e : Ending) (w' : World) : Prop := ∃ v, e = .returned (.agg #[.int .i64 F.1, v]) ∧ TermsAt w' v F.2 ∧ w.grownBy w' none
set_option maxRecDepth 100000 in
set_option maxHeartbeats 4000000 in
theorem sumOf_any (fc gc : Int) (ft gt : List (ByteArray × Int)) (a b : Int) (tf tg : Value) (w : World) (hF : TermsAt w tf ft) (hG : TermsAt w tg gt) (h1 : formErr fc ft = 0) (h2 : formErr gc gt = 0) (ha : -1000 ≤ a ∧ a ≤ 1000) (hb : -1000 ≤ b ∧ b ≤ 1000) :
    Calls Tryz.prog 17 #[.agg #[.int .i64 fc, tf], .int .i64 a, .agg #[.int .i64 gc, tg], .int .i64 b] w (MadeF (formOfX (plusX (plusX (fun _ => 0) a ft) b gt) (0 + a * fc + b * gc)) w) := by
  have QB1 := Lib.hid (fun n => prod6_bound (A := 1000) (B := 1000000) (by omega) ha (polyX_bound h1 n))
  have QB2 := Lib.hid (fun n => prod6_bound (A := 1000) (B := 1000000) (by omega) hb (polyX_bound h2 n))
  obtain ⟨q1, q2⟩ := plusX_good (X := fun _ => 0) (B := 0) (fun n h => absurd rfl h) (fun n => by omega) ha h1
  obtain ⟨q3, q4⟩ := plusX_good q1 q2 hb h2
  have QG : Hid (GoodX (plusX (plusX (fun _ => 0) a ft) b gt)) := fun n h => ⟨by have := q3 n h; omega, by have := q4 n; unfold small; omega⟩
  have HEq : Hid (∀ n, n ≠ ByteArray.empty → plusX (plusX (fun _ => 0) a ft) b gt n = (fun m => (fun m => (fun _ => 0) m + a * polyX fc ft m) m + b * polyX gc gt m) n) := fun n hn => by
    show (0 : Int) + a * coefX ft n + b * coefX gt n = 0 + a * polyX fc ft n + b * polyX gc gt n
    unfold polyX
    rw [if_neg hn, if_neg hn]
  have HC0 : Hid ((fun m => (fun m => (fun _ => 0) m + a * polyX fc ft m) m + b * polyX gc gt m) ByteArray.empty = 0 + a * fc + b * gc) := by
    show _ = _
    unfold polyX
    simp
  generalize hcc : 0 + a * fc + b * gc = cc at HC0 ⊢
  have H1 := Lib.hid h1
  have H2 := Lib.hid h2
  clear q1 q2 q3 q4 h1 h2 ha hb hcc
  obtain ⟨pf, cf, rfl, hfl, -⟩ := id hF
  obtain ⟨pg, cg, rfl, hgl, -⟩ := id hG
  have HF := Lib.hid hF
  have HG := Lib.hid hG
  clear hF hG
  go_enter Tryz.func17, Tryz.ntmps17
  go_upto_region 1 with fail
  obtain ⟨hA, hB, hC, hg3⟩ := three_boxes w (.cells #[.int .i64 fc, .slice pf ft.length cf] 28) (.cells #[.int .i64 gc, .slice pg gt.length cg] 28) (.cells #[.int .i64 0, .slice none 0 0] 28) _ rfl
  generalize ((w.alloc (.cells #[.int .i64 fc, .slice pf ft.length cf] 28)).alloc (.cells #[.int .i64 gc, .slice pg gt.length cg] 28)).alloc (.cells #[.int .i64 0, .slice none 0 0] 28) = w3 at *
  have HC := Lib.hid hC
  have HG3 := Lib.hid hg3
  have hCw : w.heap.size + 1 + 1 < w3.heap.size := (Array.getElem?_eq_some_iff.1 hC).1
  obtain ⟨a0, a1, af⟩ := cell_of_two hA
  obtain ⟨b0, b1, bf⟩ := cell_of_two hB
  clear hA hB hC hg3
  have HS0 : Hid ((fun W => w3.grownBy W none) w3.drew) := grown_drew w3 none
  refine region_late (n := 10) (S := fun W => w3.grownBy W none) (by kernel_rfl) ⟨by kernel_rfl, by kernel_rfl, by kernel_rfl, by decide⟩ ?_
  refine late_take (i := 1) (v := ?vs_1) ⟨by kernel_rfl, by kernel_rfl, by kernel_rfl, by decide⟩ rfl (by decide +kernel) (by decide +kernel) (by decide +kernel) (fun _ _ _ h => h) (Or.inl ⟨by rfl, ?hs_1⟩) HS0.out ?rs_1
  case hs_1 =>
    intro W hW
    have s0 := World.grownBy.cell hW a0 (by simp)
    have s1 := World.grownBy.cell hW a1 (by simp)
    have s2 := World.grownBy.cell hW b0 (by simp)
    have s3 := World.grownBy.cell hW b1 (by simp)
    go_simp
    try with_reducible rfl
  go_frame
  refine late_take (i := 2) (v := ?vs_2) ⟨by kernel_rfl, by kernel_rfl, by kernel_rfl, by decide⟩ rfl (by decide +kernel) (by decide +kernel) (by decide +kernel) (fun _ _ _ h => h) (Or.inl ⟨by rfl, ?hs_2⟩) HS0.out ?rs_2
  case hs_2 =>
    intro W hW
    have s0 := World.grownBy.cell hW a0 (by simp)
    have s1 := World.grownBy.cell hW a1 (by simp)
    have s2 := World.grownBy.cell hW b0 (by simp)
    have s3 := World.grownBy.cell hW b1 (by simp)
    go_simp
    try with_reducible rfl
  go_frame
  refine late_take (i := 5) (v := ?vs_5) ⟨by kernel_rfl, by kernel_rfl, by kernel_rfl, by decide⟩ rfl (by decide +kernel) (by decide +kernel) (by decide +kernel) (fun _ _ _ h => h) (Or.inl ⟨by rfl, ?hs_5⟩) HS0.out ?rs_5
  case hs_5 =>
    intro W hW
    have s0 := World.grownBy.cell hW a0 (by simp)
    have s1 := World.grownBy.cell hW a1 (by simp)
    have s2 := World.grownBy.cell hW b0 (by simp)
    have s3 := World.grownBy.cell hW b1 (by simp)
    go_simp
    try with_reducible rfl
  go_frame
  refine late_take (i := 6) (v := ?vs_6) ⟨by kernel_rfl, by kernel_rfl, by kernel_rfl, by decide⟩ rfl (by decide +kernel) (by decide +kernel) (by decide +kernel) (fun _ _ _ h => h) (Or.inl ⟨by rfl, ?hs_6⟩) HS0.out ?rs_6
  case hs_6 =>
    intro W hW
    have s0 := World.grownBy.cell hW a0 (by simp)
    have s1 := World.grownBy.cell hW a1 (by simp)
    have s2 := World.grownBy.cell hW b0 (by simp)
    have s3 := World.grownBy.cell hW b1 (by simp)
    go_simp
    try with_reducible rfl
  go_frame
  refine late_some 0 [3] (by kernel_rfl) ?_
  refine List.forall_mem_cons.2 ⟨?_, List.forall_mem_cons.2 ⟨?_, List.forall_mem_nil _⟩⟩
  · refine ⟨by decide, _, rfl, fun K hK => ?_⟩
    have HK := Lib.hid hK
    clear hK
    have HMm : Hid (MapAt (w3.drew.alloc (.map #[] 0)) w3.drew.heap.size 0 (.map [])) := World.ownsMap_made (H := Unit) w3.drew Tryz.prog 9 (plainElem Tryz.prog 3)
    have HSm := Lib.hid (grownBy_trans HS0.out (World.grownBy_alloc w3.drew (.map #[] 0) none))
    have hwm := World.grownBy_alloc w3.drew (.map #[] 0) none
    refine op_makeMap (by rfl) _ (by rfl) (HK.out _ _ HSm.out ?_)
    clear HK
    go_frame
    clear hwm
    generalize hBm : w3.drew.heap.size = Bm at *
    generalize w3.drew.alloc (.map #[] 0) = wm at *
    refine late_one (i := 3) rfl (by kernel_rfl) (by kernel_rfl) (fun K hK => ?_)
    have HK := Lib.hid hK
    clear hK
    refine op_enter (by rfl) 38 #[.agg #[.int .i64 fc, .slice pf ft.length cf]] (by kernel_rfl) ((polyTab fc ft _ _ (HF.out.kept (grownBy_trans HG3.out HSm.out)) H1.out).mono ?_)
    rintro e wb ⟨Dp, Bp, rfl, _, hmp, htp, hg⟩
    have HMp := Lib.hid hmp
    have HTp := Lib.hid htp
    have HMb : Hid (MapAt wb Bm 0 (.map [])) := World.ownsMap.kept HMm.out hg (by simp)
    have HSb := Lib.hid (grownBy_trans HSm.out hg)
    refine ⟨_, rfl, HK.out _ _ HSb.out ?_⟩
    clear HK hmp htp hg
    go_frame
    refine late_one (i := 4) rfl (by kernel_rfl) (by kernel_rfl) (fun K hK => ?_)
    have HK := Lib.hid hK
    clear hK
    refine op_enter (by rfl) 41 #[.map (some Bm), .int .i64 a, .map (some Bp)] (by kernel_rfl) ((plus_any a (fun _ => 0) (polyX fc ft) (.map []) Dp Bm 0 Bp 20 _ HMb.out HMp.out tab_start HTp.out (by omega) (fun n => ⟨by omega, by have := QB1.out n; omega⟩)).mono ?_)
    rintro e wc ⟨D1, B1, rfl, _, hm1, ht1, hg⟩
    have HM1 := Lib.hid hm1
    have HT1 := Lib.hid ht1
    have HSc := Lib.hid (grownBy_trans HSb.out hg)
    refine ⟨_, rfl, HK.out _ _ HSc.out ?_⟩
    clear HK hm1 ht1 hg
    go_frame
    refine late_one (i := 7) rfl (by kernel_rfl) (by kernel_rfl) (fun K hK => ?_)
    have HK := Lib.hid hK
    clear hK
    refine op_enter (by rfl) 38 #[.agg #[.int .i64 gc, .slice pg gt.length cg]] (by kernel_rfl) ((polyTab gc gt _ _ (HG.out.kept (grownBy_trans HG3.out HSc.out)) H2.out).mono ?_)
    rintro e wd ⟨D2, B2, rfl, _, hm2, ht2, hg⟩
    have HM2 := Lib.hid hm2
    have HT2 := Lib.hid ht2
    have HM1d : Hid (MapAt wd B1 (0 + 20) D1) := World.ownsMap.kept HM1.out hg (by simp)
    have HSd := Lib.hid (grownBy_trans HSc.out hg)
    refine ⟨_, rfl, HK.out _ _ HSd.out ?_⟩
    clear HK hm2 ht2 hg
    go_frame
    refine late_one (i := 8) rfl (by kernel_rfl) (by kernel_rfl) (fun K hK => ?_)
    have HK := Lib.hid hK
    clear hK
    refine op_enter (by rfl) 41 #[.map (some B1), .int .i64 b, .map (some B2)] (by kernel_rfl) ((plus_any b _ (polyX gc gt) D1 D2 B1 (0 + 20) B2 20 _ HM1d.out HM2.out HT1.out HT2.out (by omega) (fun n => ⟨by have := QB1.out n; first | omega | (simp only; omega), by have := QB2.out n; omega⟩)).mono ?_)
    rintro e wy ⟨D3, B3, rfl, _, hm3, ht3, hg⟩
    have HM3 := Lib.hid hm3
    have HT3 := Lib.hid ht3
    have HSy := Lib.hid (grownBy_trans HSd.out hg)
    refine ⟨_, rfl, HK.out _ _ HSy.out ?_⟩
    clear HK hm3 ht3 hg
    go_frame
    refine late_one (i := 9) rfl (by kernel_rfl) (by kernel_rfl) (fun K hK => ?_)
    have HK := Lib.hid hK
    clear hK
    refine op_enter (by rfl) 42 #[.map (some B3)] (by kernel_rfl) ((tabForm_any _ D3 B3 _ _ HM3.out HT3.out (by omega)).mono ?_)
    rintro e wz ⟨us, pu, cu, rfl, hfx, hrow, hul, hgz⟩
    rw [HC0.out] at hfx ⊢
    have HFx := Lib.hid hfx
    have HFm : Hid (formOfX (plusX (plusX (fun _ => 0) a ft) b gt) cc = (cc, us)) := formOf_eq HFx.out HEq.out
    have HTm := Lib.hid (terms_of_owns (v := .slice pu us.length cu) (show wz.ownsRow _ 54 2 _ us.length (us.flatMap termCells) from hrow) (by omega) (formX_good (formX_to HFx.out HEq.out) QG.out))
    have HSz := Lib.hid (grownBy_trans HSy.out hgz)
    obtain ⟨y0, y1, yf⟩ := cell_of_two (heap_keep HC.out HSz.out (by simp))
    refine ⟨_, rfl, HK.out _ _ HSz.out ?_⟩
    clear HK hfx hrow hgz
    go_frame
    refine late_done (by decide +kernel) ?_
    simp only [List.drop_succ_cons, List.drop_zero]
    go_wp2_with fail
    obtain ⟨f1, f2⟩ := two_set (heap_keep HC.out HSz.out (by simp)) (.int .i64 (cc)) (.slice pu us.length cu)
    exact bodyPost_ret (results_cell_row rfl _ _ (w.heap.size + 1 + 1) _ _ _ _ rfl f1 Tryz.underlying28 rfl Tryz.infoFormD) rfl ⟨_, by rw [HFm.out], by rw [HFm.out]; exact TermsAt.later_set HTm.out HC.out HSz.out f2, grown_own (grownBy_trans HG3.out HSz.out) f2 (fun i hi => by cases hi; omega)⟩
  · refine ⟨by decide, _, rfl, fun K hK => ?_⟩
    have HK := Lib.hid hK
    clear hK
    refine op_enter (by rfl) 38 #[.agg #[.int .i64 fc, .slice pf ft.length cf]] (by kernel_rfl) ((polyTab fc ft _ _ (HF.out.kept (grownBy_trans HG3.out HS0.out)) H1.out).mono ?_)
    rintro e wa ⟨Dp, Bp, rfl, _, hmp, htp, hg⟩
    have HMp := Lib.hid hmp
    have HTp := Lib.hid htp
    have HSa := Lib.hid (grownBy_trans HS0.out hg)
    refine ⟨_, rfl, HK.out _ _ HSa.out ?_⟩
    clear HK hmp htp hg
    go_frame
    refine late_one (i := 0) rfl (by kernel_rfl) (by kernel_rfl) (fun K hK => ?_)
    have HK := Lib.hid hK
    clear hK
    have HMm : Hid (MapAt (wa.alloc (.map #[] 0)) wa.heap.size 0 (.map [])) := World.ownsMap_made (H := Unit) wa Tryz.prog 9 (plainElem Tryz.prog 3)
    have HSm := Lib.hid (grownBy_trans HSa.out (World.grownBy_alloc wa (.map #[] 0) none))
    have hwm := World.grownBy_alloc wa (.map #[] 0) none
    have HMq : Hid (MapAt (wa.alloc (.map #[] 0)) Bp 20 Dp) := World.ownsMap.kept HMp.out hwm (by simp)
    refine op_makeMap (by rfl) _ (by rfl) (HK.out _ _ HSm.out ?_)
    clear HK
    go_frame
    clear hwm
    generalize hBm : wa.heap.size = Bm at *
    generalize wa.alloc (.map #[] 0) = wb at *
    refine late_one (i := 4) rfl (by kernel_rfl) (by kernel_rfl) (fun K hK => ?_)
    have HK := Lib.hid hK
    clear hK
    refine op_enter (by rfl) 41 #[.map (some Bm), .int .i64 a, .map (some Bp)] (by kernel_rfl) ((plus_any a (fun _ => 0) (polyX fc ft) (.map []) Dp Bm 0 Bp 20 _ HMm.out HMq.out tab_start HTp.out (by omega) (fun n => ⟨by omega, by have := QB1.out n; omega⟩)).mono ?_)
    rintro e wc ⟨D1, B1, rfl, _, hm1, ht1, hg⟩
    have HM1 := Lib.hid hm1
    have HT1 := Lib.hid ht1
    have HSc := Lib.hid (grownBy_trans HSm.out hg)
    refine ⟨_, rfl, HK.out _ _ HSc.out ?_⟩
    clear HK hm1 ht1 hg
    go_frame
    refine late_one (i := 7) rfl (by kernel_rfl) (by kernel_rfl) (fun K hK => ?_)
    have HK := Lib.hid hK
    clear hK
    refine op_enter (by rfl) 38 #[.agg #[.int .i64 gc, .slice pg gt.length cg]] (by kernel_rfl) ((polyTab gc gt _ _ (HG.out.kept (grownBy_trans HG3.out HSc.out)) H2.out).mono ?_)
    rintro e wd ⟨D2, B2, rfl, _, hm2, ht2, hg⟩
    have HM2 := Lib.hid hm2
    have HT2 := Lib.hid ht2
    have HM1d : Hid (MapAt wd B1 (0 + 20) D1) := World.ownsMap.kept HM1.out hg (by simp)
    have HSd := Lib.hid (grownBy_trans HSc.out hg)
    refine ⟨_, rfl, HK.out _ _ HSd.out ?_⟩
    clear HK hm2 ht2 hg
    go_frame
    refine late_one (i := 8) rfl (by kernel_rfl) (by kernel_rfl) (fun K hK => ?_)
    have HK := Lib.hid hK
    clear hK
    refine op_enter (by rfl) 41 #[.map (some B1), .int .i64 b, .map (some B2)] (by kernel_rfl) ((plus_any b _ (polyX gc gt) D1 D2 B1 (0 + 20) B2 20 _ HM1d.out HM2.out HT1.out HT2.out (by omega) (fun n => ⟨by have := QB1.out n; first | omega | (simp only; omega), by have := QB2.out n; omega⟩)).mono ?_)
    rintro e wy ⟨D3, B3, rfl, _, hm3, ht3, hg⟩
    have HM3 := Lib.hid hm3
    have HT3 := Lib.hid ht3
    have HSy := Lib.hid (grownBy_trans HSd.out hg)
    refine ⟨_, rfl, HK.out _ _ HSy.out ?_⟩
    clear HK hm3 ht3 hg
    go_frame
    refine late_one (i := 9) rfl (by kernel_rfl) (by kernel_rfl) (fun K hK => ?_)
    have HK := Lib.hid hK
    clear hK
    refine op_enter (by rfl) 42 #[.map (some B3)] (by kernel_rfl) ((tabForm_any _ D3 B3 _ _ HM3.out HT3.out (by omega)).mono ?_)
    rintro e wz ⟨us, pu, cu, rfl, hfx, hrow, hul, hgz⟩
    rw [HC0.out] at hfx ⊢
    have HFx := Lib.hid hfx
    have HFm : Hid (formOfX (plusX (plusX (fun _ => 0) a ft) b gt) cc = (cc, us)) := formOf_eq HFx.out HEq.out
    have HTm := Lib.hid (terms_of_owns (v := .slice pu us.length cu) (show wz.ownsRow _ 54 2 _ us.length (us.flatMap termCells) from hrow) (by omega) (formX_good (formX_to HFx.out HEq.out) QG.out))
    have HSz := Lib.hid (grownBy_trans HSy.out hgz)
    obtain ⟨y0, y1, yf⟩ := cell_of_two (heap_keep HC.out HSz.out (by simp))
    refine ⟨_, rfl, HK.out _ _ HSz.out ?_⟩
    clear HK hfx hrow hgz
    go_frame
    refine late_done (by decide +kernel) ?_
    simp only [List.drop_succ_cons, List.drop_zero]
    go_wp2_with fail
    obtain ⟨f1, f2⟩ := two_set (heap_keep HC.out HSz.out (by simp)) (.int .i64 (cc)) (.slice pu us.length cu)
    exact bodyPost_ret (results_cell_row rfl _ _ (w.heap.size + 1 + 1) _ _ _ _ rfl f1 Tryz.underlying28 rfl Tryz.infoFormD) rfl ⟨_, by rw [HFm.out], by rw [HFm.out]; exact TermsAt.later_set HTm.out HC.out HSz.out f2, grown_own (grownBy_trans HG3.out HSz.out) f2 (fun i hi => by cases hi; omega)⟩
set_option maxRecDepth 100000 in
set_option maxHeartbeats 4000000 in
theorem putOf_any (fc gc : Int) (ft gt : List (ByteArray × Int)) (x : ByteArray) (tf tg : Value) (w : World) (hF : TermsAt w tf ft) (hG : TermsAt w tg gt) (h1 : formErr fc ft = 0) (h2 : formErr gc gt = 0) (hx : nameB x = true) :
    Calls Tryz.prog 18 #[.agg #[.int .i64 fc, tf], .string x, .agg #[.int .i64 gc, tg]] w (MadeF (formOfX (plusX (delX (oneF ft) x) (coefX ft x) gt) (0 + 1 * fc + coefX ft x * gc)) w) := by
  have hk := coefX_small h1 x
  have hxe : x ≠ ByteArray.empty := fun e => name_ne_empty hx e
  have hxs : x.size ≤ maxLen := by have := good_size hx; unfold maxLen; omega
  have hpx : polyX fc ft x = coefX ft x := by unfold polyX; rw [if_neg hxe]
  have QB1 := Lib.hid (fun n => polyX_bound h1 n)
  have QB2 := Lib.hid (fun n => prod6_bound (A := 1000) (B := 1000000) (by omega) hk (polyX_bound h2 n))
  obtain ⟨q1, q2⟩ := plusX_good (X := fun _ => 0) (a := 1) (B := 0) (fun n h => absurd rfl h) (fun n => by omega) (by omega) h1
  have q2d : ∀ n, -1000000 ≤ delX (oneF ft) x n ∧ delX (oneF ft) x n ≤ 1000000 := fun n => by
    have := q2 n
    unfold delX oneF
    split <;> omega
  have q1d : ∀ n, delX (oneF ft) x n ≠ 0 → n.size ≤ 40 := fun n h => by
    unfold delX at h
    by_cases e : n = x
    · rw [if_pos e] at h; exact absurd rfl h
    · rw [if_neg e] at h; exact q1 n h
  obtain ⟨q3, q4⟩ := plusX_good (B := 1000000) q1d q2d hk h2
  have QG : Hid (GoodX (plusX (delX (oneF ft) x) (coefX ft x) gt)) := fun n h => ⟨by have := q3 n h; omega, by have := q4 n; unfold small; omega⟩
  have HEq : Hid (∀ n, n ≠ ByteArray.empty → plusX (delX (oneF ft) x) (coefX ft x) gt n = putX (polyX fc ft) (polyX gc gt) x n) := fun n hn => by
    unfold plusX delX putX
    rw [oneF_eq]
    unfold polyX
    simp [hn, hxe]
  have HC0 : Hid (putX (polyX fc ft) (polyX gc gt) x ByteArray.empty = 0 + 1 * fc + coefX ft x * gc) := by
    show _ = _
    unfold putX polyX
    simp [hxe, Ne.symm hxe]
  generalize hcc : 0 + 1 * fc + coefX ft x * gc = cc at HC0 ⊢
  have H1 := Lib.hid h1
  have H2 := Lib.hid h2
  clear q1 q2 q3 q4 q1d q2d h1 h2 hcc
  obtain ⟨pf, cf, rfl, hfl, -⟩ := id hF
  obtain ⟨pg, cg, rfl, hgl, -⟩ := id hG
  have HF := Lib.hid hF
  have HG := Lib.hid hG
  clear hF hG
  go_enter Tryz.func18, Tryz.ntmps18
  go_upto_region 1 with fail
  obtain ⟨hA, hB, hC, hg3⟩ := three_boxes w (.cells #[.int .i64 fc, .slice pf ft.length cf] 28) (.cells #[.int .i64 gc, .slice pg gt.length cg] 28) (.cells #[.int .i64 0, .slice none 0 0] 28) _ rfl
  generalize ((w.alloc (.cells #[.int .i64 fc, .slice pf ft.length cf] 28)).alloc (.cells #[.int .i64 gc, .slice pg gt.length cg] 28)).alloc (.cells #[.int .i64 0, .slice none 0 0] 28) = w3 at *
  have HC := Lib.hid hC
  have HG3 := Lib.hid hg3
  have hCw : w.heap.size + 1 + 1 < w3.heap.size := (Array.getElem?_eq_some_iff.1 hC).1
  obtain ⟨a0, a1, af⟩ := cell_of_two hA
  obtain ⟨b0, b1, bf⟩ := cell_of_two hB
  clear hA hB hC hg3
  have HS0 : Hid ((fun W => w3.grownBy W none) w3.drew) := grown_drew w3 none
  refine region_late (n := 7) (S := fun W => w3.grownBy W none) (by kernel_rfl) ⟨by kernel_rfl, by kernel_rfl, by kernel_rfl, by decide⟩ ?_
  refine late_take (i := 0) (v := ?vp_0) ⟨by kernel_rfl, by kernel_rfl, by kernel_rfl, by decide⟩ rfl (by decide +kernel) (by decide +kernel) (by decide +kernel) (fun _ _ _ h => h) (Or.inl ⟨by rfl, ?hp_0⟩) HS0.out ?rp_0
  case hp_0 =>
    intro W hW
    have s0 := World.grownBy.cell hW a0 (by simp)
    have s1 := World.grownBy.cell hW a1 (by simp)
    have s2 := World.grownBy.cell hW b0 (by simp)
    have s3 := World.grownBy.cell hW b1 (by simp)
    go_simp
    try with_reducible rfl
  go_frame
  refine late_take (i := 2) (v := ?vp_2) ⟨by kernel_rfl, by kernel_rfl, by kernel_rfl, by decide⟩ rfl (by decide +kernel) (by decide +kernel) (by decide +kernel) (fun _ _ _ h => h) (Or.inl ⟨by rfl, ?hp_2⟩) HS0.out ?rp_2
  case hp_2 =>
    intro W hW
    have s0 := World.grownBy.cell hW a0 (by simp)
    have s1 := World.grownBy.cell hW a1 (by simp)
    have s2 := World.grownBy.cell hW b0 (by simp)
    have s3 := World.grownBy.cell hW b1 (by simp)
    go_simp
    try with_reducible rfl
  go_frame
  refine late_take (i := 3) (v := ?vp_3) ⟨by kernel_rfl, by kernel_rfl, by kernel_rfl, by decide⟩ rfl (by decide +kernel) (by decide +kernel) (by decide +kernel) (fun _ _ _ h => h) (Or.inl ⟨by rfl, ?hp_3⟩) HS0.out ?rp_3
  case hp_3 =>
    intro W hW
    have s0 := World.grownBy.cell hW a0 (by simp)
    have s1 := World.grownBy.cell hW a1 (by simp)
    have s2 := World.grownBy.cell hW b0 (by simp)
    have s3 := World.grownBy.cell hW b1 (by simp)
    go_simp
    try with_reducible rfl
  go_frame
  refine late_one (i := 1) rfl (by kernel_rfl) (by kernel_rfl) (fun K hK => ?_)
  have HK := Lib.hid hK
  clear hK
  refine op_enter (by rfl) 38 #[.agg #[.int .i64 fc, .slice pf ft.length cf]] (by kernel_rfl) ((polyTab fc ft _ _ (HF.out.kept (grownBy_trans HG3.out HS0.out)) H1.out).mono ?_)
  rintro e wa ⟨Dp, Bp, rfl, _, hmp, htp, hg⟩
  have HMp := Lib.hid hmp
  have HTp := Lib.hid htp
  have HSa := Lib.hid (grownBy_trans HS0.out hg)
  refine ⟨_, rfl, HK.out _ _ HSa.out ?_⟩
  clear HK hmp htp hg
  go_frame
  refine late_one (i := 4) rfl (by kernel_rfl) (by kernel_rfl) (fun K hK => ?_)
  have HK := Lib.hid hK
  clear hK
  refine op_enter (by rfl) 38 #[.agg #[.int .i64 gc, .slice pg gt.length cg]] (by kernel_rfl) ((polyTab gc gt _ _ (HG.out.kept (grownBy_trans HG3.out HSa.out)) H2.out).mono ?_)
  rintro e wb ⟨Dq, Bq, rfl, _, hmq, htq, hg⟩
  have HMq := Lib.hid hmq
  have HTq := Lib.hid htq
  have HMpb : Hid (MapAt wb Bp 20 Dp) := World.ownsMap.kept HMp.out hg (by simp)
  have HSb := Lib.hid (grownBy_trans HSa.out hg)
  refine ⟨_, rfl, HK.out _ _ HSb.out ?_⟩
  clear HK hmq htq hg
  go_frame
  refine late_one (i := 5) rfl (by kernel_rfl) (by kernel_rfl) (fun K hK => ?_)
  have HK := Lib.hid hK
  clear hK
  refine op_enter (by rfl) 43 #[.map (some Bp), .string x, .map (some Bq)] (by kernel_rfl) ((put_any (polyX fc ft) (polyX gc gt) x Dp Dq Bp 20 Bq 20 _ HMpb.out HMq.out HTp.out HTq.out (by omega) hxs (fun n => ⟨by have := QB1.out n; omega, by rw [hpx]; have := QB2.out n; omega⟩)).mono ?_)
  rintro e wy ⟨D3, B3, rfl, _, hm3, ht3, hg⟩
  have HM3 := Lib.hid hm3
  have HT3 := Lib.hid ht3
  have HSy := Lib.hid (grownBy_trans HSb.out hg)
  refine ⟨_, rfl, HK.out _ _ HSy.out ?_⟩
  clear HK hm3 ht3 hg
  go_frame
  refine late_one (i := 6) rfl (by kernel_rfl) (by kernel_rfl) (fun K hK => ?_)
  have HK := Lib.hid hK
  clear hK
  refine op_enter (by rfl) 42 #[.map (some B3)] (by kernel_rfl) ((tabForm_any _ D3 B3 _ _ HM3.out HT3.out (by omega)).mono ?_)
  rintro e wz ⟨us, pu, cu, rfl, hfx, hrow, hul, hgz⟩
  rw [HC0.out] at hfx ⊢
  have HFx := Lib.hid hfx
  have HFm : Hid (formOfX (plusX (delX (oneF ft) x) (coefX ft x) gt) cc = (cc, us)) := formOf_eq HFx.out HEq.out
  have HTm := Lib.hid (terms_of_owns (v := .slice pu us.length cu) (show wz.ownsRow _ 54 2 _ us.length (us.flatMap termCells) from hrow) (by omega) (formX_good (formX_to HFx.out HEq.out) QG.out))
  have HSz := Lib.hid (grownBy_trans HSy.out hgz)
  obtain ⟨y0, y1, yf⟩ := cell_of_two (heap_keep HC.out HSz.out (by simp))
  refine ⟨_, rfl, HK.out _ _ HSz.out ?_⟩
  clear HK hfx hrow hgz
  go_frame
  refine late_done (by decide +kernel) ?_
  simp only [List.drop_succ_cons, List.drop_zero]
  go_wp2_with fail
  obtain ⟨f1, f2⟩ := two_set (heap_keep HC.out HSz.out (by simp)) (.int .i64 (cc)) (.slice pu us.length cu)
  exact bodyPost_ret (results_cell_row rfl _ _ (w.heap.size + 1 + 1) _ _ _ _ rfl f1 Tryz.underlying28 rfl Tryz.infoFormD) rfl ⟨_, by rw [HFm.out], by rw [HFm.out]; exact TermsAt.later_set HTm.out HC.out HSz.out f2, grown_own (grownBy_trans HG3.out HSz.out) f2 (fun i hi => by cases hi; omega)⟩
end Go.Proofs.YtblpknkgjkbacaaGreatDoor
