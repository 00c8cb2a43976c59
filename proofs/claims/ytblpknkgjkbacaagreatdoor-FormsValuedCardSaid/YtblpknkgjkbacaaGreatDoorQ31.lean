/-
 (*total).checked; nest.Sum and nest.Put, for all forms.
-/
import Derived.Test.YtblpknkgjkbacaaGreatDoorQ10
import Derived.Test.YtblpknkgjkbacaaGreatDoorQ11
import Derived.Test.YtblpknkgjkbacaaGreatDoorQ19
import Derived.Test.YtblpknkgjkbacaaGreatDoorQ30
namespace Go.Proofs.YtblpknkgjkbacaaGreatDoor
set_option linter.unusedVariables false
open Go.RowKit Go.Maps Go.WideMaps
variable {w w' : World} {T Bm m : Nat} {c : Int} {X Y : ByteArray → Int}
/-- The one form with such a number and such coefficients. -/
noncomputable def formOfX (X : ByteArray → Int) (c : Int) : CondD := by
  classical
  exact if h : ∃ f, FormX X c f then h.choose else (c, [])
theorem formOf_eq {f : CondD} (h : FormX Y c f) (he : ∀ n, n ≠ ByteArray.empty → X n = Y n) : formOfX X c = f := by
  have h2 : FormX X c f := ⟨h.num, h.ups, fun n z => (h.mem n z).trans ⟨fun ⟨a, b, d⟩ => ⟨a, b, (he n a).trans d⟩, fun ⟨a, b, d⟩ => ⟨a, b, (he n a).symm.trans d⟩⟩⟩
  have hx : ∃ f, FormX X c f := ⟨f, h2⟩
  unfold formOfX
  rw [dif_pos hx]
  exact formX_eq hx.choose_spec h2 (fun _ _ => rfl)
/-- A form, if it is one within the limits. -/
def okForm (f : CondD) : CondD × Int := if formErr f.1 f.2 ≠ 0 then ((0, []), formErr f.1 f.2) else (f, 0)
/-- A call that makes a form, or says what is wrong. -/
def Formed (r : CondD × Int) (w : World) (e : Ending) (w' : World) : Prop :=
  ∃ v, e = .returned (.tuple #[.agg #[.int .i64 r.1.1, v], .int .i64 r.2]) ∧ TermsAt w' v r.1.2 ∧ w.grownBy w' none
theorem results_form {fn : Func} {p u : Tmp} (h : fn.results = #[.cell p 28, .tmp u]) (tmps : Array Value) (w : World) (g : Nat) (t : TypeId) (a b : Value) (fr : Nat × Nat)
    (hp : tmps.getD p undef = .pointer (some ⟨g, 0, none⟩)) (hg : w.heap[g]? = some (.cells #[a, b] t fr)) :
    (results fn tmps).run Tryz.prog w = .ok (.tuple #[.agg #[a, b], tmps.getD u undef]) w := by
  rw [results_cell_tmp h, hp]
  simp [asAddr, run_loadVar_row w g t 28 #[a, b] fr _ hg Tryz.underlying28 rfl Tryz.infoFormD, Result.andThen]
/-- Terms are not of a box of a number and a slice. -/
theorem TermsAt.later_set {w1 w2 w3 : World} {B : Nat} {v : Value} {d : Int} {q : Option Addr} {n k : Nat} {ty : TypeId} {us : List TermD} (h : TermsAt w2 v us) (hB : w1.heap[B]? = some (.cells #[.int .i64 d, .slice q n k] ty (0, 0))) (hg : w1.grownBy w2 none) (h3 : w2.grownBy w3 (some B)) : TermsAt w3 v us := by
  have hB2 := heap_keep hB hg (by simp)
  obtain ⟨p, cap, hv, hl, hc⟩ := h
  refine ⟨p, cap, hv, hl, fun j t hj => ?_⟩
  obtain ⟨b, off, hp, h1, h2, h4, h5, h6⟩ := hc j t hj
  have hb : b ≠ B := fun e => by
    subst e
    unfold World.cell? at h5
    rw [hB2] at h5
    match he : off + j * 2 with
    | 0 => rw [he] at h5; simp at h5
    | 1 => rw [he] at h5; simp at h5
    | k + 2 => rw [he] at h5; simp at h5
  exact ⟨b, off, hp, h1, h2, h4, h3.cell h5 (by simpa using hb), h3.cell h6 (by simpa using hb)⟩
/-- Coefficients that are small, of names that are short. -/
def GoodX (X : ByteArray → Int) : Prop := ∀ n, X n ≠ 0 → n.size ≤ 100 ∧ small (X n)
theorem formX_good {f : CondD} (h : FormX X c f) (hX : GoodX X) : ∀ t ∈ f.2, goodTerm t := fun t ht => by
  obtain ⟨h1, h2, h3⟩ := (h.mem t.1 t.2).1 ht
  have := hX t.1 (by rw [h3]; exact h2)
  rw [h3] at this
  exact this
set_option maxRecDepth 100000 in
set_option maxHeartbeats 8000000 in
theorem checked_any (w : World) (hT : TotIs T Bm c X m w) (hm : m ≤ 900) (hX0 : X ByteArray.empty = 0) (hX : GoodX X) :
    Calls Tryz.prog 34 #[.pointer (some ⟨T, 0, none⟩)] w (Formed (okForm (formOfX X c)) w) := by
  have HT := Lib.hid hT
  have HX := Lib.hid hX
  clear hT hX
  have HG := Lib.hid (World.grownBy_alloc w (.cells #[.int .i64 0, .slice none 0 0] 28) none)
  have HB := Lib.hid (heap_alloc_new w (.cells #[.int .i64 0, .slice none 0 0] 28))
  go_enter Tryz.func34, Tryz.ntmps34
  go_upto_region 1 with fail
  generalize w.alloc (.cells #[.int .i64 0, .slice none 0 0] 28) = w1 at *
  have HT1 := Lib.hid (HT.out.kept HG.out)
  have hw1 := (Array.getElem?_eq_some_iff.1 HB.out).1
  obtain ⟨k, D, hm1, htab, hk⟩ := HT1.out.tab
  have HM := Lib.hid hm1
  have HTb := Lib.hid htab
  clear hm1 htab
  go_upto_region 2 with (go_at_call 53; go_must (refine (totForm_any c X D Bm k T _ HT1.out.tot HM.out HTb.out (by omega) hX0).mono ?_; rintro e w2 ⟨us, p, cap, rfl, hfx, hrow, hul, hg⟩; have HF := Lib.hid hfx; have HRow := Lib.hid hrow; have HG2 := Lib.hid hg; clear hfx hrow hg))
  have HE : Hid (formOfX X c = (c, us)) := formOf_eq HF.out (fun _ _ => rfl)
  have HTm := Lib.hid (terms_of_owns (v := .slice p us.length cap) (show w2.ownsRow w1.heap.size 54 2 _ us.length (us.flatMap termCells) from HRow.out) (by omega) (formX_good HF.out HX.out))
  have hga := World.grownBy_alloc w2 (.cells #[.int .i64 c, .slice p us.length cap] 28) none
  have HB3 := Lib.hid (heap_keep (heap_keep HB.out HG2.out (by simp)) hga (by simp))
  have HZ := Lib.hid (heap_alloc_new w2 (.cells #[.int .i64 c, .slice p us.length cap] 28))
  have HTm3 := Lib.hid (HTm.out.kept hga)
  have HG3 := Lib.hid (grownBy_trans (grownBy_trans HG.out HG2.out) hga)
  have hzw : w.heap.size < w2.heap.size := Nat.lt_of_lt_of_le hw1 HG2.out.size
  clear hga HTm HRow HF
  generalize hz : w2.heap.size = Z at *
  generalize w2.alloc (.cells #[.int .i64 c, .slice p us.length cap] 28) = w3 at *
  obtain ⟨z0, z1, zf⟩ := cell_of_two HZ.out
  obtain ⟨y0, y1, yf⟩ := cell_of_two HB3.out
  obtain ⟨p', cap', hv', hlm, hcell⟩ := HTm3.out
  cases hv'
  by_cases hf : formErr c us = 0
  case neg =>
    have hf0 : (formErr c us != 0) = true := by simpa using hf
    have HR : Hid (okForm (formOfX X c) = ((0, []), formErr c us)) := by show _ = _; rw [HE.out]; unfold okForm; rw [if_pos hf]
    clear hf
    go_wp2_with (go_at_call 26; go_must (refine (checkForm_at c us p cap _ hlm hcell).mono ?_; rintro e w4 ⟨rfl, hg⟩; have HG4 := Lib.hid hg; obtain ⟨y0, y1, yf⟩ := cell_of_two (heap_keep HB3.out hg (by simp)); clear hg))
    obtain ⟨f1, f2⟩ := two_set (heap_keep HB3.out HG4.out (by simp)) (.int .i64 0) (.slice none 0 0)
    exact bodyPost_ret (results_form rfl _ _ w.heap.size _ _ _ _ rfl f1) rfl ⟨_, by rw [HR.out]; rfl, by rw [HR.out]; exact ⟨none, 0, rfl, Nat.zero_le _, fun j t h => by simp at h⟩, grown_own (grownBy_trans HG3.out HG4.out) f2 (fun i hi => by cases hi; omega)⟩
  case pos =>
    have hf0 : (formErr c us != 0) = false := by simp [hf]
    have HR : Hid (okForm (formOfX X c) = ((c, us), 0)) := by show _ = _; rw [HE.out]; unfold okForm; rw [if_neg (by simp [hf])]
    clear hf
    go_wp2_with (go_at_call 26; go_must (refine (checkForm_at c us p cap _ hlm hcell).mono ?_; rintro e w4 ⟨rfl, hg⟩; have HG4 := Lib.hid hg; obtain ⟨y0, y1, yf⟩ := cell_of_two (heap_keep HB3.out hg (by simp)); obtain ⟨z0, z1, zf⟩ := cell_of_two (heap_keep HZ.out hg (by simp)); clear hg))
    obtain ⟨f1, f2⟩ := two_set (heap_keep HB3.out HG4.out (by simp)) (.int .i64 c) (.slice p us.length cap)
    have hxx : TermsAt _ (.slice p us.length cap) us := TermsAt.later_set (HTm3.out.kept HG4.out) HB3.out HG4.out f2
    exact bodyPost_ret (results_form rfl _ _ w.heap.size _ _ _ _ rfl f1) rfl ⟨_, by rw [HR.out]; rfl, by rw [HR.out]; exact hxx, grown_own (grownBy_trans HG3.out HG4.out) f2 (fun i hi => by cases hi; omega)⟩
set_option maxRecDepth 100000 in
set_option maxHeartbeats 4000000 in
theorem firstForms_any (fs : List CondD) (v : Value) (w : World) (ht : CondsAt w v fs) :
    Calls Tryz.prog 30 #[v, .func (.func 26) #[] #[]] w (Gives (.int .i64 (firstE (fs.map fun f => formErr f.1 f.2))) w) := by
  obtain ⟨p, cap, rfl, hl, hc⟩ := ht
  have HT := Lib.hid hc
  have hlen : (fs.length : Int) ≤ 9223372036854775807 := by omega
  clear hc
  generalize hE : firstE (fs.map fun f => formErr f.1 f.2) = E
  go_enter Tryz.func30, Tryz.ntmps30
  go_wp2
  go_loopw [10] (fun i wr => ∃ k : Nat, k ≤ fs.length ∧ i = .int .i64 k ∧ Hid (w.grownBy wr none) ∧ Hid (firstE ((fs.map fun f => formErr f.1 f.2).drop k) = E)) (fun i _ => fs.length - (intOf i).toNat)
  case atStart => exact ⟨0, Nat.zero_le _, rfl, grownBy_refl _ _, hE⟩
  case round =>
    obtain ⟨k, hk, rfl, HG, HR⟩ := hrel
    by_cases hlt : k < fs.length
    · have h0 := List.getElem?_eq_getElem hlt
      have hca := (HT.out k _ h0).kept HG.out
      have HD := Lib.hid (firstE_drop (l := fs.map fun f => formErr f.1 f.2) (k := k) (e := formErr fs[k].1 fs[k].2) (by rw [List.getElem?_map, h0]; rfl))
      generalize fs[k] = f at *
      obtain ⟨b, off, tv, hp, h1, h2, h3, h4, h5⟩ := hca
      subst hp
      obtain ⟨pt, tcap, rfl, htl, htc⟩ := id h3
      have HTs := Lib.hid htc
      have hkI : (k : Int) < (fs.length : Int) := by omega
      obtain ⟨b0, b1, bf⟩ := cell_of_two (heap_alloc_new wr (.cells #[.int .i64 f.1, .slice pt f.2.length tcap] 28))
      have HGa := Lib.hid (grownBy_trans HG.out (World.grownBy_alloc wr (.cells #[.int .i64 f.1, .slice pt f.2.length tcap] 28) none))
      clear h0 h3 htc
      obtain ⟨cf, ts⟩ := f
      simp only at *
      go_wp2_with (go_at_call 26; go_must (refine (checkForm_at cf ts pt tcap _ htl (fun j t h => (HTs.out j t h).kept (World.grownBy_alloc _ _ none))).mono ?_; rintro e w2 ⟨rfl, hg⟩; have HG2 := Lib.hid (grownBy_trans HGa.out hg); clear hg))
      · rename_i hne
        have hne' : ¬ formErr cf ts = 0 := by simpa using hne
        have h6 := HD.out
        rw [if_neg hne', HR.out] at h6
        go_ret
        exact ⟨by rw [h6]; rfl, HG2.out⟩
      · rename_i heq
        have heq' : formErr cf ts = 0 := by simpa using heq
        have h6 := HD.out
        rw [if_pos heq', HR.out] at h6
        refine ⟨⟨k + 1, by omega, by go_num, HG2.out, h6.symm⟩, by simp [intOf]; omega⟩
    · obtain rfl : k = fs.length := by omega
      have h2 := HR.out
      rw [List.drop_eq_nil_of_le (by simp)] at h2
      go_wp2
      go_ret
      exact ⟨by rw [← h2]; rfl, HG.out⟩
/-- What Sum answers. -/
noncomputable def sumA (f : CondD) (a : Int) (g : CondD) (b : Int) : CondD × Int :=
  if formErr f.1 f.2 ≠ 0 then ((0, []), formErr f.1 f.2) else if formErr g.1 g.2 ≠ 0 then ((0, []), formErr g.1 g.2)
  else if inB a (-1000) 1000 = false ∨ inB b (-1000) 1000 = false then ((0, []), 1)
  else okForm (formOfX (plusX (plusX (fun _ => 0) a f.2) b g.2) (0 + a * f.1 + b * g.1))
theorem good_size {n : ByteArray} (h : nameB n = true) : n.size ≤ 40 := by
  simp [nameB] at h
  omega
theorem plusX_empty {X : ByteArray → Int} {a : Int} {d : Int} {ts : List (ByteArray × Int)} (h : X ByteArray.empty = 0) (hf : formErr d ts = 0) : plusX X a ts ByteArray.empty = 0 := by
  obtain ⟨-, -, hts, -⟩ := form_good hf
  unfold plusX
  rw [h, coefX_none (fun t ht e => name_ne_empty (hts t ht).1 e)]
  simp
theorem coefX_small {d : Int} {ts : List (ByteArray × Int)} (hf : formErr d ts = 0) (n : ByteArray) : -1000 ≤ coefX ts n ∧ coefX ts n ≤ 1000 := by
  obtain ⟨-, -, hts, -⟩ := form_good hf
  by_cases e : coefX ts n = 0
  · omega
  · exact (hts _ (coefX_hit e)).2
theorem plusX_good {X : ByteArray → Int} {a d B : Int} {ts : List (ByteArray × Int)} (hX : ∀ n, X n ≠ 0 → n.size ≤ 40) (hB : ∀ n, -B ≤ X n ∧ X n ≤ B) (ha : -1000 ≤ a ∧ a ≤ 1000) (hf : formErr d ts = 0) : (∀ n, plusX X a ts n ≠ 0 → n.size ≤ 40) ∧ ∀ n, -(B + 1000000) ≤ plusX X a ts n ∧ plusX X a ts n ≤ B + 1000000 := by
  obtain ⟨-, -, hts, -⟩ := form_good hf
  refine ⟨fun n h => ?_, fun n => ?_⟩
  · by_cases e : X n = 0
    · have hc : coefX ts n ≠ 0 := fun e2 => h (by unfold plusX; rw [e, e2]; simp)
      exact good_size (hts _ (coefX_hit hc)).1
    · exact hX n e
  · unfold plusX
    have h1 := hB n
    have h2 := prod6_bound (A := 1000) (B := 1000) (by omega) ha (coefX_small hf n)
    omega
theorem two_conds {Z : Nat} {fc gc : Int} {ft gt : List TermD} {tf tg : Value} {ty : TypeId} {fr : Nat × Nat} (h : w.heap[Z]? = some (.cells #[.int .i64 fc, tf, .int .i64 gc, tg] ty fr)) (hf : TermsAt w tf ft) (hg : TermsAt w tg gt) (hfr : -9223372036854775808 ≤ fc ∧ fc ≤ 9223372036854775807) (hgr : -9223372036854775808 ≤ gc ∧ gc ≤ 9223372036854775807) : CondsAt w (.slice (some ⟨Z, 0, none⟩) 2 2) [(fc, ft), (gc, gt)] := by
  refine ⟨_, _, rfl, by simp, fun j f hj => ?_⟩
  match j with
  | 0 =>
    obtain rfl := Option.some.inj hj
    exact ⟨Z, 0, tf, rfl, by unfold World.cell?; rw [h]; rfl, by unfold World.cell?; rw [h]; rfl, hf, hfr⟩
  | 1 =>
    obtain rfl := Option.some.inj hj
    exact ⟨Z, 0, tg, rfl, by unfold World.cell?; rw [h]; rfl, by unfold World.cell?; rw [h]; rfl, hg, hgr⟩
  | j + 2 => simp at hj
set_option maxRecDepth 100000 in
set_option maxHeartbeats 2000000 in
theorem sum_nest (f g : CondD) (a b : Int) (tf tg : Value) (w : World) (hF : TermsAt w tf f.2) (hG : TermsAt w tg g.2) (hfr : -9223372036854775808 ≤ f.1 ∧ f.1 ≤ 9223372036854775807) (hgr : -9223372036854775808 ≤ g.1 ∧ g.1 ≤ 9223372036854775807) :
    Calls Tryz.prog 9 #[.agg #[.int .i64 f.1, tf], .int .i64 a, .agg #[.int .i64 g.1, tg], .int .i64 b] w (Formed (sumA f a g b) w) := by
  obtain ⟨fc, ft⟩ := f
  obtain ⟨gc, gt⟩ := g
  simp only at hF hG hfr hgr ⊢
  obtain ⟨pf, cf, rfl, hfl, -⟩ := id hF
  obtain ⟨pg, cg, rfl, hgl, -⟩ := id hG
  have HF := Lib.hid hF
  have HG := Lib.hid hG
  clear hF hG
  generalize hsr : sumA (fc, ft) a (gc, gt) b = R
  go_enter Tryz.func9, Tryz.ntmps9
  go_upto_region 1 with fail
  obtain ⟨hA, hB, hC, hg3⟩ := three_boxes w (.cells #[.int .i64 fc, .slice pf ft.length cf] 28) (.cells #[.int .i64 gc, .slice pg gt.length cg] 28) (.cells #[.int .i64 0, .slice none 0 0] 28) _ rfl
  generalize ((w.alloc (.cells #[.int .i64 fc, .slice pf ft.length cf] 28)).alloc (.cells #[.int .i64 gc, .slice pg gt.length cg] 28)).alloc (.cells #[.int .i64 0, .slice none 0 0] 28) = w3 at *
  have HA := Lib.hid hA
  have HB := Lib.hid hB
  have HC := Lib.hid hC
  have HG3 := Lib.hid hg3
  have hCw : w.heap.size + 1 + 1 < w3.heap.size := (Array.getElem?_eq_some_iff.1 hC).1
  clear hA hB hC hg3
  obtain ⟨a0, a1, af⟩ := cell_of_two HA.out
  obtain ⟨b0, b1, bf⟩ := cell_of_two HB.out
  have HFirst : Hid (firstE (([(fc, ft), (gc, gt)] : List CondD).map fun f => formErr f.1 f.2) = if formErr fc ft = 0 then (if formErr gc gt = 0 then 0 else formErr gc gt) else formErr fc ft) := rfl
  have hga := World.grownBy_alloc w3 (.cells #[.int .i64 fc, .slice pf ft.length cf, .int .i64 gc, .slice pg gt.length cg] 28) none
  have HCs := Lib.hid (two_conds (heap_alloc_new w3 (.cells #[.int .i64 fc, .slice pf ft.length cf, .int .i64 gc, .slice pg gt.length cg] 28)) (HF.out.kept (grownBy_trans HG3.out hga)) (HG.out.kept (grownBy_trans HG3.out hga)) hfr hgr)
  have HG4 := Lib.hid (grownBy_trans HG3.out hga)
  have HA4 := Lib.hid (heap_keep HA.out hga (by simp))
  have HB4 := Lib.hid (heap_keep HB.out hga (by simp))
  have HC4 := Lib.hid (heap_keep HC.out hga (by simp))
  clear hga
  go_upto_region 2 with (go_at_call 30; go_must (refine (firstForms_any [(fc, ft), (gc, gt)] _ _ HCs.out).mono ?_; rintro e w5 ⟨rfl, hg⟩; rw [HFirst.out]; have HA5 := Lib.hid (heap_keep HA4.out hg (by simp)); have HB5 := Lib.hid (heap_keep HB4.out hg (by simp)); have HC5 := Lib.hid (heap_keep HC4.out hg (by simp)); have HG5 := Lib.hid (grownBy_trans HG4.out hg); clear hg))
  clear a0 a1 af b0 b1 bf HFirst HCs HA4 HB4 HC4 HG4 HA HB HC HG3
  have hC5 : w.heap.size + 1 + 1 < w5.heap.size := (Array.getElem?_eq_some_iff.1 HC5.out).1
  obtain ⟨a0, a1, af⟩ := cell_of_two HA5.out
  obtain ⟨b0, b1, bf⟩ := cell_of_two HB5.out
  obtain ⟨c0, c1, cf'⟩ := cell_of_two HC5.out
  unfold sumA at hsr
  by_cases h1 : formErr fc ft = 0
  case neg =>
    rw [if_pos h1] at hsr
    subst hsr
    rw [if_neg h1]
    have h1b : (formErr fc ft != 0) = true := by simpa using h1
    clear h1
    go_wp2
    obtain ⟨f1, f2⟩ := two_set HC5.out (.int .i64 0) (.slice none 0 0)
    exact bodyPost_ret (results_form rfl _ _ (w.heap.size + 1 + 1) _ _ _ _ rfl f1) rfl ⟨_, rfl, ⟨none, 0, rfl, Nat.zero_le _, fun j t h => by simp at h⟩, grown_own HG5.out f2 (fun i hi => by cases hi; omega)⟩
  case pos =>
  rw [if_neg (by simp [h1])] at hsr
  rw [if_pos h1]
  by_cases h2 : formErr gc gt = 0
  case neg =>
    rw [if_pos h2] at hsr
    subst hsr
    rw [if_neg h2]
    have h2b : (formErr gc gt != 0) = true := by simpa using h2
    clear h2 h1
    go_wp2
    obtain ⟨f1, f2⟩ := two_set HC5.out (.int .i64 0) (.slice none 0 0)
    exact bodyPost_ret (results_form rfl _ _ (w.heap.size + 1 + 1) _ _ _ _ rfl f1) rfl ⟨_, rfl, ⟨none, 0, rfl, Nat.zero_le _, fun j t h => by simp at h⟩, grown_own HG5.out f2 (fun i hi => by cases hi; omega)⟩
  case pos =>
  rw [if_neg (by simp [h2])] at hsr
  rw [if_pos h2]
  have H1 := Lib.hid h1
  have H2 := Lib.hid h2
  clear h1 h2
  cases hia : inB a (-1000) 1000 with
  | false =>
    rw [if_pos (Or.inl hia)] at hsr
    subst hsr
    go_wp2_with (go_at_call 31; go_must (refine (within_any _ _ _ (by omega) (by omega)).mono ?_; rintro e w6 ⟨rfl, rfl⟩; rw [hia]))
    obtain ⟨f1, f2⟩ := two_set HC5.out (.int .i64 0) (.slice none 0 0)
    exact bodyPost_ret (results_form rfl _ _ (w.heap.size + 1 + 1) _ _ _ _ rfl f1) rfl ⟨_, rfl, ⟨none, 0, rfl, Nat.zero_le _, fun j t h => by simp at h⟩, grown_own HG5.out f2 (fun i hi => by cases hi; omega)⟩
  | true =>
  cases hib : inB b (-1000) 1000 with
  | false =>
    rw [if_pos (Or.inr hib)] at hsr
    subst hsr
    go_wp2_with (go_at_call 31; go_must (refine (within_any _ _ _ (by omega) (by omega)).mono ?_; rintro e w6 ⟨rfl, rfl⟩; first | rw [hia] | rw [hib]))
    obtain ⟨f1, f2⟩ := two_set HC5.out (.int .i64 0) (.slice none 0 0)
    exact bodyPost_ret (results_form rfl _ _ (w.heap.size + 1 + 1) _ _ _ _ rfl f1) rfl ⟨_, rfl, ⟨none, 0, rfl, Nat.zero_le _, fun j t h => by simp at h⟩, grown_own HG5.out f2 (fun i hi => by cases hi; omega)⟩
  | true =>
  rw [if_neg (by rw [hia, hib]; simp)] at hsr
  have HSr := Lib.hid hsr
  clear hsr
  have hra : -1000 ≤ a ∧ a ≤ 1000 := by unfold inB at hia; simpa using hia
  have hrb : -1000 ≤ b ∧ b ≤ 1000 := by unfold inB at hib; simpa using hib
  obtain ⟨hfc, -, -, -⟩ := form_good H1.out
  obtain ⟨hgc, -, -, -⟩ := form_good H2.out
  have hp1 := prod6_bound (A := 1000) (B := 1000000) (by omega) hra hfc
  have hp2 := prod6_bound (A := 1000) (B := 1000000) (by omega) hrb hgc
  obtain ⟨q1, q2⟩ := plusX_good (X := fun _ => 0) (B := 0) (fun n h => absurd rfl h) (fun n => by omega) hra H1.out
  obtain ⟨q3, q4⟩ := plusX_good q1 q2 hrb H2.out
  have Q2 := Lib.hid q2
  have QG : Hid (GoodX (plusX (plusX (fun _ => 0) a ft) b gt)) := fun n h => ⟨by have := q3 n h; omega, by have := q4 n; unfold small; omega⟩
  have Q0 : Hid (plusX (plusX (fun _ => 0) a ft) b gt ByteArray.empty = 0) := plusX_empty (plusX_empty rfl H1.out) H2.out
  clear q1 q2 q3 q4
  go_upto_region 7 with (first
    | (go_at_call 31; go_must (refine (within_any _ _ _ (by omega) (by omega)).mono ?_; rintro e w6 ⟨rfl, rfl⟩; first | rw [hia] | rw [hib]))
    | (go_at_call 32; go_must (refine (newTotal_any _).mono ?_; rintro e w7 ⟨T, Bm, rfl, hT, hBm, hTB, htot, hmap, hg⟩; have HT7 : Hid (TotIs T Bm 0 (fun _ => 0) 0 w7) := ⟨htot, 0, .map [], hmap, tab_start, Nat.le_refl _⟩; have HG7 := Lib.hid hg; clear htot hmap hg)))
  have HA7 := Lib.hid (heap_keep HA5.out HG7.out (by simp))
  have HB7 := Lib.hid (heap_keep HB5.out HG7.out (by simp))
  have HC7 := Lib.hid (heap_keep HC5.out HG7.out (by simp))
  have HW7 := Lib.hid (grownBy_trans HG5.out HG7.out)
  have hs5 := HG5.out.size
  clear a0 a1 af b0 b1 bf c0 c1 cf' HA5 HB5 HC5 HG5 HG7
  obtain ⟨a0, a1, af⟩ := cell_of_two HA7.out
  go_upto_region 8 with (go_at_call 33; go_must (refine (add_any fc ft _ a _ HT7.out (by omega) (HF.out.kept HW7.out) H1.out hra (by omega) (fun n => by omega)).mono ?_; rintro e w8 ⟨rfl, hb, ht8⟩; have HB8 := Lib.hid hb; have HT8 := Lib.hid ht8; clear hb ht8))
  have HW8 := Lib.hid (HB8.out.old HW7.out (by omega) (by omega) (by omega))
  have HBb8 := Lib.hid (HB8.out.keep HB7.out (by omega) (by omega) (by omega))
  have HCc8 := Lib.hid (HB8.out.keep HC7.out (by omega) (by omega) (by omega))
  clear a0 a1 af HA7 HB7 HC7 HT7 HW7
  obtain ⟨b0, b1, bf⟩ := cell_of_two HBb8.out
  go_upto_region 9 with (go_at_call 33; go_must (refine (add_any gc gt _ b _ HT8.out (by omega) (HG.out.kept HW8.out) H2.out hrb (by omega) (fun n => by have := Q2.out n; omega)).mono ?_; rintro e w9 ⟨rfl, hb, ht9⟩; have HB9 := Lib.hid hb; have HT9 := Lib.hid ht9; clear hb ht9))
  have HW9 := Lib.hid (HB9.out.old HW8.out (by omega) (by omega) (by omega))
  have HCc9 := Lib.hid (HB9.out.keep HCc8.out (by omega) (by omega) (by omega))
  clear b0 b1 bf HBb8 HCc8 HT8 HW8 HB8 HB9
  have hck := Lib.hid (checked_any w9 HT9.out (by omega) Q0.out QG.out)
  rw [HSr.out] at hck
  go_wp2_with (go_at_call 34; go_must (refine hck.out.mono ?_; rintro e w10 ⟨v, rfl, hv, hg⟩; obtain ⟨pv, cv, rfl, -⟩ := id hv; have HV := Lib.hid hv; have HG10 := Lib.hid hg; obtain ⟨c0, c1, cf'⟩ := cell_of_two (heap_keep HCc9.out hg (by simp)); clear hv hg))
  obtain ⟨f1, f2⟩ := two_set (heap_keep HCc9.out HG10.out (by simp)) (.int .i64 R.1.1) (.slice pv R.1.2.length cv)
  exact bodyPost_ret (results_form rfl _ _ (w.heap.size + 1 + 1) _ _ _ _ rfl f1) rfl ⟨_, rfl, TermsAt.later_set HV.out HCc9.out HG10.out f2, grown_own (grownBy_trans HW9.out HG10.out) f2 (fun i hi => by cases hi; omega)⟩
end Go.Proofs.YtblpknkgjkbacaaGreatDoor
